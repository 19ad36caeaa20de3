/- The law VintReads: the loop. -/
import Derived.Test.YtmfikjpmieoikaaIb
namespace Go.Proofs.Ytmfikjpmieoikaa
open Go.RowKit
/-- What a call of the reference answers. -/
abbrev Ref (s : ByteArray) (f : Nat) (args : List Value) (p e : Nat) (v : Value) (q e' : Nat) : Prop :=
  ∀ W : World, Calls Try.prog f (.agg #[.string s, .int .i64 (p : Int), .int .i64 (e : Int)] :: args).toArray W fun en w' => en = .returned (.tuple #[.agg #[.string s, .int .i64 (q : Int), .int .i64 (e' : Int)], v]) ∧ Below W.heap.size W w'
abbrev REnd (s : ByteArray) (p e : Nat) : Prop :=
  ∀ W : World, Calls Try.prog 28 #[.agg #[.string s, .int .i64 (p : Int), .int .i64 (e : Int)]] W fun en w' => en = .returned (.int .i64 (endE s p e : Int)) ∧ Below W.heap.size W w'
/-- Behind an arm: the two answers were the same; where the readers stand. -/
def Sw (s : ByteArray) (w : World) (A : Nat) (v : Value) (wc : World) : Prop := v = .bool true ∧ ∃ q r : Nat, q ≤ s.size ∧ Rd wc w.heap.size s q r ∧ Cs wc A s q r ∧ Below w.heap.size w wc
set_option maxRecDepth 100000 in
set_option maxHeartbeats 4000000 in
theorem reads_walk (s : ByteArray) (a : Option Addr) (len cap : Nat) (w : World) (hs : s.size ≤ 400) (hl : len ≤ 60) (hx : ∀ x, a = some x → 0 < len → x.block < w.heap.size)
    (hC : ∀ i, i < len → ∃ x, a = some x ∧ ∃ k n : Int, w.cell? (x.add (i * 2)) = some (.int .u8 k) ∧ w.cell? (x.add (i * 2 + 1)) = some (.int .i64 n) ∧ (Lit.int .u8 k).wf = true ∧ (Lit.int .i64 n).wf = true) :
    Calls Try.prog 4 #[.string s, .slice a len cap] w fun e w' => e = .returned (.bool true) ∧ Below w.heap.size w w' := by
  have HC := Lib.hid hC
  have HX := Lib.hid hx
  clear hC hx
  go_enter Try.func4, Try.ntmps4
  go_wp2_with (go_at_call 16; refine (new_any _ _).mono ?_; rintro e w1 ⟨rfl, hR, hB, hz⟩; have BL0 := Lib.hid hB; have RD0 := Lib.hid hR; clear hR hB)
  go_loopw [7] (fun i wr => ∃ (k p e : Nat), k ≤ len ∧ i = .int .i64 k ∧ p ≤ s.size ∧ Rd wr w.heap.size s p e ∧ Cs wr w1.heap.size s p e ∧ Below w.heap.size w wr) (fun i _ => len - (intOf i).toNat)
  case atStart => exact ⟨0, 0, 0, by omega, rfl, by omega, start_rd RD0.out _, start_cs _ _, BL0.out.alloc BL0.out.size _⟩
  case round =>
    obtain ⟨k, p, e, hk, rfl, hp, hR, hA, hB⟩ := hrel
    rename World => wr
    have RD := Lib.hid hR
    have BL := Lib.hid hB
    have AT := Lib.hid hA
    clear hR hB hA
    by_cases hlt : k < len
    · obtain ⟨x, rfl, kd, n, hk0, hk1, b0, b1⟩ := HC.out k hlt
      have hxb := HX.out x rfl (by omega)
      have hxb2 : (x.add (k * 2)).block < wr.heap.size := by have := BL.out.size; rw [show (x.add (k * 2)).block = x.block by unfold Addr.add; split <;> rfl]; omega
      have hne : w.heap.size ≠ w1.heap.size := by omega
      have hne' : w1.heap.size ≠ w.heap.size := by omega
      have hxa : ∀ i, (x.add i).block = x.block := fun i => by unfold Addr.add; split <;> rfl
      have ex0 : w.cell? (x.add (k * 2)) = wr.cell? (x.add (k * 2)) := (BL.out.cell (by rw [hxa]; exact hxb)).symm
      have ex1 : w.cell? (x.add (k * 2 + 1)) = wr.cell? (x.add (k * 2 + 1)) := (BL.out.cell (by rw [hxa]; exact hxb)).symm
      have e0 : wr.cell? (x.add (k * 2)) = some (.int .u8 kd) := ex0.symm.trans hk0
      have e1 : wr.cell? (x.add (k * 2 + 1)) = some (.int .i64 n) := ex1.symm.trans hk1
      have e1b : wr.cell? ((x.add (k * 2)).add 1) = some (.int .i64 n) := by rw [Deep.add_add]; exact e1
      have haddr : (⟨(x.add (k * 2)).block, (x.add (k * 2)).off + 1, none⟩ : Addr) = x.add (k * 2 + 1) := by
        unfold Addr.add
        rw [if_neg (show ¬ k * 2 + 1 = 0 by omega)]
        by_cases h : k * 2 = 0
        · rw [if_pos h, h]
        · rw [if_neg h, Nat.add_assoc]
      have hoff : ∀ W : World, W.cell? ⟨(x.add (k * 2)).block, (x.add (k * 2)).off + 1, none⟩ = W.cell? (x.add (k * 2 + 1)) := fun W => by rw [haddr]
      clear haddr
      have e1c : wr.cell? ⟨(x.add (k * 2)).block, (x.add (k * 2)).off + 1, none⟩ = some (.int .i64 n) := by rw [hoff]; exact e1
      have HOFF := Lib.hid hoff
      have HX1 : Hid (∀ W, Below w.heap.size w W → W.cell? ⟨(x.add (k * 2)).block, (x.add (k * 2)).off + 1, none⟩ = some (.int .i64 n)) := fun W h => by rw [hoff]; exact (h.cell (by rw [hxa]; exact hxb)).trans hk1
      have hxA : ¬ w1.heap.size = (x.add (k * 2)).block := by rw [hxa]; omega
      clear hoff e1b
      have hki : (k : Int) < (len : Int) := by omega
      have hk0i : (0 : Int) ≤ (k : Int) := by omega
      have HK1 := fun (W : World) (h : Below w.heap.size w W) => Lib.hid (show W.cell? (x.add (k * 2 + 1)) = some (.int .i64 n) from (h.cell (by rw [hxa]; exact hxb)).trans hk1)
      clear hk0 hk1 ex0 ex1 hxa
      obtain ⟨a0, a1, a2, f0, f1, f2⟩ := AT.out.cells
      have alt := AT.out.lt
      have hlen : (s.data.toList.drop p).length = s.size - p := by simp
      have hn := bounds_i64 b1
      obtain ⟨M, hM⟩ : ∃ M : Nat, (M : Int) = IntKind.u64.wrap n := ⟨(IntKind.u64.wrap n).toNat, by rw [IntKind.wrap_u64]; omega⟩
      have hM64 : M < 18446744073709551616 := by have h := hM; rw [IntKind.wrap_u64] at h; omega
      have hq1 := gets_le (e := e) hp hlen
      have hq2 := (nxt_le (e := e) (most := M) hp hlen).1
      have hq3 := nxtT_le (e := e) (most := mostOf n) hp hlen
      obtain ⟨⟨v1, q1, r1⟩, hg1⟩ : ∃ g, nxt p e (gets (s.data.toList.drop p)) = g := ⟨_, rfl⟩
      obtain ⟨⟨v2, q2, r2⟩, hg2⟩ : ∃ g, nxt p e (mostR M (s.data.toList.drop p)) = g := ⟨_, rfl⟩
      obtain ⟨⟨v3, q3, r3⟩, hg3⟩ : ∃ g, nxtT p e (textR s p (mostR (mostOf n) (s.data.toList.drop p))) = g := ⟨_, rfl⟩
      rw [hg1] at hq1
      rw [hg2] at hq2
      rw [hg3] at hq3
      have H17 : Hid (Ref s 17 [] p e (.int .u64 v1) q1 r1) := fun W => by have := rget_any s p e _ W rfl hp (by omega); rw [hg1] at this; exact this
      have H18 : Hid (Does s 18 [] p e (.int .u64 v1) q1 r1) := fun W B h => by have := get_any B s p e _ W h rfl hp (by omega); rw [hg1] at this; exact this
      have H19 : Hid (Ref s 19 [.int .u64 (IntKind.u64.wrap n)] p e (.int .u64 v2) q2 r2) := fun W => by have := rmost_any s p e M _ W rfl hp (by omega); rw [hg2, hM] at this; exact this
      have H20 : Hid (Does s 20 [.int .u64 (IntKind.u64.wrap n)] p e (.int .u64 v2) q2 r2) := fun W B h => by have := most_any B s p e M _ W h rfl hp (by omega) hM64; rw [hg2, hM] at this; exact this
      have H21 : Hid (Ref s 21 [] p e (.int .i64 (usg v1)) q1 r1) := fun W => by have := rgetint_any s p e _ W rfl hp (by omega); rw [hg1] at this; exact this
      have H22 : Hid (Does s 22 [] p e (.int .i64 (usg v1)) q1 r1) := fun W B h => by have := getint_any B s p e _ W h rfl hp (by omega); rw [hg1] at this; exact this
      have H23 : Hid (Ref s 23 [.int .i64 n] p e (.string v3) q3 r3) := fun W => by have := rgettext_any s p e n _ W rfl hp (by omega) hn.2; rw [hg3] at this; exact this
      have H24 : Hid (Does s 24 [.int .i64 n] p e (.string v3) q3 r3) := fun W B h => by have := gettext_any B s p e n _ W h rfl hp (by omega) hn.2; rw [hg3] at this; exact this
      have HE := fun q r => Lib.hid (show REnd s q r from fun W => rend_any s q r W)
      have HM := Lib.hid hM
      have HQ1 := Lib.hid (show q1 ≤ s.size from hq1)
      have HQ2 := Lib.hid (show q2 ≤ s.size from hq2)
      have HQ3 := Lib.hid (show q3 ≤ s.size from hq3)
      clear hM hM64 hg1 hg2 hg3 hq1 hq2 hq3 hlen hn
      go_upto_block 2 with (fail)
      go_cut [8] (fun v8 wc => Sw s w w1.heap.size v8 wc)
      case first =>
        go_wp2_with
        (first
        | (go_at_call 17; (with_reducible refine (H17.out _).mono ?_); rintro en w2 ⟨rfl, hB2⟩; have C2 := Lib.hid (AT.out.below hB2); have R2 := Lib.hid (RD.out.below hB2); have BL2 := below_step' BL hB2; obtain ⟨a20, a21, a22, f20, f21, f22⟩ := C2.out.cells; have alt2 := C2.out.lt; clear hB2)
        | (go_at_call 18; have S3 := Lib.hid (step3 (q := q1) (r := r1) hz BL2.out R2.out C2.out (.cells #[.string s, .int .i64 q1, .int .i64 r1] 36)); (with_reducible refine (H18.out _ _ S3.out.1).mono ?_); rintro en w4 ⟨rfl, hR4, hK4⟩; have R4 := Lib.hid hR4; have C4 := Lib.hid (S3.out.2.1.keep hK4 hne'); have BL4 := Lib.hid (Keep.below S3.out.2.2 hK4 (Nat.le_refl _) S3.out.2.2.size); clear hR4 hK4)
        | (go_at_call 21; (with_reducible refine (H21.out _).mono ?_); rintro en w2 ⟨rfl, hB2⟩; have C2 := Lib.hid (AT.out.below hB2); have R2 := Lib.hid (RD.out.below hB2); have BL2 := below_step' BL hB2; obtain ⟨a20, a21, a22, f20, f21, f22⟩ := C2.out.cells; have alt2 := C2.out.lt; clear hB2)
        | (go_at_call 22; have S3 := Lib.hid (step3 (q := q1) (r := r1) hz BL2.out R2.out C2.out (.cells #[.string s, .int .i64 q1, .int .i64 r1] 36)); (with_reducible refine (H22.out _ _ S3.out.1).mono ?_); rintro en w4 ⟨rfl, hR4, hK4⟩; have R4 := Lib.hid hR4; have C4 := Lib.hid (S3.out.2.1.keep hK4 hne'); have BL4 := Lib.hid (Keep.below S3.out.2.2 hK4 (Nat.le_refl _) S3.out.2.2.size); clear hR4 hK4))
        · go_meet
          exact ⟨rfl, q1, r1, HQ1.out, R4.out, C4.out, BL4.out⟩
        · go_cut [11, 12, 63, 75] (fun v11 v12 _ _ wc => Pk s w w1.heap.size p e q2 r2 (.int .u64 (v2 : Int)) v11 v12 wc)
          case first =>
            go_region_held3 (fun w' => ∀ b o, b < wr.heap.size → w'.cell? ⟨b, o, none⟩ = wr.cell? ⟨b, o, none⟩)
              (exact fun b o h => (show Below wr.heap.size wr _ from by first
                | exact (Below.refl _ _).drew
                | exact KW.out
                | exact ((Below.refl _ _).drew).alloc (Nat.le_refl _) _
                | exact KW.out.alloc KW.out.size _
                | exact ((KW.out.setCell (p := ⟨wr.heap.size, 0, none⟩) (Nat.le_refl _) _).setCell (p := ⟨wr.heap.size, 1, none⟩) (Nat.le_refl _) _).setCell (p := ⟨wr.heap.size, 2, none⟩) (Nat.le_refl _) _).cell (p := ⟨b, o, none⟩) h)
              (first | (go_at_call 19; (with_reducible refine (H19.out _).mono ?_); rintro en w2 ⟨rfl, hB2⟩; have HB2 := Lib.hid hB2; have KW := Lib.hid (show Below wr.heap.size wr w2 from by first | exact Below.step ((Below.refl _ _).drew) hB2 | exact Below.step (((Below.refl _ _).drew).alloc (Nat.le_refl _) _) hB2); first | (have N2 := new_cells hB2; obtain ⟨n0, n1, n2, g0, g1, g2⟩ := N2.cells; clear N2) | skip; clear hB2))
            all_goals go_wp2_with fail
            all_goals go_meet
            · exact Pk.late RD.out AT.out BL.out (Below.refl _ _).drew HB2.out
            · exact Pk.soon RD.out AT.out BL.out rfl HB2.out
          case rest =>
            obtain ⟨rfl, N, rfl, hN, hR, hA, hB⟩ := hcut
            have xe := HX1.out wc hB
            obtain ⟨b0, b1, b2, c0, c1, c2⟩ := hN.cells
            obtain ⟨d0, d1, d2, g0, g1, g2⟩ := hA.cells
            have HN := Lib.hid hN
            have HR := Lib.hid hR
            have HA := Lib.hid hA
            have HB := Lib.hid hB
            clear hN hR hA hB
            have S3 := Lib.hid (step30 (q := q2) (r := r2) hz HB.out HR.out HA.out)
            go_wp2_with ((go_at_call 20; (with_reducible refine (H20.out _ _ S3.out.1).mono ?_); rintro en w4 ⟨rfl, hR4, hK4⟩; have R4 := Lib.hid hR4; have C4 := Lib.hid (S3.out.2.1.keep hK4 hne'); have BL4 := Lib.hid (Keep.below S3.out.2.2 hK4 (Nat.le_refl _) S3.out.2.2.size); clear hR4 hK4))
            go_meet
            exact ⟨rfl, q2, r2, HQ2.out, R4.out, C4.out, BL4.out⟩
        · go_meet
          exact ⟨rfl, q1, r1, HQ1.out, R4.out, C4.out, BL4.out⟩
        · go_cut [15, 16, 63, 75, 99] (fun v15 v16 _ _ _ wc => Pk s w w1.heap.size p e q3 r3 (.string v3) v15 v16 wc)
          case first =>
            go_region_held3 (fun w' => ∀ b o, b < wr.heap.size → w'.cell? ⟨b, o, none⟩ = wr.cell? ⟨b, o, none⟩)
              (exact fun b o h => (show Below wr.heap.size wr _ from by first
                | exact (Below.refl _ _).drew
                | exact KW.out
                | exact ((Below.refl _ _).drew).alloc (Nat.le_refl _) _
                | exact KW.out.alloc KW.out.size _
                | exact ((KW.out.setCell (p := ⟨wr.heap.size, 0, none⟩) (Nat.le_refl _) _).setCell (p := ⟨wr.heap.size, 1, none⟩) (Nat.le_refl _) _).setCell (p := ⟨wr.heap.size, 2, none⟩) (Nat.le_refl _) _).cell (p := ⟨b, o, none⟩) h)
              (first | (go_at_call 23; (with_reducible refine (H23.out _).mono ?_); rintro en w2 ⟨rfl, hB2⟩; have HB2 := Lib.hid hB2; have KW := Lib.hid (show Below wr.heap.size wr w2 from by first | exact Below.step ((Below.refl _ _).drew) hB2 | exact Below.step (((Below.refl _ _).drew).alloc (Nat.le_refl _) _) hB2); first | (have N2 := new_cells hB2; obtain ⟨n0, n1, n2, g0, g1, g2⟩ := N2.cells; clear N2) | skip; clear hB2))
            all_goals go_wp2_with fail
            all_goals go_meet
            · exact Pk.late RD.out AT.out BL.out (Below.refl _ _).drew HB2.out
            · exact Pk.soon RD.out AT.out BL.out rfl HB2.out
          case rest =>
            obtain ⟨rfl, N, rfl, hN, hR, hA, hB⟩ := hcut
            have xe := HX1.out wc hB
            obtain ⟨b0, b1, b2, c0, c1, c2⟩ := hN.cells
            obtain ⟨d0, d1, d2, g0, g1, g2⟩ := hA.cells
            have HN := Lib.hid hN
            have HR := Lib.hid hR
            have HA := Lib.hid hA
            have HB := Lib.hid hB
            clear hN hR hA hB
            have S3 := Lib.hid (step30 (q := q3) (r := r3) hz HB.out HR.out HA.out)
            go_wp2_with ((go_at_call 24; (with_reducible refine (H24.out _ _ S3.out.1).mono ?_); rintro en w4 ⟨rfl, hR4, hK4⟩; have R4 := Lib.hid hR4; have C4 := Lib.hid (S3.out.2.1.keep hK4 hne'); have BL4 := Lib.hid (Keep.below S3.out.2.2 hK4 (Nat.le_refl _) S3.out.2.2.size); clear hR4 hK4))
            go_meet
            exact ⟨rfl, q3, r3, HQ3.out, R4.out, C4.out, BL4.out⟩
      case rest =>
        obtain ⟨rfl, q, r, hq, hR, hC, hB⟩ := hcut
        have hm0 : ∃ m, m = s.size - q := ⟨_, rfl⟩
        obtain ⟨m, hm⟩ := hm0
        have hm1 : (s.size : Int) - (q : Int) = (m : Int) := by omega
        have hm2 : IntKind.i64.wrap (m : Int) = (m : Int) := by rw [IntKind.wrap_i64]; omega
        have HQ := Lib.hid hq
        have CL := Lib.hid (show Cls s w w1.heap.size q r wc from ⟨hR, hC, hB⟩)
        have C25 : Hid (∀ W, Cls s w w1.heap.size q r W → Calls Try.prog 25 #[.pointer (some ⟨w.heap.size, 0, none⟩)] W fun en w' => en = .returned (.int .i64 (r : Int)) ∧ Cls s w w1.heap.size q r w') :=
          fun W h => (err_any _ s _ _ _ h.1).mono fun en w' ⟨a, b⟩ => ⟨a, by subst b; exact h⟩
        have C26 : Hid (∀ W, Cls s w w1.heap.size q r W → Calls Try.prog 26 #[.pointer (some ⟨w.heap.size, 0, none⟩)] W fun en w' => en = .returned (.int .i64 (m : Int)) ∧ Cls s w w1.heap.size q r w') :=
          fun W h => (left_any _ s _ _ _ h.1 hq (by omega)).mono fun en w' ⟨a, b, c⟩ => ⟨by rw [a, hm], b, h.2.1.keep c hne', Keep.below h.2.2 c (Nat.le_refl _) h.2.2.size⟩
        have C27 : Hid (∀ W, Cls s w w1.heap.size q r W → Calls Try.prog 27 #[.pointer (some ⟨w.heap.size, 0, none⟩)] W fun en w' => en = .returned (.int .i64 (endE s q r : Int)) ∧ Cls s w w1.heap.size q r w') :=
          fun W h => (end_any _ s _ _ _ h.1 hq (by omega)).mono fun en w' ⟨a, b, c⟩ => ⟨a, b, h.2.1.keep c hne', Keep.below h.2.2 c (Nat.le_refl _) h.2.2.size⟩
        have C28 : Hid (∀ W, Cls s w w1.heap.size q r W → Calls Try.prog 28 #[.agg #[.string s, .int .i64 (q : Int), .int .i64 (r : Int)]] W fun en w' => en = .returned (.int .i64 (endE s q r : Int)) ∧ Cls s w w1.heap.size q r w') :=
          fun W h => (rend_any s q r W).mono fun en w' ⟨a, b⟩ => ⟨a, h.1.below b, h.2.1.below b, h.2.2.trans (b.mono h.2.2.size)⟩
        clear hm hq hR hC hB H17 H18 H19 H20 H21 H22 H23 H24 HE HM HQ1 HQ2 HQ3 a0 a1 a2 f0 f1 f2 e0 e1 e1c HOFF HK1 hxb b0 b1
        go_wp2_with fail
        refine region_class (C := Cls s w w1.heap.size q r) (by kernel_rfl) (by kernel_rfl) ⟨CL.out.1, CL.out.2.1, CL.out.2.2.drew⟩ ?_
        repeat (first | go_big_quiet_skip | (go_big_quiet_want; go_big_quiet_op; first | go_big_quiet_on | (apply Exists.intro; refine ⟨fun W hW => ?_, ?_⟩; (first | rfl | exact C25.out W hW | exact C26.out W hW | exact C27.out W hW | exact C28.out W hW | (have hcs := hW.2.1.cells; rw [hcs.2.2.1]; exact ⟨rfl, rfl⟩) | (have hcs := hW.2.1.cells; rw [hcs.2.1]; exact ⟨rfl, rfl⟩)); go_big_quiet_on)))
        go_big_quiet_want
        go_big_quiet_op
        apply Exists.intro
        refine ⟨fun W hW => ?_, ?_⟩
        · obtain ⟨b0, b1, b2, b3, b4, b5⟩ := hW.2.1.cells
          simp only [b0]
          go_simp
          rfl
        go_big_quiet_on
        repeat (first | go_big_quiet_skip | (go_big_quiet_want; go_big_quiet_op; first | go_big_quiet_on | (apply Exists.intro; refine ⟨fun W hW => ?_, ?_⟩; (first | rfl | exact C28.out W hW); go_big_quiet_on)))
        refine wpQuiet_nil ?_
        intro wd hW
        have CD := Lib.hid hW
        clear hW
        go_wp2_with fail
        go_round
        case rel => exact ⟨k + 1, q, r, by omega, by go_num, HQ.out, CD.out.1, CD.out.2.1, CD.out.2.2⟩
        case measure => simp [intOf]; omega
    · obtain rfl : k = len := by omega
      clear hlt
      go_wp2_with (first
        | (go_at_call 9; refine (vawake_any _).mono ?_; rintro e5 w5 ⟨rfl, hB5⟩; have BE := below_step' BL hB5; clear hB5)
        | (go_at_call 18; refine (get_nil _).mono ?_; rintro e6 w6 ⟨rfl, rfl⟩)
        | (go_at_call 20; refine (most_nil _ _).mono ?_; rintro e6 w6 ⟨rfl, rfl⟩)
        | (go_at_call 22; refine (getint_nil _).mono ?_; rintro e6 w6 ⟨rfl, rfl⟩)
        | (go_at_call 24; refine (gettext_nil _).mono ?_; rintro e6 w6 ⟨rfl, rfl⟩)
        | (go_at_call 26; refine (left_nil _).mono ?_; rintro e6 w6 ⟨rfl, rfl⟩)
        | (go_at_call 25; refine (err_nil _).mono ?_; rintro e6 w6 ⟨rfl, rfl⟩)
        | (go_at_call 27; refine (end_nil _).mono ?_; rintro e6 w6 ⟨rfl, rfl⟩))
      go_ret
      exact ⟨rfl, BE.out⟩
end Go.Proofs.Ytmfikjpmieoikaa
