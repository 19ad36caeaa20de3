/- WALK of the reference's Terms; its Compare, whole. -/
import Derived.Test.YtkmbhjcedkojjaaRb
import Derived.Test.YtkmbhjcedkojjaaPh
namespace Go.Proofs.Ytkmbhjcedkojjaa
open Go.RowKit
set_option maxRecDepth 100000 in
set_option maxHeartbeats 8000000 in
theorem rterms_any (g : List Tm → List Tm → Int) (I : World → Option Addr → Nat → Nat → List Tm → Prop) (k lo hi : Int) (s : ByteArray) (y m o : Bool) (f : Option Addr) (fl fc : Nat) (fs : List (ByteArray × List Tm)) (k2 lo2 hi2 : Int) (s2 : ByteArray) (y2 m2 o2 : Bool) (f2 : Option Addr) (fl2 fc2 : Nat) (fs2 : List (ByteArray × List Tm)) (w : World)
    (HC : ∀ W, Below w.heap.size w W → ∀ t tl tc V t2 tl2 tc2 V2, I w t tl tc V → I w t2 tl2 tc2 V2 → Calls Try.prog 34 #[.agg #[.slice t tl tc], .agg #[.slice t2 tl2 tc2]] W (CmpPost (g V V2) W))
    (h1 : InF (I w) w f fl fs) (h2 : InF (I w) w f2 fl2 fs2) :
    Calls Try.prog 32 #[tv k lo hi s y m o f fl fc, tv k2 lo2 hi2 s2 y2 m2 o2 f2 fl2 fc2] w (CmpPost (cmpT g (.mk k lo hi s y m o fs) (.mk k2 lo2 hi2 s2 y2 m2 o2 fs2)) w) := by
  have HC := Lib.hid HC
  obtain ⟨l1, z1, h1⟩ := h1
  obtain ⟨l2, z2, h2⟩ := h2
  have H1 := Lib.hid h1
  have H2 := Lib.hid h2
  subst l1 l2
  clear h1 h2
  have HP := fun W => Lib.hid (plain_any k lo hi s y m o f fs.length fc fs k2 lo2 hi2 s2 y2 m2 o2 f2 fs2.length fc2 fs2 W)
  have HT : Hid (cmpT g (.mk k lo hi s y m o fs) (.mk k2 lo2 hi2 s2 y2 m2 o2 fs2) = two (firstL (plainL (.mk k lo hi s y m o fs) (.mk k2 lo2 hi2 s2 y2 m2 o2 fs2))) (lexL (cmpF g) fs fs2)) := rfl
  rw [HT.out]
  clear HT
  generalize firstL (plainL (.mk k lo hi s y m o fs) (.mk k2 lo2 hi2 s2 y2 m2 o2 fs2)) = p at *
  by_cases hp : p = 0
  · subst hp
    rw [show two 0 (lexL (cmpF g) fs fs2) = lexL (cmpF g) fs fs2 from rfl]
    go_enter Try.func32, Try.ntmps32
    go_wp2_with (go_at_call 56; (with_reducible refine (HP _).out.mono ?_); rintro e w1 ⟨rfl, hB⟩; obtain ⟨⟨TA, hA⟩, ⟨TB, hB'⟩, hW⟩ := Tc.box2 w k lo hi s y m o f fs.length fc k2 lo2 hi2 s2 y2 m2 o2 f2 fs2.length fc2 hB; have HA := Lib.hid (And.intro hA TA.2.2.2.2.2.2.2); have HB := Lib.hid (And.intro hB' TB.2.2.2.2.2.2.2); have HW := Lib.hid hW; clear hB TA hA TB hB' hW)
    go_loopw [6] (fun i wr => ∃ j : Nat, j ≤ fs.length ∧ j ≤ fs2.length ∧ i = .int .i64 j ∧ Hid (∀ i (a : i < fs.length) (b : i < fs2.length), i < j → cmpF g fs[i] fs2[i] = 0) ∧ B8 wr w.heap.size f fs.length fc ∧ B8 wr (w.heap.size + 1) f2 fs2.length fc2 ∧ Hid (Below w.heap.size w wr)) (fun i _ => fs.length - (intOf i).toNat)
    case atStart => exact ⟨0, Nat.zero_le _, Nat.zero_le _, rfl, fun i _ _ hj => absurd hj (Nat.not_lt_zero _), HA.out, HB.out, HW⟩
    case round =>
      obtain ⟨j, hj1, hj2, rfl, hz, hX1, hX2, hB⟩ := hrel
      rename World => wr
      have bx1 := hX1.2
      have bx2 := hX2.2
      have HX1 := Lib.hid hX1
      have HX2 := Lib.hid hX2
      clear hX1 hX2
      by_cases L1 : j < fs.length
      · have hk1 : (j : Int) < (fs.length : Int) := by omega
        have hk0 : (0 : Int) ≤ (j : Int) := by omega
        by_cases L2 : j < fs2.length
        · have hk2 : (j : Int) < (fs2.length : Int) := by omega
          obtain ⟨b1, off1, tl1, tc1, t1, rfl, lt1, c10, c11, i1⟩ := H1.out j L1
          obtain ⟨b2, off2, tl2, tc2, t2, rfl, lt2, c20, c21, i2⟩ := H2.out j L2
          have V1 : Hid (∀ W, Below wr.heap.size wr W → W.cell? ⟨b1, off1 + j * 2, none⟩ = some (.string fs[j].1) ∧ W.cell? ⟨b1, off1 + j * 2 + 1, none⟩ = some (.slice t1 tl1 tc1)) := fun W hW => by
            have hw := bl_step hB.out hW
            exact ⟨(hw.cell (p := ⟨b1, off1 + j * 2, none⟩) lt1).trans c10, (hw.cell (p := ⟨b1, off1 + j * 2 + 1, none⟩) lt1).trans c11⟩
          have V2 : Hid (∀ W, Below wr.heap.size wr W → W.cell? ⟨b2, off2 + j * 2, none⟩ = some (.string fs2[j].1) ∧ W.cell? ⟨b2, off2 + j * 2 + 1, none⟩ = some (.slice t2 tl2 tc2)) := fun W hW => by
            have hw := bl_step hB.out hW
            exact ⟨(hw.cell (p := ⟨b2, off2 + j * 2, none⟩) lt2).trans c20, (hw.cell (p := ⟨b2, off2 + j * 2 + 1, none⟩) lt2).trans c21⟩
          have KC : Hid (∀ W, Below wr.heap.size wr W → Calls Try.prog 34 #[.agg #[.slice t1 tl1 tc1], .agg #[.slice t2 tl2 tc2]] W fun e w' => e = .returned (.int .i64 (g fs[j].2 fs2[j].2)) ∧ Below wr.heap.size wr w') := fun W hW =>
            (HC.out W (bl_step hB.out hW) _ _ _ _ _ _ _ _ i1 i2).mono fun _ _ ⟨a, b⟩ => ⟨a, bl_step hW b⟩
          have KS : Hid (∀ W, Below wr.heap.size wr W → Calls Try.prog 57 #[.string fs[j].1, .string fs2[j].1] W fun e w' => e = .returned (.int .i64 (cmpS fs[j].1 fs2[j].1)) ∧ Below wr.heap.size wr w') := fun W hW =>
            (texts_any _ _ W).mono fun _ _ ⟨a, b⟩ => ⟨a, by rw [b]; exact hW⟩
          have P1 : Hid (∀ W, Below wr.heap.size wr W → W.cell? ⟨w.heap.size, 7, none⟩ = some (.slice (some ⟨b1, off1, none⟩) fs.length fc)) := fun W hW => (HX1.out.later hW).2
          have P2 : Hid (∀ W, Below wr.heap.size wr W → W.cell? ⟨w.heap.size + 1, 7, none⟩ = some (.slice (some ⟨b2, off2, none⟩) fs2.length fc2)) := fun W hW => (HX2.out.later hW).2
          have HF : Hid (cmpF g fs[j] fs2[j] = two (cmpS fs[j].1 fs2[j].1) (g fs[j].2 fs2[j].2)) := rfl
          clear c10 c11 c20 c21 lt1 lt2 i1 i2
          generalize hn1 : fs[j].1 = nm1 at *
          generalize hn2 : fs2[j].1 = nm2 at *
          generalize g fs[j].2 fs2[j].2 = rv at *
          generalize cmpS nm1 nm2 = c at *
          clear hn1 hn2
          go_upto_region 7 with fail
          refine region_class (C := fun W => Below wr.heap.size wr W) (by kernel_rfl) (by kernel_rfl) ((Below.refl _ _).drew) ?_
          repeat (first | go_big_quiet_skip | (go_big_quiet_want; go_big_quiet_op; first | go_big_quiet_on | (apply Exists.intro; refine ⟨fun W hW => ?_, ?_⟩; (first | rfl | with_reducible exact (KS.out W hW) | (have q0 := P1.out W hW; go_simp; first | done | rfl | exact ⟨rfl, rfl⟩) | (have q0 := P2.out W hW; go_simp; first | done | rfl | exact ⟨rfl, rfl⟩) | (obtain ⟨q0, q1⟩ := V1.out W hW; go_simp; first | done | rfl | exact ⟨rfl, rfl⟩) | (obtain ⟨q0, q1⟩ := V2.out W hW; go_simp; first | done | rfl | exact ⟨rfl, rfl⟩)); go_big_quiet_on)))
          refine wpQuiet_nil ?_
          intro w9 hW9
          have KW := Lib.hid hW9
          have bx3 := P1.out _ hW9
          have bx4 := P2.out _ hW9
          clear hW9 bx1 bx2
          by_cases h0 : c = 0
          · have HR : Hid (cmpF g fs[j] fs2[j] = rv) := HF.out.trans (by rw [h0]; rfl)
            subst h0
            clear HF
            go_upto_region 9 with fail
            refine region_class (C := fun W => Below wr.heap.size wr W) (by kernel_rfl) (by kernel_rfl) (KW.out.drew) ?_
            repeat (first | go_big_quiet_skip | (go_big_quiet_want; go_big_quiet_op; first | go_big_quiet_on | (apply Exists.intro; refine ⟨fun W hW => ?_, ?_⟩; (first | rfl | with_reducible exact (KC.out W hW) | (have q0 := P1.out W hW; go_simp; first | done | rfl | exact ⟨rfl, rfl⟩) | (have q0 := P2.out W hW; go_simp; first | done | rfl | exact ⟨rfl, rfl⟩) | (obtain ⟨q0, q1⟩ := V1.out W hW; go_simp; first | done | rfl | exact ⟨rfl, rfl⟩) | (obtain ⟨q0, q1⟩ := V2.out W hW; go_simp; first | done | rfl | exact ⟨rfl, rfl⟩)); go_big_quiet_on)))
            refine wpQuiet_nil ?_
            intro w10 hW10
            have HB9 := Lib.hid (bl_step hB.out hW10)
            have HY1 := Lib.hid (HX1.out.later hW10)
            have HY2 := Lib.hid (HX2.out.later hW10)
            clear hW10 V1 V2 KC KS P1 P2 bx3 bx4
            by_cases hr0 : rv = 0
            · have HZ : Hid (cmpF g fs[j] fs2[j] = 0) := HR.out.trans hr0
              subst hr0
              go_wp2_with fail
              go_roundw
              case rel => exact ⟨j + 1, by omega, by omega, by go_num, Lib.hid (show ∀ i (a : i < fs.length) (b : i < fs2.length), i < j + 1 → cmpF g fs[i] fs2[i] = 0 from fun i a b hj => by
                by_cases e : i = j
                · subst e; exact HZ.out
                · exact hz.out i a b (Nat.lt_of_le_of_ne (Nat.le_of_lt_succ hj) e)), HY1.out, HY2.out, HB9⟩
              case measure => simp [intOf]; omega
            · have hb : (rv != 0) = true := by simpa using hr0
              have HN := Lib.hid hr0
              clear hr0
              go_wp2_with fail
              go_ret
              exact ⟨ret_int (by rw [← HR.out]; exact (lexL_at (cmpF g) fs fs2 j L1 L2 (fun i a b hj => hz.out i a b hj) (by rw [HR.out]; exact HN.out)).symm), HB9.out⟩
          · have hb : (c == 0) = false := by simpa using h0
            have hb2 : (c != 0) = true := by simpa using h0
            have HR : Hid (cmpF g fs[j] fs2[j] = c) := HF.out.trans (by unfold two; rw [if_pos h0])
            have HN := Lib.hid h0
            clear h0 HF
            go_wp2_with fail
            go_ret
            exact ⟨ret_int (by rw [← HR.out]; exact (lexL_at (cmpF g) fs fs2 j L1 L2 (fun i a b hj => hz.out i a b hj) (by rw [HR.out]; exact HN.out)).symm), bl_step hB.out KW.out⟩
        · go_wp2_with (go_at_call 58; (with_reducible refine (nums_any _ _ _).mono ?_); rintro e w1 ⟨rfl, h⟩; subst h)
          go_ret
          exact ⟨ret_int (lexL_end _ _ _ (fun i a b => hz.out i a b (by omega))).symm, hB.out⟩
      · go_wp2_with (go_at_call 58; (with_reducible refine (nums_any _ _ _).mono ?_); rintro e w1 ⟨rfl, h⟩; subst h)
        go_ret
        exact ⟨ret_int (lexL_end _ _ _ (fun i a b => hz.out i a b (by omega))).symm, hB.out⟩
  · have hb : (p != 0) = true := by simpa using hp
    have HN := Lib.hid hp
    clear hp
    go_enter Try.func32, Try.ntmps32
    go_wp2_with (go_at_call 56; (with_reducible refine (HP _).out.mono ?_); rintro e w1 ⟨rfl, hB⟩; have HW := Lib.hid (bl_step (bl_alloc (bl_alloc (Below.refl w.heap.size w))) hB); clear hB)
    go_ret
    exact ⟨ret_int (by unfold two; rw [if_pos HN.out]), HW.out⟩
theorem rterms_in (n : Nat) (ih : ∀ (W : World) t tl tc A t2 tl2 tc2 B, InV W n t tl tc A → InV W n t2 tl2 tc2 B → Calls Try.prog 34 #[.agg #[.slice t tl tc], .agg #[.slice t2 tl2 tc2]] W (CmpPost (cmpV n A B) W))
    (W : World) (k lo hi : Int) (s : ByteArray) (y0 m0 o : Bool) (f : Option Addr) (fl fc : Nat) (fs : List (ByteArray × List Tm)) (k2 lo2 hi2 : Int) (s2 : ByteArray) (y2 m2 o2 : Bool) (f2 : Option Addr) (fl2 fc2 : Nat) (fs2 : List (ByteArray × List Tm))
    (h1 : InF (fun t tl tc V => InV W n t tl tc V) W f fl fs) (h2 : InF (fun t tl tc V => InV W n t tl tc V) W f2 fl2 fs2) :
    Calls Try.prog 32 #[tv k lo hi s y0 m0 o f fl fc, tv k2 lo2 hi2 s2 y2 m2 o2 f2 fl2 fc2] W (CmpPost (cmpT (cmpV n) (.mk k lo hi s y0 m0 o fs) (.mk k2 lo2 hi2 s2 y2 m2 o2 fs2)) W) :=
  rterms_any (cmpV n) (fun w t tl tc V => InV w n t tl tc V) k lo hi s y0 m0 o f fl fc fs k2 lo2 hi2 s2 y2 m2 o2 f2 fl2 fc2 fs2 W
    (fun W2 hW2 _ _ _ _ _ _ _ _ i1 i2 => ih W2 _ _ _ _ _ _ _ _ (InV.below hW2 i1) (InV.below hW2 i2)) h1 h2
theorem rcompare_in : ∀ (n : Nat) (W : World) t tl tc A t2 tl2 tc2 B, InV W n t tl tc A → InV W n t2 tl2 tc2 B → Calls Try.prog 34 #[.agg #[.slice t tl tc], .agg #[.slice t2 tl2 tc2]] W (CmpPost (cmpV n A B) W)
  | 0, _, _, _, _, _, _, _, _, _, h, _ => h.elim
  | n + 1, W, t, tl, tc, A, t2, tl2, tc2, B, h1, h2 =>
    rcompare_step n (fun W3 k lo hi s y0 m0 o f fl fc fs k2 lo2 hi2 s2 y2 m2 o2 f2 fl2 fc2 fs2 i1 i2 => rterms_in n (rcompare_in n) W3 k lo hi s y0 m0 o f fl fc fs k2 lo2 hi2 s2 y2 m2 o2 f2 fl2 fc2 fs2 i1 i2) t tl tc A t2 tl2 tc2 B W h1 h2

end Go.Proofs.Ytkmbhjcedkojjaa
