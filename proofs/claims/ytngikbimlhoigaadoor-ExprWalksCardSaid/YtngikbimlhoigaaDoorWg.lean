/- WALK of the reference's Refs. -/
import Derived.Test.YtngikbimlhoigaaDoorUc
import Derived.Test.YtngikbimlhoigaaDoorTj
namespace Go.Proofs.YtngikbimlhoigaaDoor
open Go.RowKit
theorem ref1_of {x : Ex} (h : ¬ (x.op = 9 ∧ 0 < x.path.length)) : ref1 x = [] := by
  unfold ref1
  split
  · rename_i h9
    have h0 : x.path.length = 0 := by omega
    rw [List.length_eq_zero_iff.1 h0]; rfl
  · rfl
set_option maxRecDepth 100000 in
set_option maxHeartbeats 8000000 in
theorem rrefs_any (w0 w : World) (n : Nat) (h : Hd) (x : Ex) (hx : InX w0 n h x) (hb0 : Below w0.heap.size w0 w) (hsm : tN n x ≤ 1000000) : Calls Tryd.prog 21 #[h.agg] w (TxtsP (refsL (allN n x)) w) := by
  obtain ⟨i0, hi, hz0, hz1, hz2⟩ := info_parts info9
  have KA := fun (W : World) (hW : Below w.heap.size w W) => Lib.hid (all_any w0 n h x W hx (below_step hb0 hW) hsm)
  have HAL := Lib.hid (show (allN n x).length ≤ 1000000 from Nat.le_trans (allN_le n x) hsm)
  have HB0 := Lib.hid hb0
  obtain ⟨A, hA⟩ : ∃ A, allN n x = A := ⟨_, rfl⟩
  rw [hA] at KA HAL
  obtain ⟨op, nn, s, p, pl, pc, q, ql, qc, o, k, kl, kc⟩ := h
  unfold Hd.agg at KA
  unfold Hd.agg
  dsimp only at KA ⊢
  rw [hA]
  have HB1 : Hid (Below w.heap.size w (w.alloc (.cells #[.int .i64 op, .int .i64 nn, .string s, .slice p pl pc, .slice q ql qc, .bool o, .slice k kl kc] 26))) := below_alloc (Below.refl _ _) _
  clear hx hb0 hsm hA
  go_enter Tryd.func21, Tryd.ntmps21
  go_wp2_with (go_at_call 13; refine (KA _ HB1.out).out.mono ?_; rintro e w2 ⟨v, L, rfl, hO, hL, hI, hb2⟩; obtain ⟨a, c, rfl, hk⟩ := row_ks (I := fun h x => ∃ m, InX w0 m h x) hO rfl (by have h1 := congrArg List.length hL; rw [List.length_map] at h1; have := HAL.out; omega) hI; rw [hL] at hk; have hLl : L.length = A.length := by { rw [← hL, List.length_map] }; rw [hLl] at hk ⊢; have HK := Lib.hid hk; have HB2 := Lib.hid (below_step HB1.out hb2); clear hb2 hO hL hI hk hLl)
  have hAm := HAL.out
  go_loopw [3, 5] (fun u i wr => ∃ j : Nat, j ≤ A.length ∧ i = .int .i64 j ∧ Hid (wr.ownsRow w2.heap.size 9 1 u (refsL (A.take j)).length ((refsL (A.take j)).map Value.string)) ∧ Hid (Below w2.heap.size w2 wr)) (fun _ i _ => A.length - (intOf i).toNat)
  case atStart => exact ⟨0, Nat.zero_le _, rfl, World.ownsRow_nil _ _ _ _, Below.refl _ _⟩
  case round =>
    obtain ⟨j, hj, rfl, hO, hB⟩ := hrel
    rename World => wr
    by_cases hlt : j < A.length
    · have hki : (j : Int) < (A.length : Int) := by omega
      have hk0 : (0 : Int) ≤ (j : Int) := by omega
      obtain ⟨b, off, y, rfl, lt, hy2, m, hI⟩ := HK.out.at_ j hlt
      have HT : Hid (refsL (A.take (j + 1)) = refsL (A.take j) ++ ref1 A[j]) := by
        rw [List.take_succ_eq_append_getElem hlt, refsL_snoc]; rfl
      obtain ⟨xe, hxe⟩ : ∃ xe, A[j] = xe := ⟨_, rfl⟩
      rw [hxe] at hI HT
      obtain ⟨m, rfl⟩ := InX.pos hI
      obtain ⟨xop, xn, xs, pa, xps, xo, xks⟩ := xe
      obtain ⟨op2, nn2, s2, p2, pl2, pc2, q2, ql2, qc2, o2, k2, kl2, kc2⟩ := y
      obtain ⟨h1, -, -, -, -, hpa, -, -⟩ := hI
      dsimp only at h1 hpa
      subst h1
      obtain rfl := hpa.count
      obtain ⟨c0, c1, c2, c3, c4, c5, c6⟩ := hy2.below hB.out lt
      dsimp only at c0 c1 c2 c3 c4 c5 c6
      have HPA := Lib.hid (hpa.below (below_step HB0.out (below_step HB2.out hB.out)))
      have hrl := refsL_len (A.take j)
      rw [List.length_take] at hrl
      have hrl2 : (refsL (A.take j)).length ≤ 1000000 := by omega
      have hsz : w2.heap.size ≤ wr.heap.size := hB.out.size
      clear hpa hy2 hrl hxe
      by_cases h9 : op2 = 9 ∧ 0 < pa.length
      · obtain ⟨rfl, hp0⟩ := h9
        obtain ⟨nm, pa', rfl⟩ : ∃ nm pa', pa = nm :: pa' := by
          cases pa with
          | nil => exact absurd hp0 (by simp)
          | cons a l => exact ⟨a, l, rfl⟩
        obtain ⟨b3, off3, rfl, lt3, hcell⟩ := HPA.out.at_ hp0
        have hc0 := hcell 0 nm rfl
        simp only [Nat.add_zero] at hc0
        have hp1 : (0 : Int) < ((nm :: pa').length : Int) := by omega
        obtain ⟨z, hz⟩ : ∃ z, (nm :: pa').length = z := ⟨_, rfl⟩
        rw [hz] at hp1 hp0 c3
        have HR : Hid (ref1 (.mk 9 xn xs (nm :: pa') xps xo xks) = [nm]) := rfl
        have HCN : Hid (∀ r u, [Value.string nm][r]? = some u → (wr.alloc (.cells #[.string nm] 9)).cell? ((⟨wr.heap.size, 0, none⟩ : Addr).add r) = some u) := cell_one_new wr (.string nm) 9
        clear hcell hz
        go_wp2_with (at_builtin; refine wpList_append_own _ rfl _ _ 22 rfl w2.heap.size 9 i0 (.string ByteArray.empty) 1 16 Tryd.underlying22 hi hz0 hz1 hz2 rfl (by decide) _ _ _ rfl (hO.out.alloc _) ⟨wr.heap.size, 0, none⟩ 1 1 [.string nm] rfl rfl HCN.out (fun x hx => by simp at hx; subst hx; rfl) (by unfold maxLen; omega) (by omega) (by simp; omega) ?_; intro v' w3 hown' hgrow3 hnil3; have OW3 := Lib.hid hown'; have HB3 := Lib.hid ((hB.out.alloc hsz _).grown hgrow3 (by simp; omega) (own_base hO.out)); clear hown' hgrow3 hnil3)
        go_roundw
        case rel => exact ⟨j + 1, by omega, by go_num, by rw [HT.out, HR.out, List.length_append, List.map_append]; exact OW3.out, HB3.out⟩
        case measure => simp [intOf]; omega
      · have HR := Lib.hid (ref1_of (x := .mk op2 xn xs pa xps xo xks) h9)
        have fin : ∃ j' : Nat, j' ≤ A.length ∧ Value.int IntKind.i64 (j + 1 : Int) = .int .i64 (j' : Int) := ⟨j + 1, by omega, by go_num⟩
        by_cases h0 : op2 = 9
        · have hp0 : pa.length = 0 := by omega
          rw [hp0] at c3
          subst h0
          clear h9 fin
          go_wp2_with fail
          go_roundw
          case rel => exact ⟨j + 1, by omega, by go_num, by rw [HT.out, HR.out, List.append_nil]; exact hO.out, hB.out⟩
          case measure => simp [intOf]; omega
        · have h0b : (op2 == 9) = false := by simpa using h0
          clear h9 fin
          go_wp2_with fail
          go_roundw
          case rel => exact ⟨j + 1, by omega, by go_num, by rw [HT.out, HR.out, List.append_nil]; exact hO.out, hB.out⟩
          case measure => simp [intOf]; omega
    · obtain rfl : j = A.length := by omega
      rw [List.take_length] at hO
      go_wp2_with fail
      go_ret
      exact ⟨_, rfl, owns_up hO.out HB2.out.size, below_step HB2.out hB.out⟩
end Go.Proofs.YtngikbimlhoigaaDoor
