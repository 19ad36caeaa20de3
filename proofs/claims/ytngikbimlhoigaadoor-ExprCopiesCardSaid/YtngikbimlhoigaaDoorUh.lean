/- WALK of ExprRights. -/
import Derived.Test.YtngikbimlhoigaaDoorUf
import Derived.Test.YtngikbimlhoigaaDoorUg
import Derived.Test.YtngikbimlhoigaaDoorUc
namespace Go.Proofs.YtngikbimlhoigaaDoor
open Go.RowKit
/-- A box's cells. -/
structure HdZ (w : World) (b : Nat) (h : Hd) : Prop where
  c0 : w.cell? ⟨b, 0, none⟩ = some (.int .i64 h.op)
  c1 : w.cell? ⟨b, 1, none⟩ = some (.int .i64 h.n)
  c2 : w.cell? ⟨b, 2, none⟩ = some (.string h.s)
  c3 : w.cell? ⟨b, 3, none⟩ = some (.slice h.p h.pl h.pc)
  c4 : w.cell? ⟨b, 4, none⟩ = some (.slice h.q h.ql h.qc)
  c5 : w.cell? ⟨b, 5, none⟩ = some (.bool h.o)
  c6 : w.cell? ⟨b, 6, none⟩ = some (.slice h.k h.kl h.kc)
theorem HdZ.of {w : World} {b : Nat} {h : Hd} (hb : BoxH w b h) : HdZ w b h := by
  obtain ⟨c0, c1, c2, c3, c4, c5, c6⟩ := hb.cells
  simp only [Nat.zero_add] at c0 c1 c2 c3 c4 c5 c6
  exact ⟨c0, c1, c2, c3, c4, c5, c6⟩
set_option maxRecDepth 100000 in
set_option maxHeartbeats 16000000 in
theorem rights_walk (w : World) (n : Nat) (ha hb : Hd) (x y : Ex) (hx : InX w n ha x) (hy : InX w n hb y) (hE : Nm.Env w) : Calls Tryd.prog 3 #[ha.agg, hb.agg] w (BoolP true w) := by
  obtain ⟨op, nn, s, p, pl, pc, q, ql, qc, o, k, kl, kc⟩ := ha
  obtain ⟨op2, nn2, s2, p2, pl2, pc2, q2, ql2, qc2, o2, k2, kl2, kc2⟩ := hb
  have CW : Hid (∀ W, Below w.heap.size w W → Calls Tryd.prog 7 #[] W (BoolP true W)) := fun W hW => awake_any W (hE.below hW)
  have FA : Hid (∀ W, Below w.heap.size w W → Calls Tryd.prog 6 #[.agg #[.int .i64 op, .int .i64 nn, .string s, .slice p pl pc, .slice q ql qc, .bool o, .slice k kl kc]] W (FewP (tN n x) W)) := fun W hW => few_any w W n ⟨op, nn, s, p, pl, pc, q, ql, qc, o, k, kl, kc⟩ x hx hW
  have FB : Hid (∀ W, Below w.heap.size w W → Calls Tryd.prog 6 #[.agg #[.int .i64 op2, .int .i64 nn2, .string s2, .slice p2 pl2 pc2, .slice q2 ql2 qc2, .bool o2, .slice k2 kl2 kc2]] W (FewP (tN n y) W)) := fun W hW => few_any w W n ⟨op2, nn2, s2, p2, pl2, pc2, q2, ql2, qc2, o2, k2, kl2, kc2⟩ y hy hW
  have HBX : Hid (BoxH ((w.alloc (.cells #[.int .i64 op, .int .i64 nn, .string s, .slice p pl pc, .slice q ql qc, .bool o, .slice k kl kc] 26)).alloc (.cells #[.int .i64 op2, .int .i64 nn2, .string s2, .slice p2 pl2 pc2, .slice q2 ql2 qc2, .bool o2, .slice k2 kl2 kc2] 26)) w.heap.size ⟨op, nn, s, p, pl, pc, q, ql, qc, o, k, kl, kc⟩ ∧ BoxH ((w.alloc (.cells #[.int .i64 op, .int .i64 nn, .string s, .slice p pl pc, .slice q ql qc, .bool o, .slice k kl kc] 26)).alloc (.cells #[.int .i64 op2, .int .i64 nn2, .string s2, .slice p2 pl2 pc2, .slice q2 ql2 qc2, .bool o2, .slice k2 kl2 kc2] 26)) (w.heap.size + 1) ⟨op2, nn2, s2, p2, pl2, pc2, q2, ql2, qc2, o2, k2, kl2, kc2⟩) := ⟨(Below.heap_alloc _ _ _ (by simp)).trans (World.alloc_heap_new w _), heap_new1 w _ _⟩
  have HB1 : Hid (Below w.heap.size w ((w.alloc (.cells #[.int .i64 op, .int .i64 nn, .string s, .slice p pl pc, .slice q ql qc, .bool o, .slice k kl kc] 26)).alloc (.cells #[.int .i64 op2, .int .i64 nn2, .string s2, .slice p2 pl2 pc2, .slice q2 ql2 qc2, .bool o2, .slice k2 kl2 kc2] 26))) := below_alloc (below_alloc (Below.refl _ _) _) _
  obtain ⟨r, hr⟩ : ∃ r, rightB n x = r := ⟨_, rfl⟩
  obtain ⟨d, hd⟩ : ∃ d, depW n x = d := ⟨_, rfl⟩
  obtain ⟨zn, hzn⟩ : ∃ z, (allN n x).length = z := ⟨_, rfl⟩
  obtain ⟨c, hc⟩ : ∃ c : Int, (if r then (if 16 < d then 22 else 0) else 1) = c := ⟨_, rfl⟩
  obtain ⟨e5, he5⟩ : ∃ e, eqB x y = e := ⟨_, rfl⟩
  have CR : Hid (∀ W, Below w.heap.size w W → Calls Tryd.prog 8 #[.agg #[.int .i64 op, .int .i64 nn, .string s, .slice p pl pc, .slice q ql qc, .bool o, .slice k kl kc]] W (BoolP r W)) := fun W hW => by rw [← hr]; exact right_any W n ⟨op, nn, s, p, pl, pc, q, ql, qc, o, k, kl, kc⟩ x (hx.below hW) (hE.below hW)
  have CR2 : tN n x ≤ 200 → Hid (∀ W, Below w.heap.size w W → Calls Tryd.prog 9 #[.agg #[.int .i64 op, .int .i64 nn, .string s, .slice p pl pc, .slice q ql qc, .bool o, .slice k kl kc]] W (BoolP r W)) := fun ht W hW => by rw [← hr]; exact rright_any w n ⟨op, nn, s, p, pl, pc, q, ql, qc, o, k, kl, kc⟩ x W hx hW (by omega)
  have CC : Hid (∀ W, Below w.heap.size w W → Calls Tryd.prog 10 #[.agg #[.int .i64 op, .int .i64 nn, .string s, .slice p pl pc, .slice q ql qc, .bool o, .slice k kl kc]] W (IntP c W)) := fun W hW => by rw [← hc, ← hr, ← hd]; exact check_any W n ⟨op, nn, s, p, pl, pc, q, ql, qc, o, k, kl, kc⟩ x (hx.below hW) (hE.below hW)
  have CC2 : tN n x ≤ 200 → Hid (∀ W, Below w.heap.size w W → Calls Tryd.prog 11 #[.agg #[.int .i64 op, .int .i64 nn, .string s, .slice p pl pc, .slice q ql qc, .bool o, .slice k kl kc]] W (IntP c W)) := fun ht W hW => by rw [← hc, ← hr, ← hd]; exact rcheck_any w W n ⟨op, nn, s, p, pl, pc, q, ql, qc, o, k, kl, kc⟩ x hx hW (by omega)
  have CZ : tN n x ≤ 200 → Hid (∀ W, Below w.heap.size w W → Calls Tryd.prog 12 #[.agg #[.int .i64 op, .int .i64 nn, .string s, .slice p pl pc, .slice q ql qc, .bool o, .slice k kl kc]] W (IntP (zn : Int) W)) := fun ht W hW => by
    have h1 := size_any W n ⟨op, nn, s, p, pl, pc, q, ql, qc, o, k, kl, kc⟩ x (hx.below hW)
    rw [szW_is _ (by have := allN_le n x; omega), hzn] at h1
    exact h1
  have CA : tN n x ≤ 200 → Hid (∀ W, Below w.heap.size w W → Calls Tryd.prog 13 #[.agg #[.int .i64 op, .int .i64 nn, .string s, .slice p pl pc, .slice q ql qc, .bool o, .slice k kl kc]] W fun e w' => ∃ (g5 : Option Addr) (cap5 : Nat), e = .returned (.slice g5 zn cap5) ∧ Below W.heap.size W w') := fun ht W hW => (all_any w n ⟨op, nn, s, p, pl, pc, q, ql, qc, o, k, kl, kc⟩ x W hx hW (by omega)).mono fun e w' ⟨v, L, he, hO, hL, _, hB⟩ => by
    have hl : L.length = zn := by rw [← hzn, ← hL, List.length_map]
    rcases hO.2 with ⟨rfl, h0⟩ | ⟨g, cap, cur, rfl, _⟩
    · refine ⟨none, 0, ?_, hB⟩
      have : zn = 0 := by omega
      rw [he, this]
    · exact ⟨_, _, by rw [he, hl], hB⟩
  have CD : Hid (∀ W, Below w.heap.size w W → Calls Tryd.prog 14 #[.agg #[.int .i64 op, .int .i64 nn, .string s, .slice p pl pc, .slice q ql qc, .bool o, .slice k kl kc]] W (IntP d W)) := fun W hW => by rw [← hd]; exact depth_any w n ⟨op, nn, s, p, pl, pc, q, ql, qc, o, k, kl, kc⟩ x W hx hW
  have CD2 : tN n x ≤ 200 → Hid (∀ W, Below w.heap.size w W → Calls Tryd.prog 15 #[.agg #[.int .i64 op, .int .i64 nn, .string s, .slice p pl pc, .slice q ql qc, .bool o, .slice k kl kc]] W (IntP d W)) := fun ht W hW => by rw [← hd]; exact rdepth_any w n ⟨op, nn, s, p, pl, pc, q, ql, qc, o, k, kl, kc⟩ x W hx hW (by omega)
  have CS : Hid (∀ W, Below w.heap.size w W → Calls Tryd.prog 16 #[.agg #[.int .i64 op, .int .i64 nn, .string s, .slice p pl pc, .slice q ql qc, .bool o, .slice k kl kc], .agg #[.int .i64 op2, .int .i64 nn2, .string s2, .slice p2 pl2 pc2, .slice q2 ql2 qc2, .bool o2, .slice k2 kl2 kc2]] W (BoolP e5 W)) := fun W hW => by rw [← he5]; exact same_any w n n ⟨op, nn, s, p, pl, pc, q, ql, qc, o, k, kl, kc⟩ ⟨op2, nn2, s2, p2, pl2, pc2, q2, ql2, qc2, o2, k2, kl2, kc2⟩ x y W hx hy hW
  have CS2 : Hid (∀ W, Below w.heap.size w W → Calls Tryd.prog 17 #[.agg #[.int .i64 op, .int .i64 nn, .string s, .slice p pl pc, .slice q ql qc, .bool o, .slice k kl kc], .agg #[.int .i64 op2, .int .i64 nn2, .string s2, .slice p2 pl2 pc2, .slice q2 ql2 qc2, .bool o2, .slice k2 kl2 kc2]] W (BoolP e5 W)) := fun W hW => by rw [← he5]; exact rsame_any w n n ⟨op, nn, s, p, pl, pc, q, ql, qc, o, k, kl, kc⟩ ⟨op2, nn2, s2, p2, pl2, pc2, q2, ql2, qc2, o2, k2, kl2, kc2⟩ x y W hx hy hW
  have HTN : ∃ t, tN n x = t := ⟨_, rfl⟩
  obtain ⟨tn, htn⟩ := HTN
  have htn2 := Lib.hid htn
  clear hx hy hE hr hd hzn hc he5 htn
  unfold Hd.agg
  dsimp only
  go_enter Tryd.func3, Tryd.ntmps3
  go_wp2_with fail
  go_at_call 6; refine (FA.out _ HB1.out).mono ?_; rintro e w1 ⟨ba, rfl, hb1, hs1⟩
  obtain ⟨hcc, hff⟩ := bcell hb1
  have HB2 := Lib.hid (below_step HB1.out hb1)
  have HX2 := Lib.hid (show BoxH w1 w.heap.size ⟨op, nn, s, p, pl, pc, q, ql, qc, o, k, kl, kc⟩ ∧ BoxH w1 (w.heap.size + 1) ⟨op2, nn2, s2, p2, pl2, pc2, q2, ql2, qc2, o2, k2, kl2, kc2⟩ from ⟨(hb1.block _ HBX.out.1.lt).trans HBX.out.1, (hb1.block _ HBX.out.2.lt).trans HBX.out.2⟩)
  have HS1 := Lib.hid hs1
  clear hb1 hs1
  cases ba
  · go_wp2_with (go_at_call 7; refine (CW.out _ HB2.out).mono ?_; rintro e w5 ⟨rfl, hb5⟩; have HB5 := Lib.hid hb5; clear hb5)
    go_ret
    exact ⟨rfl, below_step HB2.out HB5.out⟩
  · go_wp2_with fail
    go_at_call 6; refine (FB.out _ HB2.out).mono ?_; rintro e w3 ⟨bb, rfl, hb3, -⟩
    have HB3 := Lib.hid (below_step HB2.out hb3)
    have HX3 := Lib.hid (show BoxH w3 w.heap.size ⟨op, nn, s, p, pl, pc, q, ql, qc, o, k, kl, kc⟩ ∧ BoxH w3 (w.heap.size + 1) ⟨op2, nn2, s2, p2, pl2, pc2, q2, ql2, qc2, o2, k2, kl2, kc2⟩ from ⟨(hb3.block _ HX2.out.1.lt).trans HX2.out.1, (hb3.block _ HX2.out.2.lt).trans HX2.out.2⟩)
    clear hb3 hcc hff
    cases bb
    · go_wp2_with (go_at_call 7; refine (CW.out _ HB3.out).mono ?_; rintro e w5 ⟨rfl, hb5⟩; have HB5 := Lib.hid hb5; clear hb5)
      go_ret
      exact ⟨rfl, below_step HB3.out HB5.out⟩
    · have ht : tN n x ≤ 200 := by first | exact HS1.out rfl | exact HS1.out trivial
      replace CR2 := CR2 ht
      replace CC2 := CC2 ht
      replace CZ := CZ ht
      replace CA := CA ht
      replace CD2 := CD2 ht
      clear ht HS1
      have VV : Hid (∀ W, Below w3.heap.size w3 W → HdZ W w.heap.size ⟨op, nn, s, p, pl, pc, q, ql, qc, o, k, kl, kc⟩ ∧ HdZ W (w.heap.size + 1) ⟨op2, nn2, s2, p2, pl2, pc2, q2, ql2, qc2, o2, k2, kl2, kc2⟩) := fun W hW => ⟨HdZ.of ((hW.block _ HX3.out.1.lt).trans HX3.out.1), HdZ.of ((hW.block _ HX3.out.2.lt).trans HX3.out.2)⟩
      go_upto_region 3 with fail
      obtain ⟨wz0, hwz⟩ : ∃ wd : World, wd = { w3 with drawn := w3.drawn + 1 } := ⟨_, rfl⟩
      have hz0 : Below w3.heap.size w3 wz0 := by rw [hwz]; exact (Below.refl _ w3).drew
      have HS0 := Lib.hid hz0
      clear hz0
      refine wp_region_held (S := fun W => Below w3.heap.size w3 W) (by kernel_rfl) ?_
      rw [← hwz]
      clear hwz
      refine wpAnyH_all (rs := [0]) (by kernel_rfl) (by simp) ?_
      intro i hi
      obtain rfl : i = 0 := by simpa using hi
      refine call_at 14 (f := 7) (args := #[]) (w' := wz0) rfl rfl rfl (by go_simp) ((CW.out wz0 (below_step HB3.out HS0.out)).mono ?_)
      rintro e wz1 ⟨rfl, hz1⟩
      have HS1 := Lib.hid (below_step HS0.out hz1)
      clear hz1
      refine ⟨_, rfl, HS1.out, ?_⟩
      simp only [List.setIfInBounds_toArray, List.set_cons_succ, List.set_cons_zero]
      refine take_at' (i := 1) 15 (v := .bool true) rfl rfl (by kernel_rfl) (by kernel_rfl) (by kernel_rfl) (fun _ _ _ h => h) (Or.inl ⟨by rfl, fun w' hS => (by go_simp)⟩) HS1.out ?_
      simp only [List.setIfInBounds_toArray, List.set_cons_succ, List.set_cons_zero]
      refine take_at' (i := 2) 16 (v := .agg #[.int .i64 op, .int .i64 nn, .string s, .slice p pl pc, .slice q ql qc, .bool o, .slice k kl kc]) rfl rfl (by kernel_rfl) (by kernel_rfl) (by kernel_rfl) (fun _ _ _ h => h) (Or.inl ⟨by rfl, fun w' hS => (by obtain ⟨⟨c0, c1, c2, c3, c4, c5, c6⟩, ⟨d0, d1, d2, d3, d4, d5, d6⟩⟩ := VV.out w' hS; go_simp)⟩) HS1.out ?_
      simp only [List.setIfInBounds_toArray, List.set_cons_succ, List.set_cons_zero]
      refine take_at' (i := 4) 18 (v := .agg #[.int .i64 op, .int .i64 nn, .string s, .slice p pl pc, .slice q ql qc, .bool o, .slice k kl kc]) rfl rfl (by kernel_rfl) (by kernel_rfl) (by kernel_rfl) (fun _ _ _ h => h) (Or.inl ⟨by rfl, fun w' hS => (by obtain ⟨⟨c0, c1, c2, c3, c4, c5, c6⟩, ⟨d0, d1, d2, d3, d4, d5, d6⟩⟩ := VV.out w' hS; go_simp)⟩) HS1.out ?_
      simp only [List.setIfInBounds_toArray, List.set_cons_succ, List.set_cons_zero]
      refine wpAnyH_all (rs := [3]) (by kernel_rfl) (by simp) ?_
      intro i hi
      obtain rfl : i = 3 := by simpa using hi
      refine call_at 17 (f := 8) (args := #[.agg #[.int .i64 op, .int .i64 nn, .string s, .slice p pl pc, .slice q ql qc, .bool o, .slice k kl kc]]) (w' := wz1) rfl rfl rfl (by go_simp) ((CR.out wz1 (below_step HB3.out HS1.out)).mono ?_)
      rintro e wz2 ⟨rfl, hz2⟩
      have HS2 := Lib.hid (below_step HS1.out hz2)
      clear hz2
      refine ⟨_, rfl, HS2.out, ?_⟩
      simp only [List.setIfInBounds_toArray, List.set_cons_succ, List.set_cons_zero]
      refine wpAnyH_all (rs := [5]) (by kernel_rfl) (by simp) ?_
      intro i hi
      obtain rfl : i = 5 := by simpa using hi
      refine call_at 19 (f := 9) (args := #[.agg #[.int .i64 op, .int .i64 nn, .string s, .slice p pl pc, .slice q ql qc, .bool o, .slice k kl kc]]) (w' := wz2) rfl rfl rfl (by go_simp) ((CR2.out wz2 (below_step HB3.out HS2.out)).mono ?_)
      rintro e wz3 ⟨rfl, hz3⟩
      have HS3 := Lib.hid (below_step HS2.out hz3)
      clear hz3
      refine ⟨_, rfl, HS3.out, ?_⟩
      simp only [List.setIfInBounds_toArray, List.set_cons_succ, List.set_cons_zero]
      refine take_at' (i := 6) 20 (v := .bool true) rfl rfl (by kernel_rfl) (by kernel_rfl) (by kernel_rfl) (fun _ _ _ h => h) (Or.inl ⟨by rfl, fun w' hS => (by go_simp)⟩) HS3.out ?_
      simp only [List.setIfInBounds_toArray, List.set_cons_succ, List.set_cons_zero]
      refine take_at' (i := 7) 21 (v := .bool true) rfl rfl (by kernel_rfl) (by kernel_rfl) (by kernel_rfl) (fun _ _ _ h => h) (Or.inl ⟨by rfl, fun w' hS => (by go_simp)⟩) HS3.out ?_
      simp only [List.setIfInBounds_toArray, List.set_cons_succ, List.set_cons_zero]
      refine take_at' (i := 8) 22 (v := .bool true) rfl rfl (by kernel_rfl) (by kernel_rfl) (by kernel_rfl) (fun _ _ _ h => h) (Or.inl ⟨by rfl, fun w' hS => (by go_simp)⟩) HS3.out ?_
      simp only [List.setIfInBounds_toArray, List.set_cons_succ, List.set_cons_zero]
      refine take_at' (i := 9) 23 (v := .agg #[.int .i64 op, .int .i64 nn, .string s, .slice p pl pc, .slice q ql qc, .bool o, .slice k kl kc]) rfl rfl (by kernel_rfl) (by kernel_rfl) (by kernel_rfl) (fun _ _ _ h => h) (Or.inl ⟨by rfl, fun w' hS => (by obtain ⟨⟨c0, c1, c2, c3, c4, c5, c6⟩, ⟨d0, d1, d2, d3, d4, d5, d6⟩⟩ := VV.out w' hS; go_simp)⟩) HS3.out ?_
      simp only [List.setIfInBounds_toArray, List.set_cons_succ, List.set_cons_zero]
      refine take_at' (i := 11) 25 (v := .agg #[.int .i64 op, .int .i64 nn, .string s, .slice p pl pc, .slice q ql qc, .bool o, .slice k kl kc]) rfl rfl (by kernel_rfl) (by kernel_rfl) (by kernel_rfl) (fun _ _ _ h => h) (Or.inl ⟨by rfl, fun w' hS => (by obtain ⟨⟨c0, c1, c2, c3, c4, c5, c6⟩, ⟨d0, d1, d2, d3, d4, d5, d6⟩⟩ := VV.out w' hS; go_simp)⟩) HS3.out ?_
      simp only [List.setIfInBounds_toArray, List.set_cons_succ, List.set_cons_zero]
      refine wpAnyH_all (rs := [10]) (by kernel_rfl) (by simp) ?_
      intro i hi
      obtain rfl : i = 10 := by simpa using hi
      refine call_at 24 (f := 10) (args := #[.agg #[.int .i64 op, .int .i64 nn, .string s, .slice p pl pc, .slice q ql qc, .bool o, .slice k kl kc]]) (w' := wz3) rfl rfl rfl (by go_simp) ((CC.out wz3 (below_step HB3.out HS3.out)).mono ?_)
      rintro e wz4 ⟨rfl, hz4⟩
      have HS4 := Lib.hid (below_step HS3.out hz4)
      clear hz4
      refine ⟨_, rfl, HS4.out, ?_⟩
      simp only [List.setIfInBounds_toArray, List.set_cons_succ, List.set_cons_zero]
      refine wpAnyH_all (rs := [12]) (by kernel_rfl) (by simp) ?_
      intro i hi
      obtain rfl : i = 12 := by simpa using hi
      refine call_at 26 (f := 11) (args := #[.agg #[.int .i64 op, .int .i64 nn, .string s, .slice p pl pc, .slice q ql qc, .bool o, .slice k kl kc]]) (w' := wz4) rfl rfl rfl (by go_simp) ((CC2.out wz4 (below_step HB3.out HS4.out)).mono ?_)
      rintro e wz5 ⟨rfl, hz5⟩
      have HS5 := Lib.hid (below_step HS4.out hz5)
      clear hz5
      refine ⟨_, rfl, HS5.out, ?_⟩
      simp only [List.setIfInBounds_toArray, List.set_cons_succ, List.set_cons_zero]
      refine take_at' (i := 13) 27 (v := .bool true) rfl rfl (by kernel_rfl) (by kernel_rfl) (by kernel_rfl) (fun _ _ _ h => h) (Or.inl ⟨by rfl, fun w' hS => (by go_simp)⟩) HS5.out ?_
      simp only [List.setIfInBounds_toArray, List.set_cons_succ, List.set_cons_zero]
      refine take_at' (i := 14) 28 (v := .bool true) rfl rfl (by kernel_rfl) (by kernel_rfl) (by kernel_rfl) (fun _ _ _ h => h) (Or.inl ⟨by rfl, fun w' hS => (by go_simp)⟩) HS5.out ?_
      simp only [List.setIfInBounds_toArray, List.set_cons_succ, List.set_cons_zero]
      refine take_at' (i := 15) 29 (v := .bool true) rfl rfl (by kernel_rfl) (by kernel_rfl) (by kernel_rfl) (fun _ _ _ h => h) (Or.inl ⟨by rfl, fun w' hS => (by go_simp)⟩) HS5.out ?_
      simp only [List.setIfInBounds_toArray, List.set_cons_succ, List.set_cons_zero]
      refine take_at' (i := 16) 30 (v := .agg #[.int .i64 op, .int .i64 nn, .string s, .slice p pl pc, .slice q ql qc, .bool o, .slice k kl kc]) rfl rfl (by kernel_rfl) (by kernel_rfl) (by kernel_rfl) (fun _ _ _ h => h) (Or.inl ⟨by rfl, fun w' hS => (by obtain ⟨⟨c0, c1, c2, c3, c4, c5, c6⟩, ⟨d0, d1, d2, d3, d4, d5, d6⟩⟩ := VV.out w' hS; go_simp)⟩) HS5.out ?_
      simp only [List.setIfInBounds_toArray, List.set_cons_succ, List.set_cons_zero]
      refine take_at' (i := 18) 32 (v := .agg #[.int .i64 op, .int .i64 nn, .string s, .slice p pl pc, .slice q ql qc, .bool o, .slice k kl kc]) rfl rfl (by kernel_rfl) (by kernel_rfl) (by kernel_rfl) (fun _ _ _ h => h) (Or.inl ⟨by rfl, fun w' hS => (by obtain ⟨⟨c0, c1, c2, c3, c4, c5, c6⟩, ⟨d0, d1, d2, d3, d4, d5, d6⟩⟩ := VV.out w' hS; go_simp)⟩) HS5.out ?_
      simp only [List.setIfInBounds_toArray, List.set_cons_succ, List.set_cons_zero]
      refine wpAnyH_all (rs := [17]) (by kernel_rfl) (by simp) ?_
      intro i hi
      obtain rfl : i = 17 := by simpa using hi
      refine call_at 31 (f := 12) (args := #[.agg #[.int .i64 op, .int .i64 nn, .string s, .slice p pl pc, .slice q ql qc, .bool o, .slice k kl kc]]) (w' := wz5) rfl rfl rfl (by go_simp) ((CZ.out wz5 (below_step HB3.out HS5.out)).mono ?_)
      rintro e wz6 ⟨rfl, hz6⟩
      have HS6 := Lib.hid (below_step HS5.out hz6)
      clear hz6
      refine ⟨_, rfl, HS6.out, ?_⟩
      simp only [List.setIfInBounds_toArray, List.set_cons_succ, List.set_cons_zero]
      refine wpAnyH_all (rs := [19]) (by kernel_rfl) (by simp) ?_
      intro i hi
      obtain rfl : i = 19 := by simpa using hi
      refine call_at 33 (f := 13) (args := #[.agg #[.int .i64 op, .int .i64 nn, .string s, .slice p pl pc, .slice q ql qc, .bool o, .slice k kl kc]]) (w' := wz6) rfl rfl rfl (by go_simp) ((CA.out wz6 (below_step HB3.out HS6.out)).mono ?_)
      rintro e wz7 ⟨g5, cap5, rfl, hz7⟩
      have HS7 := Lib.hid (below_step HS6.out hz7)
      clear hz7
      refine ⟨_, rfl, HS7.out, ?_⟩
      simp only [List.setIfInBounds_toArray, List.set_cons_succ, List.set_cons_zero]
      refine take_at' (i := 20) 34 (v := .int .i64 (zn : Int)) rfl rfl (by kernel_rfl) (by kernel_rfl) (by kernel_rfl) (fun _ _ _ h => h) (Or.inl ⟨by rfl, fun w' hS => (by go_simp)⟩) HS7.out ?_
      simp only [List.setIfInBounds_toArray, List.set_cons_succ, List.set_cons_zero]
      refine take_at' (i := 21) 35 (v := .bool true) rfl rfl (by kernel_rfl) (by kernel_rfl) (by kernel_rfl) (fun _ _ _ h => h) (Or.inl ⟨by rfl, fun w' hS => (by go_simp)⟩) HS7.out ?_
      simp only [List.setIfInBounds_toArray, List.set_cons_succ, List.set_cons_zero]
      refine take_at' (i := 22) 36 (v := .bool true) rfl rfl (by kernel_rfl) (by kernel_rfl) (by kernel_rfl) (fun _ _ _ h => h) (Or.inl ⟨by rfl, fun w' hS => (by go_simp)⟩) HS7.out ?_
      simp only [List.setIfInBounds_toArray, List.set_cons_succ, List.set_cons_zero]
      refine take_at' (i := 23) 37 (v := .bool true) rfl rfl (by kernel_rfl) (by kernel_rfl) (by kernel_rfl) (fun _ _ _ h => h) (Or.inl ⟨by rfl, fun w' hS => (by go_simp)⟩) HS7.out ?_
      simp only [List.setIfInBounds_toArray, List.set_cons_succ, List.set_cons_zero]
      refine take_at' (i := 24) 38 (v := .agg #[.int .i64 op, .int .i64 nn, .string s, .slice p pl pc, .slice q ql qc, .bool o, .slice k kl kc]) rfl rfl (by kernel_rfl) (by kernel_rfl) (by kernel_rfl) (fun _ _ _ h => h) (Or.inl ⟨by rfl, fun w' hS => (by obtain ⟨⟨c0, c1, c2, c3, c4, c5, c6⟩, ⟨d0, d1, d2, d3, d4, d5, d6⟩⟩ := VV.out w' hS; go_simp)⟩) HS7.out ?_
      simp only [List.setIfInBounds_toArray, List.set_cons_succ, List.set_cons_zero]
      refine take_at' (i := 26) 40 (v := .agg #[.int .i64 op, .int .i64 nn, .string s, .slice p pl pc, .slice q ql qc, .bool o, .slice k kl kc]) rfl rfl (by kernel_rfl) (by kernel_rfl) (by kernel_rfl) (fun _ _ _ h => h) (Or.inl ⟨by rfl, fun w' hS => (by obtain ⟨⟨c0, c1, c2, c3, c4, c5, c6⟩, ⟨d0, d1, d2, d3, d4, d5, d6⟩⟩ := VV.out w' hS; go_simp)⟩) HS7.out ?_
      simp only [List.setIfInBounds_toArray, List.set_cons_succ, List.set_cons_zero]
      refine wpAnyH_all (rs := [25]) (by kernel_rfl) (by simp) ?_
      intro i hi
      obtain rfl : i = 25 := by simpa using hi
      refine call_at 39 (f := 14) (args := #[.agg #[.int .i64 op, .int .i64 nn, .string s, .slice p pl pc, .slice q ql qc, .bool o, .slice k kl kc]]) (w' := wz7) rfl rfl rfl (by go_simp) ((CD.out wz7 (below_step HB3.out HS7.out)).mono ?_)
      rintro e wz8 ⟨rfl, hz8⟩
      have HS8 := Lib.hid (below_step HS7.out hz8)
      clear hz8
      refine ⟨_, rfl, HS8.out, ?_⟩
      simp only [List.setIfInBounds_toArray, List.set_cons_succ, List.set_cons_zero]
      refine wpAnyH_all (rs := [27]) (by kernel_rfl) (by simp) ?_
      intro i hi
      obtain rfl : i = 27 := by simpa using hi
      refine call_at 41 (f := 15) (args := #[.agg #[.int .i64 op, .int .i64 nn, .string s, .slice p pl pc, .slice q ql qc, .bool o, .slice k kl kc]]) (w' := wz8) rfl rfl rfl (by go_simp) ((CD2.out wz8 (below_step HB3.out HS8.out)).mono ?_)
      rintro e wz9 ⟨rfl, hz9⟩
      have HS9 := Lib.hid (below_step HS8.out hz9)
      clear hz9
      refine ⟨_, rfl, HS9.out, ?_⟩
      simp only [List.setIfInBounds_toArray, List.set_cons_succ, List.set_cons_zero]
      refine take_at' (i := 28) 42 (v := .bool true) rfl rfl (by kernel_rfl) (by kernel_rfl) (by kernel_rfl) (fun _ _ _ h => h) (Or.inl ⟨by rfl, fun w' hS => (by go_simp)⟩) HS9.out ?_
      simp only [List.setIfInBounds_toArray, List.set_cons_succ, List.set_cons_zero]
      refine take_at' (i := 29) 43 (v := .bool true) rfl rfl (by kernel_rfl) (by kernel_rfl) (by kernel_rfl) (fun _ _ _ h => h) (Or.inl ⟨by rfl, fun w' hS => (by go_simp)⟩) HS9.out ?_
      simp only [List.setIfInBounds_toArray, List.set_cons_succ, List.set_cons_zero]
      refine take_at' (i := 30) 44 (v := .bool true) rfl rfl (by kernel_rfl) (by kernel_rfl) (by kernel_rfl) (fun _ _ _ h => h) (Or.inl ⟨by rfl, fun w' hS => (by go_simp)⟩) HS9.out ?_
      simp only [List.setIfInBounds_toArray, List.set_cons_succ, List.set_cons_zero]
      refine take_at' (i := 31) 45 (v := .agg #[.int .i64 op, .int .i64 nn, .string s, .slice p pl pc, .slice q ql qc, .bool o, .slice k kl kc]) rfl rfl (by kernel_rfl) (by kernel_rfl) (by kernel_rfl) (fun _ _ _ h => h) (Or.inl ⟨by rfl, fun w' hS => (by obtain ⟨⟨c0, c1, c2, c3, c4, c5, c6⟩, ⟨d0, d1, d2, d3, d4, d5, d6⟩⟩ := VV.out w' hS; go_simp)⟩) HS9.out ?_
      simp only [List.setIfInBounds_toArray, List.set_cons_succ, List.set_cons_zero]
      refine take_at' (i := 32) 46 (v := .agg #[.int .i64 op2, .int .i64 nn2, .string s2, .slice p2 pl2 pc2, .slice q2 ql2 qc2, .bool o2, .slice k2 kl2 kc2]) rfl rfl (by kernel_rfl) (by kernel_rfl) (by kernel_rfl) (fun _ _ _ h => h) (Or.inl ⟨by rfl, fun w' hS => (by obtain ⟨⟨c0, c1, c2, c3, c4, c5, c6⟩, ⟨d0, d1, d2, d3, d4, d5, d6⟩⟩ := VV.out w' hS; go_simp)⟩) HS9.out ?_
      simp only [List.setIfInBounds_toArray, List.set_cons_succ, List.set_cons_zero]
      refine take_at' (i := 34) 48 (v := .agg #[.int .i64 op, .int .i64 nn, .string s, .slice p pl pc, .slice q ql qc, .bool o, .slice k kl kc]) rfl rfl (by kernel_rfl) (by kernel_rfl) (by kernel_rfl) (fun _ _ _ h => h) (Or.inl ⟨by rfl, fun w' hS => (by obtain ⟨⟨c0, c1, c2, c3, c4, c5, c6⟩, ⟨d0, d1, d2, d3, d4, d5, d6⟩⟩ := VV.out w' hS; go_simp)⟩) HS9.out ?_
      simp only [List.setIfInBounds_toArray, List.set_cons_succ, List.set_cons_zero]
      refine take_at' (i := 35) 49 (v := .agg #[.int .i64 op2, .int .i64 nn2, .string s2, .slice p2 pl2 pc2, .slice q2 ql2 qc2, .bool o2, .slice k2 kl2 kc2]) rfl rfl (by kernel_rfl) (by kernel_rfl) (by kernel_rfl) (fun _ _ _ h => h) (Or.inl ⟨by rfl, fun w' hS => (by obtain ⟨⟨c0, c1, c2, c3, c4, c5, c6⟩, ⟨d0, d1, d2, d3, d4, d5, d6⟩⟩ := VV.out w' hS; go_simp)⟩) HS9.out ?_
      simp only [List.setIfInBounds_toArray, List.set_cons_succ, List.set_cons_zero]
      refine wpAnyH_all (rs := [33]) (by kernel_rfl) (by simp) ?_
      intro i hi
      obtain rfl : i = 33 := by simpa using hi
      refine call_at 47 (f := 16) (args := #[.agg #[.int .i64 op, .int .i64 nn, .string s, .slice p pl pc, .slice q ql qc, .bool o, .slice k kl kc], .agg #[.int .i64 op2, .int .i64 nn2, .string s2, .slice p2 pl2 pc2, .slice q2 ql2 qc2, .bool o2, .slice k2 kl2 kc2]]) (w' := wz9) rfl rfl rfl (by go_simp) ((CS.out wz9 (below_step HB3.out HS9.out)).mono ?_)
      rintro e wz10 ⟨rfl, hz10⟩
      have HS10 := Lib.hid (below_step HS9.out hz10)
      clear hz10
      refine ⟨_, rfl, HS10.out, ?_⟩
      simp only [List.setIfInBounds_toArray, List.set_cons_succ, List.set_cons_zero]
      refine wpAnyH_all (rs := [36]) (by kernel_rfl) (by simp) ?_
      intro i hi
      obtain rfl : i = 36 := by simpa using hi
      refine call_at 50 (f := 17) (args := #[.agg #[.int .i64 op, .int .i64 nn, .string s, .slice p pl pc, .slice q ql qc, .bool o, .slice k kl kc], .agg #[.int .i64 op2, .int .i64 nn2, .string s2, .slice p2 pl2 pc2, .slice q2 ql2 qc2, .bool o2, .slice k2 kl2 kc2]]) (w' := wz10) rfl rfl rfl (by go_simp) ((CS2.out wz10 (below_step HB3.out HS10.out)).mono ?_)
      rintro e wz11 ⟨rfl, hz11⟩
      have HS11 := Lib.hid (below_step HS10.out hz11)
      clear hz11
      refine ⟨_, rfl, HS11.out, ?_⟩
      simp only [List.setIfInBounds_toArray, List.set_cons_succ, List.set_cons_zero]
      refine take_at' (i := 37) 51 (v := .bool true) rfl rfl (by kernel_rfl) (by kernel_rfl) (by kernel_rfl) (fun _ _ _ h => h) (Or.inl ⟨by rfl, fun w' hS => (by go_simp)⟩) HS11.out ?_
      simp only [List.setIfInBounds_toArray, List.set_cons_succ, List.set_cons_zero]
      refine take_at' (i := 38) 52 (v := .bool true) rfl rfl (by kernel_rfl) (by kernel_rfl) (by kernel_rfl) (fun _ _ _ h => h) (Or.inl ⟨by rfl, fun w' hS => (by go_simp)⟩) HS11.out ?_
      simp only [List.setIfInBounds_toArray, List.set_cons_succ, List.set_cons_zero]
      refine take_at' (i := 39) 4 (v := .bool true) rfl rfl (by kernel_rfl) (by kernel_rfl) (by kernel_rfl) (fun _ _ _ h => h) (Or.inl ⟨by rfl, fun w' hS => (by go_simp)⟩) HS11.out ?_
      simp only [List.setIfInBounds_toArray, List.set_cons_succ, List.set_cons_zero]
      refine wpAnyH_done (by kernel_rfl) ?_ _
      go_wp2_with fail
      go_ret
      exact ⟨rfl, below_step HB3.out HS11.out⟩
end Go.Proofs.YtngikbimlhoigaaDoor
