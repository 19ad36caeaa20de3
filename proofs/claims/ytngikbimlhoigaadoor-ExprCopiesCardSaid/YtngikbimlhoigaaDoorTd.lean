/- WALK of expr's Depth. -/
import Derived.Test.YtngikbimlhoigaaDoorTc
namespace Go.Proofs.YtngikbimlhoigaaDoor
open Go.RowKit Go.Shelf
attribute [local go_sem] Oper.semAt_some
theorem low_heap {α : Type} {B b : Nat} (ob : Obj) (hb : b < B) : Low B (fun (_ : List α) X => X.heap[b]? = some ob) := fun _ _ _ _ hq _ hg hr => (hg.block _ (Array.getElem?_eq_some_iff.1 hq).1 (fun e => by have := hr _ e.symm; omega)).trans hq
def mxL (l : List Int) : Int := l.foldl (fun a b => max a b) 0
theorem mxL_snoc (l : List Int) (x : Int) : mxL (l ++ [x]) = max (mxL l) x := by simp [mxL]
def depW : Nat → Ex → Int
  | 0, _ => 0
  | n + 1, x => wrap64 (1 + mxL (x.parts.map (depW n)))
def DepQ (w : World) (n be : Nat) (ob : Obj) (pre : List HX) (X : World) : Prop := Below w.heap.size w X ∧ X.heap[be]? = some ob ∧ Boxed X (w.heap.size + 1) 3 (.int .i64 (mxL ((pre.map (·.2)).map (depW n))))
set_option maxRecDepth 100000 in
set_option maxHeartbeats 4000000 in
theorem depth_step (w0 : World) (n : Nat) (ih : ∀ (h : Hd) (x : Ex) (W : World), InX w0 n h x → Below w0.heap.size w0 W → Calls Tryd.prog 14 #[h.agg] W (IntP (depW n x) W))
    (h : Hd) (x : Ex) (w : World) (hx : InX w0 (n + 1) h x) (hb0 : Below w0.heap.size w0 w) : Calls Tryd.prog 14 #[h.agg] w (IntP (depW (n + 1) x) w) := by
  have hw1 : ∀ f, Fence.wide.fn f := fun _ => trivial
  have hw2 : Fence.wide.depth.isSome = false := rfl
  have hP := fun X => Lib.hid (parts_any w0 n h x X hx)
  obtain ⟨op, nn, s, p, pl, pc, q, ql, qc, o, k, kl, kc⟩ := h
  have HIH := Lib.hid ih
  have HB0 := Lib.hid hb0
  clear hx ih hb0
  unfold Hd.agg at hP
  unfold Hd.agg
  dsimp only at hP
  refine (callsIn_wide (n := 9)).1 ?_
  refine callsIn_of_wp_marks Tryd.func14 rfl trivial ?_ rfl
  simp only [Tryd.ntmps14, List.size_toArray, List.length_cons, List.length_nil, Nat.reduceAdd, Nat.reduceSub, Array.replicate_succ, Array.replicate_zero, List.push_toArray, List.append_toArray, List.nil_append, List.cons_append]
  have hbx := (Boxed.new (w.alloc (.cells #[.int .i64 op, .int .i64 nn, .string s, .slice p pl pc, .slice q ql qc, .bool o, .slice k kl kc] 26)) 3 (.int .i64 0))
  rw [World.size_alloc] at hbx
  have hB1 := below_alloc (below_alloc (Below.refl w.heap.size w) (.cells #[.int .i64 op, .int .i64 nn, .string s, .slice p pl pc, .slice q ql qc, .bool o, .slice k kl kc] 26)) (.cells #[.int .i64 0] 3)
  have HBX := Lib.hid hbx
  have HB1 := Lib.hid hB1
  clear hbx hB1
  gi_wp2_with (gi_at_call 35; refine (callsIn_wide.2 (hP _).out).mono ?_; rintro e W2 ⟨gf, be, ob, rfl, hbe, hob, hb2, heg, hseq⟩)
  have hB2 := below_step HB1.out hb2
  have hC2 : Boxed W2 (w.heap.size + 1) 3 (.int .i64 0) := (hb2.block _ HBX.out.lt).trans HBX.out
  have hbl : be < W2.heap.size := (Array.getElem?_eq_some_iff.1 hob).1
  have hz1 := HBX.out.lt
  have hz2 := hb2.size
  clear HBX HB1 hb2 hP
  have hQ : Low W2.heap.size (DepQ w n be ob) := (low_below hB2.size).and ((low_heap ob hbl).and (low_box (fun (pre : List HX) => .int .i64 (mxL ((pre.map (·.2)).map (depW n)))) (by omega)))
  refine range_fit (gf := gf) (lb := #[.pointer (some ⟨be, 0, none⟩)]) (by decide) rfl heg hseq (fun _ => rfl)
    (LowI W2.heap.size (DepQ w n be ob)) (fun _ _ _ _ => False) (fr_low hQ) (fun c => ⟨fun h _ => h, fun h _ _ => h, fun _ h => h⟩) (fun F pre X hi => ⟨below_step HB0.out hi.held.1, hi.held.2.1⟩)
    ⟨fun _ h => h.elim, Nat.le_refl _, ⟨hB2, hob, hC2⟩⟩ ?round ?done ?stop
  case round =>
    rintro l2 F2 ys ⟨yh, yx⟩ X hl2 hrec hI2 hfit
    obtain ⟨op2, nn2, s2, p2, pl2, pc2, q2, ql2, qc2, o2, k2, kl2, kc2⟩ := yh
    have HF2 := Lib.hid hfit.1
    have HI2 := Lib.hid hI2
    have hlX : l2 < X.heap.size := by obtain ⟨r, hr⟩ := hrec; exact (Array.getElem?_eq_some_iff.1 hr).1
    clear hfit hI2 hrec
    dsimp only [encX, Hd.agg]
    gi_wp2
    refine ⟨⟨by simp, fun i _ hi => Below.heap_alloc _ _ _ hi⟩, (fr_low hQ).alloc HI2.out _, ?_⟩
    intro Y hYz hYo hYl hIY
    have hbx : BoxH Y X.heap.size ⟨op2, nn2, s2, p2, pl2, pc2, q2, ql2, qc2, o2, k2, kl2, kc2⟩ := (hYo _ (by omega)).trans (World.alloc_heap_new X _)
    have hne : w.heap.size + 1 ≠ X.heap.size := by have := HI2.out.size; omega
    obtain ⟨hbl2, hbo, hbC⟩ := hIY.held
    have hO := fun W hW => Lib.hid (HIH.out ⟨op2, nn2, s2, p2, pl2, pc2, q2, ql2, qc2, o2, k2, kl2, kc2⟩ yx W HF2.out (below_step HB0.out hW))
    unfold Hd.agg at hO
    dsimp only at hO
    obtain ⟨v, hv⟩ : ∃ v, mxL ((ys.map (·.2)).map (depW n)) = v := ⟨_, rfl⟩
    rw [hv] at hbC
    have HIY := Lib.hid hIY
    have HV := Lib.hid hv
    have HBC := Lib.hid hbC
    have HBX := Lib.hid hbx
    have HBL := Lib.hid hbl2
    clear hIY hv hbC hbx hbl2 hbo hYz hYo hYl HI2
    obtain ⟨wd, hwd⟩ : ∃ wd : World, wd = { Y with drawn := Y.drawn + 1 } := ⟨_, rfl⟩
    have hbd : Below Y.heap.size Y wd := by rw [hwd]; exact (Below.refl _ Y).drew
    have hxd : BoxH wd X.heap.size ⟨op2, nn2, s2, p2, pl2, pc2, q2, ql2, qc2, o2, k2, kl2, kc2⟩ := (hbd.block _ HBX.out.lt).trans HBX.out
    have hcd : Boxed wd (w.heap.size + 1) 3 (.int .i64 v) := (hbd.block _ HBC.out.lt).trans HBC.out
    have fin : ∀ (a : Act) (Z : World), Below wd.heap.size wd Z → fitPost F2 (LowI W2.heap.size (DepQ w n be ob)) (fun _ _ _ _ => False) (ys ++ [(⟨op2, nn2, s2, p2, pl2, pc2, q2, ql2, qc2, o2, k2, kl2, kc2⟩, yx)]) Y .normal a (Z.setCell ⟨w.heap.size + 1, 0, none⟩ (.int .i64 (max v (depW n yx))))     := fun _ Z hZ => by
      have hYZ := below_step hbd hZ
      refine ⟨((Stays.refl _ _).grown (grown_below hYZ) (fun _ e => by cases e)).grown (grownBy_setCell' _ _ _) (fun r e hr => by cases e; have := HIY.out.far _ hr; omega), HIY.out.far, Nat.le_trans HIY.out.size (Nat.le_trans hYZ.size (grownBy_setCell' Z _ _).size), ?_, ?_, ?_⟩
      · exact (below_step HBL.out hYZ).setCell (p := ⟨w.heap.size + 1, 0, none⟩) (by simp) _
      · exact (Below.heap_setCell Z ⟨w.heap.size + 1, 0, none⟩ _ _ (by simp; omega)).trans ((hYZ.block _ (Array.getElem?_eq_some_iff.1 HIY.out.held.2.1).1).trans HIY.out.held.2.1)
      · rw [List.map_append, List.map_append]
        show Boxed _ _ _ (.int .i64 (mxL (_ ++ [depW n yx])))
        rw [mxL_snoc, HV.out]
        exact Boxed.set _ (show Boxed Z _ _ _ from (hYZ.block _ HBC.out.lt).trans HBC.out)
    refine wpIn_block ?_
    refine region_in (S := fun w' => BoxH w' X.heap.size ⟨op2, nn2, s2, p2, pl2, pc2, q2, ql2, qc2, o2, k2, kl2, kc2⟩) (by kernel_rfl) (noDefer_spec (by kernel_rfl)) (fun ⟨_, _, h⟩ => h) ?_
    rw [← hwd]
    clear hwd
    have cd := hcd.cell
    refine take_at' (i := 1) 9 (v := .agg #[.int .i64 op2, .int .i64 nn2, .string s2, .slice p2 pl2 pc2, .slice q2 ql2 qc2, .bool o2, .slice k2 kl2 kc2]) rfl rfl (by kernel_rfl) (by kernel_rfl) (by kernel_rfl) (fun _ _ _ h => h) (Or.inl ⟨by rfl, fun w' hS => (by
      obtain ⟨d0, d1, d2, d3, d4, d5, d6⟩ := hS.cells
      dsimp only at d0 d1 d2 d3 d4 d5 d6
      simp only [Nat.zero_add] at d1 d2 d3 d4 d5 d6
      go_simp)⟩) hxd ?_
    refine wpAnyH_all (rs := [0, 2]) (by kernel_rfl) (by simp) ?_
    intro i hi
    have hi2 : i = 0 ∨ i = 2 := by simpa using hi
    rcases hi2 with rfl | rfl
    · refine value_at 8 (v := .int .i64 v) (w' := wd) rfl rfl rfl (by go_simp) ⟨hxd, ?_⟩
      refine wpAnyH_all (rs := [2]) (by kernel_rfl) (by simp) ?_
      intro i hi
      obtain rfl : i = 2 := by simpa using hi
      refine call_at 10 (f := 14) (args := #[.agg #[.int .i64 op2, .int .i64 nn2, .string s2, .slice p2 pl2 pc2, .slice q2 ql2 qc2, .bool o2, .slice k2 kl2 kc2]]) (w' := wd) rfl rfl rfl (by go_simp) ((hO wd (below_step HBL.out hbd)).out.mono ?_)
      rintro e Z ⟨rfl, hZ⟩
      have hxz : BoxH Z X.heap.size ⟨op2, nn2, s2, p2, pl2, pc2, q2, ql2, qc2, o2, k2, kl2, kc2⟩ := (hZ.block _ hxd.lt).trans hxd
      have hcz : Boxed Z (w.heap.size + 1) 3 (.int .i64 v) := (hZ.block _ hcd.lt).trans hcd
      have cz := hcz.cell
      have fz := hcz.frozen
      refine ⟨_, rfl, hxz, ?_⟩
      refine wpAnyH_all (rs := [3]) (by kernel_rfl) (by simp) ?_
      intro i hi
      obtain rfl : i = 3 := by simpa using hi
      refine value_at 11 (v := .int .i64 (max v (depW n yx))) (w' := Z) rfl rfl rfl (by go_simp) ⟨hxz, ?_⟩
      refine wpAnyH_all (rs := [4]) (by kernel_rfl) (by simp) ?_
      intro i hi
      obtain rfl : i = 4 := by simpa using hi
      refine skip_at (w' := Z.setCell ⟨w.heap.size + 1, 0, none⟩ (.int .i64 (max v (depW n yx)))) rfl rfl rfl (by go_simp) ⟨(Below.heap_setCell Z ⟨w.heap.size + 1, 0, none⟩ _ _ (by simpa using hne.symm)).trans hxz, ?_⟩
      refine wpAnyH_done (by kernel_rfl) ?_ _
      exact fin { tmps := #[], defers := [] } Z hZ
    · refine call_at 10 (f := 14) (args := #[.agg #[.int .i64 op2, .int .i64 nn2, .string s2, .slice p2 pl2 pc2, .slice q2 ql2 qc2, .bool o2, .slice k2 kl2 kc2]]) (w' := wd) rfl rfl rfl (by go_simp) ((hO wd (below_step HBL.out hbd)).out.mono ?_)
      rintro e Z ⟨rfl, hZ⟩
      have hxz : BoxH Z X.heap.size ⟨op2, nn2, s2, p2, pl2, pc2, q2, ql2, qc2, o2, k2, kl2, kc2⟩ := (hZ.block _ hxd.lt).trans hxd
      have hcz : Boxed Z (w.heap.size + 1) 3 (.int .i64 v) := (hZ.block _ hcd.lt).trans hcd
      have cz := hcz.cell
      have fz := hcz.frozen
      refine ⟨_, rfl, hxz, ?_⟩
      refine wpAnyH_all (rs := [0]) (by kernel_rfl) (by simp) ?_
      intro i hi
      obtain rfl : i = 0 := by simpa using hi
      refine value_at 8 (v := .int .i64 v) (w' := Z) rfl rfl rfl (by go_simp) ⟨hxz, ?_⟩
      refine wpAnyH_all (rs := [3]) (by kernel_rfl) (by simp) ?_
      intro i hi
      obtain rfl : i = 3 := by simpa using hi
      refine value_at 11 (v := .int .i64 (max v (depW n yx))) (w' := Z) rfl rfl rfl (by go_simp) ⟨hxz, ?_⟩
      refine wpAnyH_all (rs := [4]) (by kernel_rfl) (by simp) ?_
      intro i hi
      obtain rfl : i = 4 := by simpa using hi
      refine skip_at (w' := Z.setCell ⟨w.heap.size + 1, 0, none⟩ (.int .i64 (max v (depW n yx)))) rfl rfl rfl (by go_simp) ⟨(Below.heap_setCell Z ⟨w.heap.size + 1, 0, none⟩ _ _ (by simpa using hne.symm)).trans hxz, ?_⟩
      refine wpAnyH_done (by kernel_rfl) ?_ _
      exact fin { tmps := #[], defers := [] } Z hZ
  case done =>
    rintro D F2 ys X hD hys hI2 hKD
    have hXC := hI2.held.2.2
    have cc := hXC.cell
    have HI2 := Lib.hid hI2
    have HKD := Lib.hid hKD
    have HYS := Lib.hid hys
    obtain ⟨v, hv⟩ : ∃ v, mxL ((ys.map (·.2)).map (depW n)) = v := ⟨_, rfl⟩
    rw [hv] at cc
    have HV := Lib.hid hv
    clear hI2 hKD hys hv hXC
    gi_wp2
    refine ⟨by simp, .inl ⟨_, _, rfl, run_takeDeferred HKD.out, ?_⟩⟩
    refine ⟨_, results_tmp rfl _ _ _, ?_, ?_⟩
    · exact ret_int (by rw [← HV.out, HYS.out]; rfl)
    · exact HI2.out.held.1.grown (grownBy_putObj' _ _ _) (Nat.le_trans hB2.size HI2.out.size) (fun r e => by cases e; have := HI2.out.far _ hD; have := hB2.size; omega)
  case stop =>
    rintro D F2 c ys X hD hys hI2 hKD
    exact hI2.elim
theorem depth_any (w0 : World) : ∀ (n : Nat) (h : Hd) (x : Ex) (w : World), InX w0 n h x → Below w0.heap.size w0 w → Calls Tryd.prog 14 #[h.agg] w (IntP (depW n x) w)
  | 0, _, _, _, h, _ => h.elim
  | n + 1, h, x, w, hx, hb => depth_step w0 n (depth_any w0 n) h x w hx hb
set_option maxHeartbeats 1000000 in
/-- expr.Check. -/
theorem check_any (w : World) (n : Nat) (h : Hd) (x : Ex) (hx : InX w n h x) (hE : Nm.Env w) : Calls Tryd.prog 10 #[h.agg] w (IntP (if rightB n x then (if 16 < depW n x then 22 else 0) else 1) w) := by
  have HR := fun W (hW : Below w.heap.size w W) => Lib.hid (right_any W n h x (hx.below hW) (hE.below hW))
  have HD := fun W (hW : Below w.heap.size w W) => Lib.hid (depth_any w n h x W hx hW)
  obtain ⟨op, nn, s, p, pl, pc, q, ql, qc, o, k, kl, kc⟩ := h
  clear hx hE
  obtain ⟨r, hr⟩ : ∃ r, rightB n x = r := ⟨_, rfl⟩
  obtain ⟨d, hd⟩ : ∃ d, depW n x = d := ⟨_, rfl⟩
  rw [hr, hd]
  rw [hr] at HR
  rw [hd] at HD
  clear hr hd
  unfold Hd.agg at HR HD
  unfold Hd.agg
  dsimp only at HR HD
  have HB1 : Hid (Below w.heap.size w (w.alloc (.cells #[.int .i64 op, .int .i64 nn, .string s, .slice p pl pc, .slice q ql qc, .bool o, .slice k kl kc] 26))) := (Below.refl _ w).alloc (Nat.le_refl _) _
  cases r
  · go_enter Tryd.func10, Tryd.ntmps10
    go_wp2_with (go_at_call 8; refine (HR _ HB1.out).out.mono ?_; rintro e w2 ⟨rfl, hB2⟩; have HB2 := Lib.hid hB2; clear hB2)
    go_ret
    exact ⟨rfl, below_step HB1.out HB2.out⟩
  · by_cases h16 : 16 < d
    · go_enter Tryd.func10, Tryd.ntmps10
      go_wp2_with (first
        | (go_at_call 8; refine (HR _ HB1.out).out.mono ?_; rintro e w2 ⟨rfl, hB2⟩; obtain ⟨hc, hf⟩ := bcell hB2; have HB2 := Lib.hid hB2; clear hB2)
        | (go_at_call 14; refine (HD _ (below_step HB1.out HB2.out)).out.mono ?_; rintro e w3 ⟨rfl, hB3⟩; have HB3 := Lib.hid hB3; clear hB3))
      go_ret
      exact ⟨ret_int (by simp), below_step (below_step HB1.out HB2.out) HB3.out⟩
    · go_enter Tryd.func10, Tryd.ntmps10
      go_wp2_with (first
        | (go_at_call 8; refine (HR _ HB1.out).out.mono ?_; rintro e w2 ⟨rfl, hB2⟩; obtain ⟨hc, hf⟩ := bcell hB2; have HB2 := Lib.hid hB2; clear hB2)
        | (go_at_call 14; refine (HD _ (below_step HB1.out HB2.out)).out.mono ?_; rintro e w3 ⟨rfl, hB3⟩; have HB3 := Lib.hid hB3; clear hB3))
      go_ret
      exact ⟨ret_int (by simp), below_step (below_step HB1.out HB2.out) HB3.out⟩
end Go.Proofs.YtngikbimlhoigaaDoor
