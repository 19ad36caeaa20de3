/- WALKS of expr's Size and Depth. -/
import Derived.Test.YtngikbimlhoigaaDoorTb
import Derived.IntWalk
namespace Go.Proofs.YtngikbimlhoigaaDoor
open Go.RowKit Go.Shelf
attribute [local go_sem] Oper.semAt_some
def szW : Nat → Int
  | 0 => 0
  | k + 1 => wrap64 (szW k + 1)
theorem szW_is : ∀ (k : Nat), k ≤ 1000000000 → szW k = k
  | 0, _ => rfl
  | k + 1, h => by
    show wrap64 (szW k + 1) = _
    rw [szW_is k (by omega)]; unfold wrap64; omega
/-- A number, and nothing that was there has changed. -/
def IntP (n : Int) (w : World) (e : Ending) (w' : World) : Prop := e = .returned (.int .i64 n) ∧ Below w.heap.size w w'
def SizeQ (w : World) (h : Hd) (pre : List HX) (X : World) : Prop := Below w.heap.size w X ∧ BoxH X (w.heap.size + 1 + 1) h ∧ Boxed X (w.heap.size + 1) 3 (.int .i64 (szW pre.length))
set_option maxRecDepth 100000 in
set_option maxHeartbeats 4000000 in
theorem size_any (w : World) (n : Nat) (h : Hd) (x : Ex) (hx : InX w n h x) : Calls Tryd.prog 12 #[h.agg] w (IntP (szW (allN n x).length) w) := by
  have hw1 : ∀ f, Fence.wide.fn f := fun _ => trivial
  have hw2 : Fence.wide.depth.isSome = false := rfl
  have HX := Lib.hid hx
  have hI := fun W => Lib.hid (inOrder_any h W)
  obtain ⟨op, nn, s, p, pl, pc, q, ql, qc, o, k, kl, kc⟩ := h
  have HF := Lib.hid (inOrder_fit w n (w.heap.size + 1 + 1) _ x hx)
  clear hx
  unfold Hd.agg Hd.vals at hI
  unfold Hd.agg
  dsimp only at hI
  refine (callsIn_wide (n := 9)).1 ?_
  refine callsIn_of_wp_marks Tryd.func12 rfl trivial ?_ rfl
  simp only [Tryd.ntmps12, List.size_toArray, List.length_cons, List.length_nil, Nat.reduceAdd, Nat.reduceSub, Array.replicate_succ, Array.replicate_zero, List.push_toArray, List.append_toArray, List.nil_append, List.cons_append]
  gi_wp2_with (gi_at_call 27; refine (callsIn_wide.2 (hI _).out).mono ?_; rintro e w' ⟨rfl, rfl⟩)
  have hE3 := heap3 w (.cells #[.int .i64 op, .int .i64 nn, .string s, .slice p pl pc, .slice q ql qc, .bool o, .slice k kl kc] 26) (.cells #[.int .i64 0] 3) (.cells #[.int .i64 op, .int .i64 nn, .string s, .slice p pl pc, .slice q ql qc, .bool o, .slice k kl kc] 26)
  have hB0 := below_alloc (below_alloc (below_alloc (Below.refl w.heap.size w) (.cells #[.int .i64 op, .int .i64 nn, .string s, .slice p pl pc, .slice q ql qc, .bool o, .slice k kl kc] 26)) (.cells #[.int .i64 0] 3)) (.cells #[.int .i64 op, .int .i64 nn, .string s, .slice p pl pc, .slice q ql qc, .bool o, .slice k kl kc] 26)
  have hsz : (((w.alloc (.cells #[.int .i64 op, .int .i64 nn, .string s, .slice p pl pc, .slice q ql qc, .bool o, .slice k kl kc] 26)).alloc (.cells #[.int .i64 0] 3)).alloc (.cells #[.int .i64 op, .int .i64 nn, .string s, .slice p pl pc, .slice q ql qc, .bool o, .slice k kl kc] 26)).heap.size = w.heap.size + 3 := by simp
  obtain ⟨W0, hW0⟩ : ∃ W0, ((w.alloc (.cells #[.int .i64 op, .int .i64 nn, .string s, .slice p pl pc, .slice q ql qc, .bool o, .slice k kl kc] 26)).alloc (.cells #[.int .i64 0] 3)).alloc (.cells #[.int .i64 op, .int .i64 nn, .string s, .slice p pl pc, .slice q ql qc, .bool o, .slice k kl kc] 26) = W0 := ⟨_, rfl⟩
  rw [hW0] at hE3 hB0 hsz ⊢
  clear hW0
  have hQ : Low (w.heap.size + 3) (SizeQ w ⟨op, nn, s, p, pl, pc, q, ql, qc, o, k, kl, kc⟩) := (low_below (by omega)).and ((low_boxH _ (by omega)).and (low_box (fun pre => .int .i64 (szW pre.length)) (by omega)))
  refine range_fit (gf := 43) (lb := #[.pointer (some ⟨w.heap.size + 1 + 1, 0, none⟩)]) (by decide) rfl (enters_of Tryd.func43 (by kernel_rfl) rfl) HF.out (fun _ => rfl)
    (LowI (w.heap.size + 3) (SizeQ w _)) (fun _ _ _ _ => False) (fr_low hQ) (fun c => ⟨fun h _ => h, fun h _ _ => h, fun _ h => h⟩) (fun F pre X hi => ⟨hi.held.1, hi.held.2.1⟩)
    ⟨fun _ h => h.elim, by omega, ⟨hB0, hE3.2.2, hE3.2.1⟩⟩ ?round ?done ?stop
  case round =>
    rintro l2 F2 ys y X hl2 hrec hI2 hfit
    have HI2 := Lib.hid hI2
    clear hfit hI2 hrec
    dsimp only [encX]
    gi_wp2
    refine ⟨Stays.refl _ _, HI2.out, ?_⟩
    intro Y hYz hYo hYl hIY
    have bC := hIY.held.2.2
    have cc := bC.cell
    have cf := bC.frozen
    have HIY := Lib.hid hIY
    have HBC := Lib.hid bC
    clear hYz hYo hYl hIY bC
    obtain ⟨v, hv⟩ : ∃ v, szW ys.length = v := ⟨_, rfl⟩
    rw [hv] at cc
    have HV := Lib.hid hv
    clear hv
    gi_wp2
    refine ⟨(Stays.refl _ _).grown (grownBy_setCell' _ _ _) (fun r e hr => by cases e; have := HIY.out.far _ hr; omega), HIY.out.far, Nat.le_trans HIY.out.size (grownBy_setCell' Y _ _).size, ?_, ?_, ?_⟩
    · exact HIY.out.held.1.setCell (p := ⟨w.heap.size + 1, 0, none⟩) (by simp) _
    · exact (Below.heap_setCell Y ⟨w.heap.size + 1, 0, none⟩ _ _ (by simp)).trans HIY.out.held.2.1
    · have e1 : szW (ys ++ [y]).length = wrap64 (v + 1) := by rw [List.length_append]; show wrap64 (szW ys.length + 1) = _; rw [HV.out]
      rw [e1]
      exact HBC.out.set _
  case done =>
    rintro D F2 ys X hD hys hI2 hKD
    have hXC := hI2.held.2.2
    have cc := hXC.cell
    have HI2 := Lib.hid hI2
    have HKD := Lib.hid hKD
    have HYS := Lib.hid (show ys.length = (allN n x).length by rw [← hys, List.length_map])
    clear hI2 hKD hys
    gi_wp2
    refine ⟨by simp, .inl ⟨_, _, rfl, run_takeDeferred HKD.out, ?_⟩⟩
    refine ⟨_, results_tmp rfl _ _ _, ?_, ?_⟩
    · exact ret_int (by rw [HYS.out])
    · exact HI2.out.held.1.grown (grownBy_putObj' _ _ _) (Nat.le_trans (by omega) HI2.out.size) (fun r e => by cases e; have := HI2.out.far _ hD; omega)
  case stop =>
    rintro D F2 c ys X hD hys hI2 hKD
    exact hI2.elim
end Go.Proofs.YtngikbimlhoigaaDoor
