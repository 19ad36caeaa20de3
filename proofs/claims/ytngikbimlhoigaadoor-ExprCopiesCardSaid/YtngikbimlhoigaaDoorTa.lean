/- WALK of expr's Right. -/
import Derived.Test.YtngikbimlhoigaaDoorSc
import Derived.Test.YtngikbimlhoigaaDoorRf
namespace Go.Proofs.YtngikbimlhoigaaDoor
open Go.RowKit Go.Shelf
attribute [local go_sem] Oper.semAt_some
/-- What a caller keeps: what lies below B, whatever becomes of what lies beyond. -/
structure LowI {α : Type} (B : Nat) (Q : List α → World → Prop) (F : Nat → Prop) (pre : List α) (X : World) : Prop where
  far : ∀ r, F r → B ≤ r
  size : B ≤ X.heap.size
  held : Q pre X
def Low {α : Type} (B : Nat) (Q : List α → World → Prop) : Prop := ∀ pre X Y row, Q pre X → B ≤ X.heap.size → X.grownBy Y row → (∀ r, row = some r → B ≤ r) → Q pre Y
theorem fr_low {α : Type} {B : Nat} {Q : List α → World → Prop} (hQ : Low B Q) : Fr (LowI B Q) where
  grow := fun {F pre X Y} h hg => ⟨fun r hr => hr.elim (h.far r) (fun h3 => Nat.le_trans h.size h3.1), Nat.le_trans h.size hg.size, hQ _ X Y none h.held h.size hg (fun _ e => by cases e)⟩
  put := fun {F pre X Y r} h hr hg => ⟨h.far, Nat.le_trans h.size hg.size, hQ _ X Y (some r) h.held h.size hg (fun k e => by cases e; exact h.far _ hr)⟩
  less := fun hF h => ⟨fun r hr => h.far r (hF r hr), h.size, h.held⟩
theorem low_below {α : Type} {B : Nat} {w : World} (h : w.heap.size ≤ B) : Low B (fun (_ : List α) X => Below w.heap.size w X) := fun _ _ _ _ hq _ hg hr => hq.grown hg hq.size (fun k e => Nat.le_trans h (hr k e))
theorem low_box {α : Type} {B b : Nat} {t : TypeId} (f : List α → Value) (hb : b < B) : Low B (fun pre X => Boxed X b t (f pre)) := fun _ _ _ _ hq _ hg hr => hq.kept hg (fun e => by have := hr _ e.symm; omega)
theorem low_boxH {α : Type} {B b : Nat} (h : Hd) (hb : b < B) : Low B (fun (_ : List α) X => BoxH X b h) := fun _ _ _ _ hq _ hg hr => (hg.block b hq.lt (fun e => by have := hr _ e.symm; omega)).trans hq
theorem low_pure {α : Type} {B : Nat} (p : List α → Prop) : Low B (fun pre _ => p pre) := fun _ _ _ _ hq _ _ _ => hq
theorem Low.and {α : Type} {B : Nat} {Q R : List α → World → Prop} (h : Low B Q) (k : Low B R) : Low B (fun pre X => Q pre X ∧ R pre X) := fun pre X Y row hq hs hg hr => ⟨h pre X Y row hq.1 hs hg hr, k pre X Y row hq.2 hs hg hr⟩
/-- All so far are right of themselves. -/
def RightQ (w : World) (h : Hd) (pre : List HX) (X : World) : Prop := (∀ y ∈ pre, ownB y.2 = true) ∧ Below w.heap.size w X ∧ BoxH X (w.heap.size + 1 + 1) h ∧ Boxed X (w.heap.size + 1) 4 (.bool false)
def RightX (w : World) (c : Code) (pre : List HX) (X : World) : Prop := (c = .ret ∧ ∃ y ∈ pre, ownB y.2 = false) ∧ Below w.heap.size w X ∧ Boxed X (w.heap.size + 1) 4 (.bool false)
noncomputable def rightB (n : Nat) (x : Ex) : Bool := (allN n x).all ownB
set_option maxRecDepth 100000 in
set_option maxHeartbeats 4000000 in
theorem right_any (w : World) (n : Nat) (h : Hd) (x : Ex) (hx : InX w n h x) (hE : Nm.Env w) : Calls Tryd.prog 8 #[h.agg] w (BoolP (rightB n x) w) := by
  have hw1 : ∀ f, Fence.wide.fn f := fun _ => trivial
  have hw2 : Fence.wide.depth.isSome = false := rfl
  have HX := Lib.hid hx
  have HE := Lib.hid hE
  have hI := fun W => Lib.hid (inOrder_any h W)
  obtain ⟨op, nn, s, p, pl, pc, q, ql, qc, o, k, kl, kc⟩ := h
  have HF := Lib.hid (inOrder_fit w n (w.heap.size + 1 + 1) _ x hx)
  clear hx hE
  unfold Hd.agg Hd.vals at hI
  unfold Hd.agg
  dsimp only at hI
  refine (callsIn_wide (n := 9)).1 ?_
  refine callsIn_of_wp_marks Tryd.func8 rfl trivial ?_ rfl
  simp only [Tryd.ntmps8, List.size_toArray, List.length_cons, List.length_nil, Nat.reduceAdd, Nat.reduceSub, Array.replicate_succ, Array.replicate_zero, List.push_toArray, List.append_toArray, List.nil_append, List.cons_append]
  gi_wp2_with (gi_at_call 27; refine (callsIn_wide.2 (hI _).out).mono ?_; rintro e w' ⟨rfl, rfl⟩)
  have hE3 := heap3 w (.cells #[.int .i64 op, .int .i64 nn, .string s, .slice p pl pc, .slice q ql qc, .bool o, .slice k kl kc] 26) (.cells #[.bool false] 4) (.cells #[.int .i64 op, .int .i64 nn, .string s, .slice p pl pc, .slice q ql qc, .bool o, .slice k kl kc] 26)
  have hB0 := below_alloc (below_alloc (below_alloc (Below.refl w.heap.size w) (.cells #[.int .i64 op, .int .i64 nn, .string s, .slice p pl pc, .slice q ql qc, .bool o, .slice k kl kc] 26)) (.cells #[.bool false] 4)) (.cells #[.int .i64 op, .int .i64 nn, .string s, .slice p pl pc, .slice q ql qc, .bool o, .slice k kl kc] 26)
  have hsz : (((w.alloc (.cells #[.int .i64 op, .int .i64 nn, .string s, .slice p pl pc, .slice q ql qc, .bool o, .slice k kl kc] 26)).alloc (.cells #[.bool false] 4)).alloc (.cells #[.int .i64 op, .int .i64 nn, .string s, .slice p pl pc, .slice q ql qc, .bool o, .slice k kl kc] 26)).heap.size = w.heap.size + 3 := by simp
  obtain ⟨W0, hW0⟩ : ∃ W0, ((w.alloc (.cells #[.int .i64 op, .int .i64 nn, .string s, .slice p pl pc, .slice q ql qc, .bool o, .slice k kl kc] 26)).alloc (.cells #[.bool false] 4)).alloc (.cells #[.int .i64 op, .int .i64 nn, .string s, .slice p pl pc, .slice q ql qc, .bool o, .slice k kl kc] 26) = W0 := ⟨_, rfl⟩
  rw [hW0] at hE3 hB0 hsz ⊢
  clear hW0
  have hQ : Low (w.heap.size + 3) (RightQ w ⟨op, nn, s, p, pl, pc, q, ql, qc, o, k, kl, kc⟩) := (low_pure _).and ((low_below (by omega)).and ((low_boxH _ (by omega)).and (low_box (fun _ => .bool false) (by omega))))
  have hQx : ∀ c, Low (w.heap.size + 3) (RightX w c) := fun c => (low_pure _).and ((low_below (by omega)).and (low_box (fun _ => .bool false) (by omega)))
  refine range_fit (gf := 43) (lb := #[.pointer (some ⟨w.heap.size + 1 + 1, 0, none⟩)]) (by decide) rfl (enters_of Tryd.func43 (by kernel_rfl) rfl) HF.out (fun _ => rfl)
    (LowI (w.heap.size + 3) (RightQ w _)) (fun c => LowI (w.heap.size + 3) (RightX w c)) (fr_low hQ) (fun c => fr_low (hQx c)) (fun F pre X hi => ⟨hi.held.2.1, hi.held.2.2.1⟩)
    ⟨fun _ h => h.elim, by omega, ⟨(fun y h => absurd h (by simp)), hB0, hE3.2.2, hE3.2.1⟩⟩ ?round ?done ?stop
  case round =>
    rintro l2 F2 ys ⟨yh, yx⟩ X hl2 hrec hI2 ⟨⟨m, hfit⟩, -⟩
    obtain ⟨op2, nn2, s2, p2, pl2, pc2, q2, ql2, qc2, o2, k2, kl2, kc2⟩ := yh
    have HF2 := Lib.hid hfit
    have HI2 := Lib.hid hI2
    have hlX : l2 < X.heap.size := by obtain ⟨r, hr⟩ := hrec; exact (Array.getElem?_eq_some_iff.1 hr).1
    clear hfit hI2 hrec
    dsimp only [encX, Hd.agg]
    gi_wp2
    refine ⟨⟨by simp, fun i _ hi => Below.heap_alloc _ _ _ hi⟩, (fr_low hQ).alloc HI2.out _, ?_⟩
    intro Y hYz hYo hYl hIY
    have hbx : BoxH Y X.heap.size ⟨op2, nn2, s2, p2, pl2, pc2, q2, ql2, qc2, o2, k2, kl2, kc2⟩ := (hYo _ (by omega)).trans (World.alloc_heap_new X _)
    obtain ⟨d0, d1, d2, d3, d4, d5, d6⟩ := hbx.cells
    dsimp only at d0 d1 d2 d3 d4 d5 d6
    simp only [Nat.zero_add] at d1 d2 d3 d4 d5 d6
    obtain ⟨hall, hbl, hbH, hbC⟩ := hIY.held
    have hO := Lib.hid (own_any w Y m ⟨op2, nn2, s2, p2, pl2, pc2, q2, ql2, qc2, o2, k2, kl2, kc2⟩ yx HF2.out hbl (HE.out.below hbl))
    obtain ⟨r, hr⟩ : ∃ r, ownB yx = r := ⟨_, rfl⟩
    rw [hr] at hO
    have HR := Lib.hid hr
    have HA := Lib.hid hall
    have HIY := Lib.hid hIY
    have HBL := Lib.hid hbl
    have HBH := Lib.hid hbH
    have HBC := Lib.hid hbC
    clear hbx hall hbl hbH hbC hIY hr hYo hYz hYl
    unfold Hd.agg at hO
    dsimp only at hO
    cases r
    · gi_wp2_with (gi_at_call 28; refine (CallsIn.inRound l2 (callsIn_wide.2 hO.out)).mono ?_; rintro e Z ⟨rfl, hbz⟩; have HBZ := Lib.hid hbz; have HCZ := Lib.hid (HBC.out.kept (grown_below hbz) (by simp)); have cz := HCZ.out.cell; have fz := HCZ.out.frozen; clear hbz)
      refine ⟨?_, ?_⟩
      · exact (Stays.refl _ _).grown (grown_below HBZ.out) (fun _ e => by cases e) |>.grown (grownBy_setCell' _ _ _) (fun r e hr => by cases e; have := HIY.out.far _ hr; omega)
      · refine ⟨HIY.out.far, Nat.le_trans HIY.out.size (Nat.le_trans HBZ.out.size (grownBy_setCell' Z _ _).size), ⟨rfl, _, List.mem_append.2 (.inr (List.mem_singleton.2 rfl)), HR.out⟩, ?_, HCZ.out.set _⟩
        exact (below_step HBL.out HBZ.out).setCell (p := ⟨w.heap.size + 1, 0, none⟩) (by simp) _
    · gi_wp2_with (gi_at_call 28; refine (CallsIn.inRound l2 (callsIn_wide.2 hO.out)).mono ?_; rintro e Z ⟨rfl, hbz⟩; have HBZ := Lib.hid hbz; clear hbz)
      refine ⟨(Stays.refl _ _).grown (grown_below HBZ.out) (fun _ e => by cases e), HIY.out.far, Nat.le_trans HIY.out.size HBZ.out.size, ?_, below_step HBL.out HBZ.out, (HBZ.out.block _ HBH.out.lt).trans HBH.out, HBC.out.kept (grown_below HBZ.out) (by simp)⟩
      intro y hy
      rcases List.mem_append.1 hy with h1 | h1
      · exact HA.out y h1
      · rw [List.mem_singleton.1 h1]; exact HR.out
  case done =>
    rintro D F2 ys X hD hys hI2 hKD
    have hXC := hI2.held.2.2.2
    have cc := hXC.cell
    have cf := hXC.frozen
    have HI2 := Lib.hid hI2
    have HKD := Lib.hid hKD
    have HYS := Lib.hid hys
    clear hI2 hKD hys
    gi_wp2
    have hne : D ≠ w.heap.size + 1 := fun e => by have := HI2.out.far _ hD; omega
    have hK5 := (Below.heap_setCell X ⟨w.heap.size + 1, 0, none⟩ (.bool true) D hne).trans HKD.out
    refine ⟨by simp, .inl ⟨_, _, rfl, run_takeDeferred hK5, ?_⟩⟩
    have hb5 := (hXC.set (.bool true)).kept (grownBy_putObj' _ D (.deferred none)) (by simpa using fun e => hne e.symm)
    have cc5 := hb5.cell
    refine ⟨.bool true, by simp [results, Tryd.f8, go_sem, cc5], ?_, ?_⟩
    · refine ret_bool ?_
      unfold rightB
      rw [← HYS.out]
      exact (List.all_eq_true.2 fun y hy => by obtain ⟨z, hz, rfl⟩ := List.mem_map.1 hy; exact HI2.out.held.1 z hz).symm
    · exact (HI2.out.held.2.1.setCell (p := ⟨w.heap.size + 1, 0, none⟩) (by simp) _).grown (grownBy_putObj' _ _ _) (Nat.le_trans (by omega) (Nat.le_trans HI2.out.size (grownBy_setCell' X _ _).size)) (fun r e => by cases e; have := HI2.out.far _ hD; omega)
  case stop =>
    rintro D F2 c ys X hD hys hI2 hKD
    obtain ⟨⟨rfl, y, hy, hyB⟩, hbl, hXC⟩ := hI2.held
    have cc := hXC.cell
    have HI2 := Lib.hid hI2
    have HKD := Lib.hid hKD
    have HYS := Lib.hid hys
    have HYB := Lib.hid hyB
    clear hI2 hKD hys hyB
    gi_wp2
    refine ⟨by simp, .inl ⟨_, _, rfl, run_takeDeferred HKD.out, ?_⟩⟩
    have hne : D ≠ w.heap.size + 1 := fun e => by have := HI2.out.far _ hD; omega
    have hb5 := hXC.kept (grownBy_putObj' _ D (.deferred none)) (by simpa using fun e => hne e.symm)
    have cc5 := hb5.cell
    refine ⟨.bool false, by simp [results, Tryd.f8, go_sem, cc5], ?_, ?_⟩
    · refine ret_bool ?_
      unfold rightB
      refine (List.all_eq_false.2 ⟨y.2, ?_, by rw [HYB.out]; decide⟩).symm
      exact HYS.out.subset (List.mem_map.2 ⟨y, hy, rfl⟩)
    · exact hbl.grown (grownBy_putObj' _ _ _) (Nat.le_trans (by omega) HI2.out.size) (fun r e => by cases e; have := HI2.out.far _ hD; omega)
end Go.Proofs.YtngikbimlhoigaaDoor
