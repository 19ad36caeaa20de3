/- WALK of expr's Walk. -/
import Derived.Test.YtngikbimlhoigaaDoorWe
import Derived.Test.YtngikbimlhoigaaDoorRe
namespace Go.Proofs.YtngikbimlhoigaaDoor
open Go.RowKit
/-- A walk: a range over a copy of one's own. -/
def WalkP (w : World) (n : Nat) (x : Ex) (e : Ending) (w' : World) : Prop := ∃ (be : Nat) (h' : Hd), e = .returned (.func (.func 43) #[] #[.pointer (some ⟨be, 0, none⟩)]) ∧ Below w.heap.size w w' ∧ w.heap.size ≤ be ∧ BoxH w' be h' ∧ InX w' n h' x
set_option maxRecDepth 100000 in
set_option maxHeartbeats 4000000 in
theorem walk_any (w : World) (n : Nat) (h : Hd) (x : Ex) (hx : InX w n h x) (hs : Slim n x) : Calls Tryd.prog 18 #[h.agg] w (WalkP w n x) := by
  have KC := fun (W : World) (hW : Below w.heap.size w W) => Lib.hid (copy_any n W h x (hx.below hW) hs)
  obtain ⟨op, nn, s, p, pl, pc, q, ql, qc, o, k, kl, kc⟩ := h
  clear hx hs
  unfold Hd.agg at KC
  unfold Hd.agg
  dsimp only at KC ⊢
  have HB1 : Hid (Below w.heap.size w (w.alloc (.cells #[.int .i64 op, .int .i64 nn, .string s, .slice p pl pc, .slice q ql qc, .bool o, .slice k kl kc] 26))) := (Below.refl _ w).alloc (Nat.le_refl _) _
  go_enter Tryd.func18, Tryd.ntmps18
  go_wp2_with (first
    | (go_at_call 23; refine (KC _ HB1.out).out.mono ?_; rintro e w2 ⟨⟨op2, nn2, s2, p2, pl2, pc2, q2, ql2, qc2, o2, k2, kl2, kc2⟩, rfl, hb2, hO⟩; have HB2 := Lib.hid (below_step HB1.out hb2); have HI := Lib.hid hO.inX; have hI2 := Lib.hid (inOrder_any ⟨op2, nn2, s2, p2, pl2, pc2, q2, ql2, qc2, o2, k2, kl2, kc2⟩ w2); clear hb2 hO; unfold Hd.agg Hd.vals at hI2; unfold Hd.agg; dsimp only at hI2 ⊢)
    | (go_at_call 27; refine hI2.out.mono ?_; rintro e w3 ⟨rfl, rfl⟩))
  go_ret
  exact ⟨_, ⟨op2, nn2, s2, p2, pl2, pc2, q2, ql2, qc2, o2, k2, kl2, kc2⟩, rfl, below_alloc HB2.out _, HB2.out.size, World.alloc_heap_new w2 _, HI.out.below ((Below.refl _ w2).alloc (Nat.le_refl _) _)⟩
end Go.Proofs.YtngikbimlhoigaaDoor
