/- WALK of ExprCopies, from plain's contract. -/
import Derived.Test.YtngikbimlhoigaaDoorXb
import Derived.Test.YtngikbimlhoigaaDoorWe
import Derived.Test.YtngikbimlhoigaaDoorUh
namespace Go.Proofs.YtngikbimlhoigaaDoor
open Go.RowKit
/-- What plain answers: the same expression, made anew. -/
def PlainP (w : World) (n : Nat) (x : Ex) (e : Ending) (w' : World) : Prop := ∃ h' : Hd, e = .returned h'.agg ∧ Below w.heap.size w w' ∧ InX w' n h' x
set_option maxRecDepth 100000 in
set_option maxHeartbeats 8000000 in
theorem copies_walk (w : World) (n : Nat) (h : Hd) (x : Ex) (hx : InX w n h x) (hs : Slim n x) (hE : Nm.Env w) (PL : ∀ W, Below w.heap.size w W → Calls Tryd.prog 22 #[h.agg] W (PlainP W n x)) : Calls Tryd.prog 5 #[h.agg] w (BoolP true w) := by
  obtain ⟨op, nn, s, p, pl, pc, q, ql, qc, o, k, kl, kc⟩ := h
  have CW : ∀ W, Below w.heap.size w W → Hid (Calls Tryd.prog 7 #[] W (BoolP true W)) := fun W hW => awake_any W (hE.below hW)
  have FA : ∀ W, Below w.heap.size w W → Hid (Calls Tryd.prog 6 #[.agg #[.int .i64 op, .int .i64 nn, .string s, .slice p pl pc, .slice q ql qc, .bool o, .slice k kl kc]] W (FewP (tN n x) W)) := fun W hW => few_any w W n ⟨op, nn, s, p, pl, pc, q, ql, qc, o, k, kl, kc⟩ x hx hW
  have KP : ∀ W, Below w.heap.size w W → Hid (Calls Tryd.prog 22 #[.agg #[.int .i64 op, .int .i64 nn, .string s, .slice p pl pc, .slice q ql qc, .bool o, .slice k kl kc]] W (PlainP W n x)) := fun W hW => PL W hW
  have KC : ∀ W, Below w.heap.size w W → Hid (Calls Tryd.prog 23 #[.agg #[.int .i64 op, .int .i64 nn, .string s, .slice p pl pc, .slice q ql qc, .bool o, .slice k kl kc]] W (CopyP W n x)) := fun W hW => copy_any n W ⟨op, nn, s, p, pl, pc, q, ql, qc, o, k, kl, kc⟩ x (hx.below hW) hs
  have HX := Lib.hid hx
  have HB1 : Hid (Below w.heap.size w (w.alloc (.cells #[.int .i64 op, .int .i64 nn, .string s, .slice p pl pc, .slice q ql qc, .bool o, .slice k kl kc] 26))) := below_alloc (Below.refl _ _) _
  have HBX0 : Hid (BoxH (w.alloc (.cells #[.int .i64 op, .int .i64 nn, .string s, .slice p pl pc, .slice q ql qc, .bool o, .slice k kl kc] 26)) w.heap.size ⟨op, nn, s, p, pl, pc, q, ql, qc, o, k, kl, kc⟩) := World.alloc_heap_new w _
  clear hx hs hE PL
  unfold Hd.agg
  dsimp only
  go_enter Tryd.func5, Tryd.ntmps5
  go_wp2_with fail
  go_at_call 6; refine (FA _ HB1.out).mono ?_; rintro e w1 ⟨ba, rfl, hb1, -⟩
  have HB2 := Lib.hid (below_step HB1.out hb1)
  have HBX1 : Hid (BoxH w1 w.heap.size ⟨op, nn, s, p, pl, pc, q, ql, qc, o, k, kl, kc⟩) := (hb1.block _ HBX0.out.lt).trans HBX0.out
  obtain ⟨c0, c1, c2, c3, c4, c5, c6⟩ := HBX1.out.cells
  dsimp only at c0 c1 c2 c3 c4 c5 c6
  simp only [Nat.zero_add] at c1 c2 c3 c4 c5 c6
  clear hb1
  cases ba
  · go_wp2_with (go_at_call 7; refine (CW _ HB2.out).out.mono ?_; rintro e w5 ⟨rfl, hb5⟩; have HB5 := Lib.hid hb5; clear hb5)
    go_ret
    exact ⟨rfl, below_step HB2.out HB5.out⟩
  · go_wp2_with fail
    go_at_call 22; refine (KP _ HB2.out).out.mono ?_; rintro e w2 ⟨hk, rfl, hb2, hI2⟩
    obtain ⟨op2, nn2, s2, p2, pl2, pc2, q2, ql2, qc2, o2, k2, kl2, kc2⟩ := hk
    unfold Hd.agg
    dsimp only
    obtain ⟨W2, hW2⟩ : ∃ W2, w2.alloc (.cells #[.int .i64 op2, .int .i64 nn2, .string s2, .slice p2 pl2 pc2, .slice q2 ql2 qc2, .bool o2, .slice k2 kl2 kc2] 26) = W2 := ⟨_, rfl⟩
    have ha2 : Below w2.heap.size w2 W2 := by rw [← hW2]; exact (Below.refl _ w2).alloc (Nat.le_refl _) _
    have HBK2 : Hid (BoxH W2 w2.heap.size ⟨op2, nn2, s2, p2, pl2, pc2, q2, ql2, qc2, o2, k2, kl2, kc2⟩) := by rw [← hW2]; exact World.alloc_heap_new w2 _
    have HI2 := Lib.hid (hI2.below ha2)
    have hb12 := below_step hb2 ha2
    have HB3 := Lib.hid (below_step HB2.out hb12)
    have HBX2 : Hid (BoxH W2 w.heap.size ⟨op, nn, s, p, pl, pc, q, ql, qc, o, k, kl, kc⟩) := (hb12.block _ HBX1.out.lt).trans HBX1.out
    obtain ⟨d0, d1, d2, d3, d4, d5, d6⟩ := HBX2.out.cells
    dsimp only at d0 d1 d2 d3 d4 d5 d6
    simp only [Nat.zero_add] at d1 d2 d3 d4 d5 d6
    clear c0 c1 c2 c3 c4 c5 c6 hb2 hI2 ha2 hb12
    go_wp2_with fail
    clear hW2
    go_at_call 23; refine (KC _ HB3.out).out.mono ?_; rintro e w3 ⟨hc, rfl, hb3, hO3⟩
    obtain ⟨op3, nn3, s3, p3, pl3, pc3, q3, ql3, qc3, o3, k3, kl3, kc3⟩ := hc
    unfold Hd.agg
    dsimp only
    obtain ⟨W3, hW3⟩ : ∃ W3, w3.alloc (.cells #[.int .i64 op3, .int .i64 nn3, .string s3, .slice p3 pl3 pc3, .slice q3 ql3 qc3, .bool o3, .slice k3 kl3 kc3] 26) = W3 := ⟨_, rfl⟩
    have ha3 : Below w3.heap.size w3 W3 := by rw [← hW3]; exact (Below.refl _ w3).alloc (Nat.le_refl _) _
    have HBK3 : Hid (BoxH W3 w3.heap.size ⟨op3, nn3, s3, p3, pl3, pc3, q3, ql3, qc3, o3, k3, kl3, kc3⟩) := by rw [← hW3]; exact World.alloc_heap_new w3 _
    have HO3 := Lib.hid (hO3.keep (above_of ha3))
    have HB4 := Lib.hid (below_step hb3 ha3)
    obtain ⟨e0, e1, e2, e3, e4, e5, e6⟩ := HBK3.out.cells
    have HK3 : Hid (BoxH W3 w2.heap.size ⟨op2, nn2, s2, p2, pl2, pc2, q2, ql2, qc2, o2, k2, kl2, kc2⟩) := (HB4.out.block _ HBK2.out.lt).trans HBK2.out
    obtain ⟨f0, f1, f2, f3, f4, f5, f6⟩ := HK3.out.cells
    dsimp only at e0 e1 e2 e3 e4 e5 e6 f0 f1 f2 f3 f4 f5 f6
    simp only [Nat.zero_add] at e1 e2 e3 e4 e5 e6 f1 f2 f3 f4 f5 f6
    have HS1 := Lib.hid (rsame_any W3 n n ⟨op3, nn3, s3, p3, pl3, pc3, q3, ql3, qc3, o3, k3, kl3, kc3⟩ ⟨op2, nn2, s2, p2, pl2, pc2, q2, ql2, qc2, o2, k2, kl2, kc2⟩ x x W3 HO3.out.inX (HI2.out.below HB4.out) (Below.refl _ _))
    rw [eqB_yes rfl] at HS1
    unfold Hd.agg at HS1
    dsimp only at HS1
    clear d0 d1 d2 d3 d4 d5 d6 hb3 hO3 ha3
    go_wp2_with fail
    clear hW3
    go_at_call 17; refine HS1.out.mono ?_; rintro e w4 ⟨rfl, hb4⟩
    have HB5 := Lib.hid hb4
    have HBK4 : Hid (BoxH w4 w3.heap.size ⟨op3, nn3, s3, p3, pl3, pc3, q3, ql3, qc3, o3, k3, kl3, kc3⟩) := (hb4.block _ HBK3.out.lt).trans HBK3.out
    obtain ⟨g0, g1, g2, g3, g4, g5, g6⟩ := HBK4.out.cells
    dsimp only at g0 g1 g2 g3 g4 g5 g6
    simp only [Nat.zero_add] at g1 g2 g3 g4 g5 g6
    have HSP := Lib.hid (spoil_any n W2.heap.size w4 ⟨op3, nn3, s3, p3, pl3, pc3, q3, ql3, qc3, o3, k3, kl3, kc3⟩ 30 (Nat.le_trans HB4.out.size hb4.size) (HO3.out.keep (above_of hb4)).sh (by omega) (by omega))
    unfold Hd.agg at HSP
    dsimp only at HSP
    clear e0 e1 e2 e3 e4 e5 e6 f0 f1 f2 f3 f4 f5 f6 hb4
    go_wp2_with fail
    go_at_call 24; refine HSP.out.mono ?_; rintro e w5 ⟨⟨v5, rfl⟩, hk5⟩
    have h25 : Below W2.heap.size W2 w5 := (HB4.out.trans (HB5.out.mono HB4.out.size)).trans hk5.low
    have HB6 := Lib.hid (below_step HB3.out h25)
    have HC6 := Lib.hid h25
    clear hk5 g0 g1 g2 g3 g4 g5 g6
    go_wp2_with fail
    go_at_call 7; refine (CW _ HB6.out).out.mono ?_; rintro e w6 ⟨rfl, hb6⟩
    have h26 := below_step h25 hb6
    have HB7 := Lib.hid (below_step HB6.out hb6)
    have hx6 : BoxH w6 w.heap.size ⟨op, nn, s, p, pl, pc, q, ql, qc, o, k, kl, kc⟩ := (h26.block _ HBX2.out.lt).trans HBX2.out
    have hk6 : BoxH w6 w2.heap.size ⟨op2, nn2, s2, p2, pl2, pc2, q2, ql2, qc2, o2, k2, kl2, kc2⟩ := (h26.block _ HBK2.out.lt).trans HBK2.out
    obtain ⟨e0, e1, e2, e3, e4, e5, e6⟩ := hx6.cells
    obtain ⟨f0, f1, f2, f3, f4, f5, f6⟩ := hk6.cells
    dsimp only at e0 e1 e2 e3 e4 e5 e6 f0 f1 f2 f3 f4 f5 f6
    simp only [Nat.zero_add] at e1 e2 e3 e4 e5 e6 f1 f2 f3 f4 f5 f6
    have HS2 := Lib.hid (rsame_any w6 n n ⟨op, nn, s, p, pl, pc, q, ql, qc, o, k, kl, kc⟩ ⟨op2, nn2, s2, p2, pl2, pc2, q2, ql2, qc2, o2, k2, kl2, kc2⟩ x x w6 (HX.out.below HB7.out) (HI2.out.below h26) (Below.refl _ _))
    rw [eqB_yes rfl] at HS2
    unfold Hd.agg at HS2
    dsimp only at HS2
    clear hb6 h25 h26 hx6 hk6
    go_wp2_with (go_at_call 17; refine HS2.out.mono ?_; rintro e w7 ⟨rfl, hb7⟩; have HB8 := Lib.hid hb7; clear hb7)
    go_ret
    exact ⟨rfl, below_step HB7.out HB8.out⟩
end Go.Proofs.YtngikbimlhoigaaDoor
