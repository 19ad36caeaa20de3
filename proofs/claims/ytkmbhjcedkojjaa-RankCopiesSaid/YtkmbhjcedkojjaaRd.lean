/- WALKS of Same and of the reference's. -/
import Derived.Test.YtkmbhjcedkojjaaRc
namespace Go.Proofs.Ytkmbhjcedkojjaa
open Go.RowKit
set_option maxRecDepth 100000 in
set_option maxHeartbeats 2000000 in
theorem same_in (n : Nat) (w : World) (t : Option Addr) (tl tc : Nat) (A : List Tm) (t2 : Option Addr) (tl2 tc2 : Nat) (B : List Tm) (h1 : InV w n t tl tc A) (h2 : InV w n t2 tl2 tc2 B) :
    Calls Try.prog 35 #[.agg #[.slice t tl tc], .agg #[.slice t2 tl2 tc2]] w fun e w' => e = .returned (.bool (cmpV n A B == 0)) ∧ Below w.heap.size w w' := by
  have HC := fun (W : World) (hW : Below w.heap.size w W) => Lib.hid (compare_in n W t tl tc A t2 tl2 tc2 B (InV.below hW h1) (InV.below hW h2))
  have HB : Hid (Below w.heap.size w w) := Below.refl _ _
  generalize cmpV n A B = r at *
  clear h1 h2
  go_enter Try.func35, Try.ntmps35
  go_wp2_with (go_at_call 33; refine (HC _ (bl_alloc (bl_alloc HB.out))).out.mono ?_; rintro e w1 ⟨rfl, hB⟩; have HB1 := Lib.hid hB; clear hB)
  go_ret
  exact ⟨rfl, bl_step (bl_alloc (bl_alloc HB.out)) HB1.out⟩
set_option maxRecDepth 100000 in
set_option maxHeartbeats 2000000 in
theorem rsame_in (n : Nat) (w : World) (t : Option Addr) (tl tc : Nat) (A : List Tm) (t2 : Option Addr) (tl2 tc2 : Nat) (B : List Tm) (h1 : InV w n t tl tc A) (h2 : InV w n t2 tl2 tc2 B) :
    Calls Try.prog 36 #[.agg #[.slice t tl tc], .agg #[.slice t2 tl2 tc2]] w fun e w' => e = .returned (.bool (cmpV n A B == 0)) ∧ Below w.heap.size w w' := by
  have HC := fun (W : World) (hW : Below w.heap.size w W) => Lib.hid (rcompare_in n W t tl tc A t2 tl2 tc2 B (InV.below hW h1) (InV.below hW h2))
  have HB : Hid (Below w.heap.size w w) := Below.refl _ _
  generalize cmpV n A B = r at *
  clear h1 h2
  go_enter Try.func36, Try.ntmps36
  go_wp2_with (go_at_call 34; refine (HC _ (bl_alloc (bl_alloc HB.out))).out.mono ?_; rintro e w1 ⟨rfl, hB⟩; have HB1 := Lib.hid hB; clear hB)
  go_ret
  exact ⟨rfl, bl_step (bl_alloc (bl_alloc HB.out)) HB1.out⟩

end Go.Proofs.Ytkmbhjcedkojjaa
