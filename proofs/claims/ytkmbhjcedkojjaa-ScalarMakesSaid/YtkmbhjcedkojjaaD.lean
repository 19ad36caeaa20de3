/- WALK of the reference's Same. -/
import Derived.Test.YtkmbhjcedkojjaaB
import Derived.Test.YtkmbhjcedkojjaaC
namespace Go.Proofs.Ytkmbhjcedkojjaa
open Go.RowKit
set_option maxRecDepth 100000 in
set_option maxHeartbeats 2000000 in
theorem rsame_any (k1 lo1 hi1 : Int) (s1 : ByteArray) (y1 m1 o1 : Bool) (f1 : Option Addr) (fl1 fc1 : Nat) (k2 lo2 hi2 : Int) (s2 : ByteArray) (y2 m2 o2 : Bool) (f2 : Option Addr) (fl2 fc2 : Nat) (w : World) :
    Calls Try.prog 17 #[tv k1 lo1 hi1 s1 y1 m1 o1 f1 fl1 fc1, tv k2 lo2 hi2 s2 y2 m2 o2 f2 fl2 fc2] w fun e w' => e = .returned (.bool (decide (SameP k1 lo1 hi1 s1 y1 m1 o1 fl1 k2 lo2 hi2 s2 y2 m2 o2 fl2))) ∧ Below w.heap.size w w' := by
  go_enter Try.func17, Try.ntmps17
  go_wp2_with (first
    | (go_at_call 12; (with_reducible refine (rright_any _ _ _ _ _ _ _ _ _ _ _).mono ?_); rintro e _ ⟨rfl, hB⟩; (try clear hc hf); (first | (replace HB := Lib.hid (bl_step (by repeat (first | exact HB.out | refine bl_alloc ?_ | refine bl_set ?_ (by first | exact Nat.le_refl _ | (simp; done) | (simp; omega) | omega))) hB)) | (have HB := Lib.hid hB)); obtain ⟨hc, hf⟩ := bcell HB.out; clear hB))
  all_goals
    go_ret
    refine ⟨ret_dec ?_, (by (repeat (first | exact Below.refl _ _ | refine bl_alloc ?_ | refine bl_set ?_ (by first | exact Nat.le_refl _ | (simp; done) | (simp; omega) | omega) | refine bl_step ?_ HB.out)))⟩
    unfold SameP
    try clear HB hc hf
    simp_all

end Go.Proofs.Ytkmbhjcedkojjaa
