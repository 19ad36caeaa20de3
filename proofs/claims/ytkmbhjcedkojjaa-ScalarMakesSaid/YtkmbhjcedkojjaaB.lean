/- WALKS of the reference's Right. -/
import Derived.Test.YtkmbhjcedkojjaaA
namespace Go.Proofs.Ytkmbhjcedkojjaa
open Go.RowKit
set_option maxRecDepth 100000 in
set_option maxHeartbeats 1000000 in
theorem rright_any (k lo hi : Int) (s : ByteArray) (y m o : Bool) (f : Option Addr) (fl fc : Nat) (w : World) :
    Calls Try.prog 12 #[tv k lo hi s y m o f fl fc] w fun e w' => e = .returned (.bool (rightB k lo hi s y m o fl)) ∧ Below w.heap.size w w' := by
  go_enter Try.func12, Try.ntmps12
  go_wp2_with (go_at_call 15; (with_reducible refine (rsingle_any _ _ _ _ _ _ _ _ _ _ _).mono ?_); rintro e w1 ⟨rfl, hB⟩; obtain ⟨hc, hf⟩ := bcell hB; have HB := Lib.hid hB; clear hB)
  all_goals
    go_ret
    refine ⟨ret_dec ?_, by first | exact ((Below.refl _ _).alloc (Nat.le_refl _) _).trans (HB.out.mono (by simp)) | exact (Below.refl _ _).alloc (Nat.le_refl _) _⟩
    unfold RightP
    try clear HB hc hf
    simp_all <;> omega
end Go.Proofs.Ytkmbhjcedkojjaa
