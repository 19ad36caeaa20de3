/- WALK of treillagelaw01.awake: the page's examples. -/
import Derived.Test.YtikhhkhkfaadlaaE
import Derived.Test.YtikhhkhkfaadlaaF
namespace Go.Proofs.Ytikhhkhkfaadlaa
open Go.RowKit

theorem text_0 (w : World) : Calls Try.prog 19 #[.int .i64 0] w fun e w' => e = .returned (.string { data := #[48] }) ∧ Below w.heap.size w w' := by
  refine (text_any 0 w (by decide) (by decide)).mono ?_
  rintro e w' ⟨rfl, h⟩
  exact ⟨ret_str (by kernel_rfl), h⟩
theorem read_007 (w : World) : Calls Try.prog 17 #[.string { data := #[48, 48, 55] }] w fun e w' => e = .returned (.tuple #[.int .i64 0, .int .i64 2]) ∧ w = w' := by
  refine (read_any _ w (by decide)).mono ?_
  rintro e w' ⟨rfl, h⟩
  exact ⟨ret_two (by kernel_rfl) (by kernel_rfl), h⟩
theorem read_over (w : World) : Calls Try.prog 17 #[.string { data := #[57, 48, 48, 55, 49, 57, 57, 50, 53, 52, 55, 52, 48, 57, 57, 51] }] w fun e w' => e = .returned (.tuple #[.int .i64 0, .int .i64 25]) ∧ w = w' := by
  refine (read_any _ w (by decide)).mono ?_
  rintro e w' ⟨rfl, h⟩
  exact ⟨ret_two (by kernel_rfl) (by kernel_rfl), h⟩
theorem add_over (w : World) : Calls Try.prog 7 #[.int .i64 9007199254740992, .int .i64 1] w fun e w' => e = .returned (.tuple #[.int .i64 0, .int .i64 25]) ∧ w = w' := by
  refine (add_any _ _ w).mono ?_
  rintro e w' ⟨rfl, h⟩
  exact ⟨ret_two (by kernel_rfl) (by kernel_rfl), h⟩

set_option maxHeartbeats 400000 in
theorem awake_any (w : World) : Calls Try.prog 14 #[] w fun e w' => e = .returned (.bool true) ∧ Below w.heap.size w w' := by
  go_enter Try.func14, Try.ntmps14
  go_wp2_with (first
    | (go_at_call 7; refine (add_over _).mono ?_; rintro e w' ⟨rfl, rfl⟩)
    | (go_at_call 17; (with_reducible refine (read_007 _).mono ?_); rintro e w' ⟨rfl, rfl⟩)
    | (go_at_call 17; (with_reducible refine (read_over _).mono ?_); rintro e w' ⟨rfl, rfl⟩)
    | (go_at_call 19; refine (text_0 _).mono ?_; rintro e w' ⟨rfl, hB⟩))
  go_ret
  exact ⟨rfl, hB⟩
end Go.Proofs.Ytikhhkhkfaadlaa
