/- WALK of treillagelaw01.NumTexts. -/
import Derived.Test.YtikhhkhkfaadlaaG
import Derived.Test.YtikhhkhkfaadlaaT
import Derived.Test.YtikhhkhkfaadlaaU
namespace Go.Proofs.Ytikhhkhkfaadlaa
open Go.RowKit

theorem wf64 {n : Int} (h : (Lit.int .i64 n).wf = true) : -9223372036854775808 ≤ n ∧ n ≤ 9223372036854775807 := by
  have hmin : IntKind.i64.min = -9223372036854775808 := rfl
  have hmax : IntKind.i64.max = 9223372036854775807 := rfl
  simp only [Lit.wf, Bool.and_eq_true, decide_eq_true_eq] at h
  omega
set_option maxHeartbeats 1000000 in
theorem texts_long (n : Int) (s : ByteArray) (w : World) (hs : s.size ≤ maxLen) (h : 60 < s.size) : Calls Try.prog 5 #[.int .i64 n, .string s] w fun e w' => e = .returned (.bool true) ∧ Below w.heap.size w w' := by
  unfold maxLen at hs
  go_enter Try.func5, Try.ntmps5
  go_wp2_with (go_at_call 14; refine (awake_any _).mono ?_; rintro e w' ⟨rfl, hB⟩)
  go_ret
  exact ⟨rfl, hB⟩

set_option maxHeartbeats 1000000 in
theorem texts_short (n : Int) (s : ByteArray) (w : World) (lo : -9223372036854775808 ≤ n) (hi : n ≤ 9223372036854775807) (h : ¬ 60 < s.size) : Calls Try.prog 5 #[.int .i64 n, .string s] w fun e w' => e = .returned (.bool true) ∧ Below w.heap.size w w' := by
  have ht := fun w => Lib.hid (text_any n w lo hi)
  have hr := fun w => Lib.hid (rtext_any n w lo hi)
  clear lo hi
  go_enter Try.func5, Try.ntmps5
  go_wp2_with (first
    | (go_at_call 14; refine (awake_any _).mono ?_; rintro e w1 ⟨rfl, hB1⟩)
    | (go_at_call 17; refine (read_any _ _ (by unfold maxLen; omega)).mono ?_; rintro e w' ⟨rfl, rfl⟩)
    | (go_at_call 18; refine (rread_any _ _ (by unfold maxLen; omega)).mono ?_; rintro e w' ⟨rfl, rfl⟩)
    | (go_at_call 19; refine (ht _).out.mono ?_; rintro e w2 ⟨rfl, hB2⟩)
    | (go_at_call 20; refine (hr _).out.mono ?_; rintro e w3 ⟨rfl, hB3⟩))
  go_ret
  exact ⟨rfl, (hB1.trans (hB2.mono hB1.size)).trans (hB3.mono (Nat.le_trans hB1.size hB2.size))⟩
theorem texts_walk (n : Int) (s : ByteArray) (w : World) (lo : -9223372036854775808 ≤ n) (hi : n ≤ 9223372036854775807) (hs : s.size ≤ maxLen) : Calls Try.prog 5 #[.int .i64 n, .string s] w fun e w' => e = .returned (.bool true) ∧ Below w.heap.size w w' := by
  by_cases h : 60 < s.size
  · exact texts_long n s w hs h
  · exact texts_short n s w lo hi h
end Go.Proofs.Ytikhhkhkfaadlaa
