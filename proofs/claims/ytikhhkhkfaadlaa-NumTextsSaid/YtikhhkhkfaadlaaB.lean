/- WALKS of num.Sub, magnitude, Mul and of the reference's Add, Mul. -/
import Derived.Test.YtikhhkhkfaadlaaA
namespace Go.Proofs.Ytikhhkhkfaadlaa
open Go.RowKit

set_option maxHeartbeats 400000 in
theorem sub_any (a b : Int) (w : World) : Calls Try.prog 11 #[.int .i64 a, .int .i64 b] w fun e w' => e = .returned (.tuple #[.int .i64 (subV a b), .int .i64 (subE a b)]) ∧ w = w' := by
  cases ha : inB a
  · go_enter Try.func11, Try.ntmps11
    go_wp2_with (go_at_call 12; refine (in_any _ _).mono ?_; rintro e w' ⟨rfl, rfl⟩)
    go_ret2
    exact ⟨ret_two (by simp [subV, outV, ha]) (by simp [subE, outE, ha]), rfl⟩
  · cases hb : inB b
    · go_enter Try.func11, Try.ntmps11
      go_wp2_with (go_at_call 12; refine (in_any _ _).mono ?_; rintro e w' ⟨rfl, rfl⟩)
      go_ret2
      exact ⟨ret_two (by simp [subV, outV, ha, hb]) (by simp [subE, outE, ha, hb]), rfl⟩
    · have ba := inB_yes ha
      have bb := inB_yes hb
      go_enter Try.func11, Try.ntmps11
      go_wp2_with (first | (go_at_call 12; refine (in_any _ _).mono ?_; rintro e w' ⟨rfl, rfl⟩) | (go_at_call 21; refine (within_any _ _).mono ?_; rintro e w' ⟨rfl, rfl⟩))
      go_ret2
      exact ⟨ret_two (by simp [subV, ha, hb]) (by simp [subE, ha, hb]), rfl⟩

set_option maxHeartbeats 400000 in
theorem radd_any (a b : Int) (w : World) : Calls Try.prog 8 #[.int .i64 a, .int .i64 b] w fun e w' => e = .returned (.tuple #[.int .i64 (addV a b), .int .i64 (addE a b)]) ∧ w = w' := by
  cases ha : inB a
  · go_enter Try.func8, Try.ntmps8
    go_wp2_with (go_at_call 13; refine (rin_any _ _).mono ?_; rintro e w' ⟨rfl, rfl⟩)
    go_ret2
    exact ⟨ret_two (by simp [addV, outV, ha]) (by simp [addE, outE, ha]), rfl⟩
  · cases hb : inB b
    · go_enter Try.func8, Try.ntmps8
      go_wp2_with (go_at_call 13; refine (rin_any _ _).mono ?_; rintro e w' ⟨rfl, rfl⟩)
      go_ret2
      exact ⟨ret_two (by simp [addV, outV, ha, hb]) (by simp [addE, outE, ha, hb]), rfl⟩
    · have ba := inB_yes ha
      have bb := inB_yes hb
      cases hc : inB (a + b)
      all_goals
        go_enter Try.func8, Try.ntmps8
        go_wp2_with (go_at_call 13; refine (rin_any _ _).mono ?_; rintro e w' ⟨rfl, rfl⟩)
        go_ret2
        exact ⟨ret_two (by simp [addV, outV, ha, hb, hc]) (by simp [addE, outE, ha, hb, hc]), rfl⟩

theorem neg_u64 (n : Int) (h : -9223372036854775808 ≤ n) (h' : n < 0) : IntKind.u64.wrap (-IntKind.u64.wrap n) = (n.natAbs : Int) := by
  rw [IntKind.wrap_u64, IntKind.wrap_u64]; omega
theorem pos_u64 (n : Int) (h : n ≤ 9223372036854775807) (h' : 0 ≤ n) : IntKind.u64.wrap n = (n.natAbs : Int) := by
  rw [IntKind.wrap_u64]; omega

set_option maxHeartbeats 400000 in
theorem mag_any0 (n : Int) (w : World) : Calls Try.prog 22 #[.int .i64 n] w fun e w' => e = .returned (.int .u64 (if n < 0 then IntKind.u64.wrap (-IntKind.u64.wrap n) else IntKind.u64.wrap n)) ∧ w = w' := by
  by_cases h0 : n < 0
  · rw [if_pos h0]
    go_enter Try.func22, Try.ntmps22
    go_wp2
    go_ret
    exact ⟨rfl, rfl⟩
  · rw [if_neg h0]
    go_enter Try.func22, Try.ntmps22
    go_wp2
    go_ret
    exact ⟨rfl, rfl⟩
theorem mag_any (n : Int) (w : World) (h : -9223372036854775808 ≤ n) (h' : n ≤ 9223372036854775807) : Calls Try.prog 22 #[.int .i64 n] w fun e w' => e = .returned (.int .u64 (n.natAbs : Int)) ∧ w = w' := by
  refine (mag_any0 n w).mono ?_
  rintro e w' ⟨rfl, rfl⟩
  refine ⟨ret_int ?_, rfl⟩
  split
  · exact neg_u64 n h ‹_›
  · exact pos_u64 n h' (by omega)

def mulV (a b : Int) : Int := outV (inB a && inB b) (inB (a * b)) (a * b)
def mulE (a b : Int) : Int := outE (inB a && inB b) (inB (a * b))

theorem mul_test (M a b : Nat) (ha : 0 < a) : ((M : Int) / (a : Int) < (b : Int)) ↔ (M : Int) < ((a * b : Nat) : Int) := by
  rw [show ((M : Int) / (a : Int)) = ((M / a : Nat) : Int) from rfl, Int.ofNat_lt, Int.ofNat_lt, Nat.div_lt_iff_lt_mul ha, Nat.mul_comm]
theorem mul_over (a b : Int) (h0 : a ≠ 0) (h : (9007199254740992 : Int) / (a.natAbs : Int) < (b.natAbs : Int)) : inB (a * b) = false := by
  have h2 := (mul_test 9007199254740992 _ _ (by omega)).1 h
  clear h
  rw [← Int.natAbs_mul] at h2
  exact inB_mkno (by omega)
theorem mul_fits (a b : Int) (h0 : a ≠ 0) (h : ¬ (9007199254740992 : Int) / (a.natAbs : Int) < (b.natAbs : Int)) : inB (a * b) = true := by
  have h2 : ¬ ((9007199254740992 : Nat) : Int) < ((a.natAbs * b.natAbs : Nat) : Int) := fun q => h ((mul_test 9007199254740992 _ _ (by omega)).2 q)
  clear h
  rw [← Int.natAbs_mul] at h2
  exact inB_mk (by omega) (by omega)

set_option maxHeartbeats 400000 in
theorem mul_any (a b : Int) (w : World) : Calls Try.prog 9 #[.int .i64 a, .int .i64 b] w fun e w' => e = .returned (.tuple #[.int .i64 (mulV a b), .int .i64 (mulE a b)]) ∧ w = w' := by
  cases ha : inB a
  · go_enter Try.func9, Try.ntmps9
    go_wp2_with (go_at_call 12; refine (in_any _ _).mono ?_; rintro e w' ⟨rfl, rfl⟩)
    go_ret2
    exact ⟨ret_two (by simp [mulV, outV, ha]) (by simp [mulE, outE, ha]), rfl⟩
  · cases hb : inB b
    · go_enter Try.func9, Try.ntmps9
      go_wp2_with (go_at_call 12; refine (in_any _ _).mono ?_; rintro e w' ⟨rfl, rfl⟩)
      go_ret2
      exact ⟨ret_two (by simp [mulV, outV, ha, hb]) (by simp [mulE, outE, ha, hb]), rfl⟩
    · have ba := inB_yes ha
      have bb := inB_yes hb
      by_cases h0 : a = 0
      · subst h0
        go_enter Try.func9, Try.ntmps9
        go_wp2_with (go_at_call 12; refine (in_any _ _).mono ?_; rintro e w' ⟨rfl, rfl⟩)
        go_ret2
        exact ⟨ret_two (by simp [mulV, outV]) (by simp only [mulE, Int.zero_mul, ha, hb, outE, Bool.and_self, cond_true]), rfl⟩
      · by_cases ht : (9007199254740992 : Int) / (a.natAbs : Int) < (b.natAbs : Int)
        · have ho := mul_over a b h0 ht
          go_enter Try.func9, Try.ntmps9
          go_wp2_with (first | (go_at_call 12; refine (in_any _ _).mono ?_; rintro e w' ⟨rfl, rfl⟩) | (go_at_call 22; refine (mag_any _ _ (by omega) (by omega)).mono ?_; rintro e w' ⟨rfl, rfl⟩))
          go_ret2
          exact ⟨ret_two (by simp [mulV, outV, ho]) (by simp [mulE, outE, ha, hb, ho]), rfl⟩
        · have ho := mul_fits a b h0 ht
          have hab := inB_yes ho
          go_enter Try.func9, Try.ntmps9
          go_wp2_with (first | (go_at_call 12; refine (in_any _ _).mono ?_; rintro e w' ⟨rfl, rfl⟩) | (go_at_call 22; refine (mag_any _ _ (by omega) (by omega)).mono ?_; rintro e w' ⟨rfl, rfl⟩))
          go_ret2
          exact ⟨ret_two (by simp [mulV, outV, ha, hb, ho]) (by simp [mulE, outE, ha, hb, ho]), rfl⟩

end Go.Proofs.Ytikhhkhkfaadlaa
