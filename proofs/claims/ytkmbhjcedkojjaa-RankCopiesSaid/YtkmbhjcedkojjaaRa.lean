/- WALKS of the reference: numbers, texts, bools, plain. -/
import Derived.Test.YtkmbhjcedkojjaaPd
import Derived.Test.YtkmbhjcedkojjaaQa
namespace Go.Proofs.Ytkmbhjcedkojjaa
open Go.RowKit
theorem cmpI_self (a : Int) : cmpI a a = 0 := by simp [cmpI]
theorem cmpI_ne {a b : Int} (h : a ≠ b) : cmpI a b ≠ 0 := by unfold cmpI; split <;> (try split) <;> omega
theorem cmpS_self (a : ByteArray) : cmpS a a = 0 := cmpS_cmp.refl a
theorem cmpS_eq {a b : ByteArray} (h : a.toList = b.toList) : cmpS a b = 0 := by unfold cmpS; rw [h]; simp [less_irrefl]
theorem cmpS_ne {a b : ByteArray} (h : ¬ a.toList = b.toList) : cmpS a b ≠ 0 := by unfold cmpS; rw [if_neg h]; split <;> decide
theorem bit_eq {a b : Bool} (h : a = b) : cmpI (bitI a) (bitI b) = 0 := by rw [h]; exact cmpI_self _
theorem bit_ne {a b : Bool} (h : ¬ a = b) : cmpI (bitI a) (bitI b) ≠ 0 := by cases a <;> cases b <;> simp_all [cmpI, bitI]
set_option maxHeartbeats 400000 in
theorem nums_any (a b : Int) (w : World) : Calls Try.prog 58 #[.int .i64 a, .int .i64 b] w fun e w' => e = .returned (.int .i64 (cmpI a b)) ∧ w' = w := by
  unfold cmpI
  by_cases h1 : a < b
  · rw [if_pos h1]
    go_enter Try.func58, Try.ntmps58
    go_wp2_with fail
    go_ret
    exact ⟨rfl, rfl⟩
  · rw [if_neg h1]
    by_cases h2 : b < a
    · rw [if_pos h2]
      go_enter Try.func58, Try.ntmps58
      go_wp2_with fail
      go_ret
      exact ⟨rfl, rfl⟩
    · rw [if_neg h2]
      go_enter Try.func58, Try.ntmps58
      go_wp2_with fail
      go_ret
      exact ⟨rfl, rfl⟩
set_option maxHeartbeats 400000 in
theorem texts_any (a b : ByteArray) (w : World) : Calls Try.prog 57 #[.string a, .string b] w fun e w' => e = .returned (.int .i64 (cmpS a b)) ∧ w' = w := by
  unfold cmpS
  generalize hu : a.toList = u at *
  generalize hv : b.toList = v at *
  by_cases h1 : Op.bytesLess u v = true
  · rw [if_pos h1]
    go_enter Try.func57, Try.ntmps57
    go_wp2_with fail
    go_ret
    exact ⟨rfl, rfl⟩
  · rw [if_neg h1]
    have h1' : Op.bytesLess u v = false := by simpa using h1
    by_cases h2 : u = v
    · rw [if_pos h2]
      have h2' : (u == v) = true := by simpa using h2
      clear h2 h1
      go_enter Try.func57, Try.ntmps57
      go_wp2_with fail
      go_ret
      exact ⟨rfl, rfl⟩
    · rw [if_neg h2]
      have h2' : (u == v) = false := by simpa using h2
      clear h1
      go_enter Try.func57, Try.ntmps57
      go_wp2_with fail
      go_ret
      exact ⟨rfl, rfl⟩
set_option maxHeartbeats 400000 in
theorem bools_any (a b : Bool) (w : World) : Calls Try.prog 64 #[.bool a, .bool b] w fun e w' => e = .returned (.int .i64 (cmpI (bitI a) (bitI b))) ∧ w' = w := by
  cases a <;> cases b
  all_goals
    go_enter Try.func64, Try.ntmps64
    go_wp2_with fail
    go_ret
    exact ⟨ret_int (by simp [cmpI, bitI]), rfl⟩
set_option maxRecDepth 100000 in
set_option maxHeartbeats 8000000 in
theorem plain_any (k lo hi : Int) (s : ByteArray) (y m o : Bool) (f : Option Addr) (fl fc : Nat) (fs : List (ByteArray × List Tm)) (k2 lo2 hi2 : Int) (s2 : ByteArray) (y2 m2 o2 : Bool) (f2 : Option Addr) (fl2 fc2 : Nat) (fs2 : List (ByteArray × List Tm)) (w : World) :
    Calls Try.prog 56 #[tv k lo hi s y m o f fl fc, tv k2 lo2 hi2 s2 y2 m2 o2 f2 fl2 fc2] w (CmpPost (firstL (plainL (.mk k lo hi s y m o fs) (.mk k2 lo2 hi2 s2 y2 m2 o2 fs2))) w) := by
  have HI := fun a b W => Lib.hid (nums_any a b W)
  have HS := fun a b W => Lib.hid (texts_any a b W)
  have HO := fun a b W => Lib.hid (bools_any a b W)
  have HB : Hid (Below w.heap.size w w) := Below.refl _ _
  go_enter Try.func56, Try.ntmps56
  go_wp2_with (first
    | (go_at_call 58; (with_reducible refine (HI _ _ _).out.mono ?_); rintro e w1 ⟨rfl, h⟩; subst h)
    | (go_at_call 57; (with_reducible refine (HS _ _ _).out.mono ?_); rintro e w1 ⟨rfl, h⟩; subst h)
    | (go_at_call 64; (with_reducible refine (HO _ _ _).out.mono ?_); rintro e w1 ⟨rfl, h⟩; subst h))
  all_goals
    go_ret
    refine ⟨ret_int ?_, bl_alloc (bl_alloc HB.out)⟩
    clear HI HS HO HB
    simp_all [plainL, firstL, cmpI_self, cmpI_ne, cmpS_eq, cmpS_ne, bit_ne]

end Go.Proofs.Ytkmbhjcedkojjaa
