/- WALKS of num.In, within, magnitude, Add, Sub and of the reference's In, Add. -/
import Derived.Test.YtfhknnldkfngdaaDoorChecked
import Derived.WalkKit
import Derived.WalkSpells
import Derived.WalkLawsBesides
import Derived.Lib.Hide
namespace Go.Proofs.YtfhknnldkfngdaaDoor.Nu
open Go.RowKit

def inB (n : Int) : Bool := decide (-9007199254740992 ≤ n ∧ n ≤ 9007199254740992)
theorem inB_yes {n : Int} (h : inB n = true) : -9007199254740992 ≤ n ∧ n ≤ 9007199254740992 := by simpa [inB] using h
theorem inB_no {n : Int} (h : inB n = false) : n < -9007199254740992 ∨ 9007199254740992 < n := by
  simp [inB] at h; omega
theorem inB_mk {n : Int} (h : -9007199254740992 ≤ n) (h' : n ≤ 9007199254740992) : inB n = true := by simp [inB]; omega
theorem inB_mkno {n : Int} (h : n < -9007199254740992 ∨ 9007199254740992 < n) : inB n = false := by simp [inB]; omega
theorem ret_bool {a b : Bool} (h : a = b) : Ending.returned (.bool a) = .returned (.bool b) := by rw [h]
theorem ret_str {a b : ByteArray} (h : a = b) : Ending.returned (.string a) = .returned (.string b) := by rw [h]
theorem ret_int {k : IntKind} {a b : Int} (h : a = b) : Ending.returned (.int k a) = .returned (.int k b) := by rw [h]

set_option maxHeartbeats 400000 in
theorem in_any (n : Int) (w : World) : Calls Tryd.prog 52 #[.int .i64 n] w fun e w' => e = .returned (.bool (inB n)) ∧ w = w' := by
  by_cases h1 : -9007199254740992 ≤ n <;> by_cases h2 : n ≤ 9007199254740992
  all_goals
    go_enter Tryd.func52, Tryd.ntmps52
    go_wp2
    go_ret
    exact ⟨ret_bool (by simp [inB]; omega), rfl⟩

set_option maxHeartbeats 400000 in
theorem within_yes (n : Int) (w : World) (h : inB n = true) : Calls Tryd.prog 45 #[.int .i64 n] w fun e w' => e = .returned (.tuple #[.int .i64 n, .int .i64 0]) ∧ w = w' := by
  go_enter Tryd.func45, Tryd.ntmps45
  go_wp2_with (go_at_call 52; refine (in_any _ _).mono ?_; rintro e w' ⟨rfl, rfl⟩)
  go_ret2
  exact ⟨rfl, rfl⟩

set_option maxHeartbeats 400000 in
theorem within_no (n : Int) (w : World) (h : inB n = false) : Calls Tryd.prog 45 #[.int .i64 n] w fun e w' => e = .returned (.tuple #[.int .i64 0, .int .i64 25]) ∧ w = w' := by
  go_enter Tryd.func45, Tryd.ntmps45
  go_wp2_with (go_at_call 52; refine (in_any _ _).mono ?_; rintro e w' ⟨rfl, rfl⟩)
  go_ret2
  exact ⟨rfl, rfl⟩

def outV (b c : Bool) (v : Int) : Int := bif b then (bif c then v else 0) else 0
def outE (b c : Bool) : Int := bif b then (bif c then 0 else 25) else 9
def addV (a b : Int) : Int := outV (inB a && inB b) (inB (a + b)) (a + b)
def addE (a b : Int) : Int := outE (inB a && inB b) (inB (a + b))
def subV (a b : Int) : Int := outV (inB a && inB b) (inB (a - b)) (a - b)
def subE (a b : Int) : Int := outE (inB a && inB b) (inB (a - b))
theorem ret_two {a b c d : Int} (h : a = c) (h' : b = d) : Ending.returned (.tuple #[.int .i64 a, .int .i64 b]) = .returned (.tuple #[.int .i64 c, .int .i64 d]) := by rw [h, h']

set_option maxHeartbeats 400000 in
theorem within_any (n : Int) (w : World) : Calls Tryd.prog 45 #[.int .i64 n] w fun e w' => e = .returned (.tuple #[.int .i64 (outV true (inB n) n), .int .i64 (outE true (inB n))]) ∧ w = w' := by
  cases h : inB n
  · exact (within_no n w h)
  · exact (within_yes n w h)

end Go.Proofs.YtfhknnldkfngdaaDoor.Nu
