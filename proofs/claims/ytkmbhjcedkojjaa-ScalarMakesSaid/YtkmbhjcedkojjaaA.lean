/- WALKS of single, Single: one thing? -/
import Derived.Test.YtkmbhjcedkojjaaChecked
import Derived.WalkKit
import Derived.Lib.Hide
import Derived.RowKit3
import Derived.Below
import Derived.Deep.QuietTactic
import Derived.BigQuiet
namespace Go.Proofs.Ytkmbhjcedkojjaa
open Go.RowKit
/-- A term's value. -/
abbrev tv (k lo hi : Int) (s : ByteArray) (y m o : Bool) (f : Option Addr) (fl fc : Nat) : Value :=
  .agg #[.int .i64 k, .int .i64 lo, .int .i64 hi, .string s, .bool y, .bool m, .bool o, .slice f fl fc]
def singleB (k lo hi : Int) (y : Bool) : Bool := if k = 3 then !y else (lo == hi)
set_option maxHeartbeats 400000 in
theorem single_any (k lo hi : Int) (s : ByteArray) (y m o : Bool) (f : Option Addr) (fl fc : Nat) (w : World) :
    Calls Try.prog 44 #[tv k lo hi s y m o f fl fc] w fun e w' => e = .returned (.bool (singleB k lo hi y)) ∧ Below w.heap.size w w' := by
  unfold singleB
  by_cases hk : k = 3
  · subst hk
    go_enter Try.func44, Try.ntmps44
    go_wp2_with fail
    go_ret
    exact ⟨by simp, (Below.refl _ _).alloc (Nat.le_refl _) _⟩
  · have hk' : (k == 3) = false := by simpa using hk
    go_enter Try.func44, Try.ntmps44
    go_wp2_with fail
    go_ret
    exact ⟨by simp, (Below.refl _ _).alloc (Nat.le_refl _) _⟩
set_option maxHeartbeats 400000 in
theorem rsingle_any (k lo hi : Int) (s : ByteArray) (y m o : Bool) (f : Option Addr) (fl fc : Nat) (w : World) :
    Calls Try.prog 15 #[tv k lo hi s y m o f fl fc] w fun e w' => e = .returned (.bool (singleB k lo hi y)) ∧ Below w.heap.size w w' := by
  unfold singleB
  by_cases hk : k = 3
  · subst hk
    go_enter Try.func15, Try.ntmps15
    go_wp2_with fail
    go_ret
    exact ⟨by simp, (Below.refl _ _).alloc (Nat.le_refl _) _⟩
  · have hk' : (k == 3) = false := by simpa using hk
    go_enter Try.func15, Try.ntmps15
    go_wp2_with fail
    go_ret
    exact ⟨by simp, (Below.refl _ _).alloc (Nat.le_refl _) _⟩
def RightP (k lo hi : Int) (s : ByteArray) (y m o : Bool) (fl : Nat) : Prop :=
  o = false ∧ fl = 0 ∧ (m = true → singleB k lo hi y = false) ∧
  ((k = 3 ∧ lo = 0 ∧ hi = 0 ∧ (s.size : Int) ≤ 256 ∧ (y = true → s.toList = [])) ∨ (k = 1 ∧ s.toList = [] ∧ y = false ∧ 0 ≤ lo ∧ lo ≤ hi ∧ hi ≤ 1) ∨
    (k = 2 ∧ s.toList = [] ∧ y = false ∧ -9007199254740992 ≤ lo ∧ lo ≤ hi ∧ hi ≤ 9007199254740992))
instance (k lo hi : Int) (s : ByteArray) (y m o : Bool) (fl : Nat) : Decidable (RightP k lo hi s y m o fl) := by unfold RightP; infer_instance
def rightB (k lo hi : Int) (s : ByteArray) (y m o : Bool) (fl : Nat) : Bool := decide (RightP k lo hi s y m o fl)
theorem ret_dec {b : Bool} {P : Prop} [Decidable P] (h : b = true ↔ P) : Ending.returned (.bool b) = .returned (.bool (decide P)) := by
  rw [show decide P = b by cases b <;> simp_all]
theorem bcell {W w1 : World} (hb : Below W.heap.size W w1) : (∀ b o, b < W.heap.size → w1.cell? ⟨b, o, none⟩ = W.cell? ⟨b, o, none⟩) ∧ (∀ b o, b < W.heap.size → w1.frozen? ⟨b, o, none⟩ = W.frozen? ⟨b, o, none⟩) :=
  ⟨fun b o h => hb.cell (p := ⟨b, o, none⟩) h, fun b o h => hb.frozen (p := ⟨b, o, none⟩) h⟩
set_option maxRecDepth 100000 in
set_option maxHeartbeats 1000000 in
theorem right_any (k lo hi : Int) (s : ByteArray) (y m o : Bool) (f : Option Addr) (fl fc : Nat) (w : World) :
    Calls Try.prog 13 #[tv k lo hi s y m o f fl fc] w fun e w' => e = .returned (.bool (rightB k lo hi s y m o fl)) ∧ Below w.heap.size w w' := by
  go_enter Try.func13, Try.ntmps13
  go_wp2_with (go_at_call 44; (with_reducible refine (single_any _ _ _ _ _ _ _ _ _ _ _).mono ?_); rintro e w1 ⟨rfl, hB⟩; obtain ⟨hc, hf⟩ := bcell hB; have HB := Lib.hid hB; clear hB)
  all_goals
    go_ret
    refine ⟨ret_dec ?_, by first | exact ((Below.refl _ _).alloc (Nat.le_refl _) _).trans (HB.out.mono (by simp)) | exact (Below.refl _ _).alloc (Nat.le_refl _) _⟩
    unfold RightP
    try clear HB hc hf
    simp_all <;> omega
end Go.Proofs.Ytkmbhjcedkojjaa
