/- WALKS of Atom, Same. -/
import Derived.Test.YtkmbhjcedkojjaaA
namespace Go.Proofs.Ytkmbhjcedkojjaa
open Go.RowKit
theorem bl_alloc {w a : World} {o : Obj} (h : Below w.heap.size w a) : Below w.heap.size w (a.alloc o) := h.alloc h.size o
theorem bl_set {w a : World} {p : Addr} {v : Value} (h : Below w.heap.size w a) (hp : w.heap.size ≤ p.block) : Below w.heap.size w (a.setCell p v) := h.setCell hp v
theorem bl_step {w a b : World} (h : Below w.heap.size w a) (k : Below a.heap.size a b) : Below w.heap.size w b := h.trans (k.mono h.size)
set_option maxRecDepth 100000 in
set_option maxHeartbeats 2000000 in
theorem atom_any (k lo hi : Int) (s : ByteArray) (y m o : Bool) (f : Option Addr) (fl fc : Nat) (w : World) :
    Calls Try.prog 14 #[tv k lo hi s y m o f fl fc] w fun e w' => e = .returned (.bool (rightB k lo hi s y m o fl && singleB k lo hi y)) ∧ Below w.heap.size w w' := by
  go_enter Try.func14, Try.ntmps14
  go_wp2_with (first
    | ((go_at_call 13; (with_reducible refine (right_any _ _ _ _ _ _ _ _ _ _ _).mono ?_); rintro e _ ⟨rfl, hB⟩; (try clear hc hf); (first | (replace HB := Lib.hid (bl_step (by repeat (first | exact HB.out | refine bl_alloc ?_ | refine bl_set ?_ (by first | exact Nat.le_refl _ | (simp; done) | (simp; omega) | omega))) hB)) | (have HB := Lib.hid hB)); obtain ⟨hc, hf⟩ := bcell HB.out; clear hB))
    | (go_at_call 44; (with_reducible refine (single_any _ _ _ _ _ _ _ _ _ _ _).mono ?_); rintro e _ ⟨rfl, hB⟩; (try clear hc hf); (first | (replace HB := Lib.hid (bl_step (by repeat (first | exact HB.out | refine bl_alloc ?_ | refine bl_set ?_ (by first | exact Nat.le_refl _ | (simp; done) | (simp; omega) | omega))) hB)) | (have HB := Lib.hid hB)); obtain ⟨hc, hf⟩ := bcell HB.out; clear hB))
  all_goals
    go_ret
    refine ⟨?_, (by (repeat (first | exact Below.refl _ _ | refine bl_alloc ?_ | refine bl_set ?_ (by first | exact Nat.le_refl _ | (simp; done) | (simp; omega) | omega) | refine bl_step ?_ HB.out)))⟩
  all_goals simp_all
def SameP (k1 lo1 hi1 : Int) (s1 : ByteArray) (y1 m1 o1 : Bool) (fl1 : Nat) (k2 lo2 hi2 : Int) (s2 : ByteArray) (y2 m2 o2 : Bool) (fl2 : Nat) : Prop :=
  rightB k1 lo1 hi1 s1 y1 m1 o1 fl1 = true ∧ rightB k2 lo2 hi2 s2 y2 m2 o2 fl2 = true ∧ k1 = k2 ∧ lo1 = lo2 ∧ hi1 = hi2 ∧ s1.toList = s2.toList ∧ y1 = y2 ∧ m1 = m2
instance (k1 lo1 hi1 : Int) (s1 : ByteArray) (y1 m1 o1 : Bool) (fl1 : Nat) (k2 lo2 hi2 : Int) (s2 : ByteArray) (y2 m2 o2 : Bool) (fl2 : Nat) : Decidable (SameP k1 lo1 hi1 s1 y1 m1 o1 fl1 k2 lo2 hi2 s2 y2 m2 o2 fl2) := by unfold SameP; infer_instance
set_option maxRecDepth 100000 in
set_option maxHeartbeats 2000000 in
theorem same_any (k1 lo1 hi1 : Int) (s1 : ByteArray) (y1 m1 o1 : Bool) (f1 : Option Addr) (fl1 fc1 : Nat) (k2 lo2 hi2 : Int) (s2 : ByteArray) (y2 m2 o2 : Bool) (f2 : Option Addr) (fl2 fc2 : Nat) (w : World) :
    Calls Try.prog 16 #[tv k1 lo1 hi1 s1 y1 m1 o1 f1 fl1 fc1, tv k2 lo2 hi2 s2 y2 m2 o2 f2 fl2 fc2] w fun e w' => e = .returned (.bool (decide (SameP k1 lo1 hi1 s1 y1 m1 o1 fl1 k2 lo2 hi2 s2 y2 m2 o2 fl2))) ∧ Below w.heap.size w w' := by
  go_enter Try.func16, Try.ntmps16
  go_wp2_with (first
    | (go_at_call 13; (with_reducible refine (right_any _ _ _ _ _ _ _ _ _ _ _).mono ?_); rintro e _ ⟨rfl, hB⟩; (try clear hc hf); (first | (replace HB := Lib.hid (bl_step (by repeat (first | exact HB.out | refine bl_alloc ?_ | refine bl_set ?_ (by first | exact Nat.le_refl _ | (simp; done) | (simp; omega) | omega))) hB)) | (have HB := Lib.hid hB)); obtain ⟨hc, hf⟩ := bcell HB.out; clear hB))
  all_goals
    go_ret
    refine ⟨ret_dec ?_, (by (repeat (first | exact Below.refl _ _ | refine bl_alloc ?_ | refine bl_set ?_ (by first | exact Nat.le_refl _ | (simp; done) | (simp; omega) | omega) | refine bl_step ?_ HB.out)))⟩
    unfold SameP
    try clear HB hc hf
    simp_all

end Go.Proofs.Ytkmbhjcedkojjaa
