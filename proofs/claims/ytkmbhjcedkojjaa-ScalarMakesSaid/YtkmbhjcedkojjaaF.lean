/- WALKS of Truth, Zero, Has, short. -/
import Derived.Test.YtkmbhjcedkojjaaC
namespace Go.Proofs.Ytkmbhjcedkojjaa
open Go.RowKit
def zeroB (k lo hi : Int) (s : ByteArray) (y m o : Bool) (fl : Nat) : Bool := decide (k = 0 ∧ lo = 0 ∧ hi = 0 ∧ s.toList = [] ∧ y = false ∧ m = false ∧ o = false ∧ fl = 0)
def hasB (k lo hi : Int) (s : ByteArray) (y : Bool) (k2 lo2 : Int) (s2 : ByteArray) : Bool := decide (k = k2 ∧ (k = 3 → y = true ∨ s.toList = s2.toList) ∧ (k ≠ 3 → lo ≤ lo2 ∧ lo2 ≤ hi))
def shortB (s : ByteArray) (fl : Nat) : Bool := decide ((s.size : Int) ≤ 400 ∧ (fl : Int) ≤ 10)
set_option maxRecDepth 100000 in
set_option maxHeartbeats 2000000 in
theorem truth_any (b : Bool) (w : World) :
    Calls Try.prog 23 #[.bool b] w fun e w' => e = .returned (tv 1 (if b then 1 else 0) (if b then 1 else 0) ⟨#[]⟩ false false false none 0 0) ∧ Below w.heap.size w w' := by
  cases b
  all_goals
    go_enter Try.func23, Try.ntmps23
    go_wp2_with fail
  · refine bodyPost_ret (v := tv 1 0 0 ⟨#[]⟩ false false false none 0 0) (by simp [results, Try.results23, go_sem]) rfl ⟨rfl, (by (repeat (first | with_reducible exact Below.refl _ _ | with_reducible refine bl_alloc ?_ | (with_reducible refine bl_set ?_ ?hset; case hset => (first | exact Nat.le_refl _ | (simp; done) | (simp; omega) | omega)) | with_reducible refine bl_step ?_ HB.out)))⟩
  · refine bodyPost_ret (v := tv 1 1 1 ⟨#[]⟩ false false false none 0 0) (by simp [results, Try.results23, go_sem]) rfl ⟨rfl, (by (repeat (first | with_reducible exact Below.refl _ _ | with_reducible refine bl_alloc ?_ | (with_reducible refine bl_set ?_ ?hset; case hset => (first | exact Nat.le_refl _ | (simp; done) | (simp; omega) | omega)) | with_reducible refine bl_step ?_ HB.out)))⟩
set_option maxRecDepth 100000 in
set_option maxHeartbeats 2000000 in
theorem zero_any (k lo hi : Int) (s : ByteArray) (y m o : Bool) (f : Option Addr) (fl fc : Nat) (w : World) :
    Calls Try.prog 46 #[tv k lo hi s y m o f fl fc] w fun e w' => e = .returned (.bool (zeroB k lo hi s y m o fl)) ∧ Below w.heap.size w w' := by
  go_enter Try.func46, Try.ntmps46
  go_wp2_with fail
  all_goals
    go_ret
    refine ⟨ret_dec ?_, (by (repeat (first | with_reducible exact Below.refl _ _ | with_reducible refine bl_alloc ?_ | (with_reducible refine bl_set ?_ ?hset; case hset => (first | exact Nat.le_refl _ | (simp; done) | (simp; omega) | omega)) | with_reducible refine bl_step ?_ HB.out)))⟩
    simp_all
set_option maxRecDepth 100000 in
set_option maxHeartbeats 2000000 in
theorem has_any (k lo hi : Int) (s : ByteArray) (y m o : Bool) (f : Option Addr) (fl fc : Nat) (k2 lo2 hi2 : Int) (s2 : ByteArray) (y2 m2 o2 : Bool) (f2 : Option Addr) (fl2 fc2 : Nat) (w : World) :
    Calls Try.prog 28 #[tv k lo hi s y m o f fl fc, tv k2 lo2 hi2 s2 y2 m2 o2 f2 fl2 fc2] w fun e w' => e = .returned (.bool (hasB k lo hi s y k2 lo2 s2)) ∧ Below w.heap.size w w' := by
  go_enter Try.func28, Try.ntmps28
  go_wp2_with fail
  all_goals
    go_ret
    refine ⟨ret_dec ?_, (by (repeat (first | with_reducible exact Below.refl _ _ | with_reducible refine bl_alloc ?_ | (with_reducible refine bl_set ?_ ?hset; case hset => (first | exact Nat.le_refl _ | (simp; done) | (simp; omega) | omega)) | with_reducible refine bl_step ?_ HB.out)))⟩
    simp_all <;> omega
set_option maxRecDepth 100000 in
set_option maxHeartbeats 2000000 in
theorem short_any (k lo hi : Int) (s : ByteArray) (y m o : Bool) (f : Option Addr) (fl fc : Nat) (w : World) :
    Calls Try.prog 10 #[tv k lo hi s y m o f fl fc] w fun e w' => e = .returned (.bool (shortB s fl)) ∧ Below w.heap.size w w' := by
  go_enter Try.func10, Try.ntmps10
  go_wp2_with fail
  all_goals
    go_ret
    refine ⟨ret_dec ?_, (by (repeat (first | with_reducible exact Below.refl _ _ | with_reducible refine bl_alloc ?_ | (with_reducible refine bl_set ?_ ?hset; case hset => (first | exact Nat.le_refl _ | (simp; done) | (simp; omega) | omega)) | with_reducible refine bl_step ?_ HB.out)))⟩
    simp_all <;> omega

end Go.Proofs.Ytkmbhjcedkojjaa
