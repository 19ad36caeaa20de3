/- E, G, I -/
import Derived.Test.YtddleeenlpigfaaGreatDoorY0
/- WALKS of made. -/
namespace Go.Proofs.YtddleeenlpigfaaGreatDoor
open Go.RowKit
abbrev zv : Value := tv 0 0 0 ⟨#[]⟩ false false false none 0 0
set_option maxRecDepth 100000 in
set_option maxHeartbeats 2000000 in
theorem made_yes (k lo hi : Int) (s : ByteArray) (y m o : Bool) (f : Option Addr) (fl fc : Nat) (w : World) (h : rightB k lo hi s y m o fl = true) :
    Calls Tryz.prog 170 #[tv k lo hi s y m o f fl fc] w fun e w' => e = .returned (.tuple #[tv k lo hi s y m o f fl fc, .bool true]) ∧ Below w.heap.size w w' := by
  go_enter Tryz.func170, Tryz.ntmps170
  go_wp2_with (first
    | (go_at_call 74; (with_reducible refine (right_any _ _ _ _ _ _ _ _ _ _ _).mono ?_); rintro e _ ⟨rfl, hB⟩; (try clear hc hf); (first | (replace HB := Lib.hid (bl_step (by repeat (first | with_reducible exact HB.out | with_reducible refine bl_alloc ?_ | (with_reducible refine bl_set ?_ ?hset; case hset => (first | exact Nat.le_refl _ | (simp; done) | (simp; omega) | omega)))) hB)) | (have HB := Lib.hid hB)); obtain ⟨hc, hf⟩ := bcell HB.out; clear hB))
  refine bodyPost_ret (v := .tuple #[tv k lo hi s y m o f fl fc, .bool true]) (by simp [results, Tryz.results170, go_sem, hc]) rfl ⟨rfl, (by (repeat (first | with_reducible exact Below.refl _ _ | with_reducible refine bl_alloc ?_ | (with_reducible refine bl_set ?_ ?hset; case hset => (first | exact Nat.le_refl _ | (simp; done) | (simp; omega) | omega)) | with_reducible refine bl_step ?_ HB.out)))⟩
set_option maxRecDepth 100000 in
set_option maxHeartbeats 2000000 in
theorem made_no (k lo hi : Int) (s : ByteArray) (y m o : Bool) (f : Option Addr) (fl fc : Nat) (w : World) (h : rightB k lo hi s y m o fl = false) :
    Calls Tryz.prog 170 #[tv k lo hi s y m o f fl fc] w fun e w' => e = .returned (.tuple #[zv, .bool false]) ∧ Below w.heap.size w w' := by
  go_enter Tryz.func170, Tryz.ntmps170
  go_wp2_with (first
    | (go_at_call 74; (with_reducible refine (right_any _ _ _ _ _ _ _ _ _ _ _).mono ?_); rintro e _ ⟨rfl, hB⟩; (try clear hc hf); (first | (replace HB := Lib.hid (bl_step (by repeat (first | with_reducible exact HB.out | with_reducible refine bl_alloc ?_ | (with_reducible refine bl_set ?_ ?hset; case hset => (first | exact Nat.le_refl _ | (simp; done) | (simp; omega) | omega)))) hB)) | (have HB := Lib.hid hB)); obtain ⟨hc, hf⟩ := bcell HB.out; clear hB))
  refine bodyPost_ret (v := .tuple #[zv, .bool false]) (by simp [results, Tryz.results170, go_sem, hc]) rfl ⟨rfl, (by (repeat (first | with_reducible exact Below.refl _ _ | with_reducible refine bl_alloc ?_ | (with_reducible refine bl_set ?_ ?hset; case hset => (first | exact Nat.le_refl _ | (simp; done) | (simp; omega) | omega)) | with_reducible refine bl_step ?_ HB.out)))⟩

end Go.Proofs.YtddleeenlpigfaaGreatDoor
/- WALKS of Between, Text, Whole. -/
namespace Go.Proofs.YtddleeenlpigfaaGreatDoor
open Go.RowKit
set_option maxRecDepth 100000 in
set_option maxHeartbeats 2000000 in
theorem text_yes (s : ByteArray) (w : World) (h : rightB 3 0 0 s false false false 0 = true) :
    Calls Tryz.prog 172 #[.string s] w fun e w' => e = .returned (.tuple #[tv 3 0 0 s false false false none 0 0, .bool true]) ∧ Below w.heap.size w w' := by
  go_enter Tryz.func172, Tryz.ntmps172
  go_wp2_with ((go_at_call 170; (with_reducible refine (made_yes _ _ _ _ _ _ _ _ _ _ _ h).mono ?_); rintro e _ ⟨rfl, hB⟩; (try clear hc hf); (first | (replace HB := Lib.hid (bl_step (by repeat (first | with_reducible exact HB.out | with_reducible refine bl_alloc ?_ | (with_reducible refine bl_set ?_ ?hset; case hset => (first | exact Nat.le_refl _ | (simp; done) | (simp; omega) | omega)))) hB)) | (have HB := Lib.hid hB)); obtain ⟨hc, hf⟩ := bcell HB.out; clear hB))
  refine bodyPost_ret (v := .tuple #[tv 3 0 0 s false false false none 0 0, .bool true]) (by simp [results, Tryz.results172, go_sem, hc]) rfl ⟨rfl, (by (repeat (first | with_reducible exact Below.refl _ _ | with_reducible refine bl_alloc ?_ | (with_reducible refine bl_set ?_ ?hset; case hset => (first | exact Nat.le_refl _ | (simp; done) | (simp; omega) | omega)) | with_reducible refine bl_step ?_ HB.out)))⟩
set_option maxRecDepth 100000 in
set_option maxHeartbeats 2000000 in
theorem whole_text (w : World) :
    Calls Tryz.prog 171 #[.int .i64 3] w fun e w' => e = .returned (.tuple #[tv 3 0 0 ⟨#[]⟩ true false false none 0 0, .bool true]) ∧ Below w.heap.size w w' := by
  go_enter Tryz.func171, Tryz.ntmps171
  go_wp2_with fail
  refine bodyPost_ret (v := .tuple #[tv 3 0 0 ⟨#[]⟩ true false false none 0 0, .bool true]) (by simp [results, Tryz.results171, go_sem]) rfl ⟨rfl, (by (repeat (first | with_reducible exact Below.refl _ _ | with_reducible refine bl_alloc ?_ | (with_reducible refine bl_set ?_ ?hset; case hset => (first | exact Nat.le_refl _ | (simp; done) | (simp; omega) | omega)) | with_reducible refine bl_step ?_ HB.out)))⟩
end Go.Proofs.YtddleeenlpigfaaGreatDoor
/- WALKS of common: numbers and booleans. -/
namespace Go.Proofs.YtddleeenlpigfaaGreatDoor
open Go.RowKit
set_option maxRecDepth 100000 in
set_option maxHeartbeats 2000000 in
theorem common_num_yes (k lo1 hi1 : Int) (s1 : ByteArray) (y1 m1 : Bool) (f1 : Option Addr) (fc1 : Nat) (lo2 hi2 : Int) (s2 : ByteArray) (y2 m2 : Bool) (f2 : Option Addr) (fc2 : Nat) (w : World) (hk : k ≠ 3) (h : rightB k (max lo1 lo2) (min hi1 hi2) ⟨#[]⟩ false false false 0 = true) :
    Calls Tryz.prog 148 #[tv k lo1 hi1 s1 y1 m1 false f1 0 fc1, tv k lo2 hi2 s2 y2 m2 false f2 0 fc2] w fun e w' => e = .returned (.tuple #[tv k (max lo1 lo2) (min hi1 hi2) ⟨#[]⟩ false false false none 0 0, .bool true]) ∧ Below w.heap.size w w' := by
  have hk' : (k == 3) = false := by simpa using hk
  have hk2 : (k != 3) = true := by simpa using hk
  clear hk
  by_cases h1 : lo1 < lo2 <;> by_cases h2 : hi1 ≤ hi2
  · rw [show max lo1 lo2 = lo2 by omega, show min hi1 hi2 = hi1 by omega] at *
    have HM := fun W => Lib.hid (made_yes _ _ _ _ _ _ _ none 0 0 W h)
    clear h
    go_enter Tryz.func148, Tryz.ntmps148
    go_wp2_with ((go_at_call 170; (with_reducible refine ((HM _).out).mono ?_); rintro e _ ⟨rfl, hB⟩; (try clear hc hf); (first | (replace HB := Lib.hid (bl_step (by repeat (first | with_reducible exact HB.out | with_reducible refine bl_alloc ?_ | (with_reducible refine bl_set ?_ ?hset; case hset => (first | exact Nat.le_refl _ | (simp; done) | (simp; omega) | omega)))) hB)) | (have HB := Lib.hid hB)); obtain ⟨hc, hf⟩ := bcell HB.out; clear hB))
    refine bodyPost_ret (v := .tuple #[tv k lo2 hi1 ⟨#[]⟩ false false false none 0 0, .bool true]) (by simp [results, Tryz.results148, go_sem, hc]) rfl ⟨rfl, (by (repeat (first | with_reducible exact Below.refl _ _ | with_reducible refine bl_alloc ?_ | (with_reducible refine bl_set ?_ ?hset; case hset => (first | exact Nat.le_refl _ | (simp; done) | (simp; omega) | omega)) | with_reducible refine bl_step ?_ HB.out)))⟩
  · rw [show max lo1 lo2 = lo2 by omega, show min hi1 hi2 = hi2 by omega] at *
    have HM := fun W => Lib.hid (made_yes _ _ _ _ _ _ _ none 0 0 W h)
    clear h
    go_enter Tryz.func148, Tryz.ntmps148
    go_wp2_with ((go_at_call 170; (with_reducible refine ((HM _).out).mono ?_); rintro e _ ⟨rfl, hB⟩; (try clear hc hf); (first | (replace HB := Lib.hid (bl_step (by repeat (first | with_reducible exact HB.out | with_reducible refine bl_alloc ?_ | (with_reducible refine bl_set ?_ ?hset; case hset => (first | exact Nat.le_refl _ | (simp; done) | (simp; omega) | omega)))) hB)) | (have HB := Lib.hid hB)); obtain ⟨hc, hf⟩ := bcell HB.out; clear hB))
    refine bodyPost_ret (v := .tuple #[tv k lo2 hi2 ⟨#[]⟩ false false false none 0 0, .bool true]) (by simp [results, Tryz.results148, go_sem, hc]) rfl ⟨rfl, (by (repeat (first | with_reducible exact Below.refl _ _ | with_reducible refine bl_alloc ?_ | (with_reducible refine bl_set ?_ ?hset; case hset => (first | exact Nat.le_refl _ | (simp; done) | (simp; omega) | omega)) | with_reducible refine bl_step ?_ HB.out)))⟩
  · rw [show max lo1 lo2 = lo1 by omega, show min hi1 hi2 = hi1 by omega] at *
    have HM := fun W => Lib.hid (made_yes _ _ _ _ _ _ _ none 0 0 W h)
    clear h
    go_enter Tryz.func148, Tryz.ntmps148
    go_wp2_with ((go_at_call 170; (with_reducible refine ((HM _).out).mono ?_); rintro e _ ⟨rfl, hB⟩; (try clear hc hf); (first | (replace HB := Lib.hid (bl_step (by repeat (first | with_reducible exact HB.out | with_reducible refine bl_alloc ?_ | (with_reducible refine bl_set ?_ ?hset; case hset => (first | exact Nat.le_refl _ | (simp; done) | (simp; omega) | omega)))) hB)) | (have HB := Lib.hid hB)); obtain ⟨hc, hf⟩ := bcell HB.out; clear hB))
    refine bodyPost_ret (v := .tuple #[tv k lo1 hi1 ⟨#[]⟩ false false false none 0 0, .bool true]) (by simp [results, Tryz.results148, go_sem, hc]) rfl ⟨rfl, (by (repeat (first | with_reducible exact Below.refl _ _ | with_reducible refine bl_alloc ?_ | (with_reducible refine bl_set ?_ ?hset; case hset => (first | exact Nat.le_refl _ | (simp; done) | (simp; omega) | omega)) | with_reducible refine bl_step ?_ HB.out)))⟩
  · rw [show max lo1 lo2 = lo1 by omega, show min hi1 hi2 = hi2 by omega] at *
    have HM := fun W => Lib.hid (made_yes _ _ _ _ _ _ _ none 0 0 W h)
    clear h
    go_enter Tryz.func148, Tryz.ntmps148
    go_wp2_with ((go_at_call 170; (with_reducible refine ((HM _).out).mono ?_); rintro e _ ⟨rfl, hB⟩; (try clear hc hf); (first | (replace HB := Lib.hid (bl_step (by repeat (first | with_reducible exact HB.out | with_reducible refine bl_alloc ?_ | (with_reducible refine bl_set ?_ ?hset; case hset => (first | exact Nat.le_refl _ | (simp; done) | (simp; omega) | omega)))) hB)) | (have HB := Lib.hid hB)); obtain ⟨hc, hf⟩ := bcell HB.out; clear hB))
    refine bodyPost_ret (v := .tuple #[tv k lo1 hi2 ⟨#[]⟩ false false false none 0 0, .bool true]) (by simp [results, Tryz.results148, go_sem, hc]) rfl ⟨rfl, (by (repeat (first | with_reducible exact Below.refl _ _ | with_reducible refine bl_alloc ?_ | (with_reducible refine bl_set ?_ ?hset; case hset => (first | exact Nat.le_refl _ | (simp; done) | (simp; omega) | omega)) | with_reducible refine bl_step ?_ HB.out)))⟩
set_option maxRecDepth 100000 in
set_option maxHeartbeats 2000000 in
theorem common_num_no (k lo1 hi1 : Int) (s1 : ByteArray) (y1 m1 : Bool) (f1 : Option Addr) (fc1 : Nat) (lo2 hi2 : Int) (s2 : ByteArray) (y2 m2 : Bool) (f2 : Option Addr) (fc2 : Nat) (w : World) (hk : k ≠ 3) (h : rightB k (max lo1 lo2) (min hi1 hi2) ⟨#[]⟩ false false false 0 = false) :
    Calls Tryz.prog 148 #[tv k lo1 hi1 s1 y1 m1 false f1 0 fc1, tv k lo2 hi2 s2 y2 m2 false f2 0 fc2] w fun e w' => e = .returned (.tuple #[zv, .bool false]) ∧ Below w.heap.size w w' := by
  have hk' : (k == 3) = false := by simpa using hk
  have hk2 : (k != 3) = true := by simpa using hk
  clear hk
  by_cases h1 : lo1 < lo2 <;> by_cases h2 : hi1 ≤ hi2
  · rw [show max lo1 lo2 = lo2 by omega, show min hi1 hi2 = hi1 by omega] at *
    have HM := fun W => Lib.hid (made_no _ _ _ _ _ _ _ none 0 0 W h)
    clear h
    go_enter Tryz.func148, Tryz.ntmps148
    go_wp2_with ((go_at_call 170; (with_reducible refine ((HM _).out).mono ?_); rintro e _ ⟨rfl, hB⟩; (try clear hc hf); (first | (replace HB := Lib.hid (bl_step (by repeat (first | with_reducible exact HB.out | with_reducible refine bl_alloc ?_ | (with_reducible refine bl_set ?_ ?hset; case hset => (first | exact Nat.le_refl _ | (simp; done) | (simp; omega) | omega)))) hB)) | (have HB := Lib.hid hB)); obtain ⟨hc, hf⟩ := bcell HB.out; clear hB))
    refine bodyPost_ret (v := .tuple #[zv, .bool false]) (by simp [results, Tryz.results148, go_sem, hc]) rfl ⟨rfl, (by (repeat (first | with_reducible exact Below.refl _ _ | with_reducible refine bl_alloc ?_ | (with_reducible refine bl_set ?_ ?hset; case hset => (first | exact Nat.le_refl _ | (simp; done) | (simp; omega) | omega)) | with_reducible refine bl_step ?_ HB.out)))⟩
  · rw [show max lo1 lo2 = lo2 by omega, show min hi1 hi2 = hi2 by omega] at *
    have HM := fun W => Lib.hid (made_no _ _ _ _ _ _ _ none 0 0 W h)
    clear h
    go_enter Tryz.func148, Tryz.ntmps148
    go_wp2_with ((go_at_call 170; (with_reducible refine ((HM _).out).mono ?_); rintro e _ ⟨rfl, hB⟩; (try clear hc hf); (first | (replace HB := Lib.hid (bl_step (by repeat (first | with_reducible exact HB.out | with_reducible refine bl_alloc ?_ | (with_reducible refine bl_set ?_ ?hset; case hset => (first | exact Nat.le_refl _ | (simp; done) | (simp; omega) | omega)))) hB)) | (have HB := Lib.hid hB)); obtain ⟨hc, hf⟩ := bcell HB.out; clear hB))
    refine bodyPost_ret (v := .tuple #[zv, .bool false]) (by simp [results, Tryz.results148, go_sem, hc]) rfl ⟨rfl, (by (repeat (first | with_reducible exact Below.refl _ _ | with_reducible refine bl_alloc ?_ | (with_reducible refine bl_set ?_ ?hset; case hset => (first | exact Nat.le_refl _ | (simp; done) | (simp; omega) | omega)) | with_reducible refine bl_step ?_ HB.out)))⟩
  · rw [show max lo1 lo2 = lo1 by omega, show min hi1 hi2 = hi1 by omega] at *
    have HM := fun W => Lib.hid (made_no _ _ _ _ _ _ _ none 0 0 W h)
    clear h
    go_enter Tryz.func148, Tryz.ntmps148
    go_wp2_with ((go_at_call 170; (with_reducible refine ((HM _).out).mono ?_); rintro e _ ⟨rfl, hB⟩; (try clear hc hf); (first | (replace HB := Lib.hid (bl_step (by repeat (first | with_reducible exact HB.out | with_reducible refine bl_alloc ?_ | (with_reducible refine bl_set ?_ ?hset; case hset => (first | exact Nat.le_refl _ | (simp; done) | (simp; omega) | omega)))) hB)) | (have HB := Lib.hid hB)); obtain ⟨hc, hf⟩ := bcell HB.out; clear hB))
    refine bodyPost_ret (v := .tuple #[zv, .bool false]) (by simp [results, Tryz.results148, go_sem, hc]) rfl ⟨rfl, (by (repeat (first | with_reducible exact Below.refl _ _ | with_reducible refine bl_alloc ?_ | (with_reducible refine bl_set ?_ ?hset; case hset => (first | exact Nat.le_refl _ | (simp; done) | (simp; omega) | omega)) | with_reducible refine bl_step ?_ HB.out)))⟩
  · rw [show max lo1 lo2 = lo1 by omega, show min hi1 hi2 = hi2 by omega] at *
    have HM := fun W => Lib.hid (made_no _ _ _ _ _ _ _ none 0 0 W h)
    clear h
    go_enter Tryz.func148, Tryz.ntmps148
    go_wp2_with ((go_at_call 170; (with_reducible refine ((HM _).out).mono ?_); rintro e _ ⟨rfl, hB⟩; (try clear hc hf); (first | (replace HB := Lib.hid (bl_step (by repeat (first | with_reducible exact HB.out | with_reducible refine bl_alloc ?_ | (with_reducible refine bl_set ?_ ?hset; case hset => (first | exact Nat.le_refl _ | (simp; done) | (simp; omega) | omega)))) hB)) | (have HB := Lib.hid hB)); obtain ⟨hc, hf⟩ := bcell HB.out; clear hB))
    refine bodyPost_ret (v := .tuple #[zv, .bool false]) (by simp [results, Tryz.results148, go_sem, hc]) rfl ⟨rfl, (by (repeat (first | with_reducible exact Below.refl _ _ | with_reducible refine bl_alloc ?_ | (with_reducible refine bl_set ?_ ?hset; case hset => (first | exact Nat.le_refl _ | (simp; done) | (simp; omega) | omega)) | with_reducible refine bl_step ?_ HB.out)))⟩

end Go.Proofs.YtddleeenlpigfaaGreatDoor
