/- WALKS of Below. -/
import Derived.Test.YtkmbhjcedkojjaaN
import Derived.Test.YtkmbhjcedkojjaaM
import Derived.Test.YtkmbhjcedkojjaaU
namespace Go.Proofs.Ytkmbhjcedkojjaa
open Go.RowKit
set_option maxRecDepth 100000 in
set_option maxHeartbeats 2000000 in
theorem below_no (k1 lo1 hi1 : Int) (s1 : ByteArray) (y1 m1 o1 : Bool) (f1 : Option Addr) (fl1 fc1 : Nat) (k2 lo2 hi2 : Int) (s2 : ByteArray) (y2 m2 o2 : Bool) (f2 : Option Addr) (fl2 fc2 : Nat) (w : World) (h : ∀ W, Calls Try.prog 24 #[tv k1 lo1 hi1 s1 y1 m1 o1 f1 fl1 fc1, tv k2 lo2 hi2 s2 y2 m2 o2 f2 fl2 fc2] W fun e w' => e = .returned (.tuple #[zv, .bool false]) ∧ Below W.heap.size W w') :
    Calls Try.prog 26 #[tv k1 lo1 hi1 s1 y1 m1 o1 f1 fl1 fc1, tv k2 lo2 hi2 s2 y2 m2 o2 f2 fl2 fc2] w fun e w' => e = .returned (.bool false) ∧ Below w.heap.size w w' := by
  have HM := fun W => Lib.hid (h W)
  clear h
  go_enter Try.func26, Try.ntmps26
  go_wp2_with ((go_at_call 24; (with_reducible refine ((HM _).out).mono ?_); rintro e w1 ⟨rfl, hB⟩; (try clear hc hf); (first | (replace HB := Lib.hid (bl_step HB.out hB)) | (replace HB := Lib.hid (bl_step (bl_alloc HB.out) hB)) | (replace HB := Lib.hid (bl_step (bl_alloc (bl_alloc HB.out)) hB)) | (replace HB := Lib.hid (bl_step (by repeat (first | with_reducible exact HB.out | with_reducible refine bl_alloc ?_ | (with_reducible refine bl_set ?_ ?hset; case hset => (first | with_reducible exact Nat.le_refl _ | (simp; done) | (simp; omega) | omega)))) hB)) | (have HB := Lib.hid hB)); obtain ⟨hc, hf⟩ := bcell HB.out; clear hB; have hz := HB.out.size; simp at hz; have hz1 : w.heap.size + 1 < w1.heap.size := (by omega); have hz0 : w.heap.size < w1.heap.size := (by omega); clear hz))
  go_ret
  exact ⟨rfl, (by (repeat (first | with_reducible exact Below.refl _ _ | with_reducible refine bl_alloc ?_ | (with_reducible refine bl_set ?_ ?hset; case hset => (first | with_reducible exact Nat.le_refl _ | (simp; done) | (simp; omega) | omega)) | with_reducible refine bl_step ?_ HB.out)))⟩
set_option maxRecDepth 100000 in
set_option maxHeartbeats 2000000 in
theorem below_yes (k1 lo1 hi1 : Int) (s1 : ByteArray) (y1 m1 o1 : Bool) (f1 : Option Addr) (fl1 fc1 : Nat) (k2 lo2 hi2 : Int) (s2 : ByteArray) (y2 m2 o2 : Bool) (f2 : Option Addr) (fl2 fc2 : Nat) (k lo hi : Int) (s : ByteArray) (y m o : Bool) (f : Option Addr) (fl fc : Nat) (w : World) (h : ∀ W, Calls Try.prog 24 #[tv k1 lo1 hi1 s1 y1 m1 o1 f1 fl1 fc1, tv k2 lo2 hi2 s2 y2 m2 o2 f2 fl2 fc2] W fun e w' => e = .returned (.tuple #[tv k lo hi s y m o f fl fc, .bool true]) ∧ Below W.heap.size W w') :
    Calls Try.prog 26 #[tv k1 lo1 hi1 s1 y1 m1 o1 f1 fl1 fc1, tv k2 lo2 hi2 s2 y2 m2 o2 f2 fl2 fc2] w fun e w' => e = .returned (.bool (decide (SameP k lo hi s y m o fl k1 lo1 hi1 s1 y1 m1 o1 fl1))) ∧ Below w.heap.size w w' := by
  have HM := fun W => Lib.hid (h W)
  have HS := fun W => Lib.hid (same_any k lo hi s y m o f fl fc k1 lo1 hi1 s1 y1 m1 o1 f1 fl1 fc1 W)
  generalize decide (SameP k lo hi s y m o fl k1 lo1 hi1 s1 y1 m1 o1 fl1) = r at *
  clear h
  go_enter Try.func26, Try.ntmps26
  go_wp2_with (first
    | (go_at_call 24; (with_reducible refine ((HM _).out).mono ?_); rintro e w1 ⟨rfl, hB⟩; (try clear hc hf); (first | (replace HB := Lib.hid (bl_step HB.out hB)) | (replace HB := Lib.hid (bl_step (bl_alloc HB.out) hB)) | (replace HB := Lib.hid (bl_step (bl_alloc (bl_alloc HB.out)) hB)) | (replace HB := Lib.hid (bl_step (by repeat (first | with_reducible exact HB.out | with_reducible refine bl_alloc ?_ | (with_reducible refine bl_set ?_ ?hset; case hset => (first | with_reducible exact Nat.le_refl _ | (simp; done) | (simp; omega) | omega)))) hB)) | (have HB := Lib.hid hB)); obtain ⟨hc, hf⟩ := bcell HB.out; clear hB; have hz := HB.out.size; simp at hz; have hz1 : w.heap.size + 1 < w1.heap.size := (by omega); have hz0 : w.heap.size < w1.heap.size := (by omega); clear hz)
    | (go_at_call 16; (with_reducible refine ((HS _).out).mono ?_); rintro e w2 ⟨rfl, hB⟩; (try clear hc hf); (first | (replace HB := Lib.hid (bl_step HB.out hB)) | (replace HB := Lib.hid (bl_step (bl_alloc HB.out) hB)) | (replace HB := Lib.hid (bl_step (bl_alloc (bl_alloc HB.out)) hB)) | (replace HB := Lib.hid (bl_step (by repeat (first | with_reducible exact HB.out | with_reducible refine bl_alloc ?_ | (with_reducible refine bl_set ?_ ?hset; case hset => (first | with_reducible exact Nat.le_refl _ | (simp; done) | (simp; omega) | omega)))) hB)) | (have HB := Lib.hid hB)); obtain ⟨hc, hf⟩ := bcell HB.out; clear hB; have hz := HB.out.size; simp at hz; have hz1 : w.heap.size + 1 < w2.heap.size := (by omega); have hz0 : w.heap.size < w2.heap.size := (by omega); clear hz))
  go_ret
  exact ⟨rfl, (by (repeat (first | with_reducible exact Below.refl _ _ | with_reducible refine bl_alloc ?_ | (with_reducible refine bl_set ?_ ?hset; case hset => (first | with_reducible exact Nat.le_refl _ | (simp; done) | (simp; omega) | omega)) | with_reducible refine bl_step ?_ HB.out)))⟩
set_option maxRecDepth 100000 in
set_option maxHeartbeats 2000000 in
theorem rbelow_no (k1 lo1 hi1 : Int) (s1 : ByteArray) (y1 m1 o1 : Bool) (f1 : Option Addr) (fl1 fc1 : Nat) (k2 lo2 hi2 : Int) (s2 : ByteArray) (y2 m2 o2 : Bool) (f2 : Option Addr) (fl2 fc2 : Nat) (w : World) (h : ∀ W, Calls Try.prog 25 #[tv k1 lo1 hi1 s1 y1 m1 o1 f1 fl1 fc1, tv k2 lo2 hi2 s2 y2 m2 o2 f2 fl2 fc2] W fun e w' => e = .returned (.tuple #[zv, .bool false]) ∧ Below W.heap.size W w') :
    Calls Try.prog 27 #[tv k1 lo1 hi1 s1 y1 m1 o1 f1 fl1 fc1, tv k2 lo2 hi2 s2 y2 m2 o2 f2 fl2 fc2] w fun e w' => e = .returned (.bool false) ∧ Below w.heap.size w w' := by
  have HM := fun W => Lib.hid (h W)
  clear h
  go_enter Try.func27, Try.ntmps27
  go_wp2_with ((go_at_call 25; (with_reducible refine ((HM _).out).mono ?_); rintro e w1 ⟨rfl, hB⟩; (try clear hc hf); (first | (replace HB := Lib.hid (bl_step HB.out hB)) | (replace HB := Lib.hid (bl_step (bl_alloc HB.out) hB)) | (replace HB := Lib.hid (bl_step (bl_alloc (bl_alloc HB.out)) hB)) | (replace HB := Lib.hid (bl_step (by repeat (first | with_reducible exact HB.out | with_reducible refine bl_alloc ?_ | (with_reducible refine bl_set ?_ ?hset; case hset => (first | with_reducible exact Nat.le_refl _ | (simp; done) | (simp; omega) | omega)))) hB)) | (have HB := Lib.hid hB)); obtain ⟨hc, hf⟩ := bcell HB.out; clear hB; have hz := HB.out.size; simp at hz; have hz1 : w.heap.size + 1 < w1.heap.size := (by omega); have hz0 : w.heap.size < w1.heap.size := (by omega); clear hz))
  go_ret
  exact ⟨rfl, (by (repeat (first | with_reducible exact Below.refl _ _ | with_reducible refine bl_alloc ?_ | (with_reducible refine bl_set ?_ ?hset; case hset => (first | with_reducible exact Nat.le_refl _ | (simp; done) | (simp; omega) | omega)) | with_reducible refine bl_step ?_ HB.out)))⟩
set_option maxRecDepth 100000 in
set_option maxHeartbeats 2000000 in
theorem rbelow_yes (k1 lo1 hi1 : Int) (s1 : ByteArray) (y1 m1 o1 : Bool) (f1 : Option Addr) (fl1 fc1 : Nat) (k2 lo2 hi2 : Int) (s2 : ByteArray) (y2 m2 o2 : Bool) (f2 : Option Addr) (fl2 fc2 : Nat) (k lo hi : Int) (s : ByteArray) (y m o : Bool) (f : Option Addr) (fl fc : Nat) (w : World) (h : ∀ W, Calls Try.prog 25 #[tv k1 lo1 hi1 s1 y1 m1 o1 f1 fl1 fc1, tv k2 lo2 hi2 s2 y2 m2 o2 f2 fl2 fc2] W fun e w' => e = .returned (.tuple #[tv k lo hi s y m o f fl fc, .bool true]) ∧ Below W.heap.size W w') :
    Calls Try.prog 27 #[tv k1 lo1 hi1 s1 y1 m1 o1 f1 fl1 fc1, tv k2 lo2 hi2 s2 y2 m2 o2 f2 fl2 fc2] w fun e w' => e = .returned (.bool (decide (SameP k lo hi s y m o fl k1 lo1 hi1 s1 y1 m1 o1 fl1))) ∧ Below w.heap.size w w' := by
  have HM := fun W => Lib.hid (h W)
  have HS := fun W => Lib.hid (rsame_any k lo hi s y m o f fl fc k1 lo1 hi1 s1 y1 m1 o1 f1 fl1 fc1 W)
  generalize decide (SameP k lo hi s y m o fl k1 lo1 hi1 s1 y1 m1 o1 fl1) = r at *
  clear h
  go_enter Try.func27, Try.ntmps27
  go_wp2_with (first
    | (go_at_call 25; (with_reducible refine ((HM _).out).mono ?_); rintro e w1 ⟨rfl, hB⟩; (try clear hc hf); (first | (replace HB := Lib.hid (bl_step HB.out hB)) | (replace HB := Lib.hid (bl_step (bl_alloc HB.out) hB)) | (replace HB := Lib.hid (bl_step (bl_alloc (bl_alloc HB.out)) hB)) | (replace HB := Lib.hid (bl_step (by repeat (first | with_reducible exact HB.out | with_reducible refine bl_alloc ?_ | (with_reducible refine bl_set ?_ ?hset; case hset => (first | with_reducible exact Nat.le_refl _ | (simp; done) | (simp; omega) | omega)))) hB)) | (have HB := Lib.hid hB)); obtain ⟨hc, hf⟩ := bcell HB.out; clear hB; have hz := HB.out.size; simp at hz; have hz1 : w.heap.size + 1 < w1.heap.size := (by omega); have hz0 : w.heap.size < w1.heap.size := (by omega); clear hz)
    | (go_at_call 17; (with_reducible refine ((HS _).out).mono ?_); rintro e w2 ⟨rfl, hB⟩; (try clear hc hf); (first | (replace HB := Lib.hid (bl_step HB.out hB)) | (replace HB := Lib.hid (bl_step (bl_alloc HB.out) hB)) | (replace HB := Lib.hid (bl_step (bl_alloc (bl_alloc HB.out)) hB)) | (replace HB := Lib.hid (bl_step (by repeat (first | with_reducible exact HB.out | with_reducible refine bl_alloc ?_ | (with_reducible refine bl_set ?_ ?hset; case hset => (first | with_reducible exact Nat.le_refl _ | (simp; done) | (simp; omega) | omega)))) hB)) | (have HB := Lib.hid hB)); obtain ⟨hc, hf⟩ := bcell HB.out; clear hB; have hz := HB.out.size; simp at hz; have hz1 : w.heap.size + 1 < w2.heap.size := (by omega); have hz0 : w.heap.size < w2.heap.size := (by omega); clear hz))
  go_ret
  exact ⟨rfl, (by (repeat (first | with_reducible exact Below.refl _ _ | with_reducible refine bl_alloc ?_ | (with_reducible refine bl_set ?_ ?hset; case hset => (first | with_reducible exact Nat.le_refl _ | (simp; done) | (simp; omega) | omega)) | with_reducible refine bl_step ?_ HB.out)))⟩

end Go.Proofs.Ytkmbhjcedkojjaa
