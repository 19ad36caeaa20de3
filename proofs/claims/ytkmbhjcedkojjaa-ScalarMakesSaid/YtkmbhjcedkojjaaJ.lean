/- WALKS of common: texts. -/
import Derived.Test.YtkmbhjcedkojjaaG
namespace Go.Proofs.Ytkmbhjcedkojjaa
open Go.RowKit
set_option maxRecDepth 100000 in
set_option maxHeartbeats 2000000 in
theorem common_any (lo1 hi1 : Int) (s1 : ByteArray) (m1 : Bool) (f1 : Option Addr) (fc1 : Nat) (lo2 hi2 : Int) (s2 : ByteArray) (m2 : Bool) (f2 : Option Addr) (fc2 : Nat) (w : World) :
    Calls Try.prog 48 #[tv 3 lo1 hi1 s1 true m1 false f1 0 fc1, tv 3 lo2 hi2 s2 true m2 false f2 0 fc2] w fun e w' => e = .returned (.tuple #[tv 3 0 0 ⟨#[]⟩ true false false none 0 0, .bool true]) ∧ Below w.heap.size w w' := by
  go_enter Try.func48, Try.ntmps48
  go_wp2_with ((go_at_call 18; (with_reducible refine (whole_text _).mono ?_); rintro e _ ⟨rfl, hB⟩; (try clear hc hf); (first | (replace HB := Lib.hid (bl_step (by repeat (first | with_reducible exact HB.out | with_reducible refine bl_alloc ?_ | (with_reducible refine bl_set ?_ ?hset; case hset => (first | exact Nat.le_refl _ | (simp; done) | (simp; omega) | omega)))) hB)) | (have HB := Lib.hid hB)); obtain ⟨hc, hf⟩ := bcell HB.out; clear hB))
  refine bodyPost_ret (v := .tuple #[tv 3 0 0 ⟨#[]⟩ true false false none 0 0, .bool true]) (by simp [results, Try.results48, go_sem, hc]) rfl ⟨rfl, (by (repeat (first | with_reducible exact Below.refl _ _ | with_reducible refine bl_alloc ?_ | (with_reducible refine bl_set ?_ ?hset; case hset => (first | exact Nat.le_refl _ | (simp; done) | (simp; omega) | omega)) | with_reducible refine bl_step ?_ HB.out)))⟩
set_option maxRecDepth 100000 in
set_option maxHeartbeats 2000000 in
theorem common_left (lo1 hi1 : Int) (s1 : ByteArray) (m1 : Bool) (f1 : Option Addr) (fc1 : Nat) (lo2 hi2 : Int) (s2 : ByteArray) (m2 : Bool) (f2 : Option Addr) (fc2 : Nat) (w : World) (h : rightB 3 0 0 s2 false false false 0 = true) :
    Calls Try.prog 48 #[tv 3 lo1 hi1 s1 true m1 false f1 0 fc1, tv 3 lo2 hi2 s2 false m2 false f2 0 fc2] w fun e w' => e = .returned (.tuple #[tv 3 0 0 s2 false false false none 0 0, .bool true]) ∧ Below w.heap.size w w' := by
  have HT := fun W => Lib.hid (text_yes s2 W h)
  clear h
  go_enter Try.func48, Try.ntmps48
  go_wp2_with ((go_at_call 20; (with_reducible refine ((HT _).out).mono ?_); rintro e _ ⟨rfl, hB⟩; (try clear hc hf); (first | (replace HB := Lib.hid (bl_step (by repeat (first | with_reducible exact HB.out | with_reducible refine bl_alloc ?_ | (with_reducible refine bl_set ?_ ?hset; case hset => (first | exact Nat.le_refl _ | (simp; done) | (simp; omega) | omega)))) hB)) | (have HB := Lib.hid hB)); obtain ⟨hc, hf⟩ := bcell HB.out; clear hB))
  refine bodyPost_ret (v := .tuple #[tv 3 0 0 s2 false false false none 0 0, .bool true]) (by simp [results, Try.results48, go_sem, hc]) rfl ⟨rfl, (by (repeat (first | with_reducible exact Below.refl _ _ | with_reducible refine bl_alloc ?_ | (with_reducible refine bl_set ?_ ?hset; case hset => (first | exact Nat.le_refl _ | (simp; done) | (simp; omega) | omega)) | with_reducible refine bl_step ?_ HB.out)))⟩
set_option maxRecDepth 100000 in
set_option maxHeartbeats 2000000 in
theorem common_right (lo1 hi1 : Int) (s1 : ByteArray) (m1 : Bool) (f1 : Option Addr) (fc1 : Nat) (lo2 hi2 : Int) (s2 : ByteArray) (y2 m2 : Bool) (f2 : Option Addr) (fc2 : Nat) (w : World) (h : rightB 3 0 0 s1 false false false 0 = true) (hy : y2 = true ∨ y2 = false ∧ s1 = s2) :
    Calls Try.prog 48 #[tv 3 lo1 hi1 s1 false m1 false f1 0 fc1, tv 3 lo2 hi2 s2 y2 m2 false f2 0 fc2] w fun e w' => e = .returned (.tuple #[tv 3 0 0 s1 false false false none 0 0, .bool true]) ∧ Below w.heap.size w w' := by
  have HT := fun W => Lib.hid (text_yes s1 W h)
  clear h
  rcases hy with rfl | ⟨rfl, rfl⟩
  · go_enter Try.func48, Try.ntmps48
    go_wp2_with ((go_at_call 20; (with_reducible refine ((HT _).out).mono ?_); rintro e _ ⟨rfl, hB⟩; (try clear hc hf); (first | (replace HB := Lib.hid (bl_step (by repeat (first | with_reducible exact HB.out | with_reducible refine bl_alloc ?_ | (with_reducible refine bl_set ?_ ?hset; case hset => (first | exact Nat.le_refl _ | (simp; done) | (simp; omega) | omega)))) hB)) | (have HB := Lib.hid hB)); obtain ⟨hc, hf⟩ := bcell HB.out; clear hB))
    refine bodyPost_ret (v := .tuple #[tv 3 0 0 s1 false false false none 0 0, .bool true]) (by simp [results, Try.results48, go_sem, hc]) rfl ⟨rfl, (by (repeat (first | with_reducible exact Below.refl _ _ | with_reducible refine bl_alloc ?_ | (with_reducible refine bl_set ?_ ?hset; case hset => (first | exact Nat.le_refl _ | (simp; done) | (simp; omega) | omega)) | with_reducible refine bl_step ?_ HB.out)))⟩
  · go_enter Try.func48, Try.ntmps48
    go_wp2_with ((go_at_call 20; (with_reducible refine ((HT _).out).mono ?_); rintro e _ ⟨rfl, hB⟩; (try clear hc hf); (first | (replace HB := Lib.hid (bl_step (by repeat (first | with_reducible exact HB.out | with_reducible refine bl_alloc ?_ | (with_reducible refine bl_set ?_ ?hset; case hset => (first | exact Nat.le_refl _ | (simp; done) | (simp; omega) | omega)))) hB)) | (have HB := Lib.hid hB)); obtain ⟨hc, hf⟩ := bcell HB.out; clear hB))
    refine bodyPost_ret (v := .tuple #[tv 3 0 0 s1 false false false none 0 0, .bool true]) (by simp [results, Try.results48, go_sem, hc]) rfl ⟨rfl, (by (repeat (first | with_reducible exact Below.refl _ _ | with_reducible refine bl_alloc ?_ | (with_reducible refine bl_set ?_ ?hset; case hset => (first | exact Nat.le_refl _ | (simp; done) | (simp; omega) | omega)) | with_reducible refine bl_step ?_ HB.out)))⟩
set_option maxRecDepth 100000 in
set_option maxHeartbeats 2000000 in
theorem common_none (lo1 hi1 : Int) (s1 : ByteArray) (m1 : Bool) (f1 : Option Addr) (fc1 : Nat) (lo2 hi2 : Int) (s2 : ByteArray) (m2 : Bool) (f2 : Option Addr) (fc2 : Nat) (w : World) (hy : s1.toList ≠ s2.toList) :
    Calls Try.prog 48 #[tv 3 lo1 hi1 s1 false m1 false f1 0 fc1, tv 3 lo2 hi2 s2 false m2 false f2 0 fc2] w fun e w' => e = .returned (.tuple #[zv, .bool false]) ∧ Below w.heap.size w w' := by
  have hy' : (s1.toList == s2.toList) = false := by simpa using hy
  go_enter Try.func48, Try.ntmps48
  go_wp2_with fail
  refine bodyPost_ret (v := .tuple #[zv, .bool false]) (by simp [results, Try.results48, go_sem]) rfl ⟨rfl, (by (repeat (first | with_reducible exact Below.refl _ _ | with_reducible refine bl_alloc ?_ | (with_reducible refine bl_set ?_ ?hset; case hset => (first | exact Nat.le_refl _ | (simp; done) | (simp; omega) | omega)) | with_reducible refine bl_step ?_ HB.out)))⟩

end Go.Proofs.Ytkmbhjcedkojjaa
