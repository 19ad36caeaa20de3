/- WALKS of Meet: what is in both. -/
import Derived.Test.YtkmbhjcedkojjaaL
import Derived.Test.YtkmbhjcedkojjaaK
namespace Go.Proofs.Ytkmbhjcedkojjaa
open Go.RowKit
set_option maxRecDepth 100000 in
set_option maxHeartbeats 2000000 in
theorem meet_some (k lo1 hi1 : Int) (s1 : ByteArray) (y1 m1 : Bool) (f1 : Option Addr) (fc1 : Nat) (lo2 hi2 : Int) (s2 : ByteArray) (y2 m2 : Bool) (f2 : Option Addr) (fc2 : Nat) (w : World) (h1 : RightP k lo1 hi1 s1 y1 m1 false 0) (h2 : RightP k lo2 hi2 s2 y2 m2 false 0) {lo hi : Int} {s : ByteArray} {y : Bool} (h : commonF k lo1 hi1 s1 y1 lo2 hi2 s2 y2 = some (lo, hi, s, y)) :
    Calls Try.prog 24 #[tv k lo1 hi1 s1 y1 m1 false f1 0 fc1, tv k lo2 hi2 s2 y2 m2 false f2 0 fc2] w fun e w' => e = .returned (.tuple #[tv k lo hi s y ((m1 || m2) && !singleB k lo hi y) false none 0 0, .bool true]) ∧ Below w.heap.size w w' := by
  have HC := fun W => Lib.hid (common_some k lo1 hi1 s1 y1 m1 f1 fc1 lo2 hi2 s2 y2 m2 f2 fc2 W h1 h2 h)
  have H1 := fun W => Lib.hid (right_any k lo1 hi1 s1 y1 m1 false f1 0 fc1 W)
  have H2 := fun W => Lib.hid (right_any k lo2 hi2 s2 y2 m2 false f2 0 fc2 W)
  have HL := fun W => Lib.hid (later_nil k lo hi s y false false W)
  rw [rightB_iff.2 h1] at H1
  rw [rightB_iff.2 h2] at H2
  rw [rightB_iff.2 (commonF_right h1 h2 h)] at HL
  generalize singleB k lo hi y = g at *
  rw [Bool.true_and, Bool.false_or] at HL
  clear h h1 h2
  cases m1 <;> cases m2
  all_goals
    go_enter Try.func24, Try.ntmps24
    go_wp2_with (first
      | (go_at_call 13; (with_reducible refine ((H1 _).out).mono ?_); rintro e w1 ⟨rfl, hB⟩; (try clear hc hf); (first | (replace HB := Lib.hid (bl_step HB.out hB)) | (replace HB := Lib.hid (bl_step (bl_alloc HB.out) hB)) | (replace HB := Lib.hid (bl_step (bl_alloc (bl_alloc HB.out)) hB)) | (replace HB := Lib.hid (bl_step (by repeat (first | with_reducible exact HB.out | with_reducible refine bl_alloc ?_ | (with_reducible refine bl_set ?_ ?hset; case hset => (first | with_reducible exact Nat.le_refl _ | (simp; done) | (simp; omega) | omega)))) hB)) | (have HB := Lib.hid hB)); obtain ⟨hc, hf⟩ := bcell HB.out; clear hB; have hz := HB.out.size; simp at hz; have hz2 : w.heap.size + 1 + 1 < w1.heap.size := (by omega); have hz1 : w.heap.size + 1 < w1.heap.size := (by omega); have hz0 : w.heap.size < w1.heap.size := (by omega); clear hz)
      | (go_at_call 13; (with_reducible refine ((H2 _).out).mono ?_); rintro e w1 ⟨rfl, hB⟩; (try clear hc hf); (first | (replace HB := Lib.hid (bl_step HB.out hB)) | (replace HB := Lib.hid (bl_step (bl_alloc HB.out) hB)) | (replace HB := Lib.hid (bl_step (bl_alloc (bl_alloc HB.out)) hB)) | (replace HB := Lib.hid (bl_step (by repeat (first | with_reducible exact HB.out | with_reducible refine bl_alloc ?_ | (with_reducible refine bl_set ?_ ?hset; case hset => (first | with_reducible exact Nat.le_refl _ | (simp; done) | (simp; omega) | omega)))) hB)) | (have HB := Lib.hid hB)); obtain ⟨hc, hf⟩ := bcell HB.out; clear hB; have hz := HB.out.size; simp at hz; have hz2 : w.heap.size + 1 + 1 < w1.heap.size := (by omega); have hz1 : w.heap.size + 1 < w1.heap.size := (by omega); have hz0 : w.heap.size < w1.heap.size := (by omega); clear hz)
      | (go_at_call 48; (with_reducible refine ((HC _).out).mono ?_); rintro e w1 ⟨rfl, hB⟩; (try clear hc hf); (first | (replace HB := Lib.hid (bl_step HB.out hB)) | (replace HB := Lib.hid (bl_step (bl_alloc HB.out) hB)) | (replace HB := Lib.hid (bl_step (bl_alloc (bl_alloc HB.out)) hB)) | (replace HB := Lib.hid (bl_step (by repeat (first | with_reducible exact HB.out | with_reducible refine bl_alloc ?_ | (with_reducible refine bl_set ?_ ?hset; case hset => (first | with_reducible exact Nat.le_refl _ | (simp; done) | (simp; omega) | omega)))) hB)) | (have HB := Lib.hid hB)); obtain ⟨hc, hf⟩ := bcell HB.out; clear hB; have hz := HB.out.size; simp at hz; have hz2 : w.heap.size + 1 + 1 < w1.heap.size := (by omega); have hz1 : w.heap.size + 1 < w1.heap.size := (by omega); have hz0 : w.heap.size < w1.heap.size := (by omega); clear hz)
      | (go_at_call 22; (with_reducible refine ((HL _).out).mono ?_); rintro e w1 ⟨rfl, hB⟩; (try clear hc hf); (first | (replace HB := Lib.hid (bl_step HB.out hB)) | (replace HB := Lib.hid (bl_step (bl_alloc HB.out) hB)) | (replace HB := Lib.hid (bl_step (bl_alloc (bl_alloc HB.out)) hB)) | (replace HB := Lib.hid (bl_step (by repeat (first | with_reducible exact HB.out | with_reducible refine bl_alloc ?_ | (with_reducible refine bl_set ?_ ?hset; case hset => (first | with_reducible exact Nat.le_refl _ | (simp; done) | (simp; omega) | omega)))) hB)) | (have HB := Lib.hid hB)); obtain ⟨hc, hf⟩ := bcell HB.out; obtain ⟨hd, hg⟩ := bcell hB; clear hB; have hz := HB.out.size; simp at hz; have hz2 : w.heap.size + 1 + 1 < w1.heap.size := (by omega); have hz1 : w.heap.size + 1 < w1.heap.size := (by omega); have hz0 : w.heap.size < w1.heap.size := (by omega); clear hz))
  · refine bodyPost_ret (v := .tuple #[tv k lo hi s y false false none 0 0, .bool true]) (by simp [results, Try.results24, go_sem, hc, hz2]) rfl ⟨rfl, (by (repeat (first | with_reducible exact Below.refl _ _ | with_reducible refine bl_alloc ?_ | (with_reducible refine bl_set ?_ ?hset; case hset => (first | with_reducible exact Nat.le_refl _ | (simp; done) | (simp; omega) | omega)) | with_reducible refine bl_step ?_ HB.out)))⟩
  all_goals refine bodyPost_ret (v := .tuple #[tv k lo hi s y (!g) false none 0 0, .bool true]) (by simp [results, Try.results24, go_sem, hc]) rfl ⟨rfl, (by (repeat (first | with_reducible exact Below.refl _ _ | with_reducible refine bl_alloc ?_ | (with_reducible refine bl_set ?_ ?hset; case hset => (first | with_reducible exact Nat.le_refl _ | (simp; done) | (simp; omega) | omega)) | with_reducible refine bl_step ?_ HB.out)))⟩

end Go.Proofs.Ytkmbhjcedkojjaa
