/- WALK of the law ScalarRights. -/
import Derived.Test.YtkmbhjcedkojjaaZ
import Derived.Test.YtkmbhjcedkojjaaD
import Derived.Test.YtkmbhjcedkojjaaF
import Derived.Test.YtkmbhjcedkojjaaE
namespace Go.Proofs.Ytkmbhjcedkojjaa
open Go.RowKit
set_option maxRecDepth 100000 in
set_option maxHeartbeats 2000000 in
theorem srights_walk (k1 lo1 hi1 : Int) (s1 : ByteArray) (y1 m1 o1 : Bool) (f1 : Option Addr) (fl1 fc1 : Nat) (k2 lo2 hi2 : Int) (s2 : ByteArray) (y2 m2 o2 : Bool) (f2 : Option Addr) (fl2 fc2 : Nat) (w : World) (HA : ∀ W, Calls Try.prog 11 #[] W fun e w' => e = .returned (.bool true) ∧ Below W.heap.size W w') :
    Calls Try.prog 3 #[tv k1 lo1 hi1 s1 y1 m1 o1 f1 fl1 fc1, tv k2 lo2 hi2 s2 y2 m2 o2 f2 fl2 fc2] w fun e w' => e = .returned (.bool true) ∧ Below w.heap.size w w' := by
  have H10a := fun W => Lib.hid (short_any k1 lo1 hi1 s1 y1 m1 o1 f1 fl1 fc1 W)
  have H10b := fun W => Lib.hid (short_any k2 lo2 hi2 s2 y2 m2 o2 f2 fl2 fc2 W)
  have H12 := fun W => Lib.hid (rright_any k1 lo1 hi1 s1 y1 m1 o1 f1 fl1 fc1 W)
  have H13 := fun W => Lib.hid (right_any k1 lo1 hi1 s1 y1 m1 o1 f1 fl1 fc1 W)
  have H14 := fun W => Lib.hid (atom_any k1 lo1 hi1 s1 y1 m1 o1 f1 fl1 fc1 W)
  have H15 := fun W => Lib.hid (rsingle_any k1 lo1 hi1 s1 y1 m1 o1 f1 fl1 fc1 W)
  have H16 := fun W => Lib.hid (same_any k1 lo1 hi1 s1 y1 m1 o1 f1 fl1 fc1 k2 lo2 hi2 s2 y2 m2 o2 f2 fl2 fc2 W)
  have H17 := fun W => Lib.hid (rsame_any k1 lo1 hi1 s1 y1 m1 o1 f1 fl1 fc1 k2 lo2 hi2 s2 y2 m2 o2 f2 fl2 fc2 W)
  generalize shortB s1 fl1 = b1 at *
  generalize shortB s2 fl2 = b2 at *
  generalize rightB k1 lo1 hi1 s1 y1 m1 o1 fl1 = r at *
  generalize singleB k1 lo1 hi1 y1 = g at *
  generalize decide (SameP k1 lo1 hi1 s1 y1 m1 o1 fl1 k2 lo2 hi2 s2 y2 m2 o2 fl2) = sm at *
  have H11 := fun W => Lib.hid (HA W)
  clear HA
  by_cases hs : b1 = true ∧ b2 = true
  · obtain ⟨rfl, rfl⟩ := hs
    cases r <;> cases g
    all_goals
      go_enter Try.func3, Try.ntmps3
      go_wp2_with (first
        | (go_at_call 10; (with_reducible refine ((H10a _).out).mono ?_); rintro e w1 ⟨rfl, hB⟩; (try clear hc hf); (first | (replace HB := Lib.hid (bl_step HB.out hB)) | (replace HB := Lib.hid (bl_step (bl_alloc HB.out) hB)) | (replace HB := Lib.hid (bl_step (bl_alloc (bl_alloc HB.out)) hB)) | (replace HB := Lib.hid (bl_step (by repeat (first | with_reducible exact HB.out | with_reducible refine bl_alloc ?_ | (with_reducible refine bl_set ?_ ?hset; case hset => (first | with_reducible exact Nat.le_refl _ | (simp; done) | (simp; omega) | omega)))) hB)) | (have HB := Lib.hid hB)); obtain ⟨hc, hf⟩ := bcell HB.out; clear hB; have hz := HB.out.size; simp at hz; have hz1 : w.heap.size + 1 < w1.heap.size := (by omega); have hz0 : w.heap.size < w1.heap.size := (by omega); clear hz)
        | (go_at_call 10; (with_reducible refine ((H10b _).out).mono ?_); rintro e w1 ⟨rfl, hB⟩; (try clear hc hf); (first | (replace HB := Lib.hid (bl_step HB.out hB)) | (replace HB := Lib.hid (bl_step (bl_alloc HB.out) hB)) | (replace HB := Lib.hid (bl_step (bl_alloc (bl_alloc HB.out)) hB)) | (replace HB := Lib.hid (bl_step (by repeat (first | with_reducible exact HB.out | with_reducible refine bl_alloc ?_ | (with_reducible refine bl_set ?_ ?hset; case hset => (first | with_reducible exact Nat.le_refl _ | (simp; done) | (simp; omega) | omega)))) hB)) | (have HB := Lib.hid hB)); obtain ⟨hc, hf⟩ := bcell HB.out; clear hB; have hz := HB.out.size; simp at hz; have hz1 : w.heap.size + 1 < w1.heap.size := (by omega); have hz0 : w.heap.size < w1.heap.size := (by omega); clear hz)
        | (go_at_call 12; (with_reducible refine ((H12 _).out).mono ?_); rintro e w1 ⟨rfl, hB⟩; (try clear hc hf); (first | (replace HB := Lib.hid (bl_step HB.out hB)) | (replace HB := Lib.hid (bl_step (bl_alloc HB.out) hB)) | (replace HB := Lib.hid (bl_step (bl_alloc (bl_alloc HB.out)) hB)) | (replace HB := Lib.hid (bl_step (by repeat (first | with_reducible exact HB.out | with_reducible refine bl_alloc ?_ | (with_reducible refine bl_set ?_ ?hset; case hset => (first | with_reducible exact Nat.le_refl _ | (simp; done) | (simp; omega) | omega)))) hB)) | (have HB := Lib.hid hB)); obtain ⟨hc, hf⟩ := bcell HB.out; clear hB; have hz := HB.out.size; simp at hz; have hz1 : w.heap.size + 1 < w1.heap.size := (by omega); have hz0 : w.heap.size < w1.heap.size := (by omega); clear hz))
      obtain ⟨⟨TA, hA⟩, ⟨TB, hB⟩, hW⟩ := Tc.box2 w k1 lo1 hi1 s1 y1 m1 o1 f1 fl1 fc1 k2 lo2 hi2 s2 y2 m2 o2 f2 fl2 fc2 HB.out
      clear H10a H10b H12 hc hf hz1 hz0 HB
      generalize hN : w.heap.size + 1 = N at *
      generalize hM : w.heap.size = M at *
      have TA := Lib.hid TA
      have TB := Lib.hid TB
      have HM := Lib.hid hM
      clear hN hM
      have K11 := inC (X := w1) H11
      have K13 := inC (X := w1) H13
      have K14 := inC (X := w1) H14
      have K15 := inC (X := w1) H15
      have K16 := inC (X := w1) H16
      have K17 := inC (X := w1) H17
      clear H11 H13 H14 H15 H16 H17
      refine region_class (C := fun W => Below w1.heap.size w1 W) (by kernel_rfl) (by kernel_rfl) ((Below.refl _ _).drew) ?_
      repeat (first | go_big_quiet_skip | (go_big_quiet_want; go_big_quiet_op; first | go_big_quiet_on | (apply Exists.intro; refine ⟨fun W hW => ?_, ?_⟩; (first | rfl | exact K11.out W hW | exact K13.out W hW | exact K14.out W hW | exact K15.out W hW | exact K16.out W hW | exact K17.out W hW | (obtain ⟨q0, q1, q2, q3, q4, q5, q6, q7⟩ := TA.out.later hW hA; go_simp; first | done | rfl | exact ⟨rfl, rfl⟩) | (obtain ⟨q0, q1, q2, q3, q4, q5, q6, q7⟩ := TB.out.later hW hB; go_simp; first | done | rfl | exact ⟨rfl, rfl⟩)); go_big_quiet_on)))
      refine wpQuiet_nil ?_
      intro w9 hW9
      have HW := Lib.hid (hW.trans (hW9.mono (Nat.le_of_lt hA)))
      clear hW hW9
      go_wp2_with fail
      go_ret
      exact ⟨by simp, by rw [HM.out]; exact HW.out⟩
  · clear H12 H13 H14 H15 H16 H17
    cases b1 <;> cases b2
    · clear hs
      go_enter Try.func3, Try.ntmps3
      go_wp2_with (first
        | (go_at_call 10; (with_reducible refine ((H10a _).out).mono ?_); rintro e w1 ⟨rfl, hB⟩; (try clear hc hf); (first | (replace HB := Lib.hid (bl_step HB.out hB)) | (replace HB := Lib.hid (bl_step (bl_alloc HB.out) hB)) | (replace HB := Lib.hid (bl_step (bl_alloc (bl_alloc HB.out)) hB)) | (replace HB := Lib.hid (bl_step (by repeat (first | with_reducible exact HB.out | with_reducible refine bl_alloc ?_ | (with_reducible refine bl_set ?_ ?hset; case hset => (first | with_reducible exact Nat.le_refl _ | (simp; done) | (simp; omega) | omega)))) hB)) | (have HB := Lib.hid hB)); obtain ⟨hc, hf⟩ := bcell HB.out; clear hB; have hz := HB.out.size; simp at hz; have hz1 : w.heap.size + 1 < w1.heap.size := (by omega); have hz0 : w.heap.size < w1.heap.size := (by omega); clear hz)
        | (go_at_call 11; (with_reducible refine ((H11 _).out).mono ?_); rintro e w1 ⟨rfl, hB⟩; (try clear hc hf); (first | (replace HB := Lib.hid (bl_step HB.out hB)) | (replace HB := Lib.hid (bl_step (bl_alloc HB.out) hB)) | (replace HB := Lib.hid (bl_step (bl_alloc (bl_alloc HB.out)) hB)) | (replace HB := Lib.hid (bl_step (by repeat (first | with_reducible exact HB.out | with_reducible refine bl_alloc ?_ | (with_reducible refine bl_set ?_ ?hset; case hset => (first | with_reducible exact Nat.le_refl _ | (simp; done) | (simp; omega) | omega)))) hB)) | (have HB := Lib.hid hB)); obtain ⟨hc, hf⟩ := bcell HB.out; clear hB))
      go_ret
      exact ⟨rfl, (by (repeat (first | with_reducible exact Below.refl _ _ | with_reducible refine bl_alloc ?_ | (with_reducible refine bl_set ?_ ?hset; case hset => (first | with_reducible exact Nat.le_refl _ | (simp; done) | (simp; omega) | omega)) | with_reducible refine bl_step ?_ HB.out)))⟩
    · clear hs
      go_enter Try.func3, Try.ntmps3
      go_wp2_with (first
        | (go_at_call 10; (with_reducible refine ((H10a _).out).mono ?_); rintro e w1 ⟨rfl, hB⟩; (try clear hc hf); (first | (replace HB := Lib.hid (bl_step HB.out hB)) | (replace HB := Lib.hid (bl_step (bl_alloc HB.out) hB)) | (replace HB := Lib.hid (bl_step (bl_alloc (bl_alloc HB.out)) hB)) | (replace HB := Lib.hid (bl_step (by repeat (first | with_reducible exact HB.out | with_reducible refine bl_alloc ?_ | (with_reducible refine bl_set ?_ ?hset; case hset => (first | with_reducible exact Nat.le_refl _ | (simp; done) | (simp; omega) | omega)))) hB)) | (have HB := Lib.hid hB)); obtain ⟨hc, hf⟩ := bcell HB.out; clear hB; have hz := HB.out.size; simp at hz; have hz1 : w.heap.size + 1 < w1.heap.size := (by omega); have hz0 : w.heap.size < w1.heap.size := (by omega); clear hz)
        | (go_at_call 11; (with_reducible refine ((H11 _).out).mono ?_); rintro e w1 ⟨rfl, hB⟩; (try clear hc hf); (first | (replace HB := Lib.hid (bl_step HB.out hB)) | (replace HB := Lib.hid (bl_step (bl_alloc HB.out) hB)) | (replace HB := Lib.hid (bl_step (bl_alloc (bl_alloc HB.out)) hB)) | (replace HB := Lib.hid (bl_step (by repeat (first | with_reducible exact HB.out | with_reducible refine bl_alloc ?_ | (with_reducible refine bl_set ?_ ?hset; case hset => (first | with_reducible exact Nat.le_refl _ | (simp; done) | (simp; omega) | omega)))) hB)) | (have HB := Lib.hid hB)); obtain ⟨hc, hf⟩ := bcell HB.out; clear hB))
      go_ret
      exact ⟨rfl, (by (repeat (first | with_reducible exact Below.refl _ _ | with_reducible refine bl_alloc ?_ | (with_reducible refine bl_set ?_ ?hset; case hset => (first | with_reducible exact Nat.le_refl _ | (simp; done) | (simp; omega) | omega)) | with_reducible refine bl_step ?_ HB.out)))⟩
    · clear hs
      go_enter Try.func3, Try.ntmps3
      go_wp2_with (first
        | (go_at_call 10; (with_reducible refine ((H10a _).out).mono ?_); rintro e w1 ⟨rfl, hB⟩; (try clear hc hf); (first | (replace HB := Lib.hid (bl_step HB.out hB)) | (replace HB := Lib.hid (bl_step (bl_alloc HB.out) hB)) | (replace HB := Lib.hid (bl_step (bl_alloc (bl_alloc HB.out)) hB)) | (replace HB := Lib.hid (bl_step (by repeat (first | with_reducible exact HB.out | with_reducible refine bl_alloc ?_ | (with_reducible refine bl_set ?_ ?hset; case hset => (first | with_reducible exact Nat.le_refl _ | (simp; done) | (simp; omega) | omega)))) hB)) | (have HB := Lib.hid hB)); obtain ⟨hc, hf⟩ := bcell HB.out; clear hB; have hz := HB.out.size; simp at hz; have hz1 : w.heap.size + 1 < w1.heap.size := (by omega); have hz0 : w.heap.size < w1.heap.size := (by omega); clear hz)
        | (go_at_call 10; (with_reducible refine ((H10b _).out).mono ?_); rintro e w1 ⟨rfl, hB⟩; (try clear hc hf); (first | (replace HB := Lib.hid (bl_step HB.out hB)) | (replace HB := Lib.hid (bl_step (bl_alloc HB.out) hB)) | (replace HB := Lib.hid (bl_step (bl_alloc (bl_alloc HB.out)) hB)) | (replace HB := Lib.hid (bl_step (by repeat (first | with_reducible exact HB.out | with_reducible refine bl_alloc ?_ | (with_reducible refine bl_set ?_ ?hset; case hset => (first | with_reducible exact Nat.le_refl _ | (simp; done) | (simp; omega) | omega)))) hB)) | (have HB := Lib.hid hB)); obtain ⟨hc, hf⟩ := bcell HB.out; clear hB; have hz := HB.out.size; simp at hz; have hz1 : w.heap.size + 1 < w1.heap.size := (by omega); have hz0 : w.heap.size < w1.heap.size := (by omega); clear hz)
        | (go_at_call 11; (with_reducible refine ((H11 _).out).mono ?_); rintro e w1 ⟨rfl, hB⟩; (try clear hc hf); (first | (replace HB := Lib.hid (bl_step HB.out hB)) | (replace HB := Lib.hid (bl_step (bl_alloc HB.out) hB)) | (replace HB := Lib.hid (bl_step (bl_alloc (bl_alloc HB.out)) hB)) | (replace HB := Lib.hid (bl_step (by repeat (first | with_reducible exact HB.out | with_reducible refine bl_alloc ?_ | (with_reducible refine bl_set ?_ ?hset; case hset => (first | with_reducible exact Nat.le_refl _ | (simp; done) | (simp; omega) | omega)))) hB)) | (have HB := Lib.hid hB)); obtain ⟨hc, hf⟩ := bcell HB.out; clear hB))
      go_ret
      exact ⟨rfl, (by (repeat (first | with_reducible exact Below.refl _ _ | with_reducible refine bl_alloc ?_ | (with_reducible refine bl_set ?_ ?hset; case hset => (first | with_reducible exact Nat.le_refl _ | (simp; done) | (simp; omega) | omega)) | with_reducible refine bl_step ?_ HB.out)))⟩
    · exact absurd ⟨rfl, rfl⟩ hs

end Go.Proofs.Ytkmbhjcedkojjaa
