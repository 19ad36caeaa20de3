/- WALK of the law ScalarMeets. -/
import Derived.Test.YtkmbhjcedkojjaaYa
import Derived.Test.YtkmbhjcedkojjaaV
import Derived.Test.YtkmbhjcedkojjaaU
namespace Go.Proofs.Ytkmbhjcedkojjaa
open Go.RowKit
theorem same_of {k lo hi : Int} {s : ByteArray} {y m : Bool} (h : RightP k lo hi s y m false 0) : decide (SameP k lo hi s y m false 0 k lo hi s y m false 0) = true := by
  rw [decide_eq_true_iff]
  exact ⟨rightB_iff.2 h, rightB_iff.2 h, rfl, rfl, rfl, rfl, rfl, rfl⟩
theorem right_later {k lo hi : Int} {s : ByteArray} {y c : Bool} (h : RightP k lo hi s y false false 0) : RightP k lo hi s y (c && !singleB k lo hi y) false 0 :=
  ⟨h.1, h.2.1, fun e => by cases g : singleB k lo hi y <;> simp_all, h.2.2.2⟩
theorem right_shape {k lo hi : Int} {s : ByteArray} {y m o : Bool} {fl : Nat} (h : RightP k lo hi s y m o fl) : o = false ∧ fl = 0 := ⟨h.1, h.2.1⟩
set_option maxRecDepth 100000 in
set_option maxHeartbeats 2000000 in
theorem smeets_walk (k1 lo1 hi1 : Int) (s1 : ByteArray) (y1 m1 o1 : Bool) (f1 : Option Addr) (fl1 fc1 : Nat) (k2 lo2 hi2 : Int) (s2 : ByteArray) (y2 m2 o2 : Bool) (f2 : Option Addr) (fl2 fc2 : Nat) (w : World) (HA : ∀ W, Calls Try.prog 11 #[] W fun e w' => e = .returned (.bool true) ∧ Below W.heap.size W w') :
    Calls Try.prog 5 #[tv k1 lo1 hi1 s1 y1 m1 o1 f1 fl1 fc1, tv k2 lo2 hi2 s2 y2 m2 o2 f2 fl2 fc2] w fun e w' => e = .returned (.bool true) ∧ Below w.heap.size w w' := by
  by_cases hs : shortB s1 fl1 = true ∧ shortB s2 fl2 = true
  · obtain ⟨hs1, hs2⟩ := hs
    have hz : likeB false false (zeroB 0 0 0 ⟨#[]⟩ false false false 0) (decide (SameP 0 0 0 ⟨#[]⟩ false false false 0 0 0 0 ⟨#[]⟩ false false false 0)) = true := by
      simp [likeB, zeroB]
    have nil0 : (∀ W, Calls Try.prog 24 #[tv k1 lo1 hi1 s1 y1 m1 o1 f1 fl1 fc1, tv k2 lo2 hi2 s2 y2 m2 o2 f2 fl2 fc2] W fun e w' => e = .returned (.tuple #[zv, .bool false]) ∧ Below W.heap.size W w') →
        (∀ W, Calls Try.prog 25 #[tv k1 lo1 hi1 s1 y1 m1 o1 f1 fl1 fc1, tv k2 lo2 hi2 s2 y2 m2 o2 f2 fl2 fc2] W fun e w' => e = .returned (.tuple #[zv, .bool false]) ∧ Below W.heap.size W w') →
        Calls Try.prog 5 #[tv k1 lo1 hi1 s1 y1 m1 o1 f1 fl1 fc1, tv k2 lo2 hi2 s2 y2 m2 o2 f2 fl2 fc2] w fun e w' => e = .returned (.bool true) ∧ Below w.heap.size w w' := fun hm hr =>
      smeets_gen _ _ _ _ _ _ _ _ _ _ _ _ _ _ _ _ _ _ _ _ 0 0 0 ⟨#[]⟩ false false false false none 0 w HA hm hr
        (fun W => by have := like_any 0 0 0 ⟨#[]⟩ false false false none 0 0 false 0 0 0 ⟨#[]⟩ false false false none 0 0 false W; rw [hz] at this; exact this)
        (fun W => below_no _ _ _ _ _ _ _ _ _ _ _ _ _ _ _ _ _ _ _ _ W hm) (fun W => rbelow_no _ _ _ _ _ _ _ _ _ _ _ _ _ _ _ _ _ _ _ _ W hr) hs1 hs2
    by_cases hu : rightB k1 lo1 hi1 s1 y1 m1 o1 fl1 = true ∧ rightB k2 lo2 hi2 s2 y2 m2 o2 fl2 = true ∧ k1 = k2
    · obtain ⟨r1, r2, rfl⟩ := hu
      have h1 := rightB_iff.1 r1
      have h2 := rightB_iff.1 r2
      obtain ⟨rfl, rfl⟩ := right_shape h1
      obtain ⟨rfl, rfl⟩ := right_shape h2
      cases hc : commonF k1 lo1 hi1 s1 y1 lo2 hi2 s2 y2 with
      | none => exact nil0 (fun W => meet_none _ _ _ _ _ _ _ _ _ _ _ _ _ _ _ W h1 h2 hc) (fun W => rmeet_none _ _ _ _ _ _ _ _ _ _ _ _ _ _ _ W h1 h2 hc)
      | some t =>
        obtain ⟨lo, hi, s, y⟩ := t
        have hr := right_later (c := m1 || m2) (commonF_right h1 h2 hc)
        have hm := fun W => meet_some _ _ _ _ _ _ f1 fc1 _ _ _ _ _ f2 fc2 W h1 h2 hc
        have hrm := fun W => rmeet_some _ _ _ _ _ _ f1 fc1 _ _ _ _ _ f2 fc2 W h1 h2 hc
        exact smeets_gen _ _ _ _ _ _ _ _ _ _ _ _ _ _ _ _ _ _ _ _ k1 lo hi s y _ true _ f1 fc1 w HA hm hrm
          (fun W => by have := like_any k1 lo hi s y ((m1 || m2) && !singleB k1 lo hi y) false none 0 0 true k1 lo hi s y ((m1 || m2) && !singleB k1 lo hi y) false f1 0 fc1 true W; rw [same_of hr] at this; exact this)
          (fun W => below_yes _ _ _ _ _ _ _ _ _ _ _ _ _ _ _ _ _ _ _ _ _ _ _ _ _ _ _ _ _ _ W hm) (fun W => rbelow_yes _ _ _ _ _ _ _ _ _ _ _ _ _ _ _ _ _ _ _ _ _ _ _ _ _ _ _ _ _ _ W hrm) hs1 hs2
    · exact nil0 (fun W => meet_unlike _ _ _ _ _ _ _ _ _ _ _ _ _ _ _ _ _ _ _ _ W hu) (fun W => rmeet_unlike _ _ _ _ _ _ _ _ _ _ _ _ _ _ _ _ _ _ _ _ W hu)
  · have H10a := fun W => Lib.hid (short_any k1 lo1 hi1 s1 y1 m1 o1 f1 fl1 fc1 W)
    have H10b := fun W => Lib.hid (short_any k2 lo2 hi2 s2 y2 m2 o2 f2 fl2 fc2 W)
    have H11 := fun W => Lib.hid (HA W)
    clear HA
    generalize shortB s1 fl1 = b1 at *
    generalize shortB s2 fl2 = b2 at *
    cases b1 <;> cases b2
    · clear hs
      go_enter Try.func5, Try.ntmps5
      go_wp2_with (first
        | (go_at_call 10; (with_reducible refine ((H10a _).out).mono ?_); rintro e w1 ⟨rfl, hB⟩; (try clear hc hf); (first | (replace HB := Lib.hid (bl_step HB.out hB)) | (replace HB := Lib.hid (bl_step (bl_alloc HB.out) hB)) | (replace HB := Lib.hid (bl_step (bl_alloc (bl_alloc HB.out)) hB)) | (replace HB := Lib.hid (bl_step (by repeat (first | with_reducible exact HB.out | with_reducible refine bl_alloc ?_ | (with_reducible refine bl_set ?_ ?hset; case hset => (first | with_reducible exact Nat.le_refl _ | (simp; done) | (simp; omega) | omega)))) hB)) | (have HB := Lib.hid hB)); obtain ⟨hc, hf⟩ := bcell HB.out; clear hB; have hz := HB.out.size; simp at hz; have hz1 : w.heap.size + 1 < w1.heap.size := (by omega); have hz0 : w.heap.size < w1.heap.size := (by omega); clear hz)
        | (go_at_call 10; (with_reducible refine ((H10b _).out).mono ?_); rintro e w1 ⟨rfl, hB⟩; (try clear hc hf); (first | (replace HB := Lib.hid (bl_step HB.out hB)) | (replace HB := Lib.hid (bl_step (bl_alloc HB.out) hB)) | (replace HB := Lib.hid (bl_step (bl_alloc (bl_alloc HB.out)) hB)) | (replace HB := Lib.hid (bl_step (by repeat (first | with_reducible exact HB.out | with_reducible refine bl_alloc ?_ | (with_reducible refine bl_set ?_ ?hset; case hset => (first | with_reducible exact Nat.le_refl _ | (simp; done) | (simp; omega) | omega)))) hB)) | (have HB := Lib.hid hB)); obtain ⟨hc, hf⟩ := bcell HB.out; clear hB; have hz := HB.out.size; simp at hz; have hz1 : w.heap.size + 1 < w1.heap.size := (by omega); have hz0 : w.heap.size < w1.heap.size := (by omega); clear hz)
        | (go_at_call 11; (with_reducible refine ((H11 _).out).mono ?_); rintro e w1 ⟨rfl, hB⟩; (try clear hc hf); (first | (replace HB := Lib.hid (bl_step HB.out hB)) | (replace HB := Lib.hid (bl_step (bl_alloc HB.out) hB)) | (replace HB := Lib.hid (bl_step (bl_alloc (bl_alloc HB.out)) hB)) | (replace HB := Lib.hid (bl_step (by repeat (first | with_reducible exact HB.out | with_reducible refine bl_alloc ?_ | (with_reducible refine bl_set ?_ ?hset; case hset => (first | with_reducible exact Nat.le_refl _ | (simp; done) | (simp; omega) | omega)))) hB)) | (have HB := Lib.hid hB)); obtain ⟨hc, hf⟩ := bcell HB.out; clear hB))
      go_ret
      exact ⟨rfl, (by (repeat (first | with_reducible exact Below.refl _ _ | with_reducible refine bl_alloc ?_ | (with_reducible refine bl_set ?_ ?hset; case hset => (first | with_reducible exact Nat.le_refl _ | (simp; done) | (simp; omega) | omega)) | with_reducible refine bl_step ?_ HB.out)))⟩
    · clear hs
      go_enter Try.func5, Try.ntmps5
      go_wp2_with (first
        | (go_at_call 10; (with_reducible refine ((H10a _).out).mono ?_); rintro e w1 ⟨rfl, hB⟩; (try clear hc hf); (first | (replace HB := Lib.hid (bl_step HB.out hB)) | (replace HB := Lib.hid (bl_step (bl_alloc HB.out) hB)) | (replace HB := Lib.hid (bl_step (bl_alloc (bl_alloc HB.out)) hB)) | (replace HB := Lib.hid (bl_step (by repeat (first | with_reducible exact HB.out | with_reducible refine bl_alloc ?_ | (with_reducible refine bl_set ?_ ?hset; case hset => (first | with_reducible exact Nat.le_refl _ | (simp; done) | (simp; omega) | omega)))) hB)) | (have HB := Lib.hid hB)); obtain ⟨hc, hf⟩ := bcell HB.out; clear hB; have hz := HB.out.size; simp at hz; have hz1 : w.heap.size + 1 < w1.heap.size := (by omega); have hz0 : w.heap.size < w1.heap.size := (by omega); clear hz)
        | (go_at_call 10; (with_reducible refine ((H10b _).out).mono ?_); rintro e w1 ⟨rfl, hB⟩; (try clear hc hf); (first | (replace HB := Lib.hid (bl_step HB.out hB)) | (replace HB := Lib.hid (bl_step (bl_alloc HB.out) hB)) | (replace HB := Lib.hid (bl_step (bl_alloc (bl_alloc HB.out)) hB)) | (replace HB := Lib.hid (bl_step (by repeat (first | with_reducible exact HB.out | with_reducible refine bl_alloc ?_ | (with_reducible refine bl_set ?_ ?hset; case hset => (first | with_reducible exact Nat.le_refl _ | (simp; done) | (simp; omega) | omega)))) hB)) | (have HB := Lib.hid hB)); obtain ⟨hc, hf⟩ := bcell HB.out; clear hB; have hz := HB.out.size; simp at hz; have hz1 : w.heap.size + 1 < w1.heap.size := (by omega); have hz0 : w.heap.size < w1.heap.size := (by omega); clear hz)
        | (go_at_call 11; (with_reducible refine ((H11 _).out).mono ?_); rintro e w1 ⟨rfl, hB⟩; (try clear hc hf); (first | (replace HB := Lib.hid (bl_step HB.out hB)) | (replace HB := Lib.hid (bl_step (bl_alloc HB.out) hB)) | (replace HB := Lib.hid (bl_step (bl_alloc (bl_alloc HB.out)) hB)) | (replace HB := Lib.hid (bl_step (by repeat (first | with_reducible exact HB.out | with_reducible refine bl_alloc ?_ | (with_reducible refine bl_set ?_ ?hset; case hset => (first | with_reducible exact Nat.le_refl _ | (simp; done) | (simp; omega) | omega)))) hB)) | (have HB := Lib.hid hB)); obtain ⟨hc, hf⟩ := bcell HB.out; clear hB))
      go_ret
      exact ⟨rfl, (by (repeat (first | with_reducible exact Below.refl _ _ | with_reducible refine bl_alloc ?_ | (with_reducible refine bl_set ?_ ?hset; case hset => (first | with_reducible exact Nat.le_refl _ | (simp; done) | (simp; omega) | omega)) | with_reducible refine bl_step ?_ HB.out)))⟩
    · clear hs
      go_enter Try.func5, Try.ntmps5
      go_wp2_with (first
        | (go_at_call 10; (with_reducible refine ((H10a _).out).mono ?_); rintro e w1 ⟨rfl, hB⟩; (try clear hc hf); (first | (replace HB := Lib.hid (bl_step HB.out hB)) | (replace HB := Lib.hid (bl_step (bl_alloc HB.out) hB)) | (replace HB := Lib.hid (bl_step (bl_alloc (bl_alloc HB.out)) hB)) | (replace HB := Lib.hid (bl_step (by repeat (first | with_reducible exact HB.out | with_reducible refine bl_alloc ?_ | (with_reducible refine bl_set ?_ ?hset; case hset => (first | with_reducible exact Nat.le_refl _ | (simp; done) | (simp; omega) | omega)))) hB)) | (have HB := Lib.hid hB)); obtain ⟨hc, hf⟩ := bcell HB.out; clear hB; have hz := HB.out.size; simp at hz; have hz1 : w.heap.size + 1 < w1.heap.size := (by omega); have hz0 : w.heap.size < w1.heap.size := (by omega); clear hz)
        | (go_at_call 10; (with_reducible refine ((H10b _).out).mono ?_); rintro e w1 ⟨rfl, hB⟩; (try clear hc hf); (first | (replace HB := Lib.hid (bl_step HB.out hB)) | (replace HB := Lib.hid (bl_step (bl_alloc HB.out) hB)) | (replace HB := Lib.hid (bl_step (bl_alloc (bl_alloc HB.out)) hB)) | (replace HB := Lib.hid (bl_step (by repeat (first | with_reducible exact HB.out | with_reducible refine bl_alloc ?_ | (with_reducible refine bl_set ?_ ?hset; case hset => (first | with_reducible exact Nat.le_refl _ | (simp; done) | (simp; omega) | omega)))) hB)) | (have HB := Lib.hid hB)); obtain ⟨hc, hf⟩ := bcell HB.out; clear hB; have hz := HB.out.size; simp at hz; have hz1 : w.heap.size + 1 < w1.heap.size := (by omega); have hz0 : w.heap.size < w1.heap.size := (by omega); clear hz)
        | (go_at_call 11; (with_reducible refine ((H11 _).out).mono ?_); rintro e w1 ⟨rfl, hB⟩; (try clear hc hf); (first | (replace HB := Lib.hid (bl_step HB.out hB)) | (replace HB := Lib.hid (bl_step (bl_alloc HB.out) hB)) | (replace HB := Lib.hid (bl_step (bl_alloc (bl_alloc HB.out)) hB)) | (replace HB := Lib.hid (bl_step (by repeat (first | with_reducible exact HB.out | with_reducible refine bl_alloc ?_ | (with_reducible refine bl_set ?_ ?hset; case hset => (first | with_reducible exact Nat.le_refl _ | (simp; done) | (simp; omega) | omega)))) hB)) | (have HB := Lib.hid hB)); obtain ⟨hc, hf⟩ := bcell HB.out; clear hB))
      go_ret
      exact ⟨rfl, (by (repeat (first | with_reducible exact Below.refl _ _ | with_reducible refine bl_alloc ?_ | (with_reducible refine bl_set ?_ ?hset; case hset => (first | with_reducible exact Nat.le_refl _ | (simp; done) | (simp; omega) | omega)) | with_reducible refine bl_step ?_ HB.out)))⟩
    · exact absurd ⟨rfl, rfl⟩ hs

end Go.Proofs.Ytkmbhjcedkojjaa
