/- B, D, O -/
import Derived.Test.YtddleeenlpigfaaGreatDoorY0
import Derived.Test.YtddleeenlpigfaaGreatDoorY5
/- WALKS of the reference's Right. -/
namespace Go.Proofs.YtddleeenlpigfaaGreatDoor
open Go.RowKit
set_option maxRecDepth 100000 in
set_option maxHeartbeats 1000000 in
theorem rright_any (k lo hi : Int) (s : ByteArray) (y m o : Bool) (f : Option Addr) (fl fc : Nat) (w : World) :
    Calls Tryz.prog 65 #[tv k lo hi s y m o f fl fc] w fun e w' => e = .returned (.bool (rightB k lo hi s y m o fl)) ∧ Below w.heap.size w w' := by
  go_enter Tryz.func65, Tryz.ntmps65
  go_wp2_with (go_at_call 108; (with_reducible refine (rsingle_any _ _ _ _ _ _ _ _ _ _ _).mono ?_); rintro e w1 ⟨rfl, hB⟩; obtain ⟨hc, hf⟩ := bcell hB; have HB := Lib.hid hB; clear hB)
  all_goals
    go_ret
    refine ⟨ret_dec ?_, by first | exact ((Below.refl _ _).alloc (Nat.le_refl _) _).trans (HB.out.mono (by simp)) | exact (Below.refl _ _).alloc (Nat.le_refl _) _⟩
    unfold RightP
    try clear HB hc hf
    simp_all <;> omega
end Go.Proofs.YtddleeenlpigfaaGreatDoor
/- WALK of the reference's Same. -/
namespace Go.Proofs.YtddleeenlpigfaaGreatDoor
open Go.RowKit
set_option maxRecDepth 100000 in
set_option maxHeartbeats 2000000 in
theorem rsame_any (k1 lo1 hi1 : Int) (s1 : ByteArray) (y1 m1 o1 : Bool) (f1 : Option Addr) (fl1 fc1 : Nat) (k2 lo2 hi2 : Int) (s2 : ByteArray) (y2 m2 o2 : Bool) (f2 : Option Addr) (fl2 fc2 : Nat) (w : World) :
    Calls Tryz.prog 110 #[tv k1 lo1 hi1 s1 y1 m1 o1 f1 fl1 fc1, tv k2 lo2 hi2 s2 y2 m2 o2 f2 fl2 fc2] w fun e w' => e = .returned (.bool (decide (SameP k1 lo1 hi1 s1 y1 m1 o1 fl1 k2 lo2 hi2 s2 y2 m2 o2 fl2))) ∧ Below w.heap.size w w' := by
  go_enter Tryz.func110, Tryz.ntmps110
  go_wp2_with (first
    | (go_at_call 65; (with_reducible refine (rright_any _ _ _ _ _ _ _ _ _ _ _).mono ?_); rintro e _ ⟨rfl, hB⟩; (try clear hc hf); (first | (replace HB := Lib.hid (bl_step (by repeat (first | exact HB.out | refine bl_alloc ?_ | refine bl_set ?_ (by first | exact Nat.le_refl _ | (simp; done) | (simp; omega) | omega))) hB)) | (have HB := Lib.hid hB)); obtain ⟨hc, hf⟩ := bcell HB.out; clear hB))
  all_goals
    go_ret
    refine ⟨ret_dec ?_, (by (repeat (first | exact Below.refl _ _ | refine bl_alloc ?_ | refine bl_set ?_ (by first | exact Nat.le_refl _ | (simp; done) | (simp; omega) | omega) | refine bl_step ?_ HB.out)))⟩
    unfold SameP
    try clear HB hc hf
    simp_all

end Go.Proofs.YtddleeenlpigfaaGreatDoor
/- WALKS of the reference's Meet: numbers. -/
namespace Go.Proofs.YtddleeenlpigfaaGreatDoor
open Go.RowKit
set_option maxRecDepth 100000 in
set_option maxHeartbeats 2000000 in
theorem rmeet_num_a (k lo1 hi1 : Int) (s1 : ByteArray) (y1 m1 : Bool) (f1 : Option Addr) (fc1 : Nat) (lo2 hi2 : Int) (s2 : ByteArray) (y2 m2 : Bool) (f2 : Option Addr) (fc2 : Nat) (w : World) (h1' : rightB k lo1 hi1 s1 y1 m1 false 0 = true) (h2' : rightB k lo2 hi2 s2 y2 m2 false 0 = true) (hk : k ≠ 3) (h1 : lo1 < lo2) (h2 : hi2 < hi1) (hm : lo2 ≤ hi2) :
    Calls Tryz.prog 86 #[tv k lo1 hi1 s1 y1 m1 false f1 0 fc1, tv k lo2 hi2 s2 y2 m2 false f2 0 fc2] w fun e w' => e = .returned (.tuple #[tv k lo2 hi2 s1 y1 ((m1 || m2) && !singleB k lo2 hi2 y1) false f1 0 fc1, .bool true]) ∧ Below w.heap.size w w' := by
  have hk' : (k == 3) = false := by simpa using hk
  have H1 := fun W => Lib.hid (rright_any k lo1 hi1 s1 y1 m1 false f1 0 fc1 W)
  have H2 := fun W => Lib.hid (rright_any k lo2 hi2 s2 y2 m2 false f2 0 fc2 W)
  have HS := fun W => Lib.hid (rsingle_any k lo2 hi2 s1 y1 false false f1 0 fc1 W)
  rw [h1'] at H1
  rw [h2'] at H2
  generalize singleB k lo2 hi2 y1 = g at *
  clear h1' h2' hk
  cases g
  · cases m1
    · cases m2
      · go_enter Tryz.func86, Tryz.ntmps86
        go_wp2_with (first
          | (go_at_call 65; (with_reducible refine ((H1 _).out).mono ?_); rintro e w1 ⟨rfl, hB⟩; (try clear hc hf); (first | (replace HB := Lib.hid (bl_step HB.out hB)) | (replace HB := Lib.hid (bl_step (bl_alloc HB.out) hB)) | (replace HB := Lib.hid (bl_step (bl_alloc (bl_alloc HB.out)) hB)) | (replace HB := Lib.hid (bl_step (by repeat (first | with_reducible exact HB.out | with_reducible refine bl_alloc ?_ | (with_reducible refine bl_set ?_ ?hset; case hset => (first | with_reducible exact Nat.le_refl _ | (simp; done) | (simp; omega) | omega)))) hB)) | (have HB := Lib.hid hB)); obtain ⟨hc, hf⟩ := bcell HB.out; clear hB; have hz := HB.out.size; simp at hz; have hz2 : w.heap.size + 1 + 1 < w1.heap.size := (by omega); have hz1 : w.heap.size + 1 < w1.heap.size := (by omega); have hz0 : w.heap.size < w1.heap.size := (by omega); clear hz)
          | (go_at_call 65; (with_reducible refine ((H2 _).out).mono ?_); rintro e w2 ⟨rfl, hB⟩; (try clear hc hf); (first | (replace HB := Lib.hid (bl_step HB.out hB)) | (replace HB := Lib.hid (bl_step (bl_alloc HB.out) hB)) | (replace HB := Lib.hid (bl_step (bl_alloc (bl_alloc HB.out)) hB)) | (replace HB := Lib.hid (bl_step (by repeat (first | with_reducible exact HB.out | with_reducible refine bl_alloc ?_ | (with_reducible refine bl_set ?_ ?hset; case hset => (first | with_reducible exact Nat.le_refl _ | (simp; done) | (simp; omega) | omega)))) hB)) | (have HB := Lib.hid hB)); obtain ⟨hc, hf⟩ := bcell HB.out; clear hB; have hz := HB.out.size; simp at hz; have hz2 : w.heap.size + 1 + 1 < w2.heap.size := (by omega); have hz1 : w.heap.size + 1 < w2.heap.size := (by omega); have hz0 : w.heap.size < w2.heap.size := (by omega); clear hz)
          | (go_at_call 108; (with_reducible refine ((HS _).out).mono ?_); rintro e w3 ⟨rfl, hB⟩; (try clear hc hf); (first | (replace HB := Lib.hid (bl_step HB.out hB)) | (replace HB := Lib.hid (bl_step (bl_alloc HB.out) hB)) | (replace HB := Lib.hid (bl_step (bl_alloc (bl_alloc HB.out)) hB)) | (replace HB := Lib.hid (bl_step (by repeat (first | with_reducible exact HB.out | with_reducible refine bl_alloc ?_ | (with_reducible refine bl_set ?_ ?hset; case hset => (first | with_reducible exact Nat.le_refl _ | (simp; done) | (simp; omega) | omega)))) hB)) | (have HB := Lib.hid hB)); obtain ⟨hc, hf⟩ := bcell HB.out; obtain ⟨hd, he⟩ := bcell hB; clear hB; have hz := HB.out.size; simp at hz; have hz2 : w.heap.size + 1 + 1 < w3.heap.size := (by omega); have hz1 : w.heap.size + 1 < w3.heap.size := (by omega); have hz0 : w.heap.size < w3.heap.size := (by omega); clear hz; have h5 := hd w2.heap.size 5 (by simp); simp at h5))
        refine bodyPost_ret (v := .tuple #[tv k lo2 hi2 s1 y1 false false f1 0 fc1, .bool true]) (by simp [results, Tryz.results86, go_sem, hc]) rfl ⟨rfl, (by (repeat (first | with_reducible exact Below.refl _ _ | with_reducible refine bl_alloc ?_ | (with_reducible refine bl_set ?_ ?hset; case hset => (first | with_reducible exact Nat.le_refl _ | (simp; done) | (simp; omega) | omega)) | with_reducible refine bl_step ?_ HB.out)))⟩
      · go_enter Tryz.func86, Tryz.ntmps86
        go_wp2_with (first
          | (go_at_call 65; (with_reducible refine ((H1 _).out).mono ?_); rintro e w1 ⟨rfl, hB⟩; (try clear hc hf); (first | (replace HB := Lib.hid (bl_step HB.out hB)) | (replace HB := Lib.hid (bl_step (bl_alloc HB.out) hB)) | (replace HB := Lib.hid (bl_step (bl_alloc (bl_alloc HB.out)) hB)) | (replace HB := Lib.hid (bl_step (by repeat (first | with_reducible exact HB.out | with_reducible refine bl_alloc ?_ | (with_reducible refine bl_set ?_ ?hset; case hset => (first | with_reducible exact Nat.le_refl _ | (simp; done) | (simp; omega) | omega)))) hB)) | (have HB := Lib.hid hB)); obtain ⟨hc, hf⟩ := bcell HB.out; clear hB; have hz := HB.out.size; simp at hz; have hz2 : w.heap.size + 1 + 1 < w1.heap.size := (by omega); have hz1 : w.heap.size + 1 < w1.heap.size := (by omega); have hz0 : w.heap.size < w1.heap.size := (by omega); clear hz)
          | (go_at_call 65; (with_reducible refine ((H2 _).out).mono ?_); rintro e w2 ⟨rfl, hB⟩; (try clear hc hf); (first | (replace HB := Lib.hid (bl_step HB.out hB)) | (replace HB := Lib.hid (bl_step (bl_alloc HB.out) hB)) | (replace HB := Lib.hid (bl_step (bl_alloc (bl_alloc HB.out)) hB)) | (replace HB := Lib.hid (bl_step (by repeat (first | with_reducible exact HB.out | with_reducible refine bl_alloc ?_ | (with_reducible refine bl_set ?_ ?hset; case hset => (first | with_reducible exact Nat.le_refl _ | (simp; done) | (simp; omega) | omega)))) hB)) | (have HB := Lib.hid hB)); obtain ⟨hc, hf⟩ := bcell HB.out; clear hB; have hz := HB.out.size; simp at hz; have hz2 : w.heap.size + 1 + 1 < w2.heap.size := (by omega); have hz1 : w.heap.size + 1 < w2.heap.size := (by omega); have hz0 : w.heap.size < w2.heap.size := (by omega); clear hz)
          | (go_at_call 108; (with_reducible refine ((HS _).out).mono ?_); rintro e w3 ⟨rfl, hB⟩; (try clear hc hf); (first | (replace HB := Lib.hid (bl_step HB.out hB)) | (replace HB := Lib.hid (bl_step (bl_alloc HB.out) hB)) | (replace HB := Lib.hid (bl_step (bl_alloc (bl_alloc HB.out)) hB)) | (replace HB := Lib.hid (bl_step (by repeat (first | with_reducible exact HB.out | with_reducible refine bl_alloc ?_ | (with_reducible refine bl_set ?_ ?hset; case hset => (first | with_reducible exact Nat.le_refl _ | (simp; done) | (simp; omega) | omega)))) hB)) | (have HB := Lib.hid hB)); obtain ⟨hc, hf⟩ := bcell HB.out; obtain ⟨hd, he⟩ := bcell hB; clear hB; have hz := HB.out.size; simp at hz; have hz2 : w.heap.size + 1 + 1 < w3.heap.size := (by omega); have hz1 : w.heap.size + 1 < w3.heap.size := (by omega); have hz0 : w.heap.size < w3.heap.size := (by omega); clear hz; have h5 := hd w2.heap.size 5 (by simp); simp at h5))
        refine bodyPost_ret (v := .tuple #[tv k lo2 hi2 s1 y1 true false f1 0 fc1, .bool true]) (by simp [results, Tryz.results86, go_sem, hc]) rfl ⟨rfl, (by (repeat (first | with_reducible exact Below.refl _ _ | with_reducible refine bl_alloc ?_ | (with_reducible refine bl_set ?_ ?hset; case hset => (first | with_reducible exact Nat.le_refl _ | (simp; done) | (simp; omega) | omega)) | with_reducible refine bl_step ?_ HB.out)))⟩
    · go_enter Tryz.func86, Tryz.ntmps86
      go_wp2_with (first
        | (go_at_call 65; (with_reducible refine ((H1 _).out).mono ?_); rintro e w1 ⟨rfl, hB⟩; (try clear hc hf); (first | (replace HB := Lib.hid (bl_step HB.out hB)) | (replace HB := Lib.hid (bl_step (bl_alloc HB.out) hB)) | (replace HB := Lib.hid (bl_step (bl_alloc (bl_alloc HB.out)) hB)) | (replace HB := Lib.hid (bl_step (by repeat (first | with_reducible exact HB.out | with_reducible refine bl_alloc ?_ | (with_reducible refine bl_set ?_ ?hset; case hset => (first | with_reducible exact Nat.le_refl _ | (simp; done) | (simp; omega) | omega)))) hB)) | (have HB := Lib.hid hB)); obtain ⟨hc, hf⟩ := bcell HB.out; clear hB; have hz := HB.out.size; simp at hz; have hz2 : w.heap.size + 1 + 1 < w1.heap.size := (by omega); have hz1 : w.heap.size + 1 < w1.heap.size := (by omega); have hz0 : w.heap.size < w1.heap.size := (by omega); clear hz)
        | (go_at_call 65; (with_reducible refine ((H2 _).out).mono ?_); rintro e w2 ⟨rfl, hB⟩; (try clear hc hf); (first | (replace HB := Lib.hid (bl_step HB.out hB)) | (replace HB := Lib.hid (bl_step (bl_alloc HB.out) hB)) | (replace HB := Lib.hid (bl_step (bl_alloc (bl_alloc HB.out)) hB)) | (replace HB := Lib.hid (bl_step (by repeat (first | with_reducible exact HB.out | with_reducible refine bl_alloc ?_ | (with_reducible refine bl_set ?_ ?hset; case hset => (first | with_reducible exact Nat.le_refl _ | (simp; done) | (simp; omega) | omega)))) hB)) | (have HB := Lib.hid hB)); obtain ⟨hc, hf⟩ := bcell HB.out; clear hB; have hz := HB.out.size; simp at hz; have hz2 : w.heap.size + 1 + 1 < w2.heap.size := (by omega); have hz1 : w.heap.size + 1 < w2.heap.size := (by omega); have hz0 : w.heap.size < w2.heap.size := (by omega); clear hz)
        | (go_at_call 108; (with_reducible refine ((HS _).out).mono ?_); rintro e w3 ⟨rfl, hB⟩; (try clear hc hf); (first | (replace HB := Lib.hid (bl_step HB.out hB)) | (replace HB := Lib.hid (bl_step (bl_alloc HB.out) hB)) | (replace HB := Lib.hid (bl_step (bl_alloc (bl_alloc HB.out)) hB)) | (replace HB := Lib.hid (bl_step (by repeat (first | with_reducible exact HB.out | with_reducible refine bl_alloc ?_ | (with_reducible refine bl_set ?_ ?hset; case hset => (first | with_reducible exact Nat.le_refl _ | (simp; done) | (simp; omega) | omega)))) hB)) | (have HB := Lib.hid hB)); obtain ⟨hc, hf⟩ := bcell HB.out; obtain ⟨hd, he⟩ := bcell hB; clear hB; have hz := HB.out.size; simp at hz; have hz2 : w.heap.size + 1 + 1 < w3.heap.size := (by omega); have hz1 : w.heap.size + 1 < w3.heap.size := (by omega); have hz0 : w.heap.size < w3.heap.size := (by omega); clear hz; have h5 := hd w2.heap.size 5 (by simp); simp at h5))
      refine bodyPost_ret (v := .tuple #[tv k lo2 hi2 s1 y1 true false f1 0 fc1, .bool true]) (by simp [results, Tryz.results86, go_sem, hc]) rfl ⟨rfl, (by (repeat (first | with_reducible exact Below.refl _ _ | with_reducible refine bl_alloc ?_ | (with_reducible refine bl_set ?_ ?hset; case hset => (first | with_reducible exact Nat.le_refl _ | (simp; done) | (simp; omega) | omega)) | with_reducible refine bl_step ?_ HB.out)))⟩
  · go_enter Tryz.func86, Tryz.ntmps86
    go_wp2_with (first
      | (go_at_call 65; (with_reducible refine ((H1 _).out).mono ?_); rintro e w1 ⟨rfl, hB⟩; (try clear hc hf); (first | (replace HB := Lib.hid (bl_step HB.out hB)) | (replace HB := Lib.hid (bl_step (bl_alloc HB.out) hB)) | (replace HB := Lib.hid (bl_step (bl_alloc (bl_alloc HB.out)) hB)) | (replace HB := Lib.hid (bl_step (by repeat (first | with_reducible exact HB.out | with_reducible refine bl_alloc ?_ | (with_reducible refine bl_set ?_ ?hset; case hset => (first | with_reducible exact Nat.le_refl _ | (simp; done) | (simp; omega) | omega)))) hB)) | (have HB := Lib.hid hB)); obtain ⟨hc, hf⟩ := bcell HB.out; clear hB; have hz := HB.out.size; simp at hz; have hz2 : w.heap.size + 1 + 1 < w1.heap.size := (by omega); have hz1 : w.heap.size + 1 < w1.heap.size := (by omega); have hz0 : w.heap.size < w1.heap.size := (by omega); clear hz)
      | (go_at_call 65; (with_reducible refine ((H2 _).out).mono ?_); rintro e w2 ⟨rfl, hB⟩; (try clear hc hf); (first | (replace HB := Lib.hid (bl_step HB.out hB)) | (replace HB := Lib.hid (bl_step (bl_alloc HB.out) hB)) | (replace HB := Lib.hid (bl_step (bl_alloc (bl_alloc HB.out)) hB)) | (replace HB := Lib.hid (bl_step (by repeat (first | with_reducible exact HB.out | with_reducible refine bl_alloc ?_ | (with_reducible refine bl_set ?_ ?hset; case hset => (first | with_reducible exact Nat.le_refl _ | (simp; done) | (simp; omega) | omega)))) hB)) | (have HB := Lib.hid hB)); obtain ⟨hc, hf⟩ := bcell HB.out; clear hB; have hz := HB.out.size; simp at hz; have hz2 : w.heap.size + 1 + 1 < w2.heap.size := (by omega); have hz1 : w.heap.size + 1 < w2.heap.size := (by omega); have hz0 : w.heap.size < w2.heap.size := (by omega); clear hz)
      | (go_at_call 108; (with_reducible refine ((HS _).out).mono ?_); rintro e w3 ⟨rfl, hB⟩; (try clear hc hf); (first | (replace HB := Lib.hid (bl_step HB.out hB)) | (replace HB := Lib.hid (bl_step (bl_alloc HB.out) hB)) | (replace HB := Lib.hid (bl_step (bl_alloc (bl_alloc HB.out)) hB)) | (replace HB := Lib.hid (bl_step (by repeat (first | with_reducible exact HB.out | with_reducible refine bl_alloc ?_ | (with_reducible refine bl_set ?_ ?hset; case hset => (first | with_reducible exact Nat.le_refl _ | (simp; done) | (simp; omega) | omega)))) hB)) | (have HB := Lib.hid hB)); obtain ⟨hc, hf⟩ := bcell HB.out; obtain ⟨hd, he⟩ := bcell hB; clear hB; have hz := HB.out.size; simp at hz; have hz2 : w.heap.size + 1 + 1 < w3.heap.size := (by omega); have hz1 : w.heap.size + 1 < w3.heap.size := (by omega); have hz0 : w.heap.size < w3.heap.size := (by omega); clear hz; have h5 := hd w2.heap.size 5 (by simp); simp at h5))
    refine bodyPost_ret (v := .tuple #[tv k lo2 hi2 s1 y1 false false f1 0 fc1, .bool true]) (by simp [results, Tryz.results86, go_sem, hc]) rfl ⟨by simp, (by (repeat (first | with_reducible exact Below.refl _ _ | with_reducible refine bl_alloc ?_ | (with_reducible refine bl_set ?_ ?hset; case hset => (first | with_reducible exact Nat.le_refl _ | (simp; done) | (simp; omega) | omega)) | with_reducible refine bl_step ?_ HB.out)))⟩

end Go.Proofs.YtddleeenlpigfaaGreatDoor
