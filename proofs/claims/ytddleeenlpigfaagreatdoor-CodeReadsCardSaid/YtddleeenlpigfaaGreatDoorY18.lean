/- T, U, V, Ac, Ah -/
import Derived.Test.YtddleeenlpigfaaGreatDoorY5
import Derived.Test.YtddleeenlpigfaaGreatDoorY12
import Derived.Test.YtddleeenlpigfaaGreatDoorY8
import Derived.Test.YtddleeenlpigfaaGreatDoorY13
import Derived.Test.YtddleeenlpigfaaGreatDoorY9
import Derived.Test.YtddleeenlpigfaaGreatDoorY14
import Derived.Test.YtddleeenlpigfaaGreatDoorY15
import Derived.Test.YtddleeenlpigfaaGreatDoorY16
import Derived.Test.YtddleeenlpigfaaGreatDoorY17
/- WALKS of the reference's Meet: nothing in both. -/
namespace Go.Proofs.YtddleeenlpigfaaGreatDoor
open Go.RowKit
set_option maxRecDepth 100000 in
set_option maxHeartbeats 2000000 in
theorem rmeet_gap (k lo1 hi1 : Int) (s1 : ByteArray) (y1 m1 : Bool) (f1 : Option Addr) (fc1 : Nat) (lo2 hi2 : Int) (s2 : ByteArray) (y2 m2 : Bool) (f2 : Option Addr) (fc2 : Nat) (w : World) (h1' : rightB k lo1 hi1 s1 y1 m1 false 0 = true) (h2' : rightB k lo2 hi2 s2 y2 m2 false 0 = true) (hk : k ≠ 3) (hm : min hi1 hi2 < max lo1 lo2) :
    Calls Tryz.prog 86 #[tv k lo1 hi1 s1 y1 m1 false f1 0 fc1, tv k lo2 hi2 s2 y2 m2 false f2 0 fc2] w fun e w' => e = .returned (.tuple #[zv, .bool false]) ∧ Below w.heap.size w w' := by
  have hk' : (k == 3) = false := by simpa using hk
  have H1 := fun W => Lib.hid (rright_any k lo1 hi1 s1 y1 m1 false f1 0 fc1 W)
  have H2 := fun W => Lib.hid (rright_any k lo2 hi2 s2 y2 m2 false f2 0 fc2 W)
  rw [h1'] at H1
  rw [h2'] at H2
  clear h1' h2'
  clear hk
  by_cases g1 : lo1 < lo2 <;> by_cases g2 : hi2 < hi1
  · have g3 : hi2 < lo2 := by omega
    clear hm
    go_enter Tryz.func86, Tryz.ntmps86
    go_wp2_with (first
      | (go_at_call 65; (with_reducible refine ((H1 _).out).mono ?_); rintro e w1 ⟨rfl, hB⟩; (try clear hc hf); (first | (replace HB := Lib.hid (bl_step HB.out hB)) | (replace HB := Lib.hid (bl_step (bl_alloc HB.out) hB)) | (replace HB := Lib.hid (bl_step (bl_alloc (bl_alloc HB.out)) hB)) | (replace HB := Lib.hid (bl_step (by repeat (first | with_reducible exact HB.out | with_reducible refine bl_alloc ?_ | (with_reducible refine bl_set ?_ ?hset; case hset => (first | with_reducible exact Nat.le_refl _ | (simp; done) | (simp; omega) | omega)))) hB)) | (have HB := Lib.hid hB)); obtain ⟨hc, hf⟩ := bcell HB.out; clear hB; have hz := HB.out.size; simp at hz; have hz2 : w.heap.size + 1 + 1 < w1.heap.size := (by omega); have hz1 : w.heap.size + 1 < w1.heap.size := (by omega); have hz0 : w.heap.size < w1.heap.size := (by omega); clear hz)
      | (go_at_call 65; (with_reducible refine ((H2 _).out).mono ?_); rintro e w2 ⟨rfl, hB⟩; (try clear hc hf); (first | (replace HB := Lib.hid (bl_step HB.out hB)) | (replace HB := Lib.hid (bl_step (bl_alloc HB.out) hB)) | (replace HB := Lib.hid (bl_step (bl_alloc (bl_alloc HB.out)) hB)) | (replace HB := Lib.hid (bl_step (by repeat (first | with_reducible exact HB.out | with_reducible refine bl_alloc ?_ | (with_reducible refine bl_set ?_ ?hset; case hset => (first | with_reducible exact Nat.le_refl _ | (simp; done) | (simp; omega) | omega)))) hB)) | (have HB := Lib.hid hB)); obtain ⟨hc, hf⟩ := bcell HB.out; clear hB; have hz := HB.out.size; simp at hz; have hz2 : w.heap.size + 1 + 1 < w2.heap.size := (by omega); have hz1 : w.heap.size + 1 < w2.heap.size := (by omega); have hz0 : w.heap.size < w2.heap.size := (by omega); clear hz))
    refine bodyPost_ret (v := .tuple #[zv, .bool false]) (by simp [results, Tryz.results86, go_sem, hc, hz2]) rfl ⟨rfl, (by (repeat (first | with_reducible exact Below.refl _ _ | with_reducible refine bl_alloc ?_ | (with_reducible refine bl_set ?_ ?hset; case hset => (first | with_reducible exact Nat.le_refl _ | (simp; done) | (simp; omega) | omega)) | with_reducible refine bl_step ?_ HB.out)))⟩
  · have g3 : hi1 < lo2 := by omega
    clear hm
    go_enter Tryz.func86, Tryz.ntmps86
    go_wp2_with (first
      | (go_at_call 65; (with_reducible refine ((H1 _).out).mono ?_); rintro e w1 ⟨rfl, hB⟩; (try clear hc hf); (first | (replace HB := Lib.hid (bl_step HB.out hB)) | (replace HB := Lib.hid (bl_step (bl_alloc HB.out) hB)) | (replace HB := Lib.hid (bl_step (bl_alloc (bl_alloc HB.out)) hB)) | (replace HB := Lib.hid (bl_step (by repeat (first | with_reducible exact HB.out | with_reducible refine bl_alloc ?_ | (with_reducible refine bl_set ?_ ?hset; case hset => (first | with_reducible exact Nat.le_refl _ | (simp; done) | (simp; omega) | omega)))) hB)) | (have HB := Lib.hid hB)); obtain ⟨hc, hf⟩ := bcell HB.out; clear hB; have hz := HB.out.size; simp at hz; have hz2 : w.heap.size + 1 + 1 < w1.heap.size := (by omega); have hz1 : w.heap.size + 1 < w1.heap.size := (by omega); have hz0 : w.heap.size < w1.heap.size := (by omega); clear hz)
      | (go_at_call 65; (with_reducible refine ((H2 _).out).mono ?_); rintro e w2 ⟨rfl, hB⟩; (try clear hc hf); (first | (replace HB := Lib.hid (bl_step HB.out hB)) | (replace HB := Lib.hid (bl_step (bl_alloc HB.out) hB)) | (replace HB := Lib.hid (bl_step (bl_alloc (bl_alloc HB.out)) hB)) | (replace HB := Lib.hid (bl_step (by repeat (first | with_reducible exact HB.out | with_reducible refine bl_alloc ?_ | (with_reducible refine bl_set ?_ ?hset; case hset => (first | with_reducible exact Nat.le_refl _ | (simp; done) | (simp; omega) | omega)))) hB)) | (have HB := Lib.hid hB)); obtain ⟨hc, hf⟩ := bcell HB.out; clear hB; have hz := HB.out.size; simp at hz; have hz2 : w.heap.size + 1 + 1 < w2.heap.size := (by omega); have hz1 : w.heap.size + 1 < w2.heap.size := (by omega); have hz0 : w.heap.size < w2.heap.size := (by omega); clear hz))
    refine bodyPost_ret (v := .tuple #[zv, .bool false]) (by simp [results, Tryz.results86, go_sem, hc, hz2]) rfl ⟨rfl, (by (repeat (first | with_reducible exact Below.refl _ _ | with_reducible refine bl_alloc ?_ | (with_reducible refine bl_set ?_ ?hset; case hset => (first | with_reducible exact Nat.le_refl _ | (simp; done) | (simp; omega) | omega)) | with_reducible refine bl_step ?_ HB.out)))⟩
  · have g3 : hi2 < lo1 := by omega
    clear hm
    go_enter Tryz.func86, Tryz.ntmps86
    go_wp2_with (first
      | (go_at_call 65; (with_reducible refine ((H1 _).out).mono ?_); rintro e w1 ⟨rfl, hB⟩; (try clear hc hf); (first | (replace HB := Lib.hid (bl_step HB.out hB)) | (replace HB := Lib.hid (bl_step (bl_alloc HB.out) hB)) | (replace HB := Lib.hid (bl_step (bl_alloc (bl_alloc HB.out)) hB)) | (replace HB := Lib.hid (bl_step (by repeat (first | with_reducible exact HB.out | with_reducible refine bl_alloc ?_ | (with_reducible refine bl_set ?_ ?hset; case hset => (first | with_reducible exact Nat.le_refl _ | (simp; done) | (simp; omega) | omega)))) hB)) | (have HB := Lib.hid hB)); obtain ⟨hc, hf⟩ := bcell HB.out; clear hB; have hz := HB.out.size; simp at hz; have hz2 : w.heap.size + 1 + 1 < w1.heap.size := (by omega); have hz1 : w.heap.size + 1 < w1.heap.size := (by omega); have hz0 : w.heap.size < w1.heap.size := (by omega); clear hz)
      | (go_at_call 65; (with_reducible refine ((H2 _).out).mono ?_); rintro e w2 ⟨rfl, hB⟩; (try clear hc hf); (first | (replace HB := Lib.hid (bl_step HB.out hB)) | (replace HB := Lib.hid (bl_step (bl_alloc HB.out) hB)) | (replace HB := Lib.hid (bl_step (bl_alloc (bl_alloc HB.out)) hB)) | (replace HB := Lib.hid (bl_step (by repeat (first | with_reducible exact HB.out | with_reducible refine bl_alloc ?_ | (with_reducible refine bl_set ?_ ?hset; case hset => (first | with_reducible exact Nat.le_refl _ | (simp; done) | (simp; omega) | omega)))) hB)) | (have HB := Lib.hid hB)); obtain ⟨hc, hf⟩ := bcell HB.out; clear hB; have hz := HB.out.size; simp at hz; have hz2 : w.heap.size + 1 + 1 < w2.heap.size := (by omega); have hz1 : w.heap.size + 1 < w2.heap.size := (by omega); have hz0 : w.heap.size < w2.heap.size := (by omega); clear hz))
    refine bodyPost_ret (v := .tuple #[zv, .bool false]) (by simp [results, Tryz.results86, go_sem, hc, hz2]) rfl ⟨rfl, (by (repeat (first | with_reducible exact Below.refl _ _ | with_reducible refine bl_alloc ?_ | (with_reducible refine bl_set ?_ ?hset; case hset => (first | with_reducible exact Nat.le_refl _ | (simp; done) | (simp; omega) | omega)) | with_reducible refine bl_step ?_ HB.out)))⟩
  · have g3 : hi1 < lo1 := by omega
    clear hm
    go_enter Tryz.func86, Tryz.ntmps86
    go_wp2_with (first
      | (go_at_call 65; (with_reducible refine ((H1 _).out).mono ?_); rintro e w1 ⟨rfl, hB⟩; (try clear hc hf); (first | (replace HB := Lib.hid (bl_step HB.out hB)) | (replace HB := Lib.hid (bl_step (bl_alloc HB.out) hB)) | (replace HB := Lib.hid (bl_step (bl_alloc (bl_alloc HB.out)) hB)) | (replace HB := Lib.hid (bl_step (by repeat (first | with_reducible exact HB.out | with_reducible refine bl_alloc ?_ | (with_reducible refine bl_set ?_ ?hset; case hset => (first | with_reducible exact Nat.le_refl _ | (simp; done) | (simp; omega) | omega)))) hB)) | (have HB := Lib.hid hB)); obtain ⟨hc, hf⟩ := bcell HB.out; clear hB; have hz := HB.out.size; simp at hz; have hz2 : w.heap.size + 1 + 1 < w1.heap.size := (by omega); have hz1 : w.heap.size + 1 < w1.heap.size := (by omega); have hz0 : w.heap.size < w1.heap.size := (by omega); clear hz)
      | (go_at_call 65; (with_reducible refine ((H2 _).out).mono ?_); rintro e w2 ⟨rfl, hB⟩; (try clear hc hf); (first | (replace HB := Lib.hid (bl_step HB.out hB)) | (replace HB := Lib.hid (bl_step (bl_alloc HB.out) hB)) | (replace HB := Lib.hid (bl_step (bl_alloc (bl_alloc HB.out)) hB)) | (replace HB := Lib.hid (bl_step (by repeat (first | with_reducible exact HB.out | with_reducible refine bl_alloc ?_ | (with_reducible refine bl_set ?_ ?hset; case hset => (first | with_reducible exact Nat.le_refl _ | (simp; done) | (simp; omega) | omega)))) hB)) | (have HB := Lib.hid hB)); obtain ⟨hc, hf⟩ := bcell HB.out; clear hB; have hz := HB.out.size; simp at hz; have hz2 : w.heap.size + 1 + 1 < w2.heap.size := (by omega); have hz1 : w.heap.size + 1 < w2.heap.size := (by omega); have hz0 : w.heap.size < w2.heap.size := (by omega); clear hz))
    refine bodyPost_ret (v := .tuple #[zv, .bool false]) (by simp [results, Tryz.results86, go_sem, hc, hz2]) rfl ⟨rfl, (by (repeat (first | with_reducible exact Below.refl _ _ | with_reducible refine bl_alloc ?_ | (with_reducible refine bl_set ?_ ?hset; case hset => (first | with_reducible exact Nat.le_refl _ | (simp; done) | (simp; omega) | omega)) | with_reducible refine bl_step ?_ HB.out)))⟩
set_option maxRecDepth 100000 in
set_option maxHeartbeats 2000000 in
theorem rmeet_unlike (k1 lo1 hi1 : Int) (s1 : ByteArray) (y1 m1 o1 : Bool) (f1 : Option Addr) (fl1 fc1 : Nat) (k2 lo2 hi2 : Int) (s2 : ByteArray) (y2 m2 o2 : Bool) (f2 : Option Addr) (fl2 fc2 : Nat) (w : World)
    (h : ¬ (rightB k1 lo1 hi1 s1 y1 m1 o1 fl1 = true ∧ rightB k2 lo2 hi2 s2 y2 m2 o2 fl2 = true ∧ k1 = k2)) :
    Calls Tryz.prog 86 #[tv k1 lo1 hi1 s1 y1 m1 o1 f1 fl1 fc1, tv k2 lo2 hi2 s2 y2 m2 o2 f2 fl2 fc2] w fun e w' => e = .returned (.tuple #[zv, .bool false]) ∧ Below w.heap.size w w' := by
  have H1 := fun W => Lib.hid (rright_any k1 lo1 hi1 s1 y1 m1 o1 f1 fl1 fc1 W)
  have H2 := fun W => Lib.hid (rright_any k2 lo2 hi2 s2 y2 m2 o2 f2 fl2 fc2 W)
  generalize rightB k1 lo1 hi1 s1 y1 m1 o1 fl1 = r1 at *
  generalize rightB k2 lo2 hi2 s2 y2 m2 o2 fl2 = r2 at *
  cases r1
  · clear h
    go_enter Tryz.func86, Tryz.ntmps86
    go_wp2_with (first
      | (go_at_call 65; (with_reducible refine ((H1 _).out).mono ?_); rintro e w1 ⟨rfl, hB⟩; (try clear hc hf); (first | (replace HB := Lib.hid (bl_step HB.out hB)) | (replace HB := Lib.hid (bl_step (bl_alloc HB.out) hB)) | (replace HB := Lib.hid (bl_step (bl_alloc (bl_alloc HB.out)) hB)) | (replace HB := Lib.hid (bl_step (by repeat (first | with_reducible exact HB.out | with_reducible refine bl_alloc ?_ | (with_reducible refine bl_set ?_ ?hset; case hset => (first | with_reducible exact Nat.le_refl _ | (simp; done) | (simp; omega) | omega)))) hB)) | (have HB := Lib.hid hB)); obtain ⟨hc, hf⟩ := bcell HB.out; clear hB; have hz := HB.out.size; simp at hz; have hz2 : w.heap.size + 1 + 1 < w1.heap.size := (by omega); have hz1 : w.heap.size + 1 < w1.heap.size := (by omega); have hz0 : w.heap.size < w1.heap.size := (by omega); clear hz)
      | (go_at_call 65; (with_reducible refine ((H2 _).out).mono ?_); rintro e w2 ⟨rfl, hB⟩; (try clear hc hf); (first | (replace HB := Lib.hid (bl_step HB.out hB)) | (replace HB := Lib.hid (bl_step (bl_alloc HB.out) hB)) | (replace HB := Lib.hid (bl_step (bl_alloc (bl_alloc HB.out)) hB)) | (replace HB := Lib.hid (bl_step (by repeat (first | with_reducible exact HB.out | with_reducible refine bl_alloc ?_ | (with_reducible refine bl_set ?_ ?hset; case hset => (first | with_reducible exact Nat.le_refl _ | (simp; done) | (simp; omega) | omega)))) hB)) | (have HB := Lib.hid hB)); obtain ⟨hc, hf⟩ := bcell HB.out; clear hB; have hz := HB.out.size; simp at hz; have hz2 : w.heap.size + 1 + 1 < w2.heap.size := (by omega); have hz1 : w.heap.size + 1 < w2.heap.size := (by omega); have hz0 : w.heap.size < w2.heap.size := (by omega); clear hz))
    refine bodyPost_ret (v := .tuple #[zv, .bool false]) (by simp [results, Tryz.results86, go_sem, hc]) rfl ⟨rfl, (by (repeat (first | with_reducible exact Below.refl _ _ | with_reducible refine bl_alloc ?_ | (with_reducible refine bl_set ?_ ?hset; case hset => (first | with_reducible exact Nat.le_refl _ | (simp; done) | (simp; omega) | omega)) | with_reducible refine bl_step ?_ HB.out)))⟩
  · cases r2
    · clear h
      go_enter Tryz.func86, Tryz.ntmps86
      go_wp2_with (first
      | (go_at_call 65; (with_reducible refine ((H1 _).out).mono ?_); rintro e w1 ⟨rfl, hB⟩; (try clear hc hf); (first | (replace HB := Lib.hid (bl_step HB.out hB)) | (replace HB := Lib.hid (bl_step (bl_alloc HB.out) hB)) | (replace HB := Lib.hid (bl_step (bl_alloc (bl_alloc HB.out)) hB)) | (replace HB := Lib.hid (bl_step (by repeat (first | with_reducible exact HB.out | with_reducible refine bl_alloc ?_ | (with_reducible refine bl_set ?_ ?hset; case hset => (first | with_reducible exact Nat.le_refl _ | (simp; done) | (simp; omega) | omega)))) hB)) | (have HB := Lib.hid hB)); obtain ⟨hc, hf⟩ := bcell HB.out; clear hB; have hz := HB.out.size; simp at hz; have hz2 : w.heap.size + 1 + 1 < w1.heap.size := (by omega); have hz1 : w.heap.size + 1 < w1.heap.size := (by omega); have hz0 : w.heap.size < w1.heap.size := (by omega); clear hz)
      | (go_at_call 65; (with_reducible refine ((H2 _).out).mono ?_); rintro e w2 ⟨rfl, hB⟩; (try clear hc hf); (first | (replace HB := Lib.hid (bl_step HB.out hB)) | (replace HB := Lib.hid (bl_step (bl_alloc HB.out) hB)) | (replace HB := Lib.hid (bl_step (bl_alloc (bl_alloc HB.out)) hB)) | (replace HB := Lib.hid (bl_step (by repeat (first | with_reducible exact HB.out | with_reducible refine bl_alloc ?_ | (with_reducible refine bl_set ?_ ?hset; case hset => (first | with_reducible exact Nat.le_refl _ | (simp; done) | (simp; omega) | omega)))) hB)) | (have HB := Lib.hid hB)); obtain ⟨hc, hf⟩ := bcell HB.out; clear hB; have hz := HB.out.size; simp at hz; have hz2 : w.heap.size + 1 + 1 < w2.heap.size := (by omega); have hz1 : w.heap.size + 1 < w2.heap.size := (by omega); have hz0 : w.heap.size < w2.heap.size := (by omega); clear hz))
      refine bodyPost_ret (v := .tuple #[zv, .bool false]) (by simp [results, Tryz.results86, go_sem, hc]) rfl ⟨rfl, (by (repeat (first | with_reducible exact Below.refl _ _ | with_reducible refine bl_alloc ?_ | (with_reducible refine bl_set ?_ ?hset; case hset => (first | with_reducible exact Nat.le_refl _ | (simp; done) | (simp; omega) | omega)) | with_reducible refine bl_step ?_ HB.out)))⟩
    · have hk : ¬ k1 = k2 := fun e => h ⟨rfl, rfl, e⟩
      have hk' : (k1 == k2) = false := by simpa using hk
      have hk2 : (k1 != k2) = true := by simpa using hk
      clear h hk
      go_enter Tryz.func86, Tryz.ntmps86
      go_wp2_with (first
      | (go_at_call 65; (with_reducible refine ((H1 _).out).mono ?_); rintro e w1 ⟨rfl, hB⟩; (try clear hc hf); (first | (replace HB := Lib.hid (bl_step HB.out hB)) | (replace HB := Lib.hid (bl_step (bl_alloc HB.out) hB)) | (replace HB := Lib.hid (bl_step (bl_alloc (bl_alloc HB.out)) hB)) | (replace HB := Lib.hid (bl_step (by repeat (first | with_reducible exact HB.out | with_reducible refine bl_alloc ?_ | (with_reducible refine bl_set ?_ ?hset; case hset => (first | with_reducible exact Nat.le_refl _ | (simp; done) | (simp; omega) | omega)))) hB)) | (have HB := Lib.hid hB)); obtain ⟨hc, hf⟩ := bcell HB.out; clear hB; have hz := HB.out.size; simp at hz; have hz2 : w.heap.size + 1 + 1 < w1.heap.size := (by omega); have hz1 : w.heap.size + 1 < w1.heap.size := (by omega); have hz0 : w.heap.size < w1.heap.size := (by omega); clear hz)
      | (go_at_call 65; (with_reducible refine ((H2 _).out).mono ?_); rintro e w2 ⟨rfl, hB⟩; (try clear hc hf); (first | (replace HB := Lib.hid (bl_step HB.out hB)) | (replace HB := Lib.hid (bl_step (bl_alloc HB.out) hB)) | (replace HB := Lib.hid (bl_step (bl_alloc (bl_alloc HB.out)) hB)) | (replace HB := Lib.hid (bl_step (by repeat (first | with_reducible exact HB.out | with_reducible refine bl_alloc ?_ | (with_reducible refine bl_set ?_ ?hset; case hset => (first | with_reducible exact Nat.le_refl _ | (simp; done) | (simp; omega) | omega)))) hB)) | (have HB := Lib.hid hB)); obtain ⟨hc, hf⟩ := bcell HB.out; clear hB; have hz := HB.out.size; simp at hz; have hz2 : w.heap.size + 1 + 1 < w2.heap.size := (by omega); have hz1 : w.heap.size + 1 < w2.heap.size := (by omega); have hz0 : w.heap.size < w2.heap.size := (by omega); clear hz))
      refine bodyPost_ret (v := .tuple #[zv, .bool false]) (by simp [results, Tryz.results86, go_sem, hc]) rfl ⟨rfl, (by (repeat (first | with_reducible exact Below.refl _ _ | with_reducible refine bl_alloc ?_ | (with_reducible refine bl_set ?_ ?hset; case hset => (first | with_reducible exact Nat.le_refl _ | (simp; done) | (simp; omega) | omega)) | with_reducible refine bl_step ?_ HB.out)))⟩

end Go.Proofs.YtddleeenlpigfaaGreatDoor
/- The contract of the reference's Meet. -/
namespace Go.Proofs.YtddleeenlpigfaaGreatDoor
open Go.RowKit
theorem bytes_empty {s : ByteArray} (h : s.toList = []) : s = ⟨#[]⟩ := bytes_ext (h.trans toList_nil.symm)
theorem right_numF {k lo hi : Int} {s : ByteArray} {y m o : Bool} {fl : Nat} (h : RightP k lo hi s y m o fl) (hk : k ≠ 3) : s = ⟨#[]⟩ ∧ y = false := by
  rcases h.2.2.2 with a | a | a
  · exact absurd a.1 hk
  · exact ⟨bytes_empty a.2.1, a.2.2.1⟩
  · exact ⟨bytes_empty a.2.1, a.2.2.1⟩
theorem right_textF {lo hi : Int} {s : ByteArray} {y m o : Bool} {fl : Nat} (h : RightP 3 lo hi s y m o fl) : lo = 0 ∧ hi = 0 ∧ (y = true → s = ⟨#[]⟩) := by
  rcases h.2.2.2 with a | a | a
  · exact ⟨a.2.1, a.2.2.1, fun e => bytes_empty (a.2.2.2.2 e)⟩
  · omega
  · omega
theorem rmeet_some (k lo1 hi1 : Int) (s1 : ByteArray) (y1 m1 : Bool) (f1 : Option Addr) (fc1 : Nat) (lo2 hi2 : Int) (s2 : ByteArray) (y2 m2 : Bool) (f2 : Option Addr) (fc2 : Nat) (w : World) (h1 : RightP k lo1 hi1 s1 y1 m1 false 0) (h2 : RightP k lo2 hi2 s2 y2 m2 false 0) {lo hi : Int} {s : ByteArray} {y : Bool}
    (h : commonF k lo1 hi1 s1 y1 lo2 hi2 s2 y2 = some (lo, hi, s, y)) : Calls Tryz.prog 86 #[tv k lo1 hi1 s1 y1 m1 false f1 0 fc1, tv k lo2 hi2 s2 y2 m2 false f2 0 fc2] w fun e w' => e = .returned (.tuple #[tv k lo hi s y ((m1 || m2) && !singleB k lo hi y) false f1 0 fc1, .bool true]) ∧ Below w.heap.size w w' := by
  have r1 := rightB_iff.2 h1
  have r2 := rightB_iff.2 h2
  unfold commonF at h
  by_cases hk : k = 3
  · subst hk
    rw [if_pos rfl] at h
    obtain ⟨rfl, rfl, e1⟩ := right_textF h1
    obtain ⟨rfl, rfl, e2⟩ := right_textF h2
    cases y1
    · rw [if_neg (by decide)] at h
      split at h
      · rename_i hy
        cases h
        rw [show singleB 3 0 0 false = true from rfl, Bool.not_true, Bool.and_false]
        cases y2
        · exact rmeet_ff _ _ _ _ _ _ _ _ _ r1 r2 (hy.resolve_left (by decide))
        · exact rmeet_ft _ _ _ _ _ _ _ _ _ r1 r2
      · cases h
    · rw [if_pos rfl] at h
      cases y2
      · rw [if_neg (by decide)] at h
        cases h
        rw [show singleB 3 0 0 false = true from rfl, Bool.not_true, Bool.and_false]
        exact rmeet_tf _ _ _ _ _ _ _ _ _ r1 r2
      · rw [if_pos rfl] at h
        cases h
        rw [show singleB 3 0 0 true = false from rfl, Bool.not_false, Bool.and_true]
        have e3 := e2 rfl
        subst e3
        exact rmeet_tt _ _ _ _ _ _ _ _ _ r1 r2
  · rw [if_neg hk] at h
    obtain ⟨rfl, rfl⟩ := right_numF h1 hk
    split at h
    · rename_i hm
      cases h
      by_cases g1 : lo1 < lo2 <;> by_cases g2 : hi2 < hi1
      · rw [show max lo1 lo2 = lo2 by omega, show min hi1 hi2 = hi2 by omega] at *
        exact rmeet_num_a _ _ _ _ _ _ _ _ _ _ _ _ _ _ _ _ r1 r2 hk g1 g2 hm
      · rw [show max lo1 lo2 = lo2 by omega, show min hi1 hi2 = hi1 by omega] at *
        exact rmeet_num_b _ _ _ _ _ _ _ _ _ _ _ _ _ _ _ _ r1 r2 hk g1 (by omega) hm
      · rw [show max lo1 lo2 = lo1 by omega, show min hi1 hi2 = hi2 by omega] at *
        exact rmeet_num_c _ _ _ _ _ _ _ _ _ _ _ _ _ _ _ _ r1 r2 hk (by omega) g2 hm
      · rw [show max lo1 lo2 = lo1 by omega, show min hi1 hi2 = hi1 by omega] at *
        exact rmeet_num_d _ _ _ _ _ _ _ _ _ _ _ _ _ _ _ _ r1 r2 hk (by omega) (by omega) hm
    · cases h
theorem rmeet_none (k lo1 hi1 : Int) (s1 : ByteArray) (y1 m1 : Bool) (f1 : Option Addr) (fc1 : Nat) (lo2 hi2 : Int) (s2 : ByteArray) (y2 m2 : Bool) (f2 : Option Addr) (fc2 : Nat) (w : World) (h1 : RightP k lo1 hi1 s1 y1 m1 false 0) (h2 : RightP k lo2 hi2 s2 y2 m2 false 0)
    (h : commonF k lo1 hi1 s1 y1 lo2 hi2 s2 y2 = none) : Calls Tryz.prog 86 #[tv k lo1 hi1 s1 y1 m1 false f1 0 fc1, tv k lo2 hi2 s2 y2 m2 false f2 0 fc2] w fun e w' => e = .returned (.tuple #[zv, .bool false]) ∧ Below w.heap.size w w' := by
  have r1 := rightB_iff.2 h1
  have r2 := rightB_iff.2 h2
  unfold commonF at h
  by_cases hk : k = 3
  · subst hk
    rw [if_pos rfl] at h
    obtain ⟨rfl, rfl, e1⟩ := right_textF h1
    obtain ⟨rfl, rfl, e2⟩ := right_textF h2
    cases y1
    · rw [if_neg (by decide)] at h
      split at h
      · cases h
      · rename_i hy
        cases y2
        · exact rmeet_ne _ _ _ _ _ _ _ _ _ r1 r2 (fun e => hy (.inr e))
        · exact absurd (.inl rfl) hy
    · rw [if_pos rfl] at h
      cases y2 <;> cases h
  · rw [if_neg hk] at h
    split at h
    · cases h
    · rename_i hm
      exact rmeet_gap _ _ _ _ _ _ _ _ _ _ _ _ _ _ _ _ r1 r2 hk (by omega)

end Go.Proofs.YtddleeenlpigfaaGreatDoor
/- WALKS of Below. -/
namespace Go.Proofs.YtddleeenlpigfaaGreatDoor
open Go.RowKit
set_option maxRecDepth 100000 in
set_option maxHeartbeats 2000000 in
theorem below_no (k1 lo1 hi1 : Int) (s1 : ByteArray) (y1 m1 o1 : Bool) (f1 : Option Addr) (fl1 fc1 : Nat) (k2 lo2 hi2 : Int) (s2 : ByteArray) (y2 m2 o2 : Bool) (f2 : Option Addr) (fl2 fc2 : Nat) (w : World) (h : ∀ W, Calls Tryz.prog 118 #[tv k1 lo1 hi1 s1 y1 m1 o1 f1 fl1 fc1, tv k2 lo2 hi2 s2 y2 m2 o2 f2 fl2 fc2] W fun e w' => e = .returned (.tuple #[zv, .bool false]) ∧ Below W.heap.size W w') :
    Calls Tryz.prog 113 #[tv k1 lo1 hi1 s1 y1 m1 o1 f1 fl1 fc1, tv k2 lo2 hi2 s2 y2 m2 o2 f2 fl2 fc2] w fun e w' => e = .returned (.bool false) ∧ Below w.heap.size w w' := by
  have HM := fun W => Lib.hid (h W)
  clear h
  go_enter Tryz.func113, Tryz.ntmps113
  go_wp2_with ((go_at_call 118; (with_reducible refine ((HM _).out).mono ?_); rintro e w1 ⟨rfl, hB⟩; (try clear hc hf); (first | (replace HB := Lib.hid (bl_step HB.out hB)) | (replace HB := Lib.hid (bl_step (bl_alloc HB.out) hB)) | (replace HB := Lib.hid (bl_step (bl_alloc (bl_alloc HB.out)) hB)) | (replace HB := Lib.hid (bl_step (by repeat (first | with_reducible exact HB.out | with_reducible refine bl_alloc ?_ | (with_reducible refine bl_set ?_ ?hset; case hset => (first | with_reducible exact Nat.le_refl _ | (simp; done) | (simp; omega) | omega)))) hB)) | (have HB := Lib.hid hB)); obtain ⟨hc, hf⟩ := bcell HB.out; clear hB; have hz := HB.out.size; simp at hz; have hz1 : w.heap.size + 1 < w1.heap.size := (by omega); have hz0 : w.heap.size < w1.heap.size := (by omega); clear hz))
  go_ret
  exact ⟨rfl, (by (repeat (first | with_reducible exact Below.refl _ _ | with_reducible refine bl_alloc ?_ | (with_reducible refine bl_set ?_ ?hset; case hset => (first | with_reducible exact Nat.le_refl _ | (simp; done) | (simp; omega) | omega)) | with_reducible refine bl_step ?_ HB.out)))⟩
set_option maxRecDepth 100000 in
set_option maxHeartbeats 2000000 in
theorem below_yes (k1 lo1 hi1 : Int) (s1 : ByteArray) (y1 m1 o1 : Bool) (f1 : Option Addr) (fl1 fc1 : Nat) (k2 lo2 hi2 : Int) (s2 : ByteArray) (y2 m2 o2 : Bool) (f2 : Option Addr) (fl2 fc2 : Nat) (k lo hi : Int) (s : ByteArray) (y m o : Bool) (f : Option Addr) (fl fc : Nat) (w : World) (h : ∀ W, Calls Tryz.prog 118 #[tv k1 lo1 hi1 s1 y1 m1 o1 f1 fl1 fc1, tv k2 lo2 hi2 s2 y2 m2 o2 f2 fl2 fc2] W fun e w' => e = .returned (.tuple #[tv k lo hi s y m o f fl fc, .bool true]) ∧ Below W.heap.size W w') :
    Calls Tryz.prog 113 #[tv k1 lo1 hi1 s1 y1 m1 o1 f1 fl1 fc1, tv k2 lo2 hi2 s2 y2 m2 o2 f2 fl2 fc2] w fun e w' => e = .returned (.bool (decide (SameP k lo hi s y m o fl k1 lo1 hi1 s1 y1 m1 o1 fl1))) ∧ Below w.heap.size w w' := by
  have HM := fun W => Lib.hid (h W)
  have HS := fun W => Lib.hid (same_any k lo hi s y m o f fl fc k1 lo1 hi1 s1 y1 m1 o1 f1 fl1 fc1 W)
  generalize decide (SameP k lo hi s y m o fl k1 lo1 hi1 s1 y1 m1 o1 fl1) = r at *
  clear h
  go_enter Tryz.func113, Tryz.ntmps113
  go_wp2_with (first
    | (go_at_call 118; (with_reducible refine ((HM _).out).mono ?_); rintro e w1 ⟨rfl, hB⟩; (try clear hc hf); (first | (replace HB := Lib.hid (bl_step HB.out hB)) | (replace HB := Lib.hid (bl_step (bl_alloc HB.out) hB)) | (replace HB := Lib.hid (bl_step (bl_alloc (bl_alloc HB.out)) hB)) | (replace HB := Lib.hid (bl_step (by repeat (first | with_reducible exact HB.out | with_reducible refine bl_alloc ?_ | (with_reducible refine bl_set ?_ ?hset; case hset => (first | with_reducible exact Nat.le_refl _ | (simp; done) | (simp; omega) | omega)))) hB)) | (have HB := Lib.hid hB)); obtain ⟨hc, hf⟩ := bcell HB.out; clear hB; have hz := HB.out.size; simp at hz; have hz1 : w.heap.size + 1 < w1.heap.size := (by omega); have hz0 : w.heap.size < w1.heap.size := (by omega); clear hz)
    | (go_at_call 142; (with_reducible refine ((HS _).out).mono ?_); rintro e w2 ⟨rfl, hB⟩; (try clear hc hf); (first | (replace HB := Lib.hid (bl_step HB.out hB)) | (replace HB := Lib.hid (bl_step (bl_alloc HB.out) hB)) | (replace HB := Lib.hid (bl_step (bl_alloc (bl_alloc HB.out)) hB)) | (replace HB := Lib.hid (bl_step (by repeat (first | with_reducible exact HB.out | with_reducible refine bl_alloc ?_ | (with_reducible refine bl_set ?_ ?hset; case hset => (first | with_reducible exact Nat.le_refl _ | (simp; done) | (simp; omega) | omega)))) hB)) | (have HB := Lib.hid hB)); obtain ⟨hc, hf⟩ := bcell HB.out; clear hB; have hz := HB.out.size; simp at hz; have hz1 : w.heap.size + 1 < w2.heap.size := (by omega); have hz0 : w.heap.size < w2.heap.size := (by omega); clear hz))
  go_ret
  exact ⟨rfl, (by (repeat (first | with_reducible exact Below.refl _ _ | with_reducible refine bl_alloc ?_ | (with_reducible refine bl_set ?_ ?hset; case hset => (first | with_reducible exact Nat.le_refl _ | (simp; done) | (simp; omega) | omega)) | with_reducible refine bl_step ?_ HB.out)))⟩
set_option maxRecDepth 100000 in
set_option maxHeartbeats 2000000 in
theorem rbelow_no (k1 lo1 hi1 : Int) (s1 : ByteArray) (y1 m1 o1 : Bool) (f1 : Option Addr) (fl1 fc1 : Nat) (k2 lo2 hi2 : Int) (s2 : ByteArray) (y2 m2 o2 : Bool) (f2 : Option Addr) (fl2 fc2 : Nat) (w : World) (h : ∀ W, Calls Tryz.prog 86 #[tv k1 lo1 hi1 s1 y1 m1 o1 f1 fl1 fc1, tv k2 lo2 hi2 s2 y2 m2 o2 f2 fl2 fc2] W fun e w' => e = .returned (.tuple #[zv, .bool false]) ∧ Below W.heap.size W w') :
    Calls Tryz.prog 69 #[tv k1 lo1 hi1 s1 y1 m1 o1 f1 fl1 fc1, tv k2 lo2 hi2 s2 y2 m2 o2 f2 fl2 fc2] w fun e w' => e = .returned (.bool false) ∧ Below w.heap.size w w' := by
  have HM := fun W => Lib.hid (h W)
  clear h
  go_enter Tryz.func69, Tryz.ntmps69
  go_wp2_with ((go_at_call 86; (with_reducible refine ((HM _).out).mono ?_); rintro e w1 ⟨rfl, hB⟩; (try clear hc hf); (first | (replace HB := Lib.hid (bl_step HB.out hB)) | (replace HB := Lib.hid (bl_step (bl_alloc HB.out) hB)) | (replace HB := Lib.hid (bl_step (bl_alloc (bl_alloc HB.out)) hB)) | (replace HB := Lib.hid (bl_step (by repeat (first | with_reducible exact HB.out | with_reducible refine bl_alloc ?_ | (with_reducible refine bl_set ?_ ?hset; case hset => (first | with_reducible exact Nat.le_refl _ | (simp; done) | (simp; omega) | omega)))) hB)) | (have HB := Lib.hid hB)); obtain ⟨hc, hf⟩ := bcell HB.out; clear hB; have hz := HB.out.size; simp at hz; have hz1 : w.heap.size + 1 < w1.heap.size := (by omega); have hz0 : w.heap.size < w1.heap.size := (by omega); clear hz))
  go_ret
  exact ⟨rfl, (by (repeat (first | with_reducible exact Below.refl _ _ | with_reducible refine bl_alloc ?_ | (with_reducible refine bl_set ?_ ?hset; case hset => (first | with_reducible exact Nat.le_refl _ | (simp; done) | (simp; omega) | omega)) | with_reducible refine bl_step ?_ HB.out)))⟩
set_option maxRecDepth 100000 in
set_option maxHeartbeats 2000000 in
theorem rbelow_yes (k1 lo1 hi1 : Int) (s1 : ByteArray) (y1 m1 o1 : Bool) (f1 : Option Addr) (fl1 fc1 : Nat) (k2 lo2 hi2 : Int) (s2 : ByteArray) (y2 m2 o2 : Bool) (f2 : Option Addr) (fl2 fc2 : Nat) (k lo hi : Int) (s : ByteArray) (y m o : Bool) (f : Option Addr) (fl fc : Nat) (w : World) (h : ∀ W, Calls Tryz.prog 86 #[tv k1 lo1 hi1 s1 y1 m1 o1 f1 fl1 fc1, tv k2 lo2 hi2 s2 y2 m2 o2 f2 fl2 fc2] W fun e w' => e = .returned (.tuple #[tv k lo hi s y m o f fl fc, .bool true]) ∧ Below W.heap.size W w') :
    Calls Tryz.prog 69 #[tv k1 lo1 hi1 s1 y1 m1 o1 f1 fl1 fc1, tv k2 lo2 hi2 s2 y2 m2 o2 f2 fl2 fc2] w fun e w' => e = .returned (.bool (decide (SameP k lo hi s y m o fl k1 lo1 hi1 s1 y1 m1 o1 fl1))) ∧ Below w.heap.size w w' := by
  have HM := fun W => Lib.hid (h W)
  have HS := fun W => Lib.hid (rsame_any k lo hi s y m o f fl fc k1 lo1 hi1 s1 y1 m1 o1 f1 fl1 fc1 W)
  generalize decide (SameP k lo hi s y m o fl k1 lo1 hi1 s1 y1 m1 o1 fl1) = r at *
  clear h
  go_enter Tryz.func69, Tryz.ntmps69
  go_wp2_with (first
    | (go_at_call 86; (with_reducible refine ((HM _).out).mono ?_); rintro e w1 ⟨rfl, hB⟩; (try clear hc hf); (first | (replace HB := Lib.hid (bl_step HB.out hB)) | (replace HB := Lib.hid (bl_step (bl_alloc HB.out) hB)) | (replace HB := Lib.hid (bl_step (bl_alloc (bl_alloc HB.out)) hB)) | (replace HB := Lib.hid (bl_step (by repeat (first | with_reducible exact HB.out | with_reducible refine bl_alloc ?_ | (with_reducible refine bl_set ?_ ?hset; case hset => (first | with_reducible exact Nat.le_refl _ | (simp; done) | (simp; omega) | omega)))) hB)) | (have HB := Lib.hid hB)); obtain ⟨hc, hf⟩ := bcell HB.out; clear hB; have hz := HB.out.size; simp at hz; have hz1 : w.heap.size + 1 < w1.heap.size := (by omega); have hz0 : w.heap.size < w1.heap.size := (by omega); clear hz)
    | (go_at_call 110; (with_reducible refine ((HS _).out).mono ?_); rintro e w2 ⟨rfl, hB⟩; (try clear hc hf); (first | (replace HB := Lib.hid (bl_step HB.out hB)) | (replace HB := Lib.hid (bl_step (bl_alloc HB.out) hB)) | (replace HB := Lib.hid (bl_step (bl_alloc (bl_alloc HB.out)) hB)) | (replace HB := Lib.hid (bl_step (by repeat (first | with_reducible exact HB.out | with_reducible refine bl_alloc ?_ | (with_reducible refine bl_set ?_ ?hset; case hset => (first | with_reducible exact Nat.le_refl _ | (simp; done) | (simp; omega) | omega)))) hB)) | (have HB := Lib.hid hB)); obtain ⟨hc, hf⟩ := bcell HB.out; clear hB; have hz := HB.out.size; simp at hz; have hz1 : w.heap.size + 1 < w2.heap.size := (by omega); have hz0 : w.heap.size < w2.heap.size := (by omega); clear hz))
  go_ret
  exact ⟨rfl, (by (repeat (first | with_reducible exact Below.refl _ _ | with_reducible refine bl_alloc ?_ | (with_reducible refine bl_set ?_ ?hset; case hset => (first | with_reducible exact Nat.le_refl _ | (simp; done) | (simp; omega) | omega)) | with_reducible refine bl_step ?_ HB.out)))⟩

end Go.Proofs.YtddleeenlpigfaaGreatDoor
/- scalar.Below and the reference's, at any terms. -/
namespace Go.Proofs.YtddleeenlpigfaaGreatDoor
open Go.RowKit
theorem sc_flat {x : Tm} (h : scR x) : x.o = false ∧ x.fs = [] := ⟨h.1, List.eq_nil_of_length_eq_zero h.2.1⟩
theorem same_sc {k lo hi : Int} {s : ByteArray} {y m : Bool} {k1 lo1 hi1 : Int} {s1 : ByteArray} {y1 m1 : Bool} (h : RightP k lo hi s y m false 0) (h1 : RightP k1 lo1 hi1 s1 y1 m1 false 0) :
    decide (SameP k lo hi s y m false 0 k1 lo1 hi1 s1 y1 m1 false 0) = decide ((⟨k, lo, hi, s, y, m⟩ : Sc) = ⟨k1, lo1, hi1, s1, y1, m1⟩) := by
  rw [decide_eq_decide]
  unfold SameP
  constructor
  · rintro ⟨-, -, rfl, rfl, rfl, e, rfl, rfl⟩
    rw [bytes_ext e]
  · intro e
    cases e
    exact ⟨rightB_iff.2 h, rightB_iff.2 h1, rfl, rfl, rfl, rfl, rfl, rfl⟩
theorem meet_right_plain {k lo1 hi1 : Int} {s1 : ByteArray} {y1 m1 : Bool} {lo2 hi2 : Int} {s2 : ByteArray} {y2 m2 : Bool} {lo hi : Int} {s : ByteArray} {y : Bool}
    (h1 : RightP k lo1 hi1 s1 y1 m1 false 0) (h2 : RightP k lo2 hi2 s2 y2 m2 false 0) (hc : commonF k lo1 hi1 s1 y1 lo2 hi2 s2 y2 = some (lo, hi, s, y)) : RightP k lo hi s y ((m1 || m2) && !singleB k lo hi y) false 0 := by
  have hr := commonF_right h1 h2 hc
  refine ⟨hr.1, hr.2.1, fun e => ?_, hr.2.2.2⟩
  cases g : singleB k lo hi y
  · rfl
  · rw [g] at e; simp at e
theorem sbelow_tm (a b : Tm) (f1 f2 : Option Addr) (fc1 fc2 : Nat) (w : World) :
    Calls Tryz.prog 113 #[tv a.k a.lo a.hi a.s a.y a.m a.o f1 a.fs.length fc1, tv b.k b.lo b.hi b.s b.y b.m b.o f2 b.fs.length fc2] w fun e w' => e = .returned (.bool (scB a b)) ∧ Below w.heap.size w w' := by
  obtain ⟨k1, lo1, hi1, s1, y1, m1, o1, fs1⟩ := a
  obtain ⟨k2, lo2, hi2, s2, y2, m2, o2, fs2⟩ := b
  simp only [Tm.k, Tm.lo, Tm.hi, Tm.s, Tm.y, Tm.m, Tm.o, Tm.fs]
  by_cases hr : scR (.mk k1 lo1 hi1 s1 y1 m1 o1 fs1) ∧ scR (.mk k2 lo2 hi2 s2 y2 m2 o2 fs2)
  · obtain ⟨h1, h2⟩ := hr
    have e1 := sc_flat h1
    have e2 := sc_flat h2
    simp only [Tm.o, Tm.fs] at e1 e2
    obtain ⟨rfl, rfl⟩ := e1
    obtain ⟨rfl, rfl⟩ := e2
    have r1 : RightP k1 lo1 hi1 s1 y1 m1 false 0 := h1
    have r2 : RightP k2 lo2 hi2 s2 y2 m2 false 0 := h2
    by_cases hk : k1 = k2
    · subst hk
      have hM : scM (.mk k1 lo1 hi1 s1 y1 m1 false []) (.mk k1 lo2 hi2 s2 y2 m2 false []) = (commonF k1 lo1 hi1 s1 y1 lo2 hi2 s2 y2).map fun t => ⟨k1, t.1, t.2.1, t.2.2.1, t.2.2.2, (m1 || m2) && !singleB k1 t.1 t.2.1 t.2.2.2⟩ := by
        unfold scM; rw [if_pos ⟨h1, h2⟩]; exact if_pos rfl
      unfold scB
      rw [hM]
      cases hc : commonF k1 lo1 hi1 s1 y1 lo2 hi2 s2 y2 with
      | none => exact below_no _ _ _ _ _ _ _ _ _ _ _ _ _ _ _ _ _ _ _ _ _ (fun W => meet_none k1 lo1 hi1 s1 y1 m1 f1 fc1 lo2 hi2 s2 y2 m2 f2 fc2 W r1 r2 hc)
      | some t =>
        obtain ⟨lo, hi, s, y⟩ := t
        simp only [Option.map_some]
        show Calls _ _ _ _ fun e w' => e = .returned (.bool (decide ((⟨k1, lo, hi, s, y, (m1 || m2) && !singleB k1 lo hi y⟩ : Sc) = ⟨k1, lo1, hi1, s1, y1, m1⟩))) ∧ _
        rw [← same_sc (meet_right_plain r1 r2 hc) r1]
        exact below_yes _ _ _ _ _ _ _ _ _ _ _ _ _ _ _ _ _ _ _ _ _ _ _ _ _ _ _ _ _ _ _ (fun W => meet_some k1 lo1 hi1 s1 y1 m1 f1 fc1 lo2 hi2 s2 y2 m2 f2 fc2 W r1 r2 hc)
    · have : scB (.mk k1 lo1 hi1 s1 y1 m1 false []) (.mk k2 lo2 hi2 s2 y2 m2 false []) = false := by
        unfold scB scM; rw [if_pos ⟨h1, h2⟩, meet_kk (by simpa [Tm.sc, Tm.k] using hk)]
      rw [this]
      exact below_no _ _ _ _ _ _ _ _ _ _ _ _ _ _ _ _ _ _ _ _ _ (fun W => meet_unlike _ _ _ _ _ _ _ _ _ _ _ _ _ _ _ _ _ _ _ _ W (fun c => hk c.2.2))
  · have : scB (.mk k1 lo1 hi1 s1 y1 m1 o1 fs1) (.mk k2 lo2 hi2 s2 y2 m2 o2 fs2) = false := by
      unfold scB scM; rw [if_neg hr]
    rw [this]
    exact below_no _ _ _ _ _ _ _ _ _ _ _ _ _ _ _ _ _ _ _ _ _ (fun W => meet_unlike _ _ _ _ _ _ _ _ _ _ _ _ _ _ _ _ _ _ _ _ W (fun c => hr ⟨rightB_iff.1 c.1, rightB_iff.1 c.2.1⟩))
theorem rsbelow_tm (a b : Tm) (f1 f2 : Option Addr) (fc1 fc2 : Nat) (w : World) :
    Calls Tryz.prog 69 #[tv a.k a.lo a.hi a.s a.y a.m a.o f1 a.fs.length fc1, tv b.k b.lo b.hi b.s b.y b.m b.o f2 b.fs.length fc2] w fun e w' => e = .returned (.bool (scB a b)) ∧ Below w.heap.size w w' := by
  obtain ⟨k1, lo1, hi1, s1, y1, m1, o1, fs1⟩ := a
  obtain ⟨k2, lo2, hi2, s2, y2, m2, o2, fs2⟩ := b
  simp only [Tm.k, Tm.lo, Tm.hi, Tm.s, Tm.y, Tm.m, Tm.o, Tm.fs]
  by_cases hr : scR (.mk k1 lo1 hi1 s1 y1 m1 o1 fs1) ∧ scR (.mk k2 lo2 hi2 s2 y2 m2 o2 fs2)
  · obtain ⟨h1, h2⟩ := hr
    have e1 := sc_flat h1
    have e2 := sc_flat h2
    simp only [Tm.o, Tm.fs] at e1 e2
    obtain ⟨rfl, rfl⟩ := e1
    obtain ⟨rfl, rfl⟩ := e2
    have r1 : RightP k1 lo1 hi1 s1 y1 m1 false 0 := h1
    have r2 : RightP k2 lo2 hi2 s2 y2 m2 false 0 := h2
    by_cases hk : k1 = k2
    · subst hk
      have hM : scM (.mk k1 lo1 hi1 s1 y1 m1 false []) (.mk k1 lo2 hi2 s2 y2 m2 false []) = (commonF k1 lo1 hi1 s1 y1 lo2 hi2 s2 y2).map fun t => ⟨k1, t.1, t.2.1, t.2.2.1, t.2.2.2, (m1 || m2) && !singleB k1 t.1 t.2.1 t.2.2.2⟩ := by
        unfold scM; rw [if_pos ⟨h1, h2⟩]; exact if_pos rfl
      unfold scB
      rw [hM]
      cases hc : commonF k1 lo1 hi1 s1 y1 lo2 hi2 s2 y2 with
      | none => exact rbelow_no _ _ _ _ _ _ _ _ _ _ _ _ _ _ _ _ _ _ _ _ _ (fun W => rmeet_none k1 lo1 hi1 s1 y1 m1 f1 fc1 lo2 hi2 s2 y2 m2 f2 fc2 W r1 r2 hc)
      | some t =>
        obtain ⟨lo, hi, s, y⟩ := t
        simp only [Option.map_some]
        show Calls _ _ _ _ fun e w' => e = .returned (.bool (decide ((⟨k1, lo, hi, s, y, (m1 || m2) && !singleB k1 lo hi y⟩ : Sc) = ⟨k1, lo1, hi1, s1, y1, m1⟩))) ∧ _
        rw [← same_sc (meet_right_plain r1 r2 hc) r1]
        exact rbelow_yes _ _ _ _ _ _ _ _ _ _ _ _ _ _ _ _ _ _ _ _ _ _ _ _ _ _ _ _ _ _ _ (fun W => rmeet_some k1 lo1 hi1 s1 y1 m1 f1 fc1 lo2 hi2 s2 y2 m2 f2 fc2 W r1 r2 hc)
    · have : scB (.mk k1 lo1 hi1 s1 y1 m1 false []) (.mk k2 lo2 hi2 s2 y2 m2 false []) = false := by
        unfold scB scM; rw [if_pos ⟨h1, h2⟩, meet_kk (by simpa [Tm.sc, Tm.k] using hk)]
      rw [this]
      exact rbelow_no _ _ _ _ _ _ _ _ _ _ _ _ _ _ _ _ _ _ _ _ _ (fun W => rmeet_unlike _ _ _ _ _ _ _ _ _ _ _ _ _ _ _ _ _ _ _ _ W (fun c => hk c.2.2))
  · have : scB (.mk k1 lo1 hi1 s1 y1 m1 o1 fs1) (.mk k2 lo2 hi2 s2 y2 m2 o2 fs2) = false := by
      unfold scB scM; rw [if_neg hr]
    rw [this]
    exact rbelow_no _ _ _ _ _ _ _ _ _ _ _ _ _ _ _ _ _ _ _ _ _ (fun W => rmeet_unlike _ _ _ _ _ _ _ _ _ _ _ _ _ _ _ _ _ _ _ _ W (fun c => hr ⟨rightB_iff.1 c.1, rightB_iff.1 c.2.1⟩))
end Go.Proofs.YtddleeenlpigfaaGreatDoor
/- PLAIN MATHEMATICS: a right value is below itself; fields are found; what is told at once of scalars. -/
namespace Go.Proofs.YtddleeenlpigfaaGreatDoor
open Nm in
theorem ris_lt {xs : List ByteArray} (h : Ris xs xs.length) : ∀ (d i : Nat) (hj : i + d + 1 < xs.length), Op.bytesLess (xs[i]'(by omega)).toList (xs[i + d + 1]'hj).toList = true
  | 0, i, hj => (h (i + 1) _ (List.getElem?_eq_getElem hj) hj).2 i _ rfl (List.getElem?_eq_getElem (by omega))
  | d + 1, i, hj => by
    have h1 := ris_lt h d i (by omega)
    have h2 := (h (i + (d + 1) + 1) _ (List.getElem?_eq_getElem hj) hj).2 (i + d + 1) _ (by omega) (List.getElem?_eq_getElem (by omega))
    rw [bytesLess_eq] at *
    simp only [decide_eq_true_eq] at *
    exact List.lt_trans h1 h2
/-- The names rise. -/
def Up (fs : List (ByteArray × List Tm)) : Prop := fs.Pairwise fun f g => Op.bytesLess f.1.toList g.1.toList = true
theorem up_of {fs : List (ByteArray × List Tm)} (h : Nm.Ris (fs.map (·.1)) fs.length) : Up fs := by
  unfold Up
  rw [List.pairwise_iff_getElem]
  intro i j hi hj hij
  obtain ⟨d, rfl⟩ : ∃ d, j = i + d + 1 := ⟨j - i - 1, by omega⟩
  have := ris_lt (xs := fs.map (·.1)) (by rw [List.length_map]; exact h) d i (by simpa using hj)
  simpa using this
theorem less_ne {u v : List UInt8} (h : Op.bytesLess u v = true) : (u == v) = false := by
  rw [bytesLess_eq] at h
  simp only [decide_eq_true_eq] at h
  rw [beq_eq_false_iff_ne]
  rintro rfl
  exact List.lt_irrefl _ h
theorem findF_own : ∀ {fs : List (ByteArray × List Tm)}, Up fs → ∀ f ∈ fs, findF fs f.1 = some f.2
  | g :: fs, h, f, hf => by
    have h' := List.pairwise_cons.1 h
    rcases List.mem_cons.1 hf with rfl | hf1
    · simp [findF]
    · have := less_ne (h'.1 f hf1)
      have ih := findF_own h'.2 f hf1
      simp only [findF, List.find?_cons, this] at *
      exact ih
theorem findF_mem {fs : List (ByteArray × List Tm)} {key : ByteArray} {V : List Tm} (h : findF fs key = some V) : ∃ f ∈ fs, f.1 = key ∧ f.2 = V := by
  unfold findF at h
  cases hc : fs.find? (fun f => f.1.toList == key.toList) with
  | none => rw [hc] at h; cases h
  | some f =>
    rw [hc] at h
    cases h
    have h1 := List.find?_some hc
    exact ⟨f, List.mem_of_find?_eq_some hc, bytes_ext (by simpa using h1), rfl⟩
theorem lacksF_no {fs gs : List (ByteArray × List Tm)} (h : lacksF fs gs = false) : ∀ g ∈ gs, ∃ V, findF fs g.1 = some V := fun g hg => by
  unfold lacksF at h
  rw [List.any_eq_false] at h
  have := h g hg
  cases hc : findF fs g.1 with
  | none => rw [hc] at this; simp at this
  | some V => exact ⟨V, rfl⟩
theorem lacksF_own {fs : List (ByteArray × List Tm)} (h : Up fs) : lacksF fs fs = false := by
  unfold lacksF
  rw [List.any_eq_false]
  intro f hf
  rw [findF_own h f hf]; simp
theorem scR_R {x : Tm} (h : scR x) : x.sc.R := by
  obtain ⟨k, lo, hi, s, y, m, o, fs⟩ := x
  have e := sc_flat h
  simp only [Tm.o, Tm.fs] at e
  obtain ⟨rfl, rfl⟩ := e
  exact h
theorem scB_iff {a b : Tm} (ha : scR a) (hb : scR b) : scB a b = true ↔ a.sc.meet b.sc = some a.sc := by
  unfold scB scM
  rw [if_pos ⟨ha, hb⟩]
  cases a.sc.meet b.sc with
  | none => simp
  | some c => simp
theorem scB_right {a b : Tm} (h : scB a b = true) : scR a ∧ scR b := by
  by_cases hr : scR a ∧ scR b
  · exact hr
  · unfold scB scM at h
    rw [if_neg hr] at h
    simp at h
theorem scB_self {a : Tm} (h : scR a) : scB a a = true := (scB_iff h h).2 (meet_self (scR_R h))
/-- What is told at once. -/
theorem scB_quick {a b : Tm} (h : scB a b = true) : a.k = b.k ∧ b.lo ≤ a.lo ∧ a.hi ≤ b.hi ∧ (b.y = true ∨ b.s.toList = a.s.toList) := by
  obtain ⟨ha, hb⟩ := scB_right h
  have hm := (scB_iff ha hb).1 h
  have hk := (meet_k hm).1
  have rA := scR_R ha
  have rB := scR_R hb
  obtain ⟨k, lo, hi, s, y, m, o, fs⟩ := a
  obtain ⟨k2, lo2, hi2, s2, y2, m2, o2, fs2⟩ := b
  simp only [Tm.sc, Tm.k, Tm.lo, Tm.hi, Tm.s, Tm.y, Tm.m] at *
  refine ⟨hk, ?_⟩
  subst hk
  rcases rA.cases with ⟨s', e, _⟩ | ⟨m', e⟩ | ⟨k', lo', hi', m', e, hk', hl, hm'⟩ <;> rcases rB.cases with ⟨t', e2, _⟩ | ⟨n', e2⟩ | ⟨k2', lo2', hi2', n', e2, hk2', hl2, hn'⟩
  all_goals rw [e, e2] at hm
  · rw [meet_tt] at hm
    split at hm
    · rename_i hs
      simp only [txt, Sc.mk.injEq] at e e2
      obtain ⟨-, rfl, rfl, rfl, -, -⟩ := e
      obtain ⟨-, rfl, rfl, rfl, -, -⟩ := e2
      exact ⟨by omega, by omega, .inr hs.symm⟩
    · cases hm
  · simp only [txt, anyT, Sc.mk.injEq] at e e2
    obtain ⟨-, rfl, rfl, rfl, -, -⟩ := e
    obtain ⟨-, rfl, rfl, rfl, rfl, -⟩ := e2
    exact ⟨by omega, by omega, .inl rfl⟩
  · rw [meet_kk (by simp [txt, num]; omega)] at hm; cases hm
  · rw [meet_at] at hm; simp [txt, anyT] at hm
  · simp only [anyT, Sc.mk.injEq] at e e2
    obtain ⟨-, rfl, rfl, rfl, -, -⟩ := e
    obtain ⟨-, rfl, rfl, rfl, rfl, -⟩ := e2
    exact ⟨by omega, by omega, .inl rfl⟩
  · rw [meet_kk (by simp [anyT, num]; omega)] at hm; cases hm
  · rw [meet_kk (by simp [txt, num]; omega)] at hm; cases hm
  · rw [meet_kk (by simp [anyT, num]; omega)] at hm; cases hm
  · simp only [num, Sc.mk.injEq] at e e2
    obtain ⟨rfl, rfl, rfl, rfl, rfl, rfl⟩ := e
    obtain ⟨rfl, rfl, rfl, rfl, rfl, rfl⟩ := e2
    rw [meet_nn _ _ _ _ _ _ _ hk'] at hm
    split at hm
    · simp only [num, Option.some.injEq, Sc.mk.injEq] at hm
      exact ⟨by omega, by omega, .inr rfl⟩
    · cases hm
theorem RT.fields {g : List Tm → Prop} {x : Tm} (h : RT g x) (hk : x.k = 4) : RF g x.fs ∧ ∀ f ∈ x.fs, f.2 ≠ [] := by
  unfold RT at h
  rw [if_neg (by omega), if_pos hk] at h
  exact ⟨h.2.2.2.2.2.1, h.2.2.2.2.2.2⟩
theorem RT.scalar {g : List Tm → Prop} {x : Tm} (h : RT g x) (h4 : x.k ≠ 4) (h5 : x.k ≠ 5) : scR x := by
  unfold RT at h
  rw [if_neg h5, if_neg h4] at h
  exact h
theorem undT_refl {g : List Tm → Prop} {u : List Tm → List Tm → Bool} (hu : ∀ V, g V → u V V = true) {x : Tm} (h : RT g x) : undT u x x = true := by
  unfold undT
  split
  · rfl
  · rename_i h5
    split
    · rename_i h4
      obtain ⟨⟨-, h1, h2⟩, -⟩ := h.fields h4.1
      have up := up_of h1
      unfold undS
      rw [lacksF_own up]
      have : x.fs.all (undF u x.fs) = true := by
        rw [List.all_eq_true]
        intro f hf
        unfold undF
        rw [findF_own up f hf]
        exact hu _ (h2 f hf)
      rw [this]
      cases x.o <;> rfl
    · rename_i h4
      exact scB_self (h.scalar (fun e => h4 ⟨e, e⟩) h5)
theorem undV_refl : ∀ {n l : Nat} {A : List Tm}, RV n l A → undV n A A = true
  | 0, _, _, h => h.elim
  | _ + 1, 0, _, h => h.elim
  | n + 1, l + 1, A, h => by
    unfold undV
    rw [List.all_eq_true]
    intro a ha
    rw [List.any_eq_true]
    exact ⟨a, ha, undT_refl (fun V hV => undV_refl hV) (h.1 a ha)⟩
theorem RV.term {n l : Nat} {A : List Tm} (h : RV (n + 1) l A) : ∃ l', ∀ x ∈ A, RT (RV n l') x := by
  cases l with
  | zero => exact h.elim
  | succ l => exact ⟨l, h.1⟩
end Go.Proofs.YtddleeenlpigfaaGreatDoor
