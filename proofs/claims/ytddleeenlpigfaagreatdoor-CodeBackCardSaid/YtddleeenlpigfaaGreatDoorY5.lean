/- J, L -/
import Derived.Test.YtddleeenlpigfaaGreatDoorY3
/- WALKS of common: texts. -/
namespace Go.Proofs.YtddleeenlpigfaaGreatDoor
open Go.RowKit
set_option maxRecDepth 100000 in
set_option maxHeartbeats 2000000 in
theorem common_any (lo1 hi1 : Int) (s1 : ByteArray) (m1 : Bool) (f1 : Option Addr) (fc1 : Nat) (lo2 hi2 : Int) (s2 : ByteArray) (m2 : Bool) (f2 : Option Addr) (fc2 : Nat) (w : World) :
    Calls Tryz.prog 148 #[tv 3 lo1 hi1 s1 true m1 false f1 0 fc1, tv 3 lo2 hi2 s2 true m2 false f2 0 fc2] w fun e w' => e = .returned (.tuple #[tv 3 0 0 ⟨#[]⟩ true false false none 0 0, .bool true]) ∧ Below w.heap.size w w' := by
  go_enter Tryz.func148, Tryz.ntmps148
  go_wp2_with ((go_at_call 171; (with_reducible refine (whole_text _).mono ?_); rintro e _ ⟨rfl, hB⟩; (try clear hc hf); (first | (replace HB := Lib.hid (bl_step (by repeat (first | with_reducible exact HB.out | with_reducible refine bl_alloc ?_ | (with_reducible refine bl_set ?_ ?hset; case hset => (first | exact Nat.le_refl _ | (simp; done) | (simp; omega) | omega)))) hB)) | (have HB := Lib.hid hB)); obtain ⟨hc, hf⟩ := bcell HB.out; clear hB))
  refine bodyPost_ret (v := .tuple #[tv 3 0 0 ⟨#[]⟩ true false false none 0 0, .bool true]) (by simp [results, Tryz.results148, go_sem, hc]) rfl ⟨rfl, (by (repeat (first | with_reducible exact Below.refl _ _ | with_reducible refine bl_alloc ?_ | (with_reducible refine bl_set ?_ ?hset; case hset => (first | exact Nat.le_refl _ | (simp; done) | (simp; omega) | omega)) | with_reducible refine bl_step ?_ HB.out)))⟩
set_option maxRecDepth 100000 in
set_option maxHeartbeats 2000000 in
theorem common_left (lo1 hi1 : Int) (s1 : ByteArray) (m1 : Bool) (f1 : Option Addr) (fc1 : Nat) (lo2 hi2 : Int) (s2 : ByteArray) (m2 : Bool) (f2 : Option Addr) (fc2 : Nat) (w : World) (h : rightB 3 0 0 s2 false false false 0 = true) :
    Calls Tryz.prog 148 #[tv 3 lo1 hi1 s1 true m1 false f1 0 fc1, tv 3 lo2 hi2 s2 false m2 false f2 0 fc2] w fun e w' => e = .returned (.tuple #[tv 3 0 0 s2 false false false none 0 0, .bool true]) ∧ Below w.heap.size w w' := by
  have HT := fun W => Lib.hid (text_yes s2 W h)
  clear h
  go_enter Tryz.func148, Tryz.ntmps148
  go_wp2_with ((go_at_call 172; (with_reducible refine ((HT _).out).mono ?_); rintro e _ ⟨rfl, hB⟩; (try clear hc hf); (first | (replace HB := Lib.hid (bl_step (by repeat (first | with_reducible exact HB.out | with_reducible refine bl_alloc ?_ | (with_reducible refine bl_set ?_ ?hset; case hset => (first | exact Nat.le_refl _ | (simp; done) | (simp; omega) | omega)))) hB)) | (have HB := Lib.hid hB)); obtain ⟨hc, hf⟩ := bcell HB.out; clear hB))
  refine bodyPost_ret (v := .tuple #[tv 3 0 0 s2 false false false none 0 0, .bool true]) (by simp [results, Tryz.results148, go_sem, hc]) rfl ⟨rfl, (by (repeat (first | with_reducible exact Below.refl _ _ | with_reducible refine bl_alloc ?_ | (with_reducible refine bl_set ?_ ?hset; case hset => (first | exact Nat.le_refl _ | (simp; done) | (simp; omega) | omega)) | with_reducible refine bl_step ?_ HB.out)))⟩
set_option maxRecDepth 100000 in
set_option maxHeartbeats 2000000 in
theorem common_right (lo1 hi1 : Int) (s1 : ByteArray) (m1 : Bool) (f1 : Option Addr) (fc1 : Nat) (lo2 hi2 : Int) (s2 : ByteArray) (y2 m2 : Bool) (f2 : Option Addr) (fc2 : Nat) (w : World) (h : rightB 3 0 0 s1 false false false 0 = true) (hy : y2 = true ∨ y2 = false ∧ s1 = s2) :
    Calls Tryz.prog 148 #[tv 3 lo1 hi1 s1 false m1 false f1 0 fc1, tv 3 lo2 hi2 s2 y2 m2 false f2 0 fc2] w fun e w' => e = .returned (.tuple #[tv 3 0 0 s1 false false false none 0 0, .bool true]) ∧ Below w.heap.size w w' := by
  have HT := fun W => Lib.hid (text_yes s1 W h)
  clear h
  rcases hy with rfl | ⟨rfl, rfl⟩
  · go_enter Tryz.func148, Tryz.ntmps148
    go_wp2_with ((go_at_call 172; (with_reducible refine ((HT _).out).mono ?_); rintro e _ ⟨rfl, hB⟩; (try clear hc hf); (first | (replace HB := Lib.hid (bl_step (by repeat (first | with_reducible exact HB.out | with_reducible refine bl_alloc ?_ | (with_reducible refine bl_set ?_ ?hset; case hset => (first | exact Nat.le_refl _ | (simp; done) | (simp; omega) | omega)))) hB)) | (have HB := Lib.hid hB)); obtain ⟨hc, hf⟩ := bcell HB.out; clear hB))
    refine bodyPost_ret (v := .tuple #[tv 3 0 0 s1 false false false none 0 0, .bool true]) (by simp [results, Tryz.results148, go_sem, hc]) rfl ⟨rfl, (by (repeat (first | with_reducible exact Below.refl _ _ | with_reducible refine bl_alloc ?_ | (with_reducible refine bl_set ?_ ?hset; case hset => (first | exact Nat.le_refl _ | (simp; done) | (simp; omega) | omega)) | with_reducible refine bl_step ?_ HB.out)))⟩
  · go_enter Tryz.func148, Tryz.ntmps148
    go_wp2_with ((go_at_call 172; (with_reducible refine ((HT _).out).mono ?_); rintro e _ ⟨rfl, hB⟩; (try clear hc hf); (first | (replace HB := Lib.hid (bl_step (by repeat (first | with_reducible exact HB.out | with_reducible refine bl_alloc ?_ | (with_reducible refine bl_set ?_ ?hset; case hset => (first | exact Nat.le_refl _ | (simp; done) | (simp; omega) | omega)))) hB)) | (have HB := Lib.hid hB)); obtain ⟨hc, hf⟩ := bcell HB.out; clear hB))
    refine bodyPost_ret (v := .tuple #[tv 3 0 0 s1 false false false none 0 0, .bool true]) (by simp [results, Tryz.results148, go_sem, hc]) rfl ⟨rfl, (by (repeat (first | with_reducible exact Below.refl _ _ | with_reducible refine bl_alloc ?_ | (with_reducible refine bl_set ?_ ?hset; case hset => (first | exact Nat.le_refl _ | (simp; done) | (simp; omega) | omega)) | with_reducible refine bl_step ?_ HB.out)))⟩
set_option maxRecDepth 100000 in
set_option maxHeartbeats 2000000 in
theorem common_none (lo1 hi1 : Int) (s1 : ByteArray) (m1 : Bool) (f1 : Option Addr) (fc1 : Nat) (lo2 hi2 : Int) (s2 : ByteArray) (m2 : Bool) (f2 : Option Addr) (fc2 : Nat) (w : World) (hy : s1.toList ≠ s2.toList) :
    Calls Tryz.prog 148 #[tv 3 lo1 hi1 s1 false m1 false f1 0 fc1, tv 3 lo2 hi2 s2 false m2 false f2 0 fc2] w fun e w' => e = .returned (.tuple #[zv, .bool false]) ∧ Below w.heap.size w w' := by
  have hy' : (s1.toList == s2.toList) = false := by simpa using hy
  go_enter Tryz.func148, Tryz.ntmps148
  go_wp2_with fail
  refine bodyPost_ret (v := .tuple #[zv, .bool false]) (by simp [results, Tryz.results148, go_sem]) rfl ⟨rfl, (by (repeat (first | with_reducible exact Below.refl _ _ | with_reducible refine bl_alloc ?_ | (with_reducible refine bl_set ?_ ?hset; case hset => (first | exact Nat.le_refl _ | (simp; done) | (simp; omega) | omega)) | with_reducible refine bl_step ?_ HB.out)))⟩

end Go.Proofs.YtddleeenlpigfaaGreatDoor
/- WALKS of common: its contract. -/
namespace Go.Proofs.YtddleeenlpigfaaGreatDoor
open Go.RowKit
/-- What is in both of two right scalars of one kind, but for when it is known. -/
def commonF (k lo1 hi1 : Int) (s1 : ByteArray) (y1 : Bool) (lo2 hi2 : Int) (s2 : ByteArray) (y2 : Bool) : Option (Int × Int × ByteArray × Bool) :=
  if k = 3 then
    if y1 = true then (if y2 = true then some (0, 0, ⟨#[]⟩, true) else some (0, 0, s2, false))
    else if y2 = true ∨ s1.toList = s2.toList then some (0, 0, s1, false) else none
  else if max lo1 lo2 ≤ min hi1 hi2 then some (max lo1 lo2, min hi1 hi2, ⟨#[]⟩, false) else none
theorem rightB_iff {k lo hi : Int} {s : ByteArray} {y m o : Bool} {fl : Nat} : rightB k lo hi s y m o fl = true ↔ RightP k lo hi s y m o fl := by unfold rightB; simp
theorem rightB_no {k lo hi : Int} {s : ByteArray} {y m o : Bool} {fl : Nat} : rightB k lo hi s y m o fl = false ↔ ¬ RightP k lo hi s y m o fl := by unfold rightB; simp
theorem toList_nil : (⟨#[]⟩ : ByteArray).toList = [] := by decide +kernel
theorem right_num {k lo1 hi1 lo2 hi2 : Int} {s1 s2 : ByteArray} {y1 m1 y2 m2 : Bool} (h1 : RightP k lo1 hi1 s1 y1 m1 false 0) (h2 : RightP k lo2 hi2 s2 y2 m2 false 0) (hk : k ≠ 3) (h : max lo1 lo2 ≤ min hi1 hi2) :
    RightP k (max lo1 lo2) (min hi1 hi2) ⟨#[]⟩ false false false 0 := by
  refine ⟨rfl, rfl, fun e => (by cases e), ?_⟩
  rw [toList_nil]
  rcases h1.2.2.2 with a | a | a <;> rcases h2.2.2.2 with c | c | c
  all_goals (first | (exfalso; omega) | (refine .inr (.inl ⟨by omega, rfl, rfl, ?_⟩); omega) | (refine .inr (.inr ⟨by omega, rfl, rfl, ?_⟩); omega))
theorem right_text {lo hi : Int} {s : ByteArray} {y m : Bool} (h : RightP 3 lo hi s y m false 0) : RightP 3 0 0 s false false false 0 := by
  refine ⟨rfl, rfl, fun e => (by cases e), ?_⟩
  rcases h.2.2.2 with a | a | a
  · exact .inl ⟨rfl, rfl, rfl, a.2.2.2.1, fun e => (by cases e)⟩
  · omega
  · omega
theorem right_any3 : RightP 3 0 0 ⟨#[]⟩ true false false 0 := ⟨rfl, rfl, fun e => (by cases e), .inl ⟨rfl, rfl, rfl, by decide, fun _ => toList_nil⟩⟩
theorem bytes_ext {s t : ByteArray} (h : s.toList = t.toList) : s = t := by
  rw [ByteArray.toList_eq, ByteArray.toList_eq] at h
  cases s; cases t; simp at h; rw [h]
/-- What is in both is right. -/
theorem commonF_right {k lo1 hi1 lo2 hi2 : Int} {s1 s2 : ByteArray} {y1 m1 y2 m2 : Bool} (h1 : RightP k lo1 hi1 s1 y1 m1 false 0) (h2 : RightP k lo2 hi2 s2 y2 m2 false 0) {lo hi : Int} {s : ByteArray} {y : Bool}
    (h : commonF k lo1 hi1 s1 y1 lo2 hi2 s2 y2 = some (lo, hi, s, y)) : RightP k lo hi s y false false 0 := by
  unfold commonF at h
  by_cases hk : k = 3
  · subst hk
    rw [if_pos rfl] at h
    split at h
    · split at h
      · cases h; exact right_any3
      · cases h; exact right_text h2
    · split at h
      · cases h; exact right_text h1
      · cases h
  · rw [if_neg hk] at h
    split at h
    · rename_i hm
      cases h
      exact right_num h1 h2 hk hm
    · cases h
theorem common_some (k lo1 hi1 : Int) (s1 : ByteArray) (y1 m1 : Bool) (f1 : Option Addr) (fc1 : Nat) (lo2 hi2 : Int) (s2 : ByteArray) (y2 m2 : Bool) (f2 : Option Addr) (fc2 : Nat) (w : World) (h1 : RightP k lo1 hi1 s1 y1 m1 false 0) (h2 : RightP k lo2 hi2 s2 y2 m2 false 0) {lo hi : Int} {s : ByteArray} {y : Bool}
    (h : commonF k lo1 hi1 s1 y1 lo2 hi2 s2 y2 = some (lo, hi, s, y)) : Calls Tryz.prog 148 #[tv k lo1 hi1 s1 y1 m1 false f1 0 fc1, tv k lo2 hi2 s2 y2 m2 false f2 0 fc2] w fun e w' => e = .returned (.tuple #[tv k lo hi s y false false none 0 0, .bool true]) ∧ Below w.heap.size w w' := by
  unfold commonF at h
  by_cases hk : k = 3
  · subst hk
    rw [if_pos rfl] at h
    cases y1
    · rw [if_neg (by decide)] at h
      split at h
      · rename_i hy
        cases h
        refine common_right _ _ _ _ _ _ _ _ _ _ _ _ _ _ (rightB_iff.2 (right_text h1)) ?_
        cases y2
        · exact .inr ⟨rfl, bytes_ext (hy.resolve_left (by decide))⟩
        · exact .inl rfl
      · cases h
    · rw [if_pos rfl] at h
      cases y2
      · rw [if_neg (by decide)] at h
        cases h
        exact common_left _ _ _ _ _ _ _ _ _ _ _ _ _ (rightB_iff.2 (right_text h2))
      · rw [if_pos rfl] at h
        cases h
        exact common_any _ _ _ _ _ _ _ _ _ _ _ _ _
  · rw [if_neg hk] at h
    split at h
    · rename_i hm
      cases h
      exact common_num_yes _ _ _ _ _ _ _ _ _ _ _ _ _ _ _ _ hk (rightB_iff.2 (right_num h1 h2 hk hm))
    · cases h
theorem right_le {k lo hi : Int} {s : ByteArray} {y m o : Bool} {fl : Nat} (h : RightP k lo hi s y m o fl) (hk : k ≠ 3) : lo ≤ hi := by
  rcases h.2.2.2 with a | a | a
  · exact absurd a.1 hk
  · omega
  · omega
theorem common_is_none (k lo1 hi1 : Int) (s1 : ByteArray) (y1 m1 : Bool) (f1 : Option Addr) (fc1 : Nat) (lo2 hi2 : Int) (s2 : ByteArray) (y2 m2 : Bool) (f2 : Option Addr) (fc2 : Nat) (w : World)
    (h : commonF k lo1 hi1 s1 y1 lo2 hi2 s2 y2 = none) : Calls Tryz.prog 148 #[tv k lo1 hi1 s1 y1 m1 false f1 0 fc1, tv k lo2 hi2 s2 y2 m2 false f2 0 fc2] w fun e w' => e = .returned (.tuple #[zv, .bool false]) ∧ Below w.heap.size w w' := by
  unfold commonF at h
  by_cases hk : k = 3
  · subst hk
    rw [if_pos rfl] at h
    cases y1
    · rw [if_neg (by decide)] at h
      split at h
      · cases h
      · rename_i hy
        cases y2
        · exact common_none _ _ _ _ _ _ _ _ _ _ _ _ _ (fun e => hy (.inr e))
        · exact absurd (.inl rfl) hy
    · rw [if_pos rfl] at h
      cases y2 <;> cases h
  · rw [if_neg hk] at h
    split at h
    · cases h
    · rename_i hm
      exact common_num_no _ _ _ _ _ _ _ _ _ _ _ _ _ _ _ _ hk (rightB_no.2 (fun c => hm (right_le c hk)))

end Go.Proofs.YtddleeenlpigfaaGreatDoor
