/- WALKS of Between, Text, Whole. -/
import Derived.Test.YtkmbhjcedkojjaaE
namespace Go.Proofs.Ytkmbhjcedkojjaa
open Go.RowKit
set_option maxRecDepth 100000 in
set_option maxHeartbeats 2000000 in
theorem between_yes (lo hi : Int) (w : World) (h : rightB 2 lo hi ⟨#[]⟩ false false false 0 = true) :
    Calls Try.prog 19 #[.int .i64 lo, .int .i64 hi] w fun e w' => e = .returned (.tuple #[tv 2 lo hi ⟨#[]⟩ false false false none 0 0, .bool true]) ∧ Below w.heap.size w w' := by
  go_enter Try.func19, Try.ntmps19
  go_wp2_with ((go_at_call 45; (with_reducible refine (made_yes _ _ _ _ _ _ _ _ _ _ _ h).mono ?_); rintro e _ ⟨rfl, hB⟩; (try clear hc hf); (first | (replace HB := Lib.hid (bl_step (by repeat (first | with_reducible exact HB.out | with_reducible refine bl_alloc ?_ | (with_reducible refine bl_set ?_ ?hset; case hset => (first | exact Nat.le_refl _ | (simp; done) | (simp; omega) | omega)))) hB)) | (have HB := Lib.hid hB)); obtain ⟨hc, hf⟩ := bcell HB.out; clear hB))
  refine bodyPost_ret (v := .tuple #[tv 2 lo hi ⟨#[]⟩ false false false none 0 0, .bool true]) (by simp [results, Try.results19, go_sem, hc]) rfl ⟨rfl, (by (repeat (first | with_reducible exact Below.refl _ _ | with_reducible refine bl_alloc ?_ | (with_reducible refine bl_set ?_ ?hset; case hset => (first | exact Nat.le_refl _ | (simp; done) | (simp; omega) | omega)) | with_reducible refine bl_step ?_ HB.out)))⟩
set_option maxRecDepth 100000 in
set_option maxHeartbeats 2000000 in
theorem between_no (lo hi : Int) (w : World) (h : rightB 2 lo hi ⟨#[]⟩ false false false 0 = false) :
    Calls Try.prog 19 #[.int .i64 lo, .int .i64 hi] w fun e w' => e = .returned (.tuple #[zv, .bool false]) ∧ Below w.heap.size w w' := by
  go_enter Try.func19, Try.ntmps19
  go_wp2_with ((go_at_call 45; (with_reducible refine (made_no _ _ _ _ _ _ _ _ _ _ _ h).mono ?_); rintro e _ ⟨rfl, hB⟩; (try clear hc hf); (first | (replace HB := Lib.hid (bl_step (by repeat (first | with_reducible exact HB.out | with_reducible refine bl_alloc ?_ | (with_reducible refine bl_set ?_ ?hset; case hset => (first | exact Nat.le_refl _ | (simp; done) | (simp; omega) | omega)))) hB)) | (have HB := Lib.hid hB)); obtain ⟨hc, hf⟩ := bcell HB.out; clear hB))
  refine bodyPost_ret (v := .tuple #[zv, .bool false]) (by simp [results, Try.results19, go_sem, hc]) rfl ⟨rfl, (by (repeat (first | with_reducible exact Below.refl _ _ | with_reducible refine bl_alloc ?_ | (with_reducible refine bl_set ?_ ?hset; case hset => (first | exact Nat.le_refl _ | (simp; done) | (simp; omega) | omega)) | with_reducible refine bl_step ?_ HB.out)))⟩
set_option maxRecDepth 100000 in
set_option maxHeartbeats 2000000 in
theorem text_yes (s : ByteArray) (w : World) (h : rightB 3 0 0 s false false false 0 = true) :
    Calls Try.prog 20 #[.string s] w fun e w' => e = .returned (.tuple #[tv 3 0 0 s false false false none 0 0, .bool true]) ∧ Below w.heap.size w w' := by
  go_enter Try.func20, Try.ntmps20
  go_wp2_with ((go_at_call 45; (with_reducible refine (made_yes _ _ _ _ _ _ _ _ _ _ _ h).mono ?_); rintro e _ ⟨rfl, hB⟩; (try clear hc hf); (first | (replace HB := Lib.hid (bl_step (by repeat (first | with_reducible exact HB.out | with_reducible refine bl_alloc ?_ | (with_reducible refine bl_set ?_ ?hset; case hset => (first | exact Nat.le_refl _ | (simp; done) | (simp; omega) | omega)))) hB)) | (have HB := Lib.hid hB)); obtain ⟨hc, hf⟩ := bcell HB.out; clear hB))
  refine bodyPost_ret (v := .tuple #[tv 3 0 0 s false false false none 0 0, .bool true]) (by simp [results, Try.results20, go_sem, hc]) rfl ⟨rfl, (by (repeat (first | with_reducible exact Below.refl _ _ | with_reducible refine bl_alloc ?_ | (with_reducible refine bl_set ?_ ?hset; case hset => (first | exact Nat.le_refl _ | (simp; done) | (simp; omega) | omega)) | with_reducible refine bl_step ?_ HB.out)))⟩
set_option maxRecDepth 100000 in
set_option maxHeartbeats 2000000 in
theorem text_no (s : ByteArray) (w : World) (h : rightB 3 0 0 s false false false 0 = false) :
    Calls Try.prog 20 #[.string s] w fun e w' => e = .returned (.tuple #[zv, .bool false]) ∧ Below w.heap.size w w' := by
  go_enter Try.func20, Try.ntmps20
  go_wp2_with ((go_at_call 45; (with_reducible refine (made_no _ _ _ _ _ _ _ _ _ _ _ h).mono ?_); rintro e _ ⟨rfl, hB⟩; (try clear hc hf); (first | (replace HB := Lib.hid (bl_step (by repeat (first | with_reducible exact HB.out | with_reducible refine bl_alloc ?_ | (with_reducible refine bl_set ?_ ?hset; case hset => (first | exact Nat.le_refl _ | (simp; done) | (simp; omega) | omega)))) hB)) | (have HB := Lib.hid hB)); obtain ⟨hc, hf⟩ := bcell HB.out; clear hB))
  refine bodyPost_ret (v := .tuple #[zv, .bool false]) (by simp [results, Try.results20, go_sem, hc]) rfl ⟨rfl, (by (repeat (first | with_reducible exact Below.refl _ _ | with_reducible refine bl_alloc ?_ | (with_reducible refine bl_set ?_ ?hset; case hset => (first | exact Nat.le_refl _ | (simp; done) | (simp; omega) | omega)) | with_reducible refine bl_step ?_ HB.out)))⟩
set_option maxRecDepth 100000 in
set_option maxHeartbeats 2000000 in
theorem whole_bool (w : World) :
    Calls Try.prog 18 #[.int .i64 1] w fun e w' => e = .returned (.tuple #[tv 1 0 1 ⟨#[]⟩ false false false none 0 0, .bool true]) ∧ Below w.heap.size w w' := by
  go_enter Try.func18, Try.ntmps18
  go_wp2_with fail
  refine bodyPost_ret (v := .tuple #[tv 1 0 1 ⟨#[]⟩ false false false none 0 0, .bool true]) (by simp [results, Try.results18, go_sem]) rfl ⟨rfl, (by (repeat (first | with_reducible exact Below.refl _ _ | with_reducible refine bl_alloc ?_ | (with_reducible refine bl_set ?_ ?hset; case hset => (first | exact Nat.le_refl _ | (simp; done) | (simp; omega) | omega)) | with_reducible refine bl_step ?_ HB.out)))⟩
set_option maxRecDepth 100000 in
set_option maxHeartbeats 2000000 in
theorem whole_int (w : World) :
    Calls Try.prog 18 #[.int .i64 2] w fun e w' => e = .returned (.tuple #[tv 2 (-9007199254740992) 9007199254740992 ⟨#[]⟩ false false false none 0 0, .bool true]) ∧ Below w.heap.size w w' := by
  go_enter Try.func18, Try.ntmps18
  go_wp2_with fail
  refine bodyPost_ret (v := .tuple #[tv 2 (-9007199254740992) 9007199254740992 ⟨#[]⟩ false false false none 0 0, .bool true]) (by simp [results, Try.results18, go_sem]) rfl ⟨rfl, (by (repeat (first | with_reducible exact Below.refl _ _ | with_reducible refine bl_alloc ?_ | (with_reducible refine bl_set ?_ ?hset; case hset => (first | exact Nat.le_refl _ | (simp; done) | (simp; omega) | omega)) | with_reducible refine bl_step ?_ HB.out)))⟩
set_option maxRecDepth 100000 in
set_option maxHeartbeats 2000000 in
theorem whole_text (w : World) :
    Calls Try.prog 18 #[.int .i64 3] w fun e w' => e = .returned (.tuple #[tv 3 0 0 ⟨#[]⟩ true false false none 0 0, .bool true]) ∧ Below w.heap.size w w' := by
  go_enter Try.func18, Try.ntmps18
  go_wp2_with fail
  refine bodyPost_ret (v := .tuple #[tv 3 0 0 ⟨#[]⟩ true false false none 0 0, .bool true]) (by simp [results, Try.results18, go_sem]) rfl ⟨rfl, (by (repeat (first | with_reducible exact Below.refl _ _ | with_reducible refine bl_alloc ?_ | (with_reducible refine bl_set ?_ ?hset; case hset => (first | exact Nat.le_refl _ | (simp; done) | (simp; omega) | omega)) | with_reducible refine bl_step ?_ HB.out)))⟩
set_option maxRecDepth 100000 in
set_option maxHeartbeats 2000000 in
theorem whole_no (k : Int) (w : World) (h1 : k ≠ 1) (h2 : k ≠ 2) (h3 : k ≠ 3) :
    Calls Try.prog 18 #[.int .i64 k] w fun e w' => e = .returned (.tuple #[zv, .bool false]) ∧ Below w.heap.size w w' := by
  have h1' : (k == 1) = false := by simpa using h1
  have h2' : (k == 2) = false := by simpa using h2
  have h3' : (k == 3) = false := by simpa using h3
  clear h1 h2 h3
  go_enter Try.func18, Try.ntmps18
  go_wp2_with fail
  refine bodyPost_ret (v := .tuple #[zv, .bool false]) (by simp [results, Try.results18, go_sem]) rfl ⟨rfl, (by (repeat (first | with_reducible exact Below.refl _ _ | with_reducible refine bl_alloc ?_ | (with_reducible refine bl_set ?_ ?hset; case hset => (first | exact Nat.le_refl _ | (simp; done) | (simp; omega) | omega)) | with_reducible refine bl_step ?_ HB.out)))⟩

end Go.Proofs.Ytkmbhjcedkojjaa
