/- WALKS of made. -/
import Derived.Test.YtkmbhjcedkojjaaC
namespace Go.Proofs.Ytkmbhjcedkojjaa
open Go.RowKit
abbrev zv : Value := tv 0 0 0 ⟨#[]⟩ false false false none 0 0
set_option maxRecDepth 100000 in
set_option maxHeartbeats 2000000 in
theorem made_yes (k lo hi : Int) (s : ByteArray) (y m o : Bool) (f : Option Addr) (fl fc : Nat) (w : World) (h : rightB k lo hi s y m o fl = true) :
    Calls Try.prog 45 #[tv k lo hi s y m o f fl fc] w fun e w' => e = .returned (.tuple #[tv k lo hi s y m o f fl fc, .bool true]) ∧ Below w.heap.size w w' := by
  go_enter Try.func45, Try.ntmps45
  go_wp2_with (first
    | (go_at_call 13; (with_reducible refine (right_any _ _ _ _ _ _ _ _ _ _ _).mono ?_); rintro e _ ⟨rfl, hB⟩; (try clear hc hf); (first | (replace HB := Lib.hid (bl_step (by repeat (first | with_reducible exact HB.out | with_reducible refine bl_alloc ?_ | (with_reducible refine bl_set ?_ ?hset; case hset => (first | exact Nat.le_refl _ | (simp; done) | (simp; omega) | omega)))) hB)) | (have HB := Lib.hid hB)); obtain ⟨hc, hf⟩ := bcell HB.out; clear hB))
  refine bodyPost_ret (v := .tuple #[tv k lo hi s y m o f fl fc, .bool true]) (by simp [results, Try.results45, go_sem, hc]) rfl ⟨rfl, (by (repeat (first | with_reducible exact Below.refl _ _ | with_reducible refine bl_alloc ?_ | (with_reducible refine bl_set ?_ ?hset; case hset => (first | exact Nat.le_refl _ | (simp; done) | (simp; omega) | omega)) | with_reducible refine bl_step ?_ HB.out)))⟩
set_option maxRecDepth 100000 in
set_option maxHeartbeats 2000000 in
theorem made_no (k lo hi : Int) (s : ByteArray) (y m o : Bool) (f : Option Addr) (fl fc : Nat) (w : World) (h : rightB k lo hi s y m o fl = false) :
    Calls Try.prog 45 #[tv k lo hi s y m o f fl fc] w fun e w' => e = .returned (.tuple #[zv, .bool false]) ∧ Below w.heap.size w w' := by
  go_enter Try.func45, Try.ntmps45
  go_wp2_with (first
    | (go_at_call 13; (with_reducible refine (right_any _ _ _ _ _ _ _ _ _ _ _).mono ?_); rintro e _ ⟨rfl, hB⟩; (try clear hc hf); (first | (replace HB := Lib.hid (bl_step (by repeat (first | with_reducible exact HB.out | with_reducible refine bl_alloc ?_ | (with_reducible refine bl_set ?_ ?hset; case hset => (first | exact Nat.le_refl _ | (simp; done) | (simp; omega) | omega)))) hB)) | (have HB := Lib.hid hB)); obtain ⟨hc, hf⟩ := bcell HB.out; clear hB))
  refine bodyPost_ret (v := .tuple #[zv, .bool false]) (by simp [results, Try.results45, go_sem, hc]) rfl ⟨rfl, (by (repeat (first | with_reducible exact Below.refl _ _ | with_reducible refine bl_alloc ?_ | (with_reducible refine bl_set ?_ ?hset; case hset => (first | exact Nat.le_refl _ | (simp; done) | (simp; omega) | omega)) | with_reducible refine bl_step ?_ HB.out)))⟩

end Go.Proofs.Ytkmbhjcedkojjaa
