/- WALK of like. -/
import Derived.Test.YtkmbhjcedkojjaaD
import Derived.Test.YtkmbhjcedkojjaaF
namespace Go.Proofs.Ytkmbhjcedkojjaa
open Go.RowKit
/-- Both answers the same? -/
def likeB (A B : Bool) (zero same : Bool) : Bool := decide (A = B) && (if A = true then same else zero)
set_option maxRecDepth 100000 in
set_option maxHeartbeats 2000000 in
theorem like_any (k1 lo1 hi1 : Int) (s1 : ByteArray) (y1 m1 o1 : Bool) (f1 : Option Addr) (fl1 fc1 : Nat) (A : Bool) (k2 lo2 hi2 : Int) (s2 : ByteArray) (y2 m2 o2 : Bool) (f2 : Option Addr) (fl2 fc2 : Nat) (B : Bool) (w : World) :
    Calls Try.prog 21 #[tv k1 lo1 hi1 s1 y1 m1 o1 f1 fl1 fc1, .bool A, tv k2 lo2 hi2 s2 y2 m2 o2 f2 fl2 fc2, .bool B] w fun e w' => e = .returned (.bool (likeB A B (zeroB k1 lo1 hi1 s1 y1 m1 o1 fl1) (decide (SameP k1 lo1 hi1 s1 y1 m1 o1 fl1 k2 lo2 hi2 s2 y2 m2 o2 fl2)))) ∧ Below w.heap.size w w' := by
  have HZ := fun W => Lib.hid (zero_any k1 lo1 hi1 s1 y1 m1 o1 f1 fl1 fc1 W)
  have HS := fun W => Lib.hid (rsame_any k1 lo1 hi1 s1 y1 m1 o1 f1 fl1 fc1 k2 lo2 hi2 s2 y2 m2 o2 f2 fl2 fc2 W)
  generalize zeroB k1 lo1 hi1 s1 y1 m1 o1 fl1 = z at *
  generalize decide (SameP k1 lo1 hi1 s1 y1 m1 o1 fl1 k2 lo2 hi2 s2 y2 m2 o2 fl2) = sm at *
  cases A <;> cases B
  all_goals
    go_enter Try.func21, Try.ntmps21
    go_wp2_with (first
      | (go_at_call 46; (with_reducible refine ((HZ _).out).mono ?_); rintro e _ ⟨rfl, hB⟩; (try clear hc hf); (first | (replace HB := Lib.hid (bl_step (by repeat (first | with_reducible exact HB.out | with_reducible refine bl_alloc ?_ | (with_reducible refine bl_set ?_ ?hset; case hset => (first | exact Nat.le_refl _ | (simp; done) | (simp; omega) | omega)))) hB)) | (have HB := Lib.hid hB)); obtain ⟨hc, hf⟩ := bcell HB.out; clear hB)
      | (go_at_call 17; (with_reducible refine ((HS _).out).mono ?_); rintro e _ ⟨rfl, hB⟩; (try clear hc hf); (first | (replace HB := Lib.hid (bl_step (by repeat (first | with_reducible exact HB.out | with_reducible refine bl_alloc ?_ | (with_reducible refine bl_set ?_ ?hset; case hset => (first | exact Nat.le_refl _ | (simp; done) | (simp; omega) | omega)))) hB)) | (have HB := Lib.hid hB)); obtain ⟨hc, hf⟩ := bcell HB.out; clear hB))
    go_ret
    exact ⟨by simp [likeB], (by (repeat (first | with_reducible exact Below.refl _ _ | with_reducible refine bl_alloc ?_ | (with_reducible refine bl_set ?_ ?hset; case hset => (first | exact Nat.le_refl _ | (simp; done) | (simp; omega) | omega)) | with_reducible refine bl_step ?_ HB.out)))⟩

end Go.Proofs.Ytkmbhjcedkojjaa
