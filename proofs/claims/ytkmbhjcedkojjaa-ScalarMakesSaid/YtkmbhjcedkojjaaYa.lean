/- WALK of the law ScalarMeets, by contracts. -/
import Derived.Test.YtkmbhjcedkojjaaZ
import Derived.Test.YtkmbhjcedkojjaaD
import Derived.Test.YtkmbhjcedkojjaaF
import Derived.Test.YtkmbhjcedkojjaaH
import Derived.Deep.DeepCutAuto
import Derived.Deep.CutBlock
namespace Go.Proofs.Ytkmbhjcedkojjaa
open Go.RowKit
set_option maxRecDepth 100000 in
set_option maxHeartbeats 2000000 in
theorem smeets_gen (k1 lo1 hi1 : Int) (s1 : ByteArray) (y1 m1 o1 : Bool) (f1 : Option Addr) (fl1 fc1 : Nat) (k2 lo2 hi2 : Int) (s2 : ByteArray) (y2 m2 o2 : Bool) (f2 : Option Addr) (fl2 fc2 : Nat) (k lo hi : Int) (s : ByteArray) (y m ok bl : Bool) (f : Option Addr) (fc : Nat) (w : World)
    (HA : ∀ W, Hid (Calls Try.prog 11 #[] W fun e w' => e = .returned (.bool true) ∧ Below W.heap.size W w'))
    (H24 : ∀ W, Hid (Calls Try.prog 24 #[tv k1 lo1 hi1 s1 y1 m1 o1 f1 fl1 fc1, tv k2 lo2 hi2 s2 y2 m2 o2 f2 fl2 fc2] W fun e w' => e = .returned (.tuple #[tv k lo hi s y m false none 0 0, .bool ok]) ∧ Below W.heap.size W w'))
    (H25 : ∀ W, Hid (Calls Try.prog 25 #[tv k1 lo1 hi1 s1 y1 m1 o1 f1 fl1 fc1, tv k2 lo2 hi2 s2 y2 m2 o2 f2 fl2 fc2] W fun e w' => e = .returned (.tuple #[tv k lo hi s y m false f 0 fc, .bool ok]) ∧ Below W.heap.size W w'))
    (H21 : ∀ W, Hid (Calls Try.prog 21 #[tv k lo hi s y m false none 0 0, .bool ok, tv k lo hi s y m false f 0 fc, .bool ok] W fun e w' => e = .returned (.bool true) ∧ Below W.heap.size W w'))
    (H26 : ∀ W, Hid (Calls Try.prog 26 #[tv k1 lo1 hi1 s1 y1 m1 o1 f1 fl1 fc1, tv k2 lo2 hi2 s2 y2 m2 o2 f2 fl2 fc2] W fun e w' => e = .returned (.bool bl) ∧ Below W.heap.size W w'))
    (H27 : ∀ W, Hid (Calls Try.prog 27 #[tv k1 lo1 hi1 s1 y1 m1 o1 f1 fl1 fc1, tv k2 lo2 hi2 s2 y2 m2 o2 f2 fl2 fc2] W fun e w' => e = .returned (.bool bl) ∧ Below W.heap.size W w')) (hs1 : shortB s1 fl1 = true) (hs2 : shortB s2 fl2 = true) :
    Calls Try.prog 5 #[tv k1 lo1 hi1 s1 y1 m1 o1 f1 fl1 fc1, tv k2 lo2 hi2 s2 y2 m2 o2 f2 fl2 fc2] w fun e w' => e = .returned (.bool true) ∧ Below w.heap.size w w' := by
  have H10a := fun W => Lib.hid (short_any k1 lo1 hi1 s1 y1 m1 o1 f1 fl1 fc1 W)
  have H10b := fun W => Lib.hid (short_any k2 lo2 hi2 s2 y2 m2 o2 f2 fl2 fc2 W)
  rw [hs1] at H10a
  rw [hs2] at H10b
  clear hs1 hs2
  go_enter Try.func5, Try.ntmps5
  go_upto_region 5 with (first
    | (go_at_call 10; (with_reducible refine ((H10a _).out).mono ?_); rintro e w1 ⟨rfl, hB⟩; (try clear hc hf); (first | (replace HB := Lib.hid (bl_step HB.out hB)) | (replace HB := Lib.hid (bl_step (bl_alloc HB.out) hB)) | (replace HB := Lib.hid (bl_step (bl_alloc (bl_alloc HB.out)) hB)) | (replace HB := Lib.hid (bl_step (by repeat (first | with_reducible exact HB.out | with_reducible refine bl_alloc ?_ | (with_reducible refine bl_set ?_ ?hset; case hset => (first | with_reducible exact Nat.le_refl _ | (simp; done) | (simp; omega) | omega)))) hB)) | (have HB := Lib.hid hB)); obtain ⟨hc, hf⟩ := bcell HB.out; clear hB; have hz := HB.out.size; simp at hz; have hz1 : w.heap.size + 1 < w1.heap.size := (by omega); have hz0 : w.heap.size < w1.heap.size := (by omega); clear hz)
    | (go_at_call 10; (with_reducible refine ((H10b _).out).mono ?_); rintro e w1 ⟨rfl, hB⟩; (try clear hc hf); (first | (replace HB := Lib.hid (bl_step HB.out hB)) | (replace HB := Lib.hid (bl_step (bl_alloc HB.out) hB)) | (replace HB := Lib.hid (bl_step (bl_alloc (bl_alloc HB.out)) hB)) | (replace HB := Lib.hid (bl_step (by repeat (first | with_reducible exact HB.out | with_reducible refine bl_alloc ?_ | (with_reducible refine bl_set ?_ ?hset; case hset => (first | with_reducible exact Nat.le_refl _ | (simp; done) | (simp; omega) | omega)))) hB)) | (have HB := Lib.hid hB)); obtain ⟨hc, hf⟩ := bcell HB.out; clear hB; have hz := HB.out.size; simp at hz; have hz1 : w.heap.size + 1 < w1.heap.size := (by omega); have hz0 : w.heap.size < w1.heap.size := (by omega); clear hz)
    | (go_at_call 24; (with_reducible refine ((H24 _).out).mono ?_); rintro e w3 ⟨rfl, hB⟩; (try clear hc hf); (first | (replace HB := Lib.hid (bl_step HB.out hB)) | (replace HB := Lib.hid (bl_step (bl_alloc HB.out) hB)) | (replace HB := Lib.hid (bl_step (bl_alloc (bl_alloc HB.out)) hB)) | (replace HB := Lib.hid (bl_step (by repeat (first | with_reducible exact HB.out | with_reducible refine bl_alloc ?_ | (with_reducible refine bl_set ?_ ?hset; case hset => (first | with_reducible exact Nat.le_refl _ | (simp; done) | (simp; omega) | omega)))) hB)) | (have HB := Lib.hid hB)); obtain ⟨hc, hf⟩ := bcell HB.out; clear hB; have hz := HB.out.size; simp at hz; have hz1 : w.heap.size + 1 < w3.heap.size := (by omega); have hz0 : w.heap.size < w3.heap.size := (by omega); clear hz; have HB3 := HB)
    | (go_at_call 25; (with_reducible refine ((H25 _).out).mono ?_); rintro e w4 ⟨rfl, hB⟩; (try clear hc hf); (first | (replace HB := Lib.hid (bl_step HB.out hB)) | (replace HB := Lib.hid (bl_step (bl_alloc HB.out) hB)) | (replace HB := Lib.hid (bl_step (bl_alloc (bl_alloc HB.out)) hB)) | (replace HB := Lib.hid (bl_step (by repeat (first | with_reducible exact HB.out | with_reducible refine bl_alloc ?_ | (with_reducible refine bl_set ?_ ?hset; case hset => (first | with_reducible exact Nat.le_refl _ | (simp; done) | (simp; omega) | omega)))) hB)) | (have HB := Lib.hid hB)); obtain ⟨hc, hf⟩ := bcell HB.out; have HC := Lib.hid hB; clear hB; have hz := HB.out.size; simp at hz; have hz1 : w.heap.size + 1 < w4.heap.size := (by omega); have hz0 : w.heap.size < w4.heap.size := (by omega); clear hz))
  obtain ⟨⟨TA, hA⟩, ⟨TB, hB⟩, hW⟩ := Tc.box2 w k1 lo1 hi1 s1 y1 m1 o1 f1 fl1 fc1 k2 lo2 hi2 s2 y2 m2 o2 f2 fl2 fc2 HB3.out
  have h35 := HC.out.size
  have h35' : w3.heap.size < w4.heap.size := Nat.lt_of_lt_of_le new_lt h35
  have T5 := ((Tc.new w3 k lo hi s y m false none 0 0).later HC.out new_lt).alloc h35' (.cells #[.int .i64 k, .int .i64 lo, .int .i64 hi, .string s, .bool y, .bool m, .bool false, .slice f 0 fc] 24)
  have T7 := Tc.new w4 k lo hi s y m false f 0 fc
  have TA := ((TA.alloc hA (.cells #[.int .i64 k, .int .i64 lo, .int .i64 hi, .string s, .bool y, .bool m, .bool false, .slice none 0 0] 24)).later HC.out (lt_alloc hA)).alloc (Nat.lt_trans hA h35') (.cells #[.int .i64 k, .int .i64 lo, .int .i64 hi, .string s, .bool y, .bool m, .bool false, .slice f 0 fc] 24)
  have TB := ((TB.alloc hB (.cells #[.int .i64 k, .int .i64 lo, .int .i64 hi, .string s, .bool y, .bool m, .bool false, .slice none 0 0] 24)).later HC.out (lt_alloc hB)).alloc (Nat.lt_trans hB h35') (.cells #[.int .i64 k, .int .i64 lo, .int .i64 hi, .string s, .bool y, .bool m, .bool false, .slice f 0 fc] 24)
  have LA := lt_alloc (o := (.cells #[.int .i64 k, .int .i64 lo, .int .i64 hi, .string s, .bool y, .bool m, .bool false, .slice f 0 fc] 24)) (Nat.lt_trans hA h35')
  have LB := lt_alloc (o := (.cells #[.int .i64 k, .int .i64 lo, .int .i64 hi, .string s, .bool y, .bool m, .bool false, .slice f 0 fc] 24)) (Nat.lt_trans hB h35')
  have L5 := lt_alloc (o := (.cells #[.int .i64 k, .int .i64 lo, .int .i64 hi, .string s, .bool y, .bool m, .bool false, .slice f 0 fc] 24)) h35'
  have L7 := new_lt (w := w4) (o := (.cells #[.int .i64 k, .int .i64 lo, .int .i64 hi, .string s, .bool y, .bool m, .bool false, .slice f 0 fc] 24))
  have HW := Lib.hid (bl_alloc (o := (.cells #[.int .i64 k, .int .i64 lo, .int .i64 hi, .string s, .bool y, .bool m, .bool false, .slice f 0 fc] 24)) (bl_step (bl_alloc (o := (.cells #[.int .i64 k, .int .i64 lo, .int .i64 hi, .string s, .bool y, .bool m, .bool false, .slice none 0 0] 24)) hW) HC.out))
  clear H10a H10b H24 H25 hc hf hz1 hz0 HB HB3 HC h35 h35' hA hB hW
  generalize hM : w.heap.size = M at *
  have HM := Lib.hid hM
  clear hM
  generalize w4.alloc (.cells #[.int .i64 k, .int .i64 lo, .int .i64 hi, .string s, .bool y, .bool m, .bool false, .slice f 0 fc] 24) = X at *
  generalize w3.heap.size = C5 at *
  generalize w4.heap.size = C7 at *
  generalize M + 1 = N at *
  have TA := Lib.hid TA
  have TB := Lib.hid TB
  have T5 := Lib.hid T5
  have T7 := Lib.hid T7
  have K11 := inC (X := X) HA
  have K21 := inC (X := X) H21
  have K26 := inC (X := X) H26
  have K27 := inC (X := X) H27
  clear HA H21 H26 H27
  refine region_class (C := fun W => Below X.heap.size X W) (by kernel_rfl) (by kernel_rfl) ((Below.refl _ _).drew) ?_
  repeat (first | go_big_quiet_skip | (go_big_quiet_want; go_big_quiet_op; first | go_big_quiet_on | (apply Exists.intro; refine ⟨fun W hW => ?_, ?_⟩; (first | rfl | exact K11.out W hW | exact K21.out W hW | exact K26.out W hW | exact K27.out W hW | (obtain ⟨q0, q1, q2, q3, q4, q5, q6, q7⟩ := TA.out.later hW LA; go_simp; first | done | rfl | exact ⟨rfl, rfl⟩) | (obtain ⟨q0, q1, q2, q3, q4, q5, q6, q7⟩ := TB.out.later hW LB; go_simp; first | done | rfl | exact ⟨rfl, rfl⟩) | (obtain ⟨q0, q1, q2, q3, q4, q5, q6, q7⟩ := T5.out.later hW L5; go_simp; first | done | rfl | exact ⟨rfl, rfl⟩) | (obtain ⟨q0, q1, q2, q3, q4, q5, q6, q7⟩ := T7.out.later hW L7; go_simp; first | done | rfl | exact ⟨rfl, rfl⟩)); go_big_quiet_on)))
  refine wpQuiet_nil ?_
  intro w9 hW9
  have HZ := Lib.hid (HW.out.trans (hW9.mono (Nat.le_of_lt LA)))
  clear hW9 HW
  go_wp2_with fail
  go_ret
  exact ⟨by simp, by rw [HM.out]; exact HZ.out⟩

end Go.Proofs.Ytkmbhjcedkojjaa
