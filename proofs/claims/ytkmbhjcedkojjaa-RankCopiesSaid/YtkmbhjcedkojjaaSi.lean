/- WALK of the law RankCopies. -/
import Derived.Test.YtkmbhjcedkojjaaSh
import Derived.Test.YtkmbhjcedkojjaaSf
import Derived.Test.YtkmbhjcedkojjaaRd
import Derived.Test.YtkmbhjcedkojjaaPj
import Derived.Test.YtkmbhjcedkojjaaQa
namespace Go.Proofs.Ytkmbhjcedkojjaa
open Go.RowKit
def SamePost (w : World) (e : Ending) (w' : World) : Prop := e = .returned (.bool true) ∧ Below w.heap.size w w'
theorem rsame_self {n : Nat} {w : World} {t t2 : Option Addr} {tl tc tl2 tc2 : Nat} {A : List Tm} (h1 : InV w n t tl tc A) (h2 : InV w n t2 tl2 tc2 A) : Calls Try.prog 36 #[.agg #[.slice t tl tc], .agg #[.slice t2 tl2 tc2]] w (SamePost w) :=
  (rsame_in n w t tl tc A t2 tl2 tc2 A h1 h2).mono fun _ _ ⟨a, b⟩ => ⟨by rw [a, (cmpV_cmp n).refl A]; rfl, b⟩
theorem two_boxes {w w2 w3 : World} {t t1 : Option Addr} {tl tc tc1 : Nat} (h1 : w.heap.size < w2.heap.size) (h2 : w2.cell? ⟨w.heap.size, 0, none⟩ = some (.slice t tl tc)) (h : Below (w2.alloc (.cells #[.slice t1 tl tc1] 41)).heap.size (w2.alloc (.cells #[.slice t1 tl tc1] 41)) w3) :
    w.heap.size < w3.heap.size ∧ w3.cell? ⟨w.heap.size, 0, none⟩ = some (.slice t tl tc) ∧ w2.heap.size < w3.heap.size ∧ w3.cell? ⟨w2.heap.size, 0, none⟩ = some (.slice t1 tl tc1) := by
  have hz : w2.heap.size + 1 ≤ w3.heap.size := by have := h.size; simpa using this
  exact ⟨by omega, (h.cell (p := ⟨w.heap.size, 0, none⟩) (by simp; omega)).trans ((cell_past h1).trans h2), by omega, (h.cell (p := ⟨w2.heap.size, 0, none⟩) (by simp)).trans (by simp [go_sem])⟩
set_option maxRecDepth 100000 in
set_option maxHeartbeats 8000000 in
theorem rcopies_walk (n : Nat) (t : Option Addr) (tl tc : Nat) (A : List Tm) (w : World) (h : InV w n t tl tc A) (hs : ∀ m, SlimV m A) :
    Calls Try.prog 9 #[.agg #[.slice t tl tc]] w fun e w' => e = .returned (.bool true) ∧ Below w.heap.size w w' := by
  have HA := fun W => Lib.hid (rawake_any W)
  have F1 : Hid (∀ W, Below w.heap.size w W → Calls Try.prog 29 #[.agg #[.slice t tl tc]] W (FewPost W)) := fun W hW => few_any _ W _ _ _ _ (h.below hW)
  have P1 : Hid (∀ W, Below w.heap.size w W → Calls Try.prog 41 #[.agg #[.slice t tl tc]] W (CopyPost W n tl A)) := fun W hW => plain_in n W _ _ _ _ (h.below hW) (hs n)
  have C1 : Hid (∀ W, Below w.heap.size w W → Calls Try.prog 42 #[.agg #[.slice t tl tc]] W (CopyPost W n tl A)) := fun W hW => copy_in n W _ _ _ _ (h.below hW) (hs n)
  have HH := Lib.hid h
  have HB : Hid (Below w.heap.size w (w.alloc (.cells #[.slice t tl tc] 41))) := bl_alloc (Below.refl _ _)
  have H0 : Hid (Bx (w.alloc (.cells #[.slice t tl tc] 41)) w.heap.size t tl tc) := ⟨by simp, by simp⟩
  clear h hs
  go_enter Try.func9, Try.ntmps9
  go_wp2_with fail
  refine (F1.out _ HB.out).mono ?_
  rintro e w1 ⟨b, rfl, hB1⟩
  replace H0 := Lib.hid (H0.out.later hB1)
  replace HB := Lib.hid (bl_step HB.out hB1)
  clear hB1
  have bx := H0.out.2
  go_wp2_with (first
    | (go_at_call 30; (with_reducible refine (HA _).out.mono ?_); rintro e w4 ⟨rfl, hB⟩; have HB4 := Lib.hid hB; clear hB)
    | (go_at_call 41; refine (P1.out _ HB.out).mono ?_; rintro e w2 ⟨t1, tc1, rfl, hB2, hO1⟩; have HO1 := Lib.hid hO1; have HB2 := Lib.hid hB2; have bx2 := (H0.out.later hB2).2; have bz2 := (H0.out.later hB2).1; clear hB2 hO1)
    | (go_at_call 42; refine (C1.out _ (bl_alloc (bl_step HB.out HB2.out))).mono ?_; rintro e w3 ⟨t2, tc2, rfl, hB3, hO2⟩; have HO2 := Lib.hid hO2; have HB3 := Lib.hid hB3; obtain ⟨bz3, bx3, bz4, bx4⟩ := two_boxes bz2 bx2 hB3; clear hB3 hO2))
  all_goals first
    | (go_ret; exact ⟨rfl, bl_step HB.out HB4.out⟩)
    | skip
  have HA5 : Hid (Below w3.heap.size w3 (w3.alloc (.cells #[.slice t2 tl tc2] 41))) := bl_alloc (Below.refl _ _)
  have HW23 : Hid (Below w2.heap.size w2 w3) := bl_step (bl_alloc (Below.refl _ _)) HB3.out
  refine (rsame_self (HO2.out.inV.below HA5.out) (HO1.out.inV.below (bl_step HW23.out HA5.out))).mono ?_
  rintro e w5 ⟨rfl, hB5⟩
  have HB5 := Lib.hid (bl_step HA5.out hB5)
  have bx5 := Lib.hid (show w5.cell? ⟨w3.heap.size, 0, none⟩ = some (.slice t2 tl tc2) from (hB5.cell (p := ⟨w3.heap.size, 0, none⟩) (by simp)).trans (by simp [go_sem]))
  have bz5 := Lib.hid (show w3.heap.size < w5.heap.size from Nat.lt_of_lt_of_le (by simp) hB5.size)
  have cx5 := (HB5.out.cell (p := ⟨w.heap.size, 0, none⟩) bz3).trans bx3
  have cy5 := (HB5.out.cell (p := ⟨w2.heap.size, 0, none⟩) bz4).trans bx4
  have cz5 := bx5.out
  clear hB5 bx2 bx bx3 bx4
  have KS : Hid (Calls Try.prog 43 #[.agg #[.slice t2 tl tc2], .int .i64 20] w5 (SpoPost (w2.heap.size + 1) w5)) :=
    spoil_in (w2.heap.size + 1) n w5 t2 tl tc2 20 (by have := bz5.out; omega) (by
      have h := HO2.out.below HB5.out
      have e : (w2.alloc (.cells #[.slice t1 tl tc1] 41)).heap.size = w2.heap.size + 1 := by simp
      rw [e] at h
      exact h.shV) (by omega) (by omega)
  go_wp2_with (first
    | (go_at_call 43; refine KS.out.mono ?_; rintro e w6 ⟨rfl, hS6⟩; have HS6 := Lib.hid hS6; have cx6 := hS6.head (Nat.lt_of_lt_of_le bz3 HB5.out.size) cx5; have cy6 := hS6.head (Nat.lt_of_lt_of_le bz4 HB5.out.size) cy5; have ex6 := Nat.lt_of_lt_of_le bz3 (Nat.le_trans HB5.out.size hS6.below.size); have ey6 := Nat.lt_of_lt_of_le bz4 (Nat.le_trans HB5.out.size hS6.below.size); clear hS6 cx5 cy5 cz5)
    | (go_at_call 30; (with_reducible refine (HA _).out.mono ?_); rintro e w7 ⟨rfl, hB⟩; have HB7 := Lib.hid hB; have cx7 := (hB.cell (p := ⟨w.heap.size, 0, none⟩) ex6).trans cx6; have cy7 := (hB.cell (p := ⟨w2.heap.size, 0, none⟩) ey6).trans cy6; clear hB))
  have HW2 : Hid (Below w2.heap.size w2 w7) := HW23.out.trans ((HB5.out.mono (Nat.le_of_lt bz4)).trans ((HS6.out.below.mono (Nat.le_succ _)).trans (HB7.out.mono (Nat.le_of_lt ey6))))
  have HW : Hid (Below w.heap.size w w7) := bl_step (bl_step HB.out HB2.out) HW2.out
  refine (rsame_self (HH.out.below HW.out) (HO1.out.inV.below HW2.out)).mono ?_
  rintro e w8 ⟨rfl, hB8⟩
  have HB8 := Lib.hid hB8
  clear hB8
  go_wp2_with fail
  go_ret
  exact ⟨rfl, bl_step HW.out HB8.out⟩

end Go.Proofs.Ytkmbhjcedkojjaa
