/- WALK of the law's awake. -/
import Derived.Test.YtngnegnofmpgkaaAh
namespace Go.Proofs.Ytngnegnofmpgkaa.Gr
open Go.RowKit Go.Maps Go.Sort
open Go.Proofs.Ytngnegnofmpgkaa.Nm (StrRow)
set_option maxRecDepth 100000 in
set_option maxHeartbeats 4000000 in
theorem awakeD_any (w : World) : Calls Try.prog 7 #[] w (BoolP true w) := by
  obtain ⟨W1, hW1⟩ : ∃ W1, W1 = w.alloc (.cells #[.string ⟨#[98]⟩] 9) := ⟨_, rfl⟩
  obtain ⟨W2, hW2⟩ : ∃ W2, W2 = W1.alloc (defR w.heap.size) := ⟨_, rfl⟩
  obtain ⟨W3, hW3⟩ : ∃ W3, W3 = W2.alloc (defR w.heap.size) := ⟨_, rfl⟩
  obtain ⟨W4, hW4⟩ : ∃ W4, W4 = W3.alloc (defI 1) := ⟨_, rfl⟩
  obtain ⟨W5, hW5⟩ : ∃ W5, W5 = W4.alloc (ndD (w.heap.size + 2) (w.heap.size + 3)) := ⟨_, rfl⟩
  obtain ⟨W6, hW6⟩ : ∃ W6, W6 = W5.alloc (defR w.heap.size) := ⟨_, rfl⟩
  obtain ⟨W7, hW7⟩ : ∃ W7, W7 = W6.alloc (defI 2) := ⟨_, rfl⟩
  obtain ⟨W8, hW8⟩ : ∃ W8, W8 = W7.alloc (ndD (w.heap.size + 5) (w.heap.size + 6)) := ⟨_, rfl⟩
  have z1 : W1.heap.size = w.heap.size + 1 := by rw [hW1]; simp
  have z2 : W2.heap.size = w.heap.size + 2 := by rw [hW2]; simp; omega
  have z3 : W3.heap.size = w.heap.size + 3 := by rw [hW3]; simp; omega
  have z4 : W4.heap.size = w.heap.size + 4 := by rw [hW4]; simp; omega
  have z5 : W5.heap.size = w.heap.size + 5 := by rw [hW5]; simp; omega
  have z6 : W6.heap.size = w.heap.size + 6 := by rw [hW6]; simp; omega
  have z7 : W7.heap.size = w.heap.size + 7 := by rw [hW7]; simp; omega
  have z8 : W8.heap.size = w.heap.size + 8 := by rw [hW8]; simp; omega
  have on : ∀ {X Y : World} {o x : Obj} {k : Nat}, Y = X.alloc o → X.heap[k]? = some x → Y.heap[k]? = some x := fun e h => by rw [e]; exact heap_on _ h
  have nw : ∀ {X Y : World} {o : Obj} {k : Nat}, Y = X.alloc o → X.heap.size = k → Y.heap[k]? = some o := fun e h => by rw [e]; exact heap_at _ h
  have f0 := on hW8 (on hW7 (on hW6 (on hW5 (on hW4 (on hW3 (on hW2 (nw hW1 (rfl : w.heap.size = w.heap.size))))))))
  have f2 := on hW8 (on hW7 (on hW6 (on hW5 (on hW4 (nw hW3 z2)))))
  have f3 := on hW8 (on hW7 (on hW6 (on hW5 (nw hW4 z3))))
  have f4 := on hW8 (on hW7 (on hW6 (nw hW5 z4)))
  have f5 := on hW8 (on hW7 (nw hW6 z5))
  have f6 := on hW8 (nw hW7 z6)
  have f7 := nw hW8 z7
  have b8 : Below w.heap.size w W8 := by
    rw [hW8]; refine Below.alloc ?_ (by omega) _
    rw [hW7]; refine Below.alloc ?_ (by omega) _
    rw [hW6]; refine Below.alloc ?_ (by omega) _
    rw [hW5]; refine Below.alloc ?_ (by omega) _
    rw [hW4]; refine Below.alloc ?_ (by omega) _
    rw [hW3]; refine Below.alloc ?_ (by omega) _
    rw [hW2]; refine Below.alloc ?_ (by omega) _
    rw [hW1]; refine Below.alloc ?_ (by omega) _
    exact Below.refl _ _
  have r1 := ndO_row (m := 1) f0 f2 f3 f4
  have r2 := ndO_row (m := 2) f0 f5 f6 f7
  have HO := Lib.hid r1
  have HN := Lib.hid r2
  have HB8 := Lib.hid b8
  have HW : Hid (W8 = (((((((w.alloc (.cells #[.string ⟨#[98]⟩] 9)).alloc (defR w.heap.size)).alloc (defR w.heap.size)).alloc (defI 1)).alloc (ndD (w.heap.size + 2) (w.heap.size + 3))).alloc (defR w.heap.size)).alloc (defI 2)).alloc (ndD (w.heap.size + 5) (w.heap.size + 6))) := Lib.hid (by rw [hW8, hW7, hW6, hW5, hW4, hW3, hW2, hW1])
  clear hW1 hW2 hW3 hW4 hW5 hW6 hW7 hW8 z1 z2 z3 z4 z5 z6 z7 z8 on nw f0 f2 f3 f4 f5 f6 f7 b8 r1 r2
  go_enter Try.func7, Try.ntmps7
  go_wp2_with fail
  change Calls Try.prog 13 #[.slice (some ⟨w.heap.size + 4, 0, none⟩) 2 2, .slice (some ⟨w.heap.size + 7, 0, none⟩) 2 2] ((((((((w.alloc (.cells #[.string ⟨#[98]⟩] 9)).alloc (defR w.heap.size)).alloc (defR w.heap.size)).alloc (defI 1)).alloc (ndD (w.heap.size + 2) (w.heap.size + 3))).alloc (defR w.heap.size)).alloc (defI 2)).alloc (ndD (w.heap.size + 5) (w.heap.size + 6))) _
  rw [← HW.out]
  clear HW
  have HC := namesN_row W8 (some ⟨w.heap.size + 4, 0, none⟩) 2 2 (some ⟨w.heap.size + 7, 0, none⟩) 2 2 2 (ndO 1) (ndO 2) W8 HO.out HN.out (by omega) (by omega) (ndO_nodup 1) (ndO_nodup 2) (Below.refl _ _)
  rw [ndO_rc] at HC
  refine HC.mono ?_; rintro e w2 ⟨a3, c3, rfl, hS2, hB2⟩
  have hb6 : Below w2.heap.size w2 (w2.alloc (.cells #[.string tB] 9)) := (Below.refl _ _).alloc (Nat.le_refl _) _
  have HS6 : Hid (Calls Try.prog 8 #[.slice a3 1 c3, .slice (some ⟨w2.heap.size, 0, none⟩) 1 1] (w2.alloc (.cells #[.string ⟨#[98]⟩] 9)) (BoolP true (w2.alloc (.cells #[.string ⟨#[98]⟩] 9)))) := Lib.hid (same_yes (hS2.below hb6) (str_lit okB))
  have HB2 := Lib.hid (below_step (HB8.out.trans (hB2.mono HB8.out.size)) hb6)
  have HO2 := Lib.hid (HO.out.below (below_step hB2 hb6))
  have HN2 := Lib.hid (HN.out.below (below_step hB2 hb6))
  clear hS2 hB2 hb6 HO HN HB8 HC
  go_wp2_with fail
  go_at_call 8; refine HS6.out.mono ?_; rintro e w3 ⟨rfl, hB3⟩
  have HB3 := Lib.hid (below_step HB2.out hB3)
  have HO3 := Lib.hid (HO2.out.below hB3)
  have HN3 := Lib.hid (HN2.out.below hB3)
  clear hB3 HO2 HN2 HB2 HS6
  go_wp2_with fail
  have HD := nodesN_any (some ⟨w.heap.size + 4, 0, none⟩) 2 2 (some ⟨w.heap.size + 7, 0, none⟩) 2 2 2 (ndO 1) (ndO 2) w3 HO3.out HN3.out (by omega) (by omega) (ndO_nodup 1) (ndO_nodup 2) (ndO_few 2) (ndO_ok 2)
  rw [ndO_rc] at HD
  refine HD.mono ?_; rintro e w4 hR
  obtain ⟨r, ⟨a4, c4, rfl, hS4, hB4⟩, hr, hm, -, -⟩ := reads_row hR
  obtain rfl := ndO_reach hr hm
  have hb7 : Below w4.heap.size w4 (w4.alloc (.cells #[.string tA, .string tB] 9)) := (Below.refl _ _).alloc (Nat.le_refl _) _
  have HS7 : Hid (Calls Try.prog 8 #[.slice a4 2 c4, .slice (some ⟨w4.heap.size, 0, none⟩) 2 2] (w4.alloc (.cells #[.string ⟨#[97]⟩, .string ⟨#[98]⟩] 9)) (BoolP true (w4.alloc (.cells #[.string ⟨#[97]⟩, .string ⟨#[98]⟩] 9)))) := Lib.hid (same_yes (hS4.below hb7) (str_two (World.alloc_heap_new w4 _)))
  have HB4 := Lib.hid (below_step (below_step HB3.out hB4) hb7)
  clear hR hS4 hB4 hr hm hb7 HO3 HN3 HB3 HD
  go_wp2_with fail
  go_at_call 8; refine HS7.out.mono ?_; rintro e w5 ⟨rfl, hB5⟩
  have HB5 := Lib.hid (below_step HB4.out hB5)
  clear hB5 HB4 HS7
  go_wp2_with fail
  go_ret
  exact ⟨rfl, HB5.out⟩
end Go.Proofs.Ytngnegnofmpgkaa.Gr
