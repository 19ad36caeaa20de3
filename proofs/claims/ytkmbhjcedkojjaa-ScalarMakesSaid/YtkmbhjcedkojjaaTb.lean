/- WALK of Later, at any term. -/
import Derived.Test.YtkmbhjcedkojjaaTa
import Derived.Test.YtkmbhjcedkojjaaK
namespace Go.Proofs.Ytkmbhjcedkojjaa
open Go.RowKit
/-- The boxes of Later: the term's, the answer's. -/
structure LB (w X : World) (k lo hi : Int) (s : ByteArray) (y m o : Bool) (f : Option Addr) (fl fc : Nat) : Prop where
  tc : Tc X w.heap.size k lo hi s y m o f fl fc
  fz : ∀ r, X.frozen? ⟨w.heap.size, r, none⟩ = false
  rc : ∀ r, r < 8 → ∃ u, X.cell? ⟨w.heap.size + 1, r, none⟩ = some u
  rf : ∀ r, X.frozen? ⟨w.heap.size + 1, r, none⟩ = false
  sz : w.heap.size + 1 < X.heap.size
  below : Below w.heap.size w X
section
variable {w X : World} {k lo hi : Int} {s : ByteArray} {y m o : Bool} {f : Option Addr} {fl fc : Nat}
theorem LB.later (h : LB w X k lo hi s y m o f fl fc) {X' : World} (hb : Below X.heap.size X X') : LB w X' k lo hi s y m o f fl fc := by
  have h1 : w.heap.size < X.heap.size := Nat.lt_of_succ_lt h.sz
  exact ⟨h.tc.later hb h1, fun r => (hb.frozen (p := ⟨w.heap.size, r, none⟩) h1).trans (h.fz r), fun r hr => by obtain ⟨u, hu⟩ := h.rc r hr; exact ⟨u, (hb.cell (p := ⟨w.heap.size + 1, r, none⟩) h.sz).trans hu⟩, fun r => (hb.frozen (p := ⟨w.heap.size + 1, r, none⟩) h.sz).trans (h.rf r), Nat.lt_of_lt_of_le h.sz hb.size, bl_step h.below hb⟩
theorem LB.set5 (h : LB w X k lo hi s y m o f fl fc) (m' : Bool) : LB w (X.setCell ⟨w.heap.size, 5, none⟩ (.bool m')) k lo hi s y m' o f fl fc := by
  obtain ⟨c0, c1, c2, c3, c4, c5, c6, c7⟩ := h.tc
  exact ⟨⟨(set_far (.inr (by omega))).trans c0, (set_far (.inr (by omega))).trans c1, (set_far (.inr (by omega))).trans c2, (set_far (.inr (by omega))).trans c3, (set_far (.inr (by omega))).trans c4, set_here c5, (set_far (.inr (by omega))).trans c6, (set_far (.inr (by omega))).trans c7⟩,
    fun r => by rw [World.frozen?_setCell]; exact h.fz r, fun r hr => by obtain ⟨u, hu⟩ := h.rc r hr; exact ⟨u, (set_far (.inl (by omega))).trans hu⟩, fun r => by rw [World.frozen?_setCell]; exact h.rf r, by rw [set_size]; exact h.sz, bl_set h.below (Nat.le_refl _)⟩
theorem LB.set7 (h : LB w X k lo hi s y m o f fl fc) (f' : Option Addr) (fl' fc' : Nat) : LB w (X.setCell ⟨w.heap.size, 7, none⟩ (.slice f' fl' fc')) k lo hi s y m o f' fl' fc' := by
  obtain ⟨c0, c1, c2, c3, c4, c5, c6, c7⟩ := h.tc
  exact ⟨⟨(set_far (.inr (by omega))).trans c0, (set_far (.inr (by omega))).trans c1, (set_far (.inr (by omega))).trans c2, (set_far (.inr (by omega))).trans c3, (set_far (.inr (by omega))).trans c4, (set_far (.inr (by omega))).trans c5, (set_far (.inr (by omega))).trans c6, set_here c7⟩,
    fun r => by rw [World.frozen?_setCell]; exact h.fz r, fun r hr => by obtain ⟨u, hu⟩ := h.rc r hr; exact ⟨u, (set_far (.inl (by omega))).trans hu⟩, fun r => by rw [World.frozen?_setCell]; exact h.rf r, by rw [set_size]; exact h.sz, bl_set h.below (Nat.le_refl _)⟩
end
/-- What Later answers. -/
def LaterPost (w : World) (k lo hi : Int) (s : ByteArray) (y m o : Bool) (fl : Nat) (e : Ending) (w' : World) : Prop := ∃ (f' : Option Addr) (fc' : Nat), e = .returned (tv k lo hi s y m o f' fl fc') ∧ Below w.heap.size w w'
set_option maxRecDepth 100000 in
set_option maxHeartbeats 8000000 in
theorem later_any (k lo hi : Int) (s : ByteArray) (y m o : Bool) (f : Option Addr) (fl fc : Nat) (w : World) (HO : ∀ W, Below w.heap.size w W → Calls Try.prog 47 #[.slice f fl fc] W (OwnPost W fl)) :
    Calls Try.prog 22 #[tv k lo hi s y m o f fl fc] w (LaterPost w k lo hi s y (m || (rightB k lo hi s y m o fl && !singleB k lo hi y)) o fl) := by
  have HO := Lib.hid HO
  have HR := fun W => Lib.hid (right_any k lo hi s y m o f fl fc W)
  have HS := fun W => Lib.hid (single_any k lo hi s y m o f fl fc W)
  generalize rightB k lo hi s y m o fl = r at *
  generalize singleB k lo hi y = g at *
  have HL : Hid (LB w ((w.alloc (.cells #[.int .i64 k, .int .i64 lo, .int .i64 hi, .string s, .bool y, .bool m, .bool o, .slice f fl fc] 24)).alloc (.cells #[.int .i64 0, .int .i64 0, .int .i64 0, .string ⟨#[]⟩, .bool false, .bool false, .bool false, .slice none 0 0] 24)) k lo hi s y m o f fl fc) := by
    refine ⟨?_, fun r => by simp [go_sem], fun r hr => ?_, fun r => by simp [go_sem], by simp, bl_alloc (bl_alloc (Below.refl _ _))⟩
    · simp [Tc, go_sem]
    · match r, hr with
      | 0, _ => exact ⟨_, by simp [go_sem]; rfl⟩
      | 1, _ => exact ⟨_, by simp [go_sem]; rfl⟩
      | 2, _ => exact ⟨_, by simp [go_sem]; rfl⟩
      | 3, _ => exact ⟨_, by simp [go_sem]; rfl⟩
      | 4, _ => exact ⟨_, by simp [go_sem]; rfl⟩
      | 5, _ => exact ⟨_, by simp [go_sem]; rfl⟩
      | 6, _ => exact ⟨_, by simp [go_sem]; rfl⟩
      | 7, _ => exact ⟨_, by simp [go_sem]; rfl⟩
      | r + 8, h => omega
  go_enter Try.func22, Try.ntmps22
  go_upto_region 1 with fail
  generalize (w.alloc (.cells #[.int .i64 k, .int .i64 lo, .int .i64 hi, .string s, .bool y, .bool m, .bool o, .slice f fl fc] 24)).alloc (.cells #[.int .i64 0, .int .i64 0, .int .i64 0, .string ⟨#[]⟩, .bool false, .bool false, .bool false, .slice none 0 0] 24) = X0 at *
  have HW1 := Lib.hid HL.out.sz
  obtain ⟨c0, c1, c2, c3, c4, c5, c6, c7⟩ := HL.out.tc
  have z5 := HL.out.fz 5
  cases m <;> cases r <;> cases g
  · go_upto_region 2 with (first
      | (go_at_call 13; (with_reducible refine (HR _).out.mono ?_); rintro e w1 ⟨rfl, hB⟩; replace HL := Lib.hid (HL.out.later hB); clear hB c0 c1 c2 c3 c4 c5 c6 c7 z5; obtain ⟨c0, c1, c2, c3, c4, c5, c6, c7⟩ := HL.out.tc; have z5 := HL.out.fz 5)
      | (go_at_call 44; (with_reducible refine (HS _).out.mono ?_); rintro e w1 ⟨rfl, hB⟩; replace HL := Lib.hid (HL.out.later hB); clear hB c0 c1 c2 c3 c4 c5 c6 c7 z5; obtain ⟨c0, c1, c2, c3, c4, c5, c6, c7⟩ := HL.out.tc; have z5 := HL.out.fz 5))
    have HM := Lib.hid (HL.out.set5 false)
    clear HL c0 c1 c2 c3 c4 c5 c6 c7 z5
    obtain ⟨c0, c1, c2, c3, c4, c5, c6, c7⟩ := HM.out.tc
    go_wp2_with fail
    refine (HO.out _ HM.out.below).mono ?_
    rintro e w2 ⟨f', fc', rfl, hB2⟩
    have HM2 := Lib.hid (HM.out.later hB2)
    clear hB2 c0 c1 c2 c3 c4 c5 c6 c7
    have z7 := HM2.out.fz 7
    have c7 := HM2.out.tc.2.2.2.2.2.2.2
    go_upto_region 3 with fail
    have HM3 := Lib.hid (HM2.out.set7 f' fl fc')
    clear c7
    generalize w2.setCell ⟨w.heap.size, 7, none⟩ (.slice f' fl fc') = X3 at *
    clear HM2 z7
    obtain ⟨c0, c1, c2, c3, c4, c5, c6, c7⟩ := HM3.out.tc
    obtain ⟨⟨u0, d0⟩, ⟨u1, d1⟩, ⟨u2, d2⟩, ⟨u3, d3⟩⟩ := And.intro (HM3.out.rc 0 (by omega)) (And.intro (HM3.out.rc 1 (by omega)) (And.intro (HM3.out.rc 2 (by omega)) (HM3.out.rc 3 (by omega))))
    obtain ⟨⟨u4, d4⟩, ⟨u5, d5⟩, ⟨u6, d6⟩, ⟨u7, d7⟩⟩ := And.intro (HM3.out.rc 4 (by omega)) (And.intro (HM3.out.rc 5 (by omega)) (And.intro (HM3.out.rc 6 (by omega)) (HM3.out.rc 7 (by omega))))
    have rf := HM3.out.rf
    go_wp2_with fail
    exact bodyPost_ret (v := tv k lo hi s y false o f' fl fc') (by simp [results, Try.results22, go_sem, d0, d1, d2, d3, d4, d5, d6, d7]) rfl ⟨f', fc', rfl, bl_set (bl_set (bl_set (bl_set (bl_set (bl_set (bl_set (bl_set HM3.out.below (Nat.le_succ _)) (Nat.le_succ _)) (Nat.le_succ _)) (Nat.le_succ _)) (Nat.le_succ _)) (Nat.le_succ _)) (Nat.le_succ _)) (Nat.le_succ _)⟩
  · go_upto_region 2 with (first
      | (go_at_call 13; (with_reducible refine (HR _).out.mono ?_); rintro e w1 ⟨rfl, hB⟩; replace HL := Lib.hid (HL.out.later hB); clear hB c0 c1 c2 c3 c4 c5 c6 c7 z5; obtain ⟨c0, c1, c2, c3, c4, c5, c6, c7⟩ := HL.out.tc; have z5 := HL.out.fz 5)
      | (go_at_call 44; (with_reducible refine (HS _).out.mono ?_); rintro e w1 ⟨rfl, hB⟩; replace HL := Lib.hid (HL.out.later hB); clear hB c0 c1 c2 c3 c4 c5 c6 c7 z5; obtain ⟨c0, c1, c2, c3, c4, c5, c6, c7⟩ := HL.out.tc; have z5 := HL.out.fz 5))
    have HM := Lib.hid (HL.out.set5 false)
    clear HL c0 c1 c2 c3 c4 c5 c6 c7 z5
    obtain ⟨c0, c1, c2, c3, c4, c5, c6, c7⟩ := HM.out.tc
    go_wp2_with fail
    refine (HO.out _ HM.out.below).mono ?_
    rintro e w2 ⟨f', fc', rfl, hB2⟩
    have HM2 := Lib.hid (HM.out.later hB2)
    clear hB2 c0 c1 c2 c3 c4 c5 c6 c7
    have z7 := HM2.out.fz 7
    have c7 := HM2.out.tc.2.2.2.2.2.2.2
    go_upto_region 3 with fail
    have HM3 := Lib.hid (HM2.out.set7 f' fl fc')
    clear c7
    generalize w2.setCell ⟨w.heap.size, 7, none⟩ (.slice f' fl fc') = X3 at *
    clear HM2 z7
    obtain ⟨c0, c1, c2, c3, c4, c5, c6, c7⟩ := HM3.out.tc
    obtain ⟨⟨u0, d0⟩, ⟨u1, d1⟩, ⟨u2, d2⟩, ⟨u3, d3⟩⟩ := And.intro (HM3.out.rc 0 (by omega)) (And.intro (HM3.out.rc 1 (by omega)) (And.intro (HM3.out.rc 2 (by omega)) (HM3.out.rc 3 (by omega))))
    obtain ⟨⟨u4, d4⟩, ⟨u5, d5⟩, ⟨u6, d6⟩, ⟨u7, d7⟩⟩ := And.intro (HM3.out.rc 4 (by omega)) (And.intro (HM3.out.rc 5 (by omega)) (And.intro (HM3.out.rc 6 (by omega)) (HM3.out.rc 7 (by omega))))
    have rf := HM3.out.rf
    go_wp2_with fail
    exact bodyPost_ret (v := tv k lo hi s y false o f' fl fc') (by simp [results, Try.results22, go_sem, d0, d1, d2, d3, d4, d5, d6, d7]) rfl ⟨f', fc', rfl, bl_set (bl_set (bl_set (bl_set (bl_set (bl_set (bl_set (bl_set HM3.out.below (Nat.le_succ _)) (Nat.le_succ _)) (Nat.le_succ _)) (Nat.le_succ _)) (Nat.le_succ _)) (Nat.le_succ _)) (Nat.le_succ _)) (Nat.le_succ _)⟩
  · go_upto_region 2 with (first
      | (go_at_call 13; (with_reducible refine (HR _).out.mono ?_); rintro e w1 ⟨rfl, hB⟩; replace HL := Lib.hid (HL.out.later hB); clear hB c0 c1 c2 c3 c4 c5 c6 c7 z5; obtain ⟨c0, c1, c2, c3, c4, c5, c6, c7⟩ := HL.out.tc; have z5 := HL.out.fz 5)
      | (go_at_call 44; (with_reducible refine (HS _).out.mono ?_); rintro e w1 ⟨rfl, hB⟩; replace HL := Lib.hid (HL.out.later hB); clear hB c0 c1 c2 c3 c4 c5 c6 c7 z5; obtain ⟨c0, c1, c2, c3, c4, c5, c6, c7⟩ := HL.out.tc; have z5 := HL.out.fz 5))
    have HM := Lib.hid (HL.out.set5 true)
    clear HL c0 c1 c2 c3 c4 c5 c6 c7 z5
    obtain ⟨c0, c1, c2, c3, c4, c5, c6, c7⟩ := HM.out.tc
    go_wp2_with fail
    refine (HO.out _ HM.out.below).mono ?_
    rintro e w2 ⟨f', fc', rfl, hB2⟩
    have HM2 := Lib.hid (HM.out.later hB2)
    clear hB2 c0 c1 c2 c3 c4 c5 c6 c7
    have z7 := HM2.out.fz 7
    have c7 := HM2.out.tc.2.2.2.2.2.2.2
    go_upto_region 3 with fail
    have HM3 := Lib.hid (HM2.out.set7 f' fl fc')
    clear c7
    generalize w2.setCell ⟨w.heap.size, 7, none⟩ (.slice f' fl fc') = X3 at *
    clear HM2 z7
    obtain ⟨c0, c1, c2, c3, c4, c5, c6, c7⟩ := HM3.out.tc
    obtain ⟨⟨u0, d0⟩, ⟨u1, d1⟩, ⟨u2, d2⟩, ⟨u3, d3⟩⟩ := And.intro (HM3.out.rc 0 (by omega)) (And.intro (HM3.out.rc 1 (by omega)) (And.intro (HM3.out.rc 2 (by omega)) (HM3.out.rc 3 (by omega))))
    obtain ⟨⟨u4, d4⟩, ⟨u5, d5⟩, ⟨u6, d6⟩, ⟨u7, d7⟩⟩ := And.intro (HM3.out.rc 4 (by omega)) (And.intro (HM3.out.rc 5 (by omega)) (And.intro (HM3.out.rc 6 (by omega)) (HM3.out.rc 7 (by omega))))
    have rf := HM3.out.rf
    go_wp2_with fail
    exact bodyPost_ret (v := tv k lo hi s y true o f' fl fc') (by simp [results, Try.results22, go_sem, d0, d1, d2, d3, d4, d5, d6, d7]) rfl ⟨f', fc', rfl, bl_set (bl_set (bl_set (bl_set (bl_set (bl_set (bl_set (bl_set HM3.out.below (Nat.le_succ _)) (Nat.le_succ _)) (Nat.le_succ _)) (Nat.le_succ _)) (Nat.le_succ _)) (Nat.le_succ _)) (Nat.le_succ _)) (Nat.le_succ _)⟩
  · go_upto_region 2 with (first
      | (go_at_call 13; (with_reducible refine (HR _).out.mono ?_); rintro e w1 ⟨rfl, hB⟩; replace HL := Lib.hid (HL.out.later hB); clear hB c0 c1 c2 c3 c4 c5 c6 c7 z5; obtain ⟨c0, c1, c2, c3, c4, c5, c6, c7⟩ := HL.out.tc; have z5 := HL.out.fz 5)
      | (go_at_call 44; (with_reducible refine (HS _).out.mono ?_); rintro e w1 ⟨rfl, hB⟩; replace HL := Lib.hid (HL.out.later hB); clear hB c0 c1 c2 c3 c4 c5 c6 c7 z5; obtain ⟨c0, c1, c2, c3, c4, c5, c6, c7⟩ := HL.out.tc; have z5 := HL.out.fz 5))
    have HM := Lib.hid (HL.out.set5 false)
    clear HL c0 c1 c2 c3 c4 c5 c6 c7 z5
    obtain ⟨c0, c1, c2, c3, c4, c5, c6, c7⟩ := HM.out.tc
    go_wp2_with fail
    refine (HO.out _ HM.out.below).mono ?_
    rintro e w2 ⟨f', fc', rfl, hB2⟩
    have HM2 := Lib.hid (HM.out.later hB2)
    clear hB2 c0 c1 c2 c3 c4 c5 c6 c7
    have z7 := HM2.out.fz 7
    have c7 := HM2.out.tc.2.2.2.2.2.2.2
    go_upto_region 3 with fail
    have HM3 := Lib.hid (HM2.out.set7 f' fl fc')
    clear c7
    generalize w2.setCell ⟨w.heap.size, 7, none⟩ (.slice f' fl fc') = X3 at *
    clear HM2 z7
    obtain ⟨c0, c1, c2, c3, c4, c5, c6, c7⟩ := HM3.out.tc
    obtain ⟨⟨u0, d0⟩, ⟨u1, d1⟩, ⟨u2, d2⟩, ⟨u3, d3⟩⟩ := And.intro (HM3.out.rc 0 (by omega)) (And.intro (HM3.out.rc 1 (by omega)) (And.intro (HM3.out.rc 2 (by omega)) (HM3.out.rc 3 (by omega))))
    obtain ⟨⟨u4, d4⟩, ⟨u5, d5⟩, ⟨u6, d6⟩, ⟨u7, d7⟩⟩ := And.intro (HM3.out.rc 4 (by omega)) (And.intro (HM3.out.rc 5 (by omega)) (And.intro (HM3.out.rc 6 (by omega)) (HM3.out.rc 7 (by omega))))
    have rf := HM3.out.rf
    go_wp2_with fail
    exact bodyPost_ret (v := tv k lo hi s y false o f' fl fc') (by simp [results, Try.results22, go_sem, d0, d1, d2, d3, d4, d5, d6, d7]) rfl ⟨f', fc', rfl, bl_set (bl_set (bl_set (bl_set (bl_set (bl_set (bl_set (bl_set HM3.out.below (Nat.le_succ _)) (Nat.le_succ _)) (Nat.le_succ _)) (Nat.le_succ _)) (Nat.le_succ _)) (Nat.le_succ _)) (Nat.le_succ _)) (Nat.le_succ _)⟩
  · go_upto_region 2 with (first
      | (go_at_call 13; (with_reducible refine (HR _).out.mono ?_); rintro e w1 ⟨rfl, hB⟩; replace HL := Lib.hid (HL.out.later hB); clear hB c0 c1 c2 c3 c4 c5 c6 c7 z5; obtain ⟨c0, c1, c2, c3, c4, c5, c6, c7⟩ := HL.out.tc; have z5 := HL.out.fz 5)
      | (go_at_call 44; (with_reducible refine (HS _).out.mono ?_); rintro e w1 ⟨rfl, hB⟩; replace HL := Lib.hid (HL.out.later hB); clear hB c0 c1 c2 c3 c4 c5 c6 c7 z5; obtain ⟨c0, c1, c2, c3, c4, c5, c6, c7⟩ := HL.out.tc; have z5 := HL.out.fz 5))
    have HM := Lib.hid (HL.out.set5 true)
    clear HL c0 c1 c2 c3 c4 c5 c6 c7 z5
    obtain ⟨c0, c1, c2, c3, c4, c5, c6, c7⟩ := HM.out.tc
    go_wp2_with fail
    refine (HO.out _ HM.out.below).mono ?_
    rintro e w2 ⟨f', fc', rfl, hB2⟩
    have HM2 := Lib.hid (HM.out.later hB2)
    clear hB2 c0 c1 c2 c3 c4 c5 c6 c7
    have z7 := HM2.out.fz 7
    have c7 := HM2.out.tc.2.2.2.2.2.2.2
    go_upto_region 3 with fail
    have HM3 := Lib.hid (HM2.out.set7 f' fl fc')
    clear c7
    generalize w2.setCell ⟨w.heap.size, 7, none⟩ (.slice f' fl fc') = X3 at *
    clear HM2 z7
    obtain ⟨c0, c1, c2, c3, c4, c5, c6, c7⟩ := HM3.out.tc
    obtain ⟨⟨u0, d0⟩, ⟨u1, d1⟩, ⟨u2, d2⟩, ⟨u3, d3⟩⟩ := And.intro (HM3.out.rc 0 (by omega)) (And.intro (HM3.out.rc 1 (by omega)) (And.intro (HM3.out.rc 2 (by omega)) (HM3.out.rc 3 (by omega))))
    obtain ⟨⟨u4, d4⟩, ⟨u5, d5⟩, ⟨u6, d6⟩, ⟨u7, d7⟩⟩ := And.intro (HM3.out.rc 4 (by omega)) (And.intro (HM3.out.rc 5 (by omega)) (And.intro (HM3.out.rc 6 (by omega)) (HM3.out.rc 7 (by omega))))
    have rf := HM3.out.rf
    go_wp2_with fail
    exact bodyPost_ret (v := tv k lo hi s y true o f' fl fc') (by simp [results, Try.results22, go_sem, d0, d1, d2, d3, d4, d5, d6, d7]) rfl ⟨f', fc', rfl, bl_set (bl_set (bl_set (bl_set (bl_set (bl_set (bl_set (bl_set HM3.out.below (Nat.le_succ _)) (Nat.le_succ _)) (Nat.le_succ _)) (Nat.le_succ _)) (Nat.le_succ _)) (Nat.le_succ _)) (Nat.le_succ _)) (Nat.le_succ _)⟩
  · go_upto_region 2 with (first
      | (go_at_call 13; (with_reducible refine (HR _).out.mono ?_); rintro e w1 ⟨rfl, hB⟩; replace HL := Lib.hid (HL.out.later hB); clear hB c0 c1 c2 c3 c4 c5 c6 c7 z5; obtain ⟨c0, c1, c2, c3, c4, c5, c6, c7⟩ := HL.out.tc; have z5 := HL.out.fz 5)
      | (go_at_call 44; (with_reducible refine (HS _).out.mono ?_); rintro e w1 ⟨rfl, hB⟩; replace HL := Lib.hid (HL.out.later hB); clear hB c0 c1 c2 c3 c4 c5 c6 c7 z5; obtain ⟨c0, c1, c2, c3, c4, c5, c6, c7⟩ := HL.out.tc; have z5 := HL.out.fz 5))
    have HM := Lib.hid (HL.out.set5 true)
    clear HL c0 c1 c2 c3 c4 c5 c6 c7 z5
    obtain ⟨c0, c1, c2, c3, c4, c5, c6, c7⟩ := HM.out.tc
    go_wp2_with fail
    refine (HO.out _ HM.out.below).mono ?_
    rintro e w2 ⟨f', fc', rfl, hB2⟩
    have HM2 := Lib.hid (HM.out.later hB2)
    clear hB2 c0 c1 c2 c3 c4 c5 c6 c7
    have z7 := HM2.out.fz 7
    have c7 := HM2.out.tc.2.2.2.2.2.2.2
    go_upto_region 3 with fail
    have HM3 := Lib.hid (HM2.out.set7 f' fl fc')
    clear c7
    generalize w2.setCell ⟨w.heap.size, 7, none⟩ (.slice f' fl fc') = X3 at *
    clear HM2 z7
    obtain ⟨c0, c1, c2, c3, c4, c5, c6, c7⟩ := HM3.out.tc
    obtain ⟨⟨u0, d0⟩, ⟨u1, d1⟩, ⟨u2, d2⟩, ⟨u3, d3⟩⟩ := And.intro (HM3.out.rc 0 (by omega)) (And.intro (HM3.out.rc 1 (by omega)) (And.intro (HM3.out.rc 2 (by omega)) (HM3.out.rc 3 (by omega))))
    obtain ⟨⟨u4, d4⟩, ⟨u5, d5⟩, ⟨u6, d6⟩, ⟨u7, d7⟩⟩ := And.intro (HM3.out.rc 4 (by omega)) (And.intro (HM3.out.rc 5 (by omega)) (And.intro (HM3.out.rc 6 (by omega)) (HM3.out.rc 7 (by omega))))
    have rf := HM3.out.rf
    go_wp2_with fail
    exact bodyPost_ret (v := tv k lo hi s y true o f' fl fc') (by simp [results, Try.results22, go_sem, d0, d1, d2, d3, d4, d5, d6, d7]) rfl ⟨f', fc', rfl, bl_set (bl_set (bl_set (bl_set (bl_set (bl_set (bl_set (bl_set HM3.out.below (Nat.le_succ _)) (Nat.le_succ _)) (Nat.le_succ _)) (Nat.le_succ _)) (Nat.le_succ _)) (Nat.le_succ _)) (Nat.le_succ _)) (Nat.le_succ _)⟩
  · go_upto_region 2 with (first
      | (go_at_call 13; (with_reducible refine (HR _).out.mono ?_); rintro e w1 ⟨rfl, hB⟩; replace HL := Lib.hid (HL.out.later hB); clear hB c0 c1 c2 c3 c4 c5 c6 c7 z5; obtain ⟨c0, c1, c2, c3, c4, c5, c6, c7⟩ := HL.out.tc; have z5 := HL.out.fz 5)
      | (go_at_call 44; (with_reducible refine (HS _).out.mono ?_); rintro e w1 ⟨rfl, hB⟩; replace HL := Lib.hid (HL.out.later hB); clear hB c0 c1 c2 c3 c4 c5 c6 c7 z5; obtain ⟨c0, c1, c2, c3, c4, c5, c6, c7⟩ := HL.out.tc; have z5 := HL.out.fz 5))
    have HM := Lib.hid (HL.out.set5 true)
    clear HL c0 c1 c2 c3 c4 c5 c6 c7 z5
    obtain ⟨c0, c1, c2, c3, c4, c5, c6, c7⟩ := HM.out.tc
    go_wp2_with fail
    refine (HO.out _ HM.out.below).mono ?_
    rintro e w2 ⟨f', fc', rfl, hB2⟩
    have HM2 := Lib.hid (HM.out.later hB2)
    clear hB2 c0 c1 c2 c3 c4 c5 c6 c7
    have z7 := HM2.out.fz 7
    have c7 := HM2.out.tc.2.2.2.2.2.2.2
    go_upto_region 3 with fail
    have HM3 := Lib.hid (HM2.out.set7 f' fl fc')
    clear c7
    generalize w2.setCell ⟨w.heap.size, 7, none⟩ (.slice f' fl fc') = X3 at *
    clear HM2 z7
    obtain ⟨c0, c1, c2, c3, c4, c5, c6, c7⟩ := HM3.out.tc
    obtain ⟨⟨u0, d0⟩, ⟨u1, d1⟩, ⟨u2, d2⟩, ⟨u3, d3⟩⟩ := And.intro (HM3.out.rc 0 (by omega)) (And.intro (HM3.out.rc 1 (by omega)) (And.intro (HM3.out.rc 2 (by omega)) (HM3.out.rc 3 (by omega))))
    obtain ⟨⟨u4, d4⟩, ⟨u5, d5⟩, ⟨u6, d6⟩, ⟨u7, d7⟩⟩ := And.intro (HM3.out.rc 4 (by omega)) (And.intro (HM3.out.rc 5 (by omega)) (And.intro (HM3.out.rc 6 (by omega)) (HM3.out.rc 7 (by omega))))
    have rf := HM3.out.rf
    go_wp2_with fail
    exact bodyPost_ret (v := tv k lo hi s y true o f' fl fc') (by simp [results, Try.results22, go_sem, d0, d1, d2, d3, d4, d5, d6, d7]) rfl ⟨f', fc', rfl, bl_set (bl_set (bl_set (bl_set (bl_set (bl_set (bl_set (bl_set HM3.out.below (Nat.le_succ _)) (Nat.le_succ _)) (Nat.le_succ _)) (Nat.le_succ _)) (Nat.le_succ _)) (Nat.le_succ _)) (Nat.le_succ _)) (Nat.le_succ _)⟩
  · go_upto_region 2 with (first
      | (go_at_call 13; (with_reducible refine (HR _).out.mono ?_); rintro e w1 ⟨rfl, hB⟩; replace HL := Lib.hid (HL.out.later hB); clear hB c0 c1 c2 c3 c4 c5 c6 c7 z5; obtain ⟨c0, c1, c2, c3, c4, c5, c6, c7⟩ := HL.out.tc; have z5 := HL.out.fz 5)
      | (go_at_call 44; (with_reducible refine (HS _).out.mono ?_); rintro e w1 ⟨rfl, hB⟩; replace HL := Lib.hid (HL.out.later hB); clear hB c0 c1 c2 c3 c4 c5 c6 c7 z5; obtain ⟨c0, c1, c2, c3, c4, c5, c6, c7⟩ := HL.out.tc; have z5 := HL.out.fz 5))
    have HM := Lib.hid (HL.out.set5 true)
    clear HL c0 c1 c2 c3 c4 c5 c6 c7 z5
    obtain ⟨c0, c1, c2, c3, c4, c5, c6, c7⟩ := HM.out.tc
    go_wp2_with fail
    refine (HO.out _ HM.out.below).mono ?_
    rintro e w2 ⟨f', fc', rfl, hB2⟩
    have HM2 := Lib.hid (HM.out.later hB2)
    clear hB2 c0 c1 c2 c3 c4 c5 c6 c7
    have z7 := HM2.out.fz 7
    have c7 := HM2.out.tc.2.2.2.2.2.2.2
    go_upto_region 3 with fail
    have HM3 := Lib.hid (HM2.out.set7 f' fl fc')
    clear c7
    generalize w2.setCell ⟨w.heap.size, 7, none⟩ (.slice f' fl fc') = X3 at *
    clear HM2 z7
    obtain ⟨c0, c1, c2, c3, c4, c5, c6, c7⟩ := HM3.out.tc
    obtain ⟨⟨u0, d0⟩, ⟨u1, d1⟩, ⟨u2, d2⟩, ⟨u3, d3⟩⟩ := And.intro (HM3.out.rc 0 (by omega)) (And.intro (HM3.out.rc 1 (by omega)) (And.intro (HM3.out.rc 2 (by omega)) (HM3.out.rc 3 (by omega))))
    obtain ⟨⟨u4, d4⟩, ⟨u5, d5⟩, ⟨u6, d6⟩, ⟨u7, d7⟩⟩ := And.intro (HM3.out.rc 4 (by omega)) (And.intro (HM3.out.rc 5 (by omega)) (And.intro (HM3.out.rc 6 (by omega)) (HM3.out.rc 7 (by omega))))
    have rf := HM3.out.rf
    go_wp2_with fail
    exact bodyPost_ret (v := tv k lo hi s y true o f' fl fc') (by simp [results, Try.results22, go_sem, d0, d1, d2, d3, d4, d5, d6, d7]) rfl ⟨f', fc', rfl, bl_set (bl_set (bl_set (bl_set (bl_set (bl_set (bl_set (bl_set HM3.out.below (Nat.le_succ _)) (Nat.le_succ _)) (Nat.le_succ _)) (Nat.le_succ _)) (Nat.le_succ _)) (Nat.le_succ _)) (Nat.le_succ _)) (Nat.le_succ _)⟩

end Go.Proofs.Ytkmbhjcedkojjaa
