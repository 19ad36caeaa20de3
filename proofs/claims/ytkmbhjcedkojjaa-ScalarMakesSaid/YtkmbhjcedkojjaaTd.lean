/- What the law ScalarMakes lays: boxes. -/
import Derived.Test.YtkmbhjcedkojjaaTc
namespace Go.Proofs.Ytkmbhjcedkojjaa
open Go.RowKit
/-- A term's box that is there. -/
def Tx (w : World) (N : Nat) (k lo hi : Int) (s : ByteArray) (y m o : Bool) (f : Option Addr) (fl fc : Nat) : Prop := Tc w N k lo hi s y m o f fl fc ∧ N < w.heap.size
section
variable {w : World} {N : Nat} {k lo hi : Int} {s : ByteArray} {y m o : Bool} {f : Option Addr} {fl fc : Nat}
theorem Tx.later (h : Tx w N k lo hi s y m o f fl fc) {w' : World} (hb : Below w.heap.size w w') : Tx w' N k lo hi s y m o f fl fc := ⟨h.1.later hb h.2, Nat.lt_of_lt_of_le h.2 hb.size⟩
theorem Tx.alloc (h : Tx w N k lo hi s y m o f fl fc) (O : Obj) : Tx (w.alloc O) N k lo hi s y m o f fl fc := ⟨h.1.alloc h.2 O, lt_alloc h.2⟩
theorem Tx.new (w : World) (k lo hi : Int) (s : ByteArray) (y m o : Bool) (f : Option Addr) (fl fc : Nat) : Tx (w.alloc (.cells #[.int .i64 k, .int .i64 lo, .int .i64 hi, .string s, .bool y, .bool m, .bool o, .slice f fl fc] 24)) w.heap.size k lo hi s y m o f fl fc := ⟨Tc.new _ _ _ _ _ _ _ _ _ _ _, new_lt⟩
end
/-- The numbers' box. -/
def Nx (w : World) (N : Nat) (a b c : Int) : Prop := N < w.heap.size ∧ w.cell? ⟨N, 0, none⟩ = some (.int .i64 a) ∧ w.cell? ⟨N, 1, none⟩ = some (.int .i64 b) ∧ w.cell? ⟨N, 2, none⟩ = some (.int .i64 c)
theorem Nx.later {w w' : World} {N : Nat} {a b c : Int} (h : Nx w N a b c) (hb : Below w.heap.size w w') : Nx w' N a b c :=
  ⟨Nat.lt_of_lt_of_le h.1 hb.size, (hb.cell (p := ⟨N, 0, none⟩) h.1).trans h.2.1, (hb.cell (p := ⟨N, 1, none⟩) h.1).trans h.2.2.1, (hb.cell (p := ⟨N, 2, none⟩) h.1).trans h.2.2.2⟩
theorem makes_boxes (w : World) (a b c k lo hi : Int) (s : ByteArray) (y m o : Bool) (f : Option Addr) (fl fc : Nat) {w1 : World}
    (h : Below ((w.alloc (.cells #[.int .i64 a, .int .i64 b, .int .i64 c] 28)).alloc (.cells #[.int .i64 k, .int .i64 lo, .int .i64 hi, .string s, .bool y, .bool m, .bool o, .slice f fl fc] 24)).heap.size
      ((w.alloc (.cells #[.int .i64 a, .int .i64 b, .int .i64 c] 28)).alloc (.cells #[.int .i64 k, .int .i64 lo, .int .i64 hi, .string s, .bool y, .bool m, .bool o, .slice f fl fc] 24)) w1) :
    Nx w1 w.heap.size a b c ∧ Tx w1 (w.heap.size + 1) k lo hi s y m o f fl fc ∧ Below w.heap.size w w1 := by
  have e : (w.alloc (.cells #[.int .i64 a, .int .i64 b, .int .i64 c] 28)).heap.size = w.heap.size + 1 := by simp
  refine ⟨Nx.later (w := (w.alloc (.cells #[.int .i64 a, .int .i64 b, .int .i64 c] 28)).alloc (.cells #[.int .i64 k, .int .i64 lo, .int .i64 hi, .string s, .bool y, .bool m, .bool o, .slice f fl fc] 24)) ⟨by simp; omega, by simp [go_sem], by simp [go_sem], by simp [go_sem]⟩ h, ?_, bl_step (bl_alloc (bl_alloc (Below.refl _ _))) h⟩
  have := (Tx.new (w.alloc (.cells #[.int .i64 a, .int .i64 b, .int .i64 c] 28)) k lo hi s y m o f fl fc).later h
  rwa [e] at this
/-- What the law leaves ahead of its first question. -/
structure Laid6 (w X : World) (N7 N9 N11 N13 N14 N16 : Nat) (k lo hi : Int) (s : ByteArray) (y m o : Bool) (f : Option Addr) (fl fc : Nat) (kv lov hiv : Int) (yv : Bool) (kw low hiw : Int) (yw : Bool) (kb lob hib : Int) (n1 n2 : Int) (kx : Int) (sx : ByteArray) (z : ByteArray) : Prop where
  t : Tx X (w.heap.size + 1) k lo hi s y m o f fl fc
  t7 : Tx X N7 kv lov hiv ⟨#[]⟩ yv false false none 0 0
  t9 : Tx X N9 kw low hiw ⟨#[]⟩ yw false false none 0 0
  t11 : Tx X N11 kb lob hib ⟨#[]⟩ false false false none 0 0
  t13 : Tx X N13 2 n1 n2 ⟨#[]⟩ false false false none 0 0
  t14 : Tx X N14 kx 0 0 sx false false false none 0 0
  t16 : Tx X N16 3 0 0 z false false false none 0 0
  below : Below w.heap.size w X
/-- The three boxes behind it. -/
structure Laid3 (w W : World) (N17 N18 : Nat) (k lo hi : Int) (s : ByteArray) (y m o : Bool) (f : Option Addr) (fl fc : Nat) (m17 m18 : Bool) (f' : Option Addr) (fc' : Nat) : Prop where
  t : Tx W (w.heap.size + 1) k lo hi s y m o f fl fc
  t17 : Tx W N17 k lo hi s y m17 o f' fl fc'
  t18 : Tx W N18 k lo hi s y m18 o f fl fc
  fz : W.frozen? ⟨N18, 5, none⟩ = false
  below : Below w.heap.size w W
section
variable {w W : World} {N17 N18 : Nat} {k lo hi : Int} {s : ByteArray} {y m o : Bool} {f : Option Addr} {fl fc : Nat} {m17 m18 : Bool} {f' : Option Addr} {fc' : Nat}
theorem Laid3.later (h : Laid3 w W N17 N18 k lo hi s y m o f fl fc m17 m18 f' fc') {W' : World} (hb : Below W.heap.size W W') : Laid3 w W' N17 N18 k lo hi s y m o f fl fc m17 m18 f' fc' :=
  ⟨h.t.later hb, h.t17.later hb, h.t18.later hb, (hb.frozen (p := ⟨N18, 5, none⟩) h.t18.2).trans h.fz, bl_step h.below hb⟩
theorem Laid3.set (h : Laid3 w W N17 N18 k lo hi s y m o f fl fc m17 m18 f' fc') (h1 : w.heap.size + 1 ≠ N18) (h2 : N17 ≠ N18) (hw : w.heap.size ≤ N18) (b : Bool) : Laid3 w (W.setCell ⟨N18, 5, none⟩ (.bool b)) N17 N18 k lo hi s y m o f fl fc m17 b f' fc' := by
  have far : ∀ {N : Nat} {k lo hi : Int} {s : ByteArray} {y m o : Bool} {f : Option Addr} {fl fc : Nat}, N ≠ N18 → Tx W N k lo hi s y m o f fl fc → Tx (W.setCell ⟨N18, 5, none⟩ (.bool b)) N k lo hi s y m o f fl fc := fun hn ht => by
    obtain ⟨⟨c0, c1, c2, c3, c4, c5, c6, c7⟩, hl⟩ := ht
    exact ⟨⟨(set_far (.inl hn)).trans c0, (set_far (.inl hn)).trans c1, (set_far (.inl hn)).trans c2, (set_far (.inl hn)).trans c3, (set_far (.inl hn)).trans c4, (set_far (.inl hn)).trans c5, (set_far (.inl hn)).trans c6, (set_far (.inl hn)).trans c7⟩, by rw [set_size]; exact hl⟩
  obtain ⟨⟨c0, c1, c2, c3, c4, c5, c6, c7⟩, hl⟩ := h.t18
  exact ⟨far h1 h.t, far h2 h.t17, ⟨⟨(set_far (.inr (by omega))).trans c0, (set_far (.inr (by omega))).trans c1, (set_far (.inr (by omega))).trans c2, (set_far (.inr (by omega))).trans c3, (set_far (.inr (by omega))).trans c4, set_here c5, (set_far (.inr (by omega))).trans c6, (set_far (.inr (by omega))).trans c7⟩, by rw [set_size]; exact hl⟩, by rw [World.frozen?_setCell]; exact h.fz, bl_set h.below hw⟩
end
theorem Tx.two {w w' : World} {O : Obj} {k lo hi : Int} {s : ByteArray} {y m o : Bool} {f : Option Addr} {fl fc : Nat} (h : Below ((w.alloc O).alloc (.cells #[.int .i64 k, .int .i64 lo, .int .i64 hi, .string s, .bool y, .bool m, .bool o, .slice f fl fc] 24)).heap.size ((w.alloc O).alloc (.cells #[.int .i64 k, .int .i64 lo, .int .i64 hi, .string s, .bool y, .bool m, .bool o, .slice f fl fc] 24)) w') : Tx w' (w.heap.size + 1) k lo hi s y m o f fl fc := by
  have := (Tx.new (w.alloc O) k lo hi s y m o f fl fc).later h
  rwa [show (w.alloc O).heap.size = w.heap.size + 1 by simp] at this
theorem same_yes (W : World) : Calls Try.prog 17 #[tv 1 1 1 ⟨#[]⟩ false false false none 0 0, tv 1 1 1 ⟨#[]⟩ false false false none 0 0] W fun e w' => e = .returned (.bool true) ∧ Below W.heap.size W w' := by
  have := rsame_any 1 1 1 ⟨#[]⟩ false false false none 0 0 1 1 1 ⟨#[]⟩ false false false none 0 0 W
  rwa [same_of (show RightP 1 1 1 ⟨#[]⟩ false false false 0 by unfold RightP; rw [toList_nil]; simp)] at this
theorem same_no (W : World) : Calls Try.prog 17 #[tv 1 0 0 ⟨#[]⟩ false false false none 0 0, tv 1 0 0 ⟨#[]⟩ false false false none 0 0] W fun e w' => e = .returned (.bool true) ∧ Below W.heap.size W w' := by
  have := rsame_any 1 0 0 ⟨#[]⟩ false false false none 0 0 1 0 0 ⟨#[]⟩ false false false none 0 0 W
  rwa [same_of (show RightP 1 0 0 ⟨#[]⟩ false false false 0 by unfold RightP; rw [toList_nil]; simp)] at this
theorem same_m2 {k lo hi : Int} {s : ByteArray} {y m o : Bool} {fl : Nat} (h : rightB k lo hi s y m o fl = true) : decide (SameP k lo hi s y (m || (rightB k lo hi s y m o fl && !singleB k lo hi y)) o fl k lo hi s y (m || (rightB k lo hi s y m o fl && !singleB k lo hi y)) o fl) = true := by
  have h1 := rightB_iff.1 h
  rw [h, decide_eq_true_iff]
  have hr : rightB k lo hi s y (m || (true && !singleB k lo hi y)) o fl = true := rightB_iff.2 ⟨h1.1, h1.2.1, fun e => by
    cases hg : singleB k lo hi y
    · rfl
    · rw [hg] at e
      have := h1.2.2.1 (by simpa using e)
      rw [hg] at this
      exact this, h1.2.2.2⟩
  exact ⟨hr, hr, rfl, rfl, rfl, rfl, rfl, rfl⟩
theorem truth_yes (W : World) : Calls Try.prog 23 #[.bool true] W fun e w' => e = .returned (tv 1 1 1 ⟨#[]⟩ false false false none 0 0) ∧ Below W.heap.size W w' := truth_any true W
theorem truth_no (W : World) : Calls Try.prog 23 #[.bool false] W fun e w' => e = .returned (tv 1 0 0 ⟨#[]⟩ false false false none 0 0) ∧ Below W.heap.size W w' := truth_any false W

end Go.Proofs.Ytkmbhjcedkojjaa
