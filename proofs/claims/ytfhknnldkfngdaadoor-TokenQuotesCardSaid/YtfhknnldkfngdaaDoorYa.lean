/- PLAIN MATHEMATICS: what is quoted is one token, of that text. -/
import Derived.Test.YtfhknnldkfngdaaDoorXg
namespace Go.Proofs.YtfhknnldkfngdaaDoor
open Go.RowKit
/-- A digit to the base 16. -/
def hexC (n : Nat) : UInt8 := [48, 49, 50, 51, 52, 53, 54, 55, 56, 57, 97, 98, 99, 100, 101, 102].getD n 0
theorem six_hex : ∀ n, n < 16 → sixV (hexC n) = n := by decide
/-- A byte's part. -/
def qpart (c : UInt8) : List UInt8 :=
  if (c.toNat : Int) = 34 ∨ (c.toNat : Int) = 92 then [92, c] else if (c.toNat : Int) = 10 then [92, 110] else if plB c = false then [92, 120, hexC (c.toNat / 16), hexC (c.toNat % 16)] else [c]
def quoteL (l : List UInt8) : List UInt8 := 34 :: (l.flatMap qpart ++ [34])
theorem byte_lt (c : UInt8) : c.toNat < 256 := c.toNat_lt
theorem partL_q (c : UInt8) (r : List UInt8) : partL (qpart c ++ r) = ((c.toNat : Int), (qpart c).length) := by
  have hb := byte_lt c
  unfold qpart
  split
  · rename_i h
    show (if ((92 : UInt8).toNat : Int) = 34 ∨ plB 92 = false then (0, 0) else if ¬ ((92 : UInt8).toNat : Int) = 92 then (((92 : UInt8).toNat : Int), 1) else escL (c :: r)) = _
    rw [if_neg (by decide), if_neg (by decide)]
    show (if (c.toNat : Int) = 34 ∨ (c.toNat : Int) = 92 then ((c.toNat : Int), 2) else if (c.toNat : Int) = 110 then (10, 2) else if (c.toNat : Int) = 120 then hexL r else (0, 0)) = _
    rw [if_pos h]; rfl
  · split
    · rename_i h
      show (if ((92 : UInt8).toNat : Int) = 34 ∨ plB 92 = false then (0, 0) else if ¬ ((92 : UInt8).toNat : Int) = 92 then (((92 : UInt8).toNat : Int), 1) else escL (110 :: r)) = _
      rw [if_neg (by decide), if_neg (by decide)]
      show (if ((110 : UInt8).toNat : Int) = 34 ∨ ((110 : UInt8).toNat : Int) = 92 then (((110 : UInt8).toNat : Int), 2) else if ((110 : UInt8).toNat : Int) = 110 then (10, 2) else if ((110 : UInt8).toNat : Int) = 120 then hexL r else (0, 0)) = _
      rw [if_neg (by decide), if_pos (by decide), h]; rfl
    · split
      · show (if ((92 : UInt8).toNat : Int) = 34 ∨ plB 92 = false then (0, 0) else if ¬ ((92 : UInt8).toNat : Int) = 92 then (((92 : UInt8).toNat : Int), 1) else escL (120 :: hexC (c.toNat / 16) :: hexC (c.toNat % 16) :: r)) = _
        rw [if_neg (by decide), if_neg (by decide)]
        show (if ((120 : UInt8).toNat : Int) = 34 ∨ ((120 : UInt8).toNat : Int) = 92 then (((120 : UInt8).toNat : Int), 2) else if ((120 : UInt8).toNat : Int) = 110 then (10, 2) else if ((120 : UInt8).toNat : Int) = 120 then hexL (hexC (c.toNat / 16) :: hexC (c.toNat % 16) :: r) else (0, 0)) = _
        rw [if_neg (by decide), if_neg (by decide), if_pos (by decide)]
        show (if 0 ≤ sixV (hexC (c.toNat / 16)) ∧ 0 ≤ sixV (hexC (c.toNat % 16)) then (16 * sixV (hexC (c.toNat / 16)) + sixV (hexC (c.toNat % 16)), 4) else (0, 0)) = _
        rw [six_hex _ (by omega), six_hex _ (by omega), if_pos (by omega), Prod.mk.injEq]
        exact ⟨by omega, rfl⟩
      · rename_i h1 h2 h3
        show (if (c.toNat : Int) = 34 ∨ plB c = false then (0, 0) else if ¬ (c.toNat : Int) = 92 then ((c.toNat : Int), 1) else escL r) = _
        rw [if_neg (by simp only [Bool.not_eq_false] at h3; rw [h3]; simp; omega), if_pos (by omega)]; rfl
theorem qpart_head (c : UInt8) : ∃ d m, qpart c = d :: m ∧ ¬ (d.toNat : Int) = 34 := by
  unfold qpart
  split
  · exact ⟨_, _, rfl, by decide⟩
  · split
    · exact ⟨_, _, rfl, by decide⟩
    · split
      · exact ⟨_, _, rfl, by decide⟩
      · exact ⟨_, _, rfl, by omega⟩
theorem txF_q (r : List UInt8) : ∀ (l : List UInt8) (n : Nat) (acc : List UInt8) (k : Nat), l.length < n → txF n (l.flatMap qpart ++ 34 :: r) acc k = some (acc ++ l, k + (l.flatMap qpart).length)
  | [], n, acc, k, hn => by
    rw [List.flatMap_nil, List.nil_append, txF_quote hn (by decide), List.append_nil]; rfl
  | c :: l, 0, acc, k, hn => by simp at hn
  | c :: l, n + 1, acc, k, hn => by
    obtain ⟨d, m, e, hd⟩ := qpart_head c
    have hp := partL_q c (l.flatMap qpart ++ 34 :: r)
    have h0 : ¬ (qpart c).length = 0 := by rw [e]; simp
    rw [List.flatMap_cons, List.append_assoc]
    rw [e, List.cons_append] at hp ⊢
    rw [txF_step hd (by rw [hp, ← e]; exact h0), hp]
    dsimp only
    rw [show (d :: (m ++ (l.flatMap qpart ++ 34 :: r))).drop (d :: m).length = l.flatMap qpart ++ 34 :: r by rw [← List.cons_append, List.drop_left], txF_q r l n _ _ (by simpa using hn)]
    simp only [Int.toNat_natCast, UInt8.ofNat_toNat, List.append_assoc, List.singleton_append, List.length_append, Nat.add_assoc]
theorem qpart_len (l : List UInt8) : l.length ≤ (l.flatMap qpart).length := by
  induction l with
  | nil => exact Nat.le_refl _
  | cons c l ih =>
    obtain ⟨d, m, e, -⟩ := qpart_head c
    rw [List.flatMap_cons, List.length_append, e, List.length_cons, List.length_cons]; omega
theorem textL_q (l r : List UInt8) : textL (quoteL l ++ r) = if 256 < l.length then (4, ⟨0, 0, []⟩, 0) else (0, ⟨3, 0, l⟩, (quoteL l).length) := by
  have h := txF_q r l ((quoteL l ++ r).length + 1) [] 1 (by have := qpart_len l; unfold quoteL; simp only [List.length_append, List.length_cons]; omega)
  unfold textL
  rw [show (quoteL l ++ r).drop 1 = l.flatMap qpart ++ 34 :: r by unfold quoteL; simp, h]
  rw [List.nil_append]
  show (if 256 < l.length then _ else _) = _
  split
  · rfl
  · rw [show 1 + (l.flatMap qpart).length + 1 = (quoteL l).length by unfold quoteL; simp only [List.length_append, List.length_cons, List.length_nil]; omega]
/-- What stands around it. -/
def frontL (g : Nat) : List UInt8 := [32, 9, 10, 32].take g
theorem skN_front (g : Nat) (c : UInt8) (r : List UInt8) (h : ¬ (c.toNat : Int) = 35) (hb : blB c = false) (hg : g < 5) : skN false (frontL g ++ c :: r) = (frontL g).length := by
  have h0 : skN false (c :: r) = 0 := by
    show (if (c.toNat : Int) = 35 ∨ (false = true ∧ ¬ (c.toNat : Int) = 10) then skN true r + 1 else if blB c = true then skN false r + 1 else 0) = 0
    rw [if_neg (by simp; omega), if_neg (by simp [hb])]
  have h1 : ∀ (b : UInt8) (m : List UInt8), blB b = true → ¬ (b.toNat : Int) = 35 → skN false (b :: m) = skN false m + 1 := fun b m h1 h2 => by
    show (if (b.toNat : Int) = 35 ∨ (false = true ∧ ¬ (b.toNat : Int) = 10) then skN true m + 1 else if blB b = true then skN false m + 1 else 0) = _
    rw [if_neg (by simp; omega), if_pos h1]
  rcases (by omega : g = 0 ∨ g = 1 ∨ g = 2 ∨ g = 3 ∨ g = 4) with rfl | rfl | rfl | rfl | rfl
  · exact h0
  · show skN false (32 :: c :: r) = 1
    rw [h1 _ _ (by decide) (by decide), h0]
  · show skN false (32 :: 9 :: c :: r) = 2
    rw [h1 _ _ (by decide) (by decide), h1 _ _ (by decide) (by decide), h0]
  · show skN false (32 :: 9 :: 10 :: c :: r) = 3
    rw [h1 _ _ (by decide) (by decide), h1 _ _ (by decide) (by decide), h1 _ _ (by decide) (by decide), h0]
  · show skN false (32 :: 9 :: 10 :: 32 :: c :: r) = 4
    rw [h1 _ _ (by decide) (by decide), h1 _ _ (by decide) (by decide), h1 _ _ (by decide) (by decide), h1 _ _ (by decide) (by decide), h0]
theorem skN_tail : ∀ g, g < 5 → skN false (35 :: frontL g) = 1 + (frontL g).length := by decide
/-- The text that is cut. -/
def wholeL (g : Nat) (l : List UInt8) : List UInt8 := frontL g ++ quoteL l ++ [35] ++ frontL g
theorem whole_as (g : Nat) (l : List UInt8) : wholeL g l = frontL g ++ (34 :: (l.flatMap qpart ++ [34] ++ 35 :: frontL g)) := by unfold wholeL quoteL; simp
theorem next_q (g : Nat) (l : List UInt8) (hg : g < 5) : nextL (wholeL g l) 0 = if 256 < l.length then (4, tok0, (frontL g).length) else (0, ⟨⟨3, 0, l⟩, (frontL g).length⟩, (frontL g).length + (quoteL l).length) := by
  unfold nextL
  rw [List.drop_zero, show skN false (wholeL g l) = (frontL g).length by rw [whole_as]; exact skN_front g 34 _ (by decide) (by decide) hg, Nat.zero_add]
  rw [if_neg (by rw [whole_as]; simp), whole_as, List.drop_left]
  have hf : firstL (34 :: (l.flatMap qpart ++ [34] ++ 35 :: frontL g)) = textL (quoteL l ++ 35 :: frontL g) := by
    have h2 : ∀ m, firstL (34 :: m) = textL (34 :: m) := fun m => by
      show (if dgB 34 = true then numberL (34 :: m) else if lwB 34 = true then wordL (34 :: m) else if ((34 : UInt8).toNat : Int) = 34 then textL (34 :: m) else signR (34 :: m)) = _
      rw [if_neg (by decide), if_neg (by decide), if_pos (by decide)]
    rw [h2]; congr 1
  rw [hf, textL_q]
  dsimp only
  split
  · rfl
  · rfl
theorem next_q2 (g : Nat) (l : List UInt8) (hg : g < 5) : nextL (wholeL g l) ((frontL g).length + (quoteL l).length) = (0, ⟨⟨0, 0, []⟩, ((wholeL g l).length : Nat)⟩, (wholeL g l).length) := by
  unfold nextL
  rw [show (wholeL g l).drop ((frontL g).length + (quoteL l).length) = 35 :: frontL g by unfold wholeL; rw [List.append_assoc, ← List.length_append, List.drop_left]; rfl, skN_tail g hg]
  rw [show (frontL g).length + (quoteL l).length + (1 + (frontL g).length) = (wholeL g l).length by unfold wholeL; simp; omega, if_pos rfl]
theorem lex_q (g : Nat) (l : List UInt8) (hg : g < 5) : lexL (wholeL g l) = if 256 < l.length then ([], (frontL g).length, 4) else ([⟨⟨3, 0, l⟩, (frontL g).length⟩], 0, 0) := by
  unfold lexL
  obtain ⟨m, hm⟩ : ∃ m, (wholeL g l).length = m + 1 := ⟨(wholeL g l).length - 1, by rw [whole_as]; simp only [List.length_append, List.length_cons]; omega⟩
  rw [hm]
  show (if (nextL (wholeL g l) 0).1 ≠ 0 then ([], (nextL (wholeL g l) 0).2.2, (nextL (wholeL g l) 0).1) else if (nextL (wholeL g l) 0).2.1.x.k = 0 then ([], 0, 0) else lexF (m + 1) (wholeL g l) (nextL (wholeL g l) 0).2.2 ([] ++ [(nextL (wholeL g l) 0).2.1])) = _
  rw [next_q g l hg]
  by_cases h : 256 < l.length
  · rw [if_pos h, if_pos h, if_pos (by show ¬ (4 : Int) = 0; decide)]
  · rw [if_neg h, if_neg h, if_neg (by simp)]
    dsimp only
    rw [if_neg (by decide)]
    show (if (nextL (wholeL g l) ((frontL g).length + (quoteL l).length)).1 ≠ 0 then _ else if (nextL (wholeL g l) ((frontL g).length + (quoteL l).length)).2.1.x.k = 0 then _ else _) = _
    rw [next_q2 g l hg, if_neg (by simp)]
    dsimp only
    rw [if_pos rfl]; rfl
theorem front_add : ∀ g, g < 4 → frontL (g + 1) = frontL g ++ ([32, 9, 10] : List UInt8).extract (g % 3) (g % 3 + 1) := by decide
theorem flat_app (l : List UInt8) (c : UInt8) : (l ++ [c]).flatMap qpart = l.flatMap qpart ++ qpart c := by rw [List.flatMap_append]; simp
theorem qpart_le (c : UInt8) : (qpart c).length ≤ 4 := by
  unfold qpart; split
  · simp
  · split
    · simp
    · split
      · simp
      · simp
theorem flat_le (l : List UInt8) : (l.flatMap qpart).length ≤ 4 * l.length := by
  induction l with
  | nil => exact Nat.le_refl _
  | cons c l ih => have := qpart_le c; rw [List.flatMap_cons, List.length_append, List.length_cons]; omega
end Go.Proofs.YtfhknnldkfngdaaDoor
