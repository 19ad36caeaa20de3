/- PLAIN MATHEMATICS: a text parted at its dots, and put together again. -/
import Derived.Test.YtikhhkhkfaadlaaDoorP
import Derived.Lib.Split
import Derived.Lib.SplitLaws
import Derived.Lib.Join
namespace Go.Proofs.YtikhhkhkfaadlaaDoor

/-- The pieces of a text between its dots. -/
def parts : List UInt8 → List (List UInt8)
  | [] => [[]]
  | c :: T => if c = 46 then [] :: parts T else match parts T with
    | [] => [[c]]
    | h :: R => (c :: h) :: R
theorem parts_ne (L : List UInt8) : parts L ≠ [] := by
  cases L with
  | nil => simp [parts]
  | cons c T =>
    unfold parts
    split
    · simp
    · split <;> simp
theorem parts_dot (T : List UInt8) : parts (46 :: T) = [] :: parts T := by simp [parts]
theorem parts_other {c : UInt8} (h : c ≠ 46) (T : List UInt8) : ∃ d R, parts T = d :: R ∧ parts (c :: T) = (c :: d) :: R := by
  cases e : parts T with
  | nil => exact absurd e (parts_ne T)
  | cons d R => exact ⟨d, R, rfl, by simp [parts, h, e]⟩
theorem parts_len (L : List UInt8) : (parts L).length ≤ L.length + 1 := by
  induction L with
  | nil => simp [parts]
  | cons c T ih =>
    by_cases h : c = 46
    · subst h; rw [parts_dot]; simp; omega
    · obtain ⟨d, R, e1, e2⟩ := parts_other h T
      rw [e1] at ih
      rw [e2]; simp at ih ⊢; omega
theorem index_cons (c : UInt8) (T : List UInt8) : Lib.index (c :: T) [46] = if c = 46 then 0 else if Lib.index T [46] == -1 then -1 else Lib.index T [46] + 1 := by
  have e : Lib.index (c :: T) [46] = if List.isPrefixOf [46] (c :: T) then 0 else if Lib.index T [46] == -1 then -1 else Lib.index T [46] + 1 := rfl
  rw [e]
  by_cases h : c = 46
  · subst h; simp
  · have : List.isPrefixOf [46] (c :: T) = false := by simp [List.isPrefixOf]; exact fun e => h e.symm
    rw [this, if_neg h]; simp
theorem parts_index (L : List UInt8) : (Lib.index L [46] = -1 ∧ parts L = [L]) ∨ ∃ i : Nat, Lib.index L [46] = i ∧ parts L = L.take i :: parts (L.drop (i + 1)) := by
  induction L with
  | nil => left; exact ⟨rfl, rfl⟩
  | cons c T ih =>
    rw [index_cons]
    by_cases h : c = 46
    · subst h
      right; exact ⟨0, by simp, by rw [parts_dot]; rfl⟩
    · obtain ⟨d, R, e1, e2⟩ := parts_other h T
      rcases ih with ⟨h1, h2⟩ | ⟨i, h1, h2⟩
      · left
        rw [h1, if_neg h]
        rw [e1] at h2
        cases h2
        exact ⟨rfl, e2⟩
      · right
        refine ⟨i + 1, ?_, ?_⟩
        · rw [h1, if_neg h]
          have : ((i : Int) == -1) = false := by simp
          rw [this]; simp
        · rw [e1] at h2
          have h3 := List.cons.inj h2
          rw [e2, h3.1, h3.2]; rfl
theorem splitK_parts (k : Nat) : ∀ L : List UInt8, ((parts L).length ≤ k + 1 → Lib.splitK [46] 0 k L = parts L) ∧ (k + 1 < (parts L).length → (Lib.splitK [46] 0 k L).length = k + 1) := by
  induction k with
  | zero =>
    intro L
    rcases parts_index L with ⟨_, h2⟩ | ⟨i, h1, h2⟩
    · rw [h2]; exact ⟨fun _ => rfl, fun h => by simp at h⟩
    · refine ⟨fun h => ?_, fun _ => rfl⟩
      rw [h2] at h
      have := parts_ne (L.drop (i + 1))
      cases e : parts (L.drop (i + 1)) with
      | nil => exact absurd e this
      | cons a b => rw [e] at h; simp at h
  | succ k ih =>
    intro L
    unfold Lib.splitK
    rcases parts_index L with ⟨h1, h2⟩ | ⟨i, h1, h2⟩
    · rw [h1, h2]; simp
    · have hm : (Lib.index L [46] == -1) = false := by rw [h1]; simp
      rw [if_neg (by rw [hm]; simp), h1]
      have hi := ih (L.drop (i + 1))
      rw [h2]
      simp only [Int.toNat_natCast, Nat.add_zero, List.length_cons, List.length_nil]
      refine ⟨fun h => ?_, fun h => ?_⟩
      · rw [hi.1 (by simpa using h)]
      · rw [hi.2 (by simpa using h)]

/-- The pieces put together with a dot between each two. -/
def jn : List (List UInt8) → List UInt8
  | [] => []
  | [x] => x
  | x :: y :: R => x ++ 46 :: jn (y :: R)
theorem jn_cons (x : List UInt8) {R : List (List UInt8)} (h : R ≠ []) : jn (x :: R) = x ++ 46 :: jn R := by
  cases R with
  | nil => exact absurd rfl h
  | cons y R => rfl
theorem join_jn (xs : List (List UInt8)) : Lib.join xs [46] = jn xs := by
  unfold Lib.join
  induction xs with
  | nil => rfl
  | cons x R ih =>
    cases R with
    | nil => simp [List.intercalate, jn]
    | cons y R => rw [jn_cons x (by simp), ← ih]; simp [List.intercalate, List.intersperse]
theorem jn_snoc (xs : List (List UInt8)) (y : List UInt8) (h : xs ≠ []) : jn (xs ++ [y]) = jn xs ++ [46] ++ y := by
  induction xs with
  | nil => exact absurd rfl h
  | cons x R ih =>
    by_cases hR : R = []
    · subst hR; simp [jn]
    · rw [List.cons_append, jn_cons x (by simp), ih hR, jn_cons x hR]; simp
theorem jn_parts (L : List UInt8) : jn (parts L) = L := by
  induction L with
  | nil => rfl
  | cons c T ih =>
    by_cases h : c = 46
    · subst h; rw [parts_dot, jn_cons _ (parts_ne T), ih]; rfl
    · obtain ⟨d, R, e1, e2⟩ := parts_other h T
      rw [e1] at ih
      rw [e2]
      cases R with
      | nil => simp only [jn] at ih ⊢; rw [ih]
      | cons a b => rw [jn_cons _ (by simp)] at ih ⊢; rw [← ih]; rfl
theorem parts_app (x : List UInt8) (hx : 46 ∉ x) (T : List UInt8) : parts (x ++ 46 :: T) = x :: parts T := by
  induction x with
  | nil => exact parts_dot T
  | cons c x ih =>
    have hc : c ≠ 46 := fun e => hx (by simp [e])
    have := ih (fun e => hx (by simp [e]))
    obtain ⟨d, R, e1, e2⟩ := parts_other hc (x ++ 46 :: T)
    rw [List.cons_append, e2]
    rw [e1] at this
    have h3 := List.cons.inj this
    rw [h3.1, h3.2]
theorem parts_one (x : List UInt8) (hx : 46 ∉ x) : parts x = [x] := by
  induction x with
  | nil => rfl
  | cons c x ih =>
    have hc : c ≠ 46 := fun e => hx (by simp [e])
    have := ih (fun e => hx (by simp [e]))
    obtain ⟨d, R, e1, e2⟩ := parts_other hc x
    rw [e1] at this
    have h3 := List.cons.inj this
    rw [e2, h3.1, h3.2]
theorem parts_jn (xs : List (List UInt8)) (h : xs ≠ []) (hd : ∀ x ∈ xs, 46 ∉ x) : parts (jn xs) = xs := by
  induction xs with
  | nil => exact absurd rfl h
  | cons x R ih =>
    by_cases hR : R = []
    · subst hR; exact parts_one x (hd x (by simp))
    · rw [jn_cons x hR, parts_app x (hd x (by simp)), ih hR fun y hy => hd y (by simp [hy])]
theorem right_nodot {x : List UInt8} (h : rightL x = true) : 46 ∉ x := by
  intro hm
  simp only [rightL, Bool.and_eq_true] at h
  have := List.all_eq_true.1 h.1.2 46 hm
  exact absurd this (by decide)
theorem right_len {x : List UInt8} (h : rightL x = true) : x.length ≤ 16 := by
  simp only [rightL, Bool.and_eq_true, decide_eq_true_eq] at h
  exact h.1.1.1.2
def pathL (ps : List (List UInt8)) : Bool := decide (1 ≤ ps.length) && decide (ps.length ≤ 16) && ps.all rightL
theorem pathL_parts {ps : List (List UInt8)} (h : pathL ps = true) : 1 ≤ ps.length ∧ ps.length ≤ 16 ∧ ∀ x ∈ ps, rightL x = true := by
  simp only [pathL, Bool.and_eq_true, decide_eq_true_eq] at h
  exact ⟨h.1.1, h.1.2, List.all_eq_true.1 h.2⟩
theorem pathL_long {ps : List (List UInt8)} (h : 16 < ps.length) : pathL ps = false := by
  unfold pathL; rw [show decide (ps.length ≤ 16) = false from decide_eq_false (by omega)]; simp
theorem splitK_path (L : List UInt8) : pathL (Lib.splitK [46] 0 (min 17 (L.length + 1) - 1) L) = pathL (parts L) ∧ (pathL (parts L) = true → Lib.splitK [46] 0 (min 17 (L.length + 1) - 1) L = parts L) := by
  have hl := parts_len L
  have hk := splitK_parts (min 17 (L.length + 1) - 1) L
  by_cases h : (parts L).length ≤ min 17 (L.length + 1) - 1 + 1
  · rw [hk.1 h]; exact ⟨rfl, fun _ => rfl⟩
  · have h2 := hk.2 (by omega)
    have h3 : 16 < (parts L).length := by omega
    rw [pathL_long (by omega : 16 < (Lib.splitK [46] 0 (min 17 (L.length + 1) - 1) L).length), pathL_long h3]
    exact ⟨rfl, fun h => by cases h⟩
theorem jn_len (xs : List (List UInt8)) (h : ∀ x ∈ xs, x.length ≤ 16) : (jn xs).length ≤ 17 * xs.length := by
  induction xs with
  | nil => simp [jn]
  | cons x R ih =>
    have hx := h x (by simp)
    have := ih fun y hy => h y (by simp [hy])
    by_cases hR : R = []
    · subst hR; simp [jn]; omega
    · rw [jn_cons x hR]; simp; omega
theorem jn_nonempty {ps : List (List UInt8)} (h : pathL ps = true) : jn ps ≠ [] := by
  obtain ⟨h1, _, h3⟩ := pathL_parts h
  intro e
  have hp := parts_jn ps (by intro q; subst q; simp at h1) fun x hx => right_nodot (h3 x hx)
  rw [e] at hp
  have : ([] : List UInt8) ∈ ps := by rw [← hp]; simp [parts]
  have := h3 _ this
  exact absurd this (by decide)
end Go.Proofs.YtikhhkhkfaadlaaDoor
