/- PLAIN MATHEMATICS of scalars: meets do not hang on the order, nor on which come first. -/
import Derived.Test.YtkmbhjcedkojjaaL
import Derived.Test.YtkmbhjcedkojjaaF
namespace Go.Proofs.Ytkmbhjcedkojjaa
structure Sc where
  k : Int
  lo : Int
  hi : Int
  s : ByteArray
  y : Bool
  m : Bool
def Sc.R (a : Sc) : Prop := RightP a.k a.lo a.hi a.s a.y a.m false 0
def Sc.meet (a b : Sc) : Option Sc :=
  if a.k = b.k then (commonF a.k a.lo a.hi a.s a.y b.lo b.hi b.s b.y).map fun t => ⟨a.k, t.1, t.2.1, t.2.2.1, t.2.2.2, (a.m || b.m) && !singleB a.k t.1 t.2.1 t.2.2.2⟩ else none
def txt (s : ByteArray) : Sc := ⟨3, 0, 0, s, false, false⟩
def anyT (m : Bool) : Sc := ⟨3, 0, 0, ⟨#[]⟩, true, m⟩
def num (k lo hi : Int) (m : Bool) : Sc := ⟨k, lo, hi, ⟨#[]⟩, false, m⟩
/-- A right scalar is a text, any text, or numbers. -/
theorem Sc.R.cases {a : Sc} (h : a.R) : (∃ s, a = txt s ∧ (s.size : Int) ≤ 256) ∨ (∃ m, a = anyT m) ∨ (∃ k lo hi m, a = num k lo hi m ∧ k ≠ 3 ∧ lo ≤ hi ∧ (m = true → lo ≠ hi)) := by
  obtain ⟨k, lo, hi, s, y, m⟩ := a
  obtain ⟨_, _, h3, h4⟩ := h
  simp only at h3 h4
  rcases h4 with c | c | c
  · obtain ⟨rfl, rfl, rfl, c4, c5⟩ := c
    cases y
    · cases m
      · exact .inl ⟨s, rfl, c4⟩
      · exact absurd (h3 rfl) (by decide)
    · have := bytes_ext ((c5 rfl).trans toList_nil.symm)
      subst this
      exact .inr (.inl ⟨m, rfl⟩)
  · obtain ⟨rfl, c2, rfl, c4, c5, c6⟩ := c
    have := bytes_ext (c2.trans toList_nil.symm)
    subst this
    refine .inr (.inr ⟨1, lo, hi, m, rfl, by omega, c5, fun e => ?_⟩)
    have := h3 e
    simpa [singleB] using this
  · obtain ⟨rfl, c2, rfl, c4, c5, c6⟩ := c
    have := bytes_ext (c2.trans toList_nil.symm)
    subst this
    refine .inr (.inr ⟨2, lo, hi, m, rfl, by omega, c5, fun e => ?_⟩)
    have := h3 e
    simpa [singleB] using this
theorem meet_tt (s t : ByteArray) : (txt s).meet (txt t) = if s.toList = t.toList then some (txt s) else none := by
  by_cases h : s.toList = t.toList <;> simp [Sc.meet, txt, commonF, h]
theorem meet_ta (s : ByteArray) (m : Bool) : (txt s).meet (anyT m) = some (txt s) := by simp [Sc.meet, txt, anyT, commonF, singleB]
theorem meet_at (s : ByteArray) (m : Bool) : (anyT m).meet (txt s) = some (txt s) := by simp [Sc.meet, txt, anyT, commonF, singleB]
theorem meet_aa (m n : Bool) : (anyT m).meet (anyT n) = some (anyT (m || n)) := by simp [Sc.meet, anyT, commonF, singleB]
theorem meet_nn (k lo hi lo2 hi2 : Int) (m n : Bool) (hk : k ≠ 3) : (num k lo hi m).meet (num k lo2 hi2 n) = if max lo lo2 ≤ min hi hi2 then some (num k (max lo lo2) (min hi hi2) ((m || n) && !(max lo lo2 == min hi hi2))) else none := by
  by_cases h : max lo lo2 ≤ min hi hi2 <;> simp [Sc.meet, num, commonF, singleB, hk, h]
theorem meet_kk {a b : Sc} (h : a.k ≠ b.k) : a.meet b = none := by simp [Sc.meet, h]
theorem meet_comm {a b : Sc} (ha : a.R) (hb : b.R) : a.meet b = b.meet a := by
  rcases ha.cases with ⟨s, rfl, _⟩ | ⟨m, rfl⟩ | ⟨k, lo, hi, m, rfl, hk, hl, hm⟩ <;> rcases hb.cases with ⟨t, rfl, _⟩ | ⟨n, rfl⟩ | ⟨k2, lo2, hi2, n, rfl, hk2, hl2, hn⟩
  · rw [meet_tt, meet_tt]
    by_cases h : s.toList = t.toList
    · rw [if_pos h, if_pos h.symm, bytes_ext h]
    · rw [if_neg h, if_neg (fun e => h e.symm)]
  · rw [meet_ta, meet_at]
  · rw [meet_kk (by simp [txt, num]; omega), meet_kk (by simp [txt, num]; omega)]
  · rw [meet_ta, meet_at]
  · rw [meet_aa, meet_aa, Bool.or_comm]
  · rw [meet_kk (by simp [anyT, num]; omega), meet_kk (by simp [anyT, num]; omega)]
  · rw [meet_kk (by simp [txt, num]; omega), meet_kk (by simp [txt, num]; omega)]
  · rw [meet_kk (by simp [anyT, num]; omega), meet_kk (by simp [anyT, num]; omega)]
  · by_cases e : k = k2
    · subst e
      rw [meet_nn _ _ _ _ _ _ _ hk, meet_nn _ _ _ _ _ _ _ hk, Int.max_comm, Int.min_comm, Bool.or_comm]
    · rw [meet_kk (by simpa [num] using e), meet_kk (by simpa [num] using fun h => e h.symm)]
theorem meet_self {a : Sc} (ha : a.R) : a.meet a = some a := by
  rcases ha.cases with ⟨s, rfl, _⟩ | ⟨m, rfl⟩ | ⟨k, lo, hi, m, rfl, hk, hl, hm⟩
  · rw [meet_tt, if_pos rfl]
  · rw [meet_aa, Bool.or_self]
  · rw [meet_nn _ _ _ _ _ _ _ hk, if_pos (by omega), Int.max_self, Int.min_self, Bool.or_self]
    congr 1
    cases m
    · rfl
    · have : (lo == hi) = false := by simpa using hm rfl
      rw [this]; rfl
def bd (a : Option Sc) (f : Sc → Option Sc) : Option Sc := match a with | none => none | some x => f x
theorem meet_num {k lo hi lo2 hi2 lo3 hi3 : Int} {m n p : Bool} (hk : k ≠ 3) (h1 : lo ≤ hi) (h2 : lo2 ≤ hi2) (h3 : lo3 ≤ hi3) :
    bd ((num k lo hi m).meet (num k lo2 hi2 n)) (·.meet (num k lo3 hi3 p)) = bd ((num k lo2 hi2 n).meet (num k lo3 hi3 p)) (fun q => (num k lo hi m).meet q) := by
  rw [meet_nn _ _ _ _ _ _ _ hk, meet_nn _ _ _ _ _ _ _ hk]
  by_cases g : max (max lo lo2) lo3 ≤ min (min hi hi2) hi3
  · rw [if_pos (by omega), if_pos (by omega)]
    simp only [bd]
    rw [meet_nn _ _ _ _ _ _ _ hk, meet_nn _ _ _ _ _ _ _ hk, if_pos g, if_pos (by omega)]
    rw [show max lo (max lo2 lo3) = max (max lo lo2) lo3 by omega, show min hi (min hi2 hi3) = min (min hi hi2) hi3 by omega]
    congr 1
    by_cases e : max (max lo lo2) lo3 = min (min hi hi2) hi3
    · have : (max (max lo lo2) lo3 == min (min hi hi2) hi3) = true := by simpa using e
      rw [this, Bool.not_true, Bool.and_false, Bool.and_false]
    · have e0 : (max (max lo lo2) lo3 == min (min hi hi2) hi3) = false := by simpa using e
      have e1 : (max lo lo2 == min hi hi2) = false := by simp; omega
      have e2 : (max lo2 lo3 == min hi2 hi3) = false := by simp; omega
      rw [e0, e1, e2]
      cases m <;> cases n <;> cases p <;> rfl
  · have r1 : bd (if max lo lo2 ≤ min hi hi2 then some (num k (max lo lo2) (min hi hi2) ((m || n) && !(max lo lo2 == min hi hi2))) else none) (·.meet (num k lo3 hi3 p)) = none := by
      split
      · simp only [bd]; rw [meet_nn _ _ _ _ _ _ _ hk, if_neg (by omega)]
      · rfl
    have r2 : bd (if max lo2 lo3 ≤ min hi2 hi3 then some (num k (max lo2 lo3) (min hi2 hi3) ((n || p) && !(max lo2 lo3 == min hi2 hi3))) else none) (fun q => (num k lo hi m).meet q) = none := by
      split
      · simp only [bd]; rw [meet_nn _ _ _ _ _ _ _ hk, if_neg (by omega)]
      · rfl
    rw [r1, r2]
end Go.Proofs.Ytkmbhjcedkojjaa
