/- F, Za, Zb, Aa -/
import Derived.Test.YtddleeenlpigfaaGreatDoorY0
import Derived.Test.YtddleeenlpigfaaGreatDoorY2
import Derived.Test.YtddleeenlpigfaaGreatDoorY5
/- WALKS of Truth, Zero, Has, short. -/
namespace Go.Proofs.YtddleeenlpigfaaGreatDoor
open Go.RowKit
def zeroB (k lo hi : Int) (s : ByteArray) (y m o : Bool) (fl : Nat) : Bool := decide (k = 0 ∧ lo = 0 ∧ hi = 0 ∧ s.toList = [] ∧ y = false ∧ m = false ∧ o = false ∧ fl = 0)
def hasB (k lo hi : Int) (s : ByteArray) (y : Bool) (k2 lo2 : Int) (s2 : ByteArray) : Bool := decide (k = k2 ∧ (k = 3 → y = true ∨ s.toList = s2.toList) ∧ (k ≠ 3 → lo ≤ lo2 ∧ lo2 ≤ hi))
def shortB (s : ByteArray) (fl : Nat) : Bool := decide ((s.size : Int) ≤ 400 ∧ (fl : Int) ≤ 10)
end Go.Proofs.YtddleeenlpigfaaGreatDoor
/- PLAIN MATHEMATICS of scalars: meets do not hang on the order, nor on which come first. -/
namespace Go.Proofs.YtddleeenlpigfaaGreatDoor
structure Sc where
  k : Int
  lo : Int
  hi : Int
  s : ByteArray
  y : Bool
  m : Bool
def Sc.R (a : Sc) : Prop := RightP a.k a.lo a.hi a.s a.y a.m false 0
def Sc.meet (a b : Sc) : Option Sc :=
  if a.k = b.k then (commonF a.k a.lo a.hi a.s a.y b.lo b.hi b.s b.y).map fun t => ⟨a.k, t.1, t.2.1, t.2.2.1, t.2.2.2, (a.m || b.m) && !singleB a.k t.1 t.2.1 t.2.2.2⟩ else none
def txt (s : ByteArray) : Sc := ⟨3, 0, 0, s, false, false⟩
def anyT (m : Bool) : Sc := ⟨3, 0, 0, ⟨#[]⟩, true, m⟩
def num (k lo hi : Int) (m : Bool) : Sc := ⟨k, lo, hi, ⟨#[]⟩, false, m⟩
/-- A right scalar is a text, any text, or numbers. -/
theorem Sc.R.cases {a : Sc} (h : a.R) : (∃ s, a = txt s ∧ (s.size : Int) ≤ 256) ∨ (∃ m, a = anyT m) ∨ (∃ k lo hi m, a = num k lo hi m ∧ k ≠ 3 ∧ lo ≤ hi ∧ (m = true → lo ≠ hi)) := by
  obtain ⟨k, lo, hi, s, y, m⟩ := a
  obtain ⟨_, _, h3, h4⟩ := h
  simp only at h3 h4
  rcases h4 with c | c | c
  · obtain ⟨rfl, rfl, rfl, c4, c5⟩ := c
    cases y
    · cases m
      · exact .inl ⟨s, rfl, c4⟩
      · exact absurd (h3 rfl) (by decide)
    · have := bytes_ext ((c5 rfl).trans toList_nil.symm)
      subst this
      exact .inr (.inl ⟨m, rfl⟩)
  · obtain ⟨rfl, c2, rfl, c4, c5, c6⟩ := c
    have := bytes_ext (c2.trans toList_nil.symm)
    subst this
    refine .inr (.inr ⟨1, lo, hi, m, rfl, by omega, c5, fun e => ?_⟩)
    have := h3 e
    simpa [singleB] using this
  · obtain ⟨rfl, c2, rfl, c4, c5, c6⟩ := c
    have := bytes_ext (c2.trans toList_nil.symm)
    subst this
    refine .inr (.inr ⟨2, lo, hi, m, rfl, by omega, c5, fun e => ?_⟩)
    have := h3 e
    simpa [singleB] using this
theorem meet_tt (s t : ByteArray) : (txt s).meet (txt t) = if s.toList = t.toList then some (txt s) else none := by
  by_cases h : s.toList = t.toList <;> simp [Sc.meet, txt, commonF, h]
theorem meet_ta (s : ByteArray) (m : Bool) : (txt s).meet (anyT m) = some (txt s) := by simp [Sc.meet, txt, anyT, commonF, singleB]
theorem meet_at (s : ByteArray) (m : Bool) : (anyT m).meet (txt s) = some (txt s) := by simp [Sc.meet, txt, anyT, commonF, singleB]
theorem meet_aa (m n : Bool) : (anyT m).meet (anyT n) = some (anyT (m || n)) := by simp [Sc.meet, anyT, commonF, singleB]
theorem meet_nn (k lo hi lo2 hi2 : Int) (m n : Bool) (hk : k ≠ 3) : (num k lo hi m).meet (num k lo2 hi2 n) = if max lo lo2 ≤ min hi hi2 then some (num k (max lo lo2) (min hi hi2) ((m || n) && !(max lo lo2 == min hi hi2))) else none := by
  by_cases h : max lo lo2 ≤ min hi hi2 <;> simp [Sc.meet, num, commonF, singleB, hk, h]
theorem meet_kk {a b : Sc} (h : a.k ≠ b.k) : a.meet b = none := by simp [Sc.meet, h]
theorem meet_comm {a b : Sc} (ha : a.R) (hb : b.R) : a.meet b = b.meet a := by
  rcases ha.cases with ⟨s, rfl, _⟩ | ⟨m, rfl⟩ | ⟨k, lo, hi, m, rfl, hk, hl, hm⟩ <;> rcases hb.cases with ⟨t, rfl, _⟩ | ⟨n, rfl⟩ | ⟨k2, lo2, hi2, n, rfl, hk2, hl2, hn⟩
  · rw [meet_tt, meet_tt]
    by_cases h : s.toList = t.toList
    · rw [if_pos h, if_pos h.symm, bytes_ext h]
    · rw [if_neg h, if_neg (fun e => h e.symm)]
  · rw [meet_ta, meet_at]
  · rw [meet_kk (by simp [txt, num]; omega), meet_kk (by simp [txt, num]; omega)]
  · rw [meet_ta, meet_at]
  · rw [meet_aa, meet_aa, Bool.or_comm]
  · rw [meet_kk (by simp [anyT, num]; omega), meet_kk (by simp [anyT, num]; omega)]
  · rw [meet_kk (by simp [txt, num]; omega), meet_kk (by simp [txt, num]; omega)]
  · rw [meet_kk (by simp [anyT, num]; omega), meet_kk (by simp [anyT, num]; omega)]
  · by_cases e : k = k2
    · subst e
      rw [meet_nn _ _ _ _ _ _ _ hk, meet_nn _ _ _ _ _ _ _ hk, Int.max_comm, Int.min_comm, Bool.or_comm]
    · rw [meet_kk (by simpa [num] using e), meet_kk (by simpa [num] using fun h => e h.symm)]
theorem meet_self {a : Sc} (ha : a.R) : a.meet a = some a := by
  rcases ha.cases with ⟨s, rfl, _⟩ | ⟨m, rfl⟩ | ⟨k, lo, hi, m, rfl, hk, hl, hm⟩
  · rw [meet_tt, if_pos rfl]
  · rw [meet_aa, Bool.or_self]
  · rw [meet_nn _ _ _ _ _ _ _ hk, if_pos (by omega), Int.max_self, Int.min_self, Bool.or_self]
    congr 1
    cases m
    · rfl
    · have : (lo == hi) = false := by simpa using hm rfl
      rw [this]; rfl
def bd (a : Option Sc) (f : Sc → Option Sc) : Option Sc := match a with | none => none | some x => f x
theorem meet_num {k lo hi lo2 hi2 lo3 hi3 : Int} {m n p : Bool} (hk : k ≠ 3) (h1 : lo ≤ hi) (h2 : lo2 ≤ hi2) (h3 : lo3 ≤ hi3) :
    bd ((num k lo hi m).meet (num k lo2 hi2 n)) (·.meet (num k lo3 hi3 p)) = bd ((num k lo2 hi2 n).meet (num k lo3 hi3 p)) (fun q => (num k lo hi m).meet q) := by
  rw [meet_nn _ _ _ _ _ _ _ hk, meet_nn _ _ _ _ _ _ _ hk]
  by_cases g : max (max lo lo2) lo3 ≤ min (min hi hi2) hi3
  · rw [if_pos (by omega), if_pos (by omega)]
    simp only [bd]
    rw [meet_nn _ _ _ _ _ _ _ hk, meet_nn _ _ _ _ _ _ _ hk, if_pos g, if_pos (by omega)]
    rw [show max lo (max lo2 lo3) = max (max lo lo2) lo3 by omega, show min hi (min hi2 hi3) = min (min hi hi2) hi3 by omega]
    congr 1
    by_cases e : max (max lo lo2) lo3 = min (min hi hi2) hi3
    · have : (max (max lo lo2) lo3 == min (min hi hi2) hi3) = true := by simpa using e
      rw [this, Bool.not_true, Bool.and_false, Bool.and_false]
    · have e0 : (max (max lo lo2) lo3 == min (min hi hi2) hi3) = false := by simpa using e
      have e1 : (max lo lo2 == min hi hi2) = false := by simp; omega
      have e2 : (max lo2 lo3 == min hi2 hi3) = false := by simp; omega
      rw [e0, e1, e2]
      cases m <;> cases n <;> cases p <;> rfl
  · have r1 : bd (if max lo lo2 ≤ min hi hi2 then some (num k (max lo lo2) (min hi hi2) ((m || n) && !(max lo lo2 == min hi hi2))) else none) (·.meet (num k lo3 hi3 p)) = none := by
      split
      · simp only [bd]; rw [meet_nn _ _ _ _ _ _ _ hk, if_neg (by omega)]
      · rfl
    have r2 : bd (if max lo2 lo3 ≤ min hi2 hi3 then some (num k (max lo2 lo3) (min hi2 hi3) ((n || p) && !(max lo2 lo3 == min hi2 hi3))) else none) (fun q => (num k lo hi m).meet q) = none := by
      split
      · simp only [bd]; rw [meet_nn _ _ _ _ _ _ _ hk, if_neg (by omega)]
      · rfl
    rw [r1, r2]
end Go.Proofs.YtddleeenlpigfaaGreatDoor
/- PLAIN MATHEMATICS of scalars: which come first; what is below; atoms. -/
namespace Go.Proofs.YtddleeenlpigfaaGreatDoor
theorem meet_k {a b x : Sc} (h : a.meet b = some x) : a.k = b.k ∧ x.k = a.k := by
  unfold Sc.meet at h
  split at h
  · rename_i e
    cases hc : commonF a.k a.lo a.hi a.s a.y b.lo b.hi b.s b.y with
    | none => rw [hc] at h; cases h
    | some t => rw [hc] at h; cases h; exact ⟨e, rfl⟩
  · cases h
theorem meet_R {a b x : Sc} (ha : a.R) (hb : b.R) (h : a.meet b = some x) : x.R := by
  have hk := (meet_k h).1
  unfold Sc.meet at h
  rw [if_pos hk] at h
  cases hc : commonF a.k a.lo a.hi a.s a.y b.lo b.hi b.s b.y with
  | none => rw [hc] at h; cases h
  | some t =>
    obtain ⟨lo, hi, s, y⟩ := t
    rw [hc] at h
    cases h
    have hb' : RightP a.k b.lo b.hi b.s b.y b.m false 0 := by rw [hk]; exact hb
    have hr := commonF_right ha hb' hc
    refine ⟨hr.1, hr.2.1, fun e => ?_, hr.2.2.2⟩
    simp only at e ⊢
    cases g : singleB a.k lo hi y
    · rfl
    · rw [g] at e; simp at e
theorem meet_assoc {a b c : Sc} (ha : a.R) (hb : b.R) (hc : c.R) : bd (a.meet b) (·.meet c) = bd (b.meet c) (fun q => a.meet q) := by
  by_cases hk : a.k = b.k ∧ b.k = c.k
  · obtain ⟨k1, k2⟩ := hk
    rcases ha.cases with ⟨s, rfl, _⟩ | ⟨m, rfl⟩ | ⟨k, lo, hi, m, rfl, g1, hl, hm⟩ <;> rcases hb.cases with ⟨t, rfl, _⟩ | ⟨n, rfl⟩ | ⟨k', lo2, hi2, n, rfl, g2, hl2, hn⟩ <;> rcases hc.cases with ⟨u, rfl, _⟩ | ⟨p, rfl⟩ | ⟨k'', lo3, hi3, p, rfl, g3, hl3, hp⟩
    case inr.inr.inr.inr.inr.inr =>
      simp only [num] at k1 k2
      subst k1 k2
      exact meet_num g1 hl hl2 hl3
    all_goals try (exfalso; simp only [txt, anyT, num] at k1 k2; omega)
    all_goals simp only [meet_tt, meet_ta, meet_at, meet_aa, bd]
    · by_cases h1 : s.toList = t.toList
      · have := bytes_ext h1
        subst this
        rw [if_pos rfl]
        by_cases h2 : s.toList = u.toList
        · simp only [if_pos h2, meet_tt, if_true]
        · simp only [if_neg h2, meet_tt]
      · rw [if_neg h1]
        by_cases h2 : t.toList = u.toList
        · simp only [if_pos h2, meet_tt, if_neg h1]
        · simp only [if_neg h2]
    · by_cases h1 : s.toList = t.toList
      · simp only [if_pos h1, meet_ta]
      · simp only [if_neg h1]
    · by_cases h1 : t.toList = u.toList
      · simp only [if_pos h1, meet_at]
      · simp only [if_neg h1]
    · rw [Bool.or_assoc]
  · have l : bd (a.meet b) (·.meet c) = none := by
      cases h : a.meet b with
      | none => rfl
      | some x =>
        obtain ⟨e1, e2⟩ := meet_k h
        exact meet_kk (fun e => hk ⟨e1, by rw [← e1, ← e2, e]⟩)
    have r : bd (b.meet c) (fun q => a.meet q) = none := by
      cases h : b.meet c with
      | none => rfl
      | some x =>
        obtain ⟨e1, e2⟩ := meet_k h
        exact meet_kk (fun e => hk ⟨by rw [e, e2], e1⟩)
    rw [l, r]
theorem meet_left {a b x : Sc} (ha : a.R) (hb : b.R) (h : a.meet b = some x) : x.meet a = some x := by
  have e := meet_assoc hb ha ha
  rw [meet_comm hb ha, h, meet_self ha] at e
  simp only [bd] at e
  rw [e, meet_comm hb ha, h]
theorem meet_right {a b x : Sc} (ha : a.R) (hb : b.R) (h : a.meet b = some x) : x.meet b = some x := by
  have e := meet_assoc ha hb hb
  rw [h, meet_self hb] at e
  simp only [bd] at e
  rw [e, h]
def Sc.has (a c : Sc) : Bool := hasB a.k a.lo a.hi a.s a.y c.k c.lo c.s
def Sc.single (c : Sc) : Bool := singleB c.k c.lo c.hi c.y
theorem has_iff {a c : Sc} (ha : a.R) (hc : c.R) (hs : c.single = true) : a.has c = true ↔ a.meet c = some c := by
  rcases hc.cases with ⟨t, rfl, _⟩ | ⟨n, rfl⟩ | ⟨k2, lo2, hi2, n, rfl, hk2, hl2, hn⟩
  · rcases ha.cases with ⟨s, rfl, _⟩ | ⟨m, rfl⟩ | ⟨k, lo, hi, m, rfl, hk, hl, hm⟩
    · rw [meet_tt]
      by_cases h : s.toList = t.toList
      · rw [if_pos h, bytes_ext h]; simp [Sc.has, hasB, txt]
      · rw [if_neg h]; simp [Sc.has, hasB, txt, h]
    · rw [meet_at]; simp [Sc.has, hasB, txt, anyT]
    · rw [meet_kk (by simp [txt, num]; omega)]; simp [Sc.has, hasB, txt, num]; omega
  · simp [Sc.single, anyT, singleB] at hs
  · have e : lo2 = hi2 := by simpa [Sc.single, num, singleB, hk2] using hs
    subst e
    have hn' : n = false := by
      cases n
      · rfl
      · exact absurd rfl (hn rfl)
    subst hn'
    rcases ha.cases with ⟨s, rfl, _⟩ | ⟨m, rfl⟩ | ⟨k, lo, hi, m, rfl, hk, hl, hm⟩
    · rw [meet_kk (by simp [txt, num]; omega)]; simp [Sc.has, hasB, txt, num]; omega
    · rw [meet_kk (by simp [anyT, num]; omega)]; simp [Sc.has, hasB, anyT, num]; omega
    · by_cases ek : k = k2
      · subst ek
        rw [meet_nn _ _ _ _ _ _ _ hk]
        by_cases g : lo ≤ lo2 ∧ lo2 ≤ hi
        · rw [if_pos (by omega), show max lo lo2 = lo2 by omega, show min hi lo2 = lo2 by omega]
          simp [Sc.has, hasB, num, hk, g]
        · rw [if_neg (by omega)]
          simp [Sc.has, hasB, num, hk]
          omega
      · rw [meet_kk (by simpa [num] using ek)]
        simp [Sc.has, hasB, num, ek]
theorem has_meet {a b c : Sc} (ha : a.R) (hb : b.R) (hc : c.R) (hs : c.single = true) : (∃ x, a.meet b = some x ∧ x.has c = true) ↔ (a.has c = true ∧ b.has c = true) := by
  constructor
  · rintro ⟨x, hx, h⟩
    have hR := meet_R ha hb hx
    have hxc := (has_iff hR hc hs).1 h
    refine ⟨(has_iff ha hc hs).2 ?_, (has_iff hb hc hs).2 ?_⟩
    · have e := meet_assoc ha hR hc
      rw [meet_comm ha hR, meet_left ha hb hx, hxc] at e
      simp only [bd] at e
      rw [← e, hxc]
    · have e := meet_assoc hb hR hc
      rw [meet_comm hb hR, meet_right ha hb hx, hxc] at e
      simp only [bd] at e
      rw [← e, hxc]
  · rintro ⟨h1, h2⟩
    have e := meet_assoc ha hb hc
    rw [(has_iff hb hc hs).1 h2] at e
    simp only [bd] at e
    rw [(has_iff ha hc hs).1 h1] at e
    cases hx : a.meet b with
    | none => rw [hx] at e; cases e
    | some x =>
      rw [hx] at e
      exact ⟨x, rfl, (has_iff (meet_R ha hb hx) hc hs).2 e⟩
end Go.Proofs.YtddleeenlpigfaaGreatDoor
/- PLAIN MATHEMATICS: depth, equality by comparison, the comparison at another level. -/
namespace Go.Proofs.YtddleeenlpigfaaGreatDoor
/-- So deep at most. -/
def Dv : Nat → List Tm → Prop
  | 0, _ => False
  | n + 1, A => ∀ x ∈ A, ∀ f ∈ x.fs, Dv n f.2
/-- A term's fields' values are so deep at most. -/
def Dt (n : Nat) (x : Tm) : Prop := ∀ f ∈ x.fs, Dv n f.2
theorem Dv.up : ∀ {n : Nat} {A : List Tm}, Dv n A → Dv (n + 1) A
  | 0, _, h => h.elim
  | _ + 1, _, h => fun x hx f hf => (h x hx f hf).up
theorem Dv.le {n m : Nat} (hnm : n ≤ m) {A : List Tm} (h : Dv n A) : Dv m A := by
  induction m with
  | zero => obtain rfl : n = 0 := by omega
            exact h
  | succ m ih =>
    by_cases e : n = m + 1
    · subst e; exact h
    · exact (ih (by omega)).up
theorem InV.dv {w : World} : ∀ {n : Nat} {t : Option Addr} {tl tc : Nat} {V : List Tm}, InV w n t tl tc V → Dv n V
  | 0, _, _, _, _, h => h.elim
  | n + 1, t, tl, tc, V, h => fun x hx f hf => by
    obtain ⟨i, hi, rfl⟩ := List.getElem_of_mem hx
    obtain ⟨b, off, _, h2⟩ := h.2.2 i hi
    revert h2 hf
    generalize V[i] = y
    obtain ⟨k, lo, hi, s, y, m, o, fs⟩ := y
    intro hf h2
    obtain ⟨_, f', fl, fc, _, _, _, _, _, _, _, _, hF⟩ := h2
    obtain ⟨j, hj, rfl⟩ := List.getElem_of_mem hf
    obtain ⟨_, _, _, _, _, -, -, -, -, h3⟩ := hF.2.2 j hj
    exact InV.dv h3
theorem InF.dv {w : World} {n : Nat} {f : Option Addr} {fl : Nat} {fs : List (ByteArray × List Tm)} (h : InF (fun t tl tc V => InV w n t tl tc V) w f fl fs) : ∀ x ∈ fs, Dv n x.2 := fun x hx => by
  obtain ⟨j, hj, rfl⟩ := List.getElem_of_mem hx
  obtain ⟨_, _, _, _, _, -, -, -, -, h3⟩ := h.2.2 j hj
  exact h3.dv
theorem cmpI_zero {a b : Int} (h : cmpI a b = 0) : a = b := by
  unfold cmpI at h
  split at h
  · omega
  · split at h <;> omega
theorem cmpS_zero {a b : ByteArray} (h : cmpS a b = 0) : a = b := by
  unfold cmpS at h
  split at h
  · omega
  · split at h
    · exact bytes_ext ‹_›
    · omega
theorem bitI_inj {a b : Bool} (h : bitI a = bitI b) : a = b := by cases a <;> cases b <;> simp_all [bitI]
theorem two_zero {a b : Int} (h : two a b = 0) : a = 0 ∧ b = 0 := by
  unfold two at h
  split at h
  · contradiction
  · exact ⟨by omega, h⟩
theorem lexL_eq {α : Type} {f : α → α → Int} : ∀ {A B : List α}, (∀ a ∈ A, ∀ b ∈ B, f a b = 0 → a = b) → lexL f A B = 0 → A = B
  | [], [], _, _ => rfl
  | [], _ :: _, _, h => by simp [lexL] at h
  | _ :: _, [], _, h => by simp [lexL] at h
  | a :: A, b :: B, h, h0 => by
    rw [lexL_two] at h0
    obtain ⟨h1, h2⟩ := two_zero h0
    rw [h a (by simp) b (by simp) h1, lexL_eq (fun x hx y hy => h x (by simp [hx]) y (by simp [hy])) h2]
theorem lexL_congr {α : Type} {f g : α → α → Int} : ∀ {A B : List α}, (∀ a ∈ A, ∀ b ∈ B, f a b = g a b) → lexL f A B = lexL g A B
  | [], [], _ => rfl
  | [], _ :: _, _ => rfl
  | _ :: _, [], _ => rfl
  | a :: A, b :: B, h => by
    rw [lexL_two, lexL_two, h a (by simp) b (by simp), lexL_congr (fun x hx y hy => h x (by simp [hx]) y (by simp [hy]))]
theorem cmpF_eq {n : Nat} (ih : ∀ {A B : List Tm}, Dv n A → Dv n B → cmpV n A B = 0 → A = B) {x y : ByteArray × List Tm} (hx : Dv n x.2) (hy : Dv n y.2) (h : cmpF (cmpV n) x y = 0) : x = y := by
  obtain ⟨h1, h2⟩ := two_zero h
  exact Prod.ext (cmpS_zero h1) (ih hx hy h2)
theorem cmpT_eqI {n : Nat} (ih : ∀ {A B : List Tm}, Dv n A → Dv n B → cmpV n A B = 0 → A = B) {a b : Tm} (ha : Dt n a) (hb : Dt n b) (h : cmpT (cmpV n) a b = 0) : a = b := by
  obtain ⟨h1, h2⟩ := two_zero h
  rw [plain_two] at h1
  obtain ⟨g1, h1⟩ := two_zero h1
  obtain ⟨g2, h1⟩ := two_zero h1
  obtain ⟨g3, h1⟩ := two_zero h1
  obtain ⟨g4, h1⟩ := two_zero h1
  obtain ⟨g5, h1⟩ := two_zero h1
  obtain ⟨g6, h1⟩ := two_zero h1
  obtain ⟨g7, -⟩ := two_zero h1
  have g8 := lexL_eq (fun x hx y hy => cmpF_eq ih (ha x hx) (hb y hy)) h2
  obtain ⟨k, lo, hi, s, y, m, o, fs⟩ := a
  obtain ⟨k2, lo2, hi2, s2, y2, m2, o2, fs2⟩ := b
  simp only [Tm.k, Tm.lo, Tm.hi, Tm.s, Tm.y, Tm.m, Tm.o, Tm.fs] at *
  rw [cmpI_zero g1, cmpI_zero g2, cmpI_zero g3, cmpS_zero g4, bitI_inj (cmpI_zero g5), bitI_inj (cmpI_zero g6), bitI_inj (cmpI_zero g7), g8]
theorem cmpV_eq : ∀ {n : Nat} {A B : List Tm}, Dv n A → Dv n B → cmpV n A B = 0 → A = B
  | 0, _, _, h, _, _ => h.elim
  | _ + 1, _, _, hA, hB, h => lexL_eq (fun a ha b hb => cmpT_eqI (fun h1 h2 h3 => cmpV_eq h1 h2 h3) (hA a ha) (hB b hb)) h
theorem cmpT_eq {n : Nat} {a b : Tm} (ha : Dt n a) (hb : Dt n b) (h : cmpT (cmpV n) a b = 0) : a = b := cmpT_eqI (fun h1 h2 h3 => cmpV_eq h1 h2 h3) ha hb h
theorem cmpT_cmp (n : Nat) : Cmp (cmpT (cmpV n)) := by
  have hF : Cmp (cmpF (cmpV n)) := (cmpS_cmp.key (fun x : ByteArray × List Tm => x.1)).two ((cmpV_cmp n).key (fun x : ByteArray × List Tm => x.2))
  exact plain_cmp.two (hF.lex.key Tm.fs)
theorem cmpT_upI {n m : Nat} (ih : ∀ {A B : List Tm}, Dv n A → Dv n B → cmpV m A B = cmpV n A B) {a b : Tm} (ha : Dt n a) (hb : Dt n b) : cmpT (cmpV m) a b = cmpT (cmpV n) a b := by
  show two _ (lexL _ _ _) = two _ (lexL _ _ _)
  rw [lexL_congr (f := cmpF (cmpV m)) (g := cmpF (cmpV n)) (fun x hx y hy => by show two _ _ = two _ _; rw [ih (ha x hx) (hb y hy)])]
theorem cmpV_le : ∀ {n m : Nat} {A B : List Tm}, n ≤ m → Dv n A → Dv n B → cmpV m A B = cmpV n A B
  | 0, _, _, _, _, h, _ => h.elim
  | n + 1, 0, _, _, hnm, _, _ => absurd hnm (by omega)
  | n + 1, m + 1, _, _, hnm, hA, hB => lexL_congr (fun a ha b hb => cmpT_upI (fun h1 h2 => cmpV_le (by omega) h1 h2) (hA a ha) (hB b hb))
theorem cmpT_le {n m : Nat} (hnm : n ≤ m) {a b : Tm} (ha : Dt n a) (hb : Dt n b) : cmpT (cmpV m) a b = cmpT (cmpV n) a b := cmpT_upI (fun h1 h2 => cmpV_le hnm h1 h2) ha hb
/-- How many terms in all. -/
def wN : Nat → List Tm → Nat
  | 0, _ => 0
  | n + 1, A => A.length + (A.map fun x => (x.fs.map fun f => wN n f.2).sum).sum
def wF (n : Nat) (fs : List (ByteArray × List Tm)) : Nat := (fs.map fun f => wN n f.2).sum
theorem wN_nil (n : Nat) : wN (n + 1) [] = 0 := rfl
theorem wN_cons (n : Nat) (x : Tm) (A : List Tm) : wN (n + 1) (x :: A) = 1 + wF n x.fs + wN (n + 1) A := by
  simp only [wN, List.length_cons, List.map_cons, List.sum_cons, wF]; omega
theorem wN_append (n : Nat) : ∀ A B : List Tm, wN (n + 1) (A ++ B) = wN (n + 1) A + wN (n + 1) B
  | [], B => by rw [wN_nil]; simp
  | x :: A, B => by rw [List.cons_append, wN_cons, wN_cons, wN_append]; omega
theorem wF_cons (n : Nat) (f : ByteArray × List Tm) (fs : List (ByteArray × List Tm)) : wF n (f :: fs) = wN n f.2 + wF n fs := by simp [wF]
theorem wF_mem {n : Nat} {f : ByteArray × List Tm} : ∀ {fs : List (ByteArray × List Tm)}, f ∈ fs → wN n f.2 ≤ wF n fs
  | g :: fs, h => by
    rw [wF_cons]
    rcases List.mem_cons.1 h with rfl | h
    · omega
    · have := wF_mem (n := n) h; omega
theorem wN_mem {n : Nat} {x : Tm} : ∀ {A : List Tm}, x ∈ A → 1 + wF n x.fs ≤ wN (n + 1) A
  | y :: A, h => by
    rw [wN_cons]
    rcases List.mem_cons.1 h with rfl | h
    · omega
    · have := wN_mem (n := n) h; omega
theorem wN_len (n : Nat) (A : List Tm) : A.length ≤ wN (n + 1) A := by simp only [wN]; omega
theorem wF_congr {n m : Nat} : ∀ {fs : List (ByteArray × List Tm)}, (∀ f ∈ fs, wN m f.2 = wN n f.2) → wF m fs = wF n fs
  | [], _ => rfl
  | f :: fs, h => by rw [wF_cons, wF_cons, h f (by simp), wF_congr (fun g hg => h g (by simp [hg]))]
theorem wN_congr {n m : Nat} : ∀ {A : List Tm}, (∀ x ∈ A, wF m x.fs = wF n x.fs) → wN (m + 1) A = wN (n + 1) A
  | [], _ => rfl
  | f :: fs, h => by rw [wN_cons, wN_cons, h f (by simp), wN_congr (fun g hg => h g (by simp [hg]))]
theorem wN_le : ∀ {n m : Nat} {A : List Tm}, n ≤ m → Dv n A → wN m A = wN n A
  | 0, _, _, _, h => h.elim
  | n + 1, 0, _, hnm, _ => absurd hnm (by omega)
  | n + 1, m + 1, _, hnm, hA => wN_congr (fun x hx => wF_congr (fun f hf => wN_le (by omega) (hA x hx f hf)))
end Go.Proofs.YtddleeenlpigfaaGreatDoor
