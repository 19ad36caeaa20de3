/- F, Za, Zb, Aa -/
import Derived.Test.YtddleeenlpigfaaGreatDoorY0
import Derived.Test.YtddleeenlpigfaaGreatDoorY2
import Derived.Test.YtddleeenlpigfaaGreatDoorY5
/- WALKS of Truth, Zero, Has, short. -/
namespace Go.Proofs.YtddleeenlpigfaaGreatDoor
open Go.RowKit
def hasB (k lo hi : Int) (s : ByteArray) (y : Bool) (k2 lo2 : Int) (s2 : ByteArray) : Bool := decide (k = k2 ∧ (k = 3 → y = true ∨ s.toList = s2.toList) ∧ (k ≠ 3 → lo ≤ lo2 ∧ lo2 ≤ hi))
end Go.Proofs.YtddleeenlpigfaaGreatDoor
/- PLAIN MATHEMATICS of scalars: meets do not hang on the order, nor on which come first. -/
namespace Go.Proofs.YtddleeenlpigfaaGreatDoor
structure Sc where
  k : Int
  lo : Int
  hi : Int
  s : ByteArray
  y : Bool
  m : Bool
def Sc.R (a : Sc) : Prop := RightP a.k a.lo a.hi a.s a.y a.m false 0
def Sc.meet (a b : Sc) : Option Sc :=
  if a.k = b.k then (commonF a.k a.lo a.hi a.s a.y b.lo b.hi b.s b.y).map fun t => ⟨a.k, t.1, t.2.1, t.2.2.1, t.2.2.2, (a.m || b.m) && !singleB a.k t.1 t.2.1 t.2.2.2⟩ else none
def txt (s : ByteArray) : Sc := ⟨3, 0, 0, s, false, false⟩
def anyT (m : Bool) : Sc := ⟨3, 0, 0, ⟨#[]⟩, true, m⟩
def num (k lo hi : Int) (m : Bool) : Sc := ⟨k, lo, hi, ⟨#[]⟩, false, m⟩
/-- A right scalar is a text, any text, or numbers. -/
theorem Sc.R.cases {a : Sc} (h : a.R) : (∃ s, a = txt s ∧ (s.size : Int) ≤ 256) ∨ (∃ m, a = anyT m) ∨ (∃ k lo hi m, a = num k lo hi m ∧ k ≠ 3 ∧ lo ≤ hi ∧ (m = true → lo ≠ hi)) := by
  obtain ⟨k, lo, hi, s, y, m⟩ := a
  obtain ⟨_, _, h3, h4⟩ := h
  simp only at h3 h4
  rcases h4 with c | c | c
  · obtain ⟨rfl, rfl, rfl, c4, c5⟩ := c
    cases y
    · cases m
      · exact .inl ⟨s, rfl, c4⟩
      · exact absurd (h3 rfl) (by decide)
    · have := bytes_ext ((c5 rfl).trans toList_nil.symm)
      subst this
      exact .inr (.inl ⟨m, rfl⟩)
  · obtain ⟨rfl, c2, rfl, c4, c5, c6⟩ := c
    have := bytes_ext (c2.trans toList_nil.symm)
    subst this
    refine .inr (.inr ⟨1, lo, hi, m, rfl, by omega, c5, fun e => ?_⟩)
    have := h3 e
    simpa [singleB] using this
  · obtain ⟨rfl, c2, rfl, c4, c5, c6⟩ := c
    have := bytes_ext (c2.trans toList_nil.symm)
    subst this
    refine .inr (.inr ⟨2, lo, hi, m, rfl, by omega, c5, fun e => ?_⟩)
    have := h3 e
    simpa [singleB] using this
theorem meet_tt (s t : ByteArray) : (txt s).meet (txt t) = if s.toList = t.toList then some (txt s) else none := by
  by_cases h : s.toList = t.toList <;> simp [Sc.meet, txt, commonF, h]
theorem meet_at (s : ByteArray) (m : Bool) : (anyT m).meet (txt s) = some (txt s) := by simp [Sc.meet, txt, anyT, commonF, singleB]
theorem meet_aa (m n : Bool) : (anyT m).meet (anyT n) = some (anyT (m || n)) := by simp [Sc.meet, anyT, commonF, singleB]
theorem meet_nn (k lo hi lo2 hi2 : Int) (m n : Bool) (hk : k ≠ 3) : (num k lo hi m).meet (num k lo2 hi2 n) = if max lo lo2 ≤ min hi hi2 then some (num k (max lo lo2) (min hi hi2) ((m || n) && !(max lo lo2 == min hi hi2))) else none := by
  by_cases h : max lo lo2 ≤ min hi hi2 <;> simp [Sc.meet, num, commonF, singleB, hk, h]
theorem meet_kk {a b : Sc} (h : a.k ≠ b.k) : a.meet b = none := by simp [Sc.meet, h]
theorem meet_self {a : Sc} (ha : a.R) : a.meet a = some a := by
  rcases ha.cases with ⟨s, rfl, _⟩ | ⟨m, rfl⟩ | ⟨k, lo, hi, m, rfl, hk, hl, hm⟩
  · rw [meet_tt, if_pos rfl]
  · rw [meet_aa, Bool.or_self]
  · rw [meet_nn _ _ _ _ _ _ _ hk, if_pos (by omega), Int.max_self, Int.min_self, Bool.or_self]
    congr 1
    cases m
    · rfl
    · have : (lo == hi) = false := by simpa using hm rfl
      rw [this]; rfl
end Go.Proofs.YtddleeenlpigfaaGreatDoor
/- PLAIN MATHEMATICS of scalars: which come first; what is below; atoms. -/
namespace Go.Proofs.YtddleeenlpigfaaGreatDoor
theorem meet_k {a b x : Sc} (h : a.meet b = some x) : a.k = b.k ∧ x.k = a.k := by
  unfold Sc.meet at h
  split at h
  · rename_i e
    cases hc : commonF a.k a.lo a.hi a.s a.y b.lo b.hi b.s b.y with
    | none => rw [hc] at h; cases h
    | some t => rw [hc] at h; cases h; exact ⟨e, rfl⟩
  · cases h
def Sc.has (a c : Sc) : Bool := hasB a.k a.lo a.hi a.s a.y c.k c.lo c.s
def Sc.single (c : Sc) : Bool := singleB c.k c.lo c.hi c.y
end Go.Proofs.YtddleeenlpigfaaGreatDoor
/- PLAIN MATHEMATICS: depth, equality by comparison, the comparison at another level. -/
namespace Go.Proofs.YtddleeenlpigfaaGreatDoor
/-- So deep at most. -/
def Dv : Nat → List Tm → Prop
  | 0, _ => False
  | n + 1, A => ∀ x ∈ A, ∀ f ∈ x.fs, Dv n f.2
/-- A term's fields' values are so deep at most. -/
def Dt (n : Nat) (x : Tm) : Prop := ∀ f ∈ x.fs, Dv n f.2
theorem Dv.up : ∀ {n : Nat} {A : List Tm}, Dv n A → Dv (n + 1) A
  | 0, _, h => h.elim
  | _ + 1, _, h => fun x hx f hf => (h x hx f hf).up
theorem Dv.le {n m : Nat} (hnm : n ≤ m) {A : List Tm} (h : Dv n A) : Dv m A := by
  induction m with
  | zero => obtain rfl : n = 0 := by omega
            exact h
  | succ m ih =>
    by_cases e : n = m + 1
    · subst e; exact h
    · exact (ih (by omega)).up
theorem InV.dv {w : World} : ∀ {n : Nat} {t : Option Addr} {tl tc : Nat} {V : List Tm}, InV w n t tl tc V → Dv n V
  | 0, _, _, _, _, h => h.elim
  | n + 1, t, tl, tc, V, h => fun x hx f hf => by
    obtain ⟨i, hi, rfl⟩ := List.getElem_of_mem hx
    obtain ⟨b, off, _, h2⟩ := h.2.2 i hi
    revert h2 hf
    generalize V[i] = y
    obtain ⟨k, lo, hi, s, y, m, o, fs⟩ := y
    intro hf h2
    obtain ⟨_, f', fl, fc, _, _, _, _, _, _, _, _, hF⟩ := h2
    obtain ⟨j, hj, rfl⟩ := List.getElem_of_mem hf
    obtain ⟨_, _, _, _, _, -, -, -, -, h3⟩ := hF.2.2 j hj
    exact InV.dv h3
theorem InF.dv {w : World} {n : Nat} {f : Option Addr} {fl : Nat} {fs : List (ByteArray × List Tm)} (h : InF (fun t tl tc V => InV w n t tl tc V) w f fl fs) : ∀ x ∈ fs, Dv n x.2 := fun x hx => by
  obtain ⟨j, hj, rfl⟩ := List.getElem_of_mem hx
  obtain ⟨_, _, _, _, _, -, -, -, -, h3⟩ := h.2.2 j hj
  exact h3.dv
theorem cmpI_zero {a b : Int} (h : cmpI a b = 0) : a = b := by
  unfold cmpI at h
  split at h
  · omega
  · split at h <;> omega
theorem cmpS_zero {a b : ByteArray} (h : cmpS a b = 0) : a = b := by
  unfold cmpS at h
  split at h
  · omega
  · split at h
    · exact bytes_ext ‹_›
    · omega
theorem bitI_inj {a b : Bool} (h : bitI a = bitI b) : a = b := by cases a <;> cases b <;> simp_all [bitI]
theorem two_zero {a b : Int} (h : two a b = 0) : a = 0 ∧ b = 0 := by
  unfold two at h
  split at h
  · contradiction
  · exact ⟨by omega, h⟩
theorem lexL_eq {α : Type} {f : α → α → Int} : ∀ {A B : List α}, (∀ a ∈ A, ∀ b ∈ B, f a b = 0 → a = b) → lexL f A B = 0 → A = B
  | [], [], _, _ => rfl
  | [], _ :: _, _, h => by simp [lexL] at h
  | _ :: _, [], _, h => by simp [lexL] at h
  | a :: A, b :: B, h, h0 => by
    rw [lexL_two] at h0
    obtain ⟨h1, h2⟩ := two_zero h0
    rw [h a (by simp) b (by simp) h1, lexL_eq (fun x hx y hy => h x (by simp [hx]) y (by simp [hy])) h2]
theorem lexL_congr {α : Type} {f g : α → α → Int} : ∀ {A B : List α}, (∀ a ∈ A, ∀ b ∈ B, f a b = g a b) → lexL f A B = lexL g A B
  | [], [], _ => rfl
  | [], _ :: _, _ => rfl
  | _ :: _, [], _ => rfl
  | a :: A, b :: B, h => by
    rw [lexL_two, lexL_two, h a (by simp) b (by simp), lexL_congr (fun x hx y hy => h x (by simp [hx]) y (by simp [hy]))]
theorem cmpF_eq {n : Nat} (ih : ∀ {A B : List Tm}, Dv n A → Dv n B → cmpV n A B = 0 → A = B) {x y : ByteArray × List Tm} (hx : Dv n x.2) (hy : Dv n y.2) (h : cmpF (cmpV n) x y = 0) : x = y := by
  obtain ⟨h1, h2⟩ := two_zero h
  exact Prod.ext (cmpS_zero h1) (ih hx hy h2)
theorem cmpT_eqI {n : Nat} (ih : ∀ {A B : List Tm}, Dv n A → Dv n B → cmpV n A B = 0 → A = B) {a b : Tm} (ha : Dt n a) (hb : Dt n b) (h : cmpT (cmpV n) a b = 0) : a = b := by
  obtain ⟨h1, h2⟩ := two_zero h
  rw [plain_two] at h1
  obtain ⟨g1, h1⟩ := two_zero h1
  obtain ⟨g2, h1⟩ := two_zero h1
  obtain ⟨g3, h1⟩ := two_zero h1
  obtain ⟨g4, h1⟩ := two_zero h1
  obtain ⟨g5, h1⟩ := two_zero h1
  obtain ⟨g6, h1⟩ := two_zero h1
  obtain ⟨g7, -⟩ := two_zero h1
  have g8 := lexL_eq (fun x hx y hy => cmpF_eq ih (ha x hx) (hb y hy)) h2
  obtain ⟨k, lo, hi, s, y, m, o, fs⟩ := a
  obtain ⟨k2, lo2, hi2, s2, y2, m2, o2, fs2⟩ := b
  simp only [Tm.k, Tm.lo, Tm.hi, Tm.s, Tm.y, Tm.m, Tm.o, Tm.fs] at *
  rw [cmpI_zero g1, cmpI_zero g2, cmpI_zero g3, cmpS_zero g4, bitI_inj (cmpI_zero g5), bitI_inj (cmpI_zero g6), bitI_inj (cmpI_zero g7), g8]
theorem cmpV_eq : ∀ {n : Nat} {A B : List Tm}, Dv n A → Dv n B → cmpV n A B = 0 → A = B
  | 0, _, _, h, _, _ => h.elim
  | _ + 1, _, _, hA, hB, h => lexL_eq (fun a ha b hb => cmpT_eqI (fun h1 h2 h3 => cmpV_eq h1 h2 h3) (hA a ha) (hB b hb)) h
theorem cmpT_eq {n : Nat} {a b : Tm} (ha : Dt n a) (hb : Dt n b) (h : cmpT (cmpV n) a b = 0) : a = b := cmpT_eqI (fun h1 h2 h3 => cmpV_eq h1 h2 h3) ha hb h
theorem cmpT_cmp (n : Nat) : Cmp (cmpT (cmpV n)) := by
  have hF : Cmp (cmpF (cmpV n)) := (cmpS_cmp.key (fun x : ByteArray × List Tm => x.1)).two ((cmpV_cmp n).key (fun x : ByteArray × List Tm => x.2))
  exact plain_cmp.two (hF.lex.key Tm.fs)
theorem cmpT_upI {n m : Nat} (ih : ∀ {A B : List Tm}, Dv n A → Dv n B → cmpV m A B = cmpV n A B) {a b : Tm} (ha : Dt n a) (hb : Dt n b) : cmpT (cmpV m) a b = cmpT (cmpV n) a b := by
  show two _ (lexL _ _ _) = two _ (lexL _ _ _)
  rw [lexL_congr (f := cmpF (cmpV m)) (g := cmpF (cmpV n)) (fun x hx y hy => by show two _ _ = two _ _; rw [ih (ha x hx) (hb y hy)])]
theorem cmpV_le : ∀ {n m : Nat} {A B : List Tm}, n ≤ m → Dv n A → Dv n B → cmpV m A B = cmpV n A B
  | 0, _, _, _, _, h, _ => h.elim
  | n + 1, 0, _, _, hnm, _, _ => absurd hnm (by omega)
  | n + 1, m + 1, _, _, hnm, hA, hB => lexL_congr (fun a ha b hb => cmpT_upI (fun h1 h2 => cmpV_le (by omega) h1 h2) (hA a ha) (hB b hb))
theorem cmpT_le {n m : Nat} (hnm : n ≤ m) {a b : Tm} (ha : Dt n a) (hb : Dt n b) : cmpT (cmpV m) a b = cmpT (cmpV n) a b := cmpT_upI (fun h1 h2 => cmpV_le hnm h1 h2) ha hb
/-- How many terms in all. -/
def wN : Nat → List Tm → Nat
  | 0, _ => 0
  | n + 1, A => A.length + (A.map fun x => (x.fs.map fun f => wN n f.2).sum).sum
def wF (n : Nat) (fs : List (ByteArray × List Tm)) : Nat := (fs.map fun f => wN n f.2).sum
theorem wN_nil (n : Nat) : wN (n + 1) [] = 0 := rfl
theorem wN_cons (n : Nat) (x : Tm) (A : List Tm) : wN (n + 1) (x :: A) = 1 + wF n x.fs + wN (n + 1) A := by
  simp only [wN, List.length_cons, List.map_cons, List.sum_cons, wF]; omega
theorem wN_append (n : Nat) : ∀ A B : List Tm, wN (n + 1) (A ++ B) = wN (n + 1) A + wN (n + 1) B
  | [], B => by rw [wN_nil]; simp
  | x :: A, B => by rw [List.cons_append, wN_cons, wN_cons, wN_append]; omega
theorem wF_cons (n : Nat) (f : ByteArray × List Tm) (fs : List (ByteArray × List Tm)) : wF n (f :: fs) = wN n f.2 + wF n fs := by simp [wF]
theorem wF_mem {n : Nat} {f : ByteArray × List Tm} : ∀ {fs : List (ByteArray × List Tm)}, f ∈ fs → wN n f.2 ≤ wF n fs
  | g :: fs, h => by
    rw [wF_cons]
    rcases List.mem_cons.1 h with rfl | h
    · omega
    · have := wF_mem (n := n) h; omega
theorem wN_mem {n : Nat} {x : Tm} : ∀ {A : List Tm}, x ∈ A → 1 + wF n x.fs ≤ wN (n + 1) A
  | y :: A, h => by
    rw [wN_cons]
    rcases List.mem_cons.1 h with rfl | h
    · omega
    · have := wN_mem (n := n) h; omega
theorem wF_congr {n m : Nat} : ∀ {fs : List (ByteArray × List Tm)}, (∀ f ∈ fs, wN m f.2 = wN n f.2) → wF m fs = wF n fs
  | [], _ => rfl
  | f :: fs, h => by rw [wF_cons, wF_cons, h f (by simp), wF_congr (fun g hg => h g (by simp [hg]))]
theorem wN_congr {n m : Nat} : ∀ {A : List Tm}, (∀ x ∈ A, wF m x.fs = wF n x.fs) → wN (m + 1) A = wN (n + 1) A
  | [], _ => rfl
  | f :: fs, h => by rw [wN_cons, wN_cons, h f (by simp), wN_congr (fun g hg => h g (by simp [hg]))]
theorem wN_le : ∀ {n m : Nat} {A : List Tm}, n ≤ m → Dv n A → wN m A = wN n A
  | 0, _, _, _, h => h.elim
  | n + 1, 0, _, hnm, _ => absurd hnm (by omega)
  | n + 1, m + 1, _, hnm, hA => wN_congr (fun x hx => wF_congr (fun f hf => wN_le (by omega) (hA x hx f hf)))
end Go.Proofs.YtddleeenlpigfaaGreatDoor
