/- A VALUE IN MEMORY, told; the order of values. -/
import Derived.Test.YtkmbhjcedkojjaaPa
namespace Go.Proofs.Ytkmbhjcedkojjaa
open Go.RowKit
inductive Tm where
  | mk (k lo hi : Int) (s : ByteArray) (y m o : Bool) (fs : List (ByteArray × List Tm)) : Tm
def Tm.fs : Tm → List (ByteArray × List Tm) | .mk _ _ _ _ _ _ _ fs => fs
def firstL : List Int → Int
  | [] => 0
  | c :: l => if c ≠ 0 then c else firstL l
def plainL : Tm → Tm → List Int
  | .mk k lo hi s y m o _, .mk k2 lo2 hi2 s2 y2 m2 o2 _ => [cmpI k k2, cmpI lo lo2, cmpI hi hi2, cmpS s s2, cmpI (bitI y) (bitI y2), cmpI (bitI m) (bitI m2), cmpI (bitI o) (bitI o2)]
def lexL {α : Type} (f : α → α → Int) : List α → List α → Int
  | [], [] => 0
  | [], _ :: _ => -1
  | _ :: _, [] => 1
  | a :: A, b :: B => if f a b ≠ 0 then f a b else lexL f A B
def two (c d : Int) : Int := if c ≠ 0 then c else d
def cmpF (g : List Tm → List Tm → Int) (x y : ByteArray × List Tm) : Int := two (cmpS x.1 y.1) (g x.2 y.2)
def cmpT (g : List Tm → List Tm → Int) (a b : Tm) : Int := two (firstL (plainL a b)) (lexL (cmpF g) a.fs b.fs)
def cmpV : Nat → List Tm → List Tm → Int
  | 0, _, _ => 0
  | n + 1, A, B => lexL (cmpT (cmpV n)) A B
theorem lexL_at {α : Type} (f : α → α → Int) : ∀ (A B : List α) (i : Nat) (hA : i < A.length) (hB : i < B.length), (∀ j (h1 : j < A.length) (h2 : j < B.length), j < i → f A[j] B[j] = 0) → f A[i] B[i] ≠ 0 → lexL f A B = f A[i] B[i]
  | a :: A, b :: B, 0, _, _, _, h => by
    have h' : f a b ≠ 0 := h
    show (if f a b ≠ 0 then f a b else lexL f A B) = f a b
    rw [if_pos h']
  | a :: A, b :: B, i + 1, hA, hB, hz, h => by
    have h0 : f a b = 0 := hz 0 (by simp) (by simp) (by omega)
    show (if f a b ≠ 0 then f a b else lexL f A B) = _
    rw [if_neg (by simpa using h0)]
    exact lexL_at f A B i (by simpa using hA) (by simpa using hB) (fun j h1 h2 hj => hz (j + 1) (by simpa using h1) (by simpa using h2) (by omega)) h
theorem cmpI_succ (a b : Nat) : cmpI ((a + 1 : Nat) : Int) ((b + 1 : Nat) : Int) = cmpI a b := by
  unfold cmpI
  by_cases h1 : (a : Int) < b
  · rw [if_pos h1, if_pos (by omega)]
  · by_cases h2 : (b : Int) < a
    · rw [if_neg h1, if_pos h2, if_neg (by omega), if_pos (by omega)]
    · rw [if_neg h1, if_neg h2, if_neg (by omega), if_neg (by omega)]
theorem lexL_end {α : Type} (f : α → α → Int) : ∀ (A B : List α), (∀ j (h1 : j < A.length) (h2 : j < B.length), f A[j] B[j] = 0) → lexL f A B = cmpI A.length B.length
  | [], [], _ => by simp [lexL, cmpI]
  | [], b :: B, _ => by simp [lexL, cmpI]
  | a :: A, [], _ => by
    simp only [lexL, cmpI, List.length_cons, List.length_nil]
    rw [if_neg (by omega), if_pos (by omega)]
  | a :: A, b :: B, h => by
    have h0 : f a b = 0 := h 0 (by simp) (by simp)
    show (if f a b ≠ 0 then f a b else lexL f A B) = _
    rw [if_neg (by simpa using h0), lexL_end f A B (fun j h1 h2 => h (j + 1) (by simpa using h1) (by simpa using h2))]
    exact (cmpI_succ _ _).symm
/-- The fields of a header lie in a world. -/
def InF (I : Option Addr → Nat → Nat → List Tm → Prop) (w : World) (f : Option Addr) (fl : Nat) (fs : List (ByteArray × List Tm)) : Prop :=
  fs.length = fl ∧ (fl : Int) ≤ 9223372036854775807 ∧ ∀ i (h : i < fs.length), ∃ (b off tl tc : Nat) (t : Option Addr), f = some ⟨b, off, none⟩ ∧ b < w.heap.size ∧ w.cell? ⟨b, off + i * 2, none⟩ = some (.string fs[i].1) ∧ w.cell? ⟨b, off + i * 2 + 1, none⟩ = some (.slice t tl tc) ∧ I t tl tc fs[i].2
/-- A term's cells lie in a world. -/
def InT (I : Option Addr → Nat → Nat → List Tm → Prop) (w : World) (b off : Nat) : Tm → Prop
  | .mk k lo hi s y m o fs => b < w.heap.size ∧ ∃ (f : Option Addr) (fl fc : Nat), w.cell? ⟨b, off, none⟩ = some (.int .i64 k) ∧ w.cell? ⟨b, off + 1, none⟩ = some (.int .i64 lo) ∧ w.cell? ⟨b, off + 2, none⟩ = some (.int .i64 hi) ∧ w.cell? ⟨b, off + 3, none⟩ = some (.string s) ∧
    w.cell? ⟨b, off + 4, none⟩ = some (.bool y) ∧ w.cell? ⟨b, off + 5, none⟩ = some (.bool m) ∧ w.cell? ⟨b, off + 6, none⟩ = some (.bool o) ∧ w.cell? ⟨b, off + 7, none⟩ = some (.slice f fl fc) ∧ InF I w f fl fs
/-- A value lies in a world, so deep at most. -/
def InV (w : World) : Nat → Option Addr → Nat → Nat → List Tm → Prop
  | 0, _, _, _, _ => False
  | n + 1, t, tl, _, V => V.length = tl ∧ (tl : Int) ≤ 9223372036854775807 ∧ ∀ i (h : i < V.length), ∃ b off : Nat, t = some ⟨b, off, none⟩ ∧ InT (fun t tl tc V => InV w n t tl tc V) w b (off + i * 8) V[i]
theorem InF.below {I J : Option Addr → Nat → Nat → List Tm → Prop} (hIJ : ∀ t tl tc V, I t tl tc V → J t tl tc V) {w w' : World} (hb : Below w.heap.size w w') {f : Option Addr} {fl : Nat} {fs : List (ByteArray × List Tm)} (h : InF I w f fl fs) : InF J w' f fl fs := by
  refine ⟨h.1, h.2.1, fun i hi => ?_⟩
  obtain ⟨b, off, tl, tc, t, e, lt, c0, c1, h2⟩ := h.2.2 i hi
  exact ⟨b, off, tl, tc, t, e, Nat.lt_of_lt_of_le lt hb.size, (hb.cell (p := ⟨b, off + i * 2, none⟩) lt).trans c0, (hb.cell (p := ⟨b, off + i * 2 + 1, none⟩) lt).trans c1, hIJ _ _ _ _ h2⟩
theorem InT.below {I J : Option Addr → Nat → Nat → List Tm → Prop} (hIJ : ∀ t tl tc V, I t tl tc V → J t tl tc V) {w w' : World} (hb : Below w.heap.size w w') {b off : Nat} {x : Tm} (h : InT I w b off x) : InT J w' b off x := by
  obtain ⟨k, lo, hi, s, y, m, o, fs⟩ := x
  obtain ⟨lt, f, fl, fc, c0, c1, c2, c3, c4, c5, c6, c7, hf⟩ := h
  have e : ∀ i, w'.cell? ⟨b, i, none⟩ = w.cell? ⟨b, i, none⟩ := fun i => hb.cell (p := ⟨b, i, none⟩) lt
  exact ⟨Nat.lt_of_lt_of_le lt hb.size, f, fl, fc, (e _).trans c0, (e _).trans c1, (e _).trans c2, (e _).trans c3, (e _).trans c4, (e _).trans c5, (e _).trans c6, (e _).trans c7, hf.below hIJ hb⟩
theorem InV.below {w w' : World} (hb : Below w.heap.size w w') : ∀ {n : Nat} {t : Option Addr} {tl tc : Nat} {V : List Tm}, InV w n t tl tc V → InV w' n t tl tc V
  | 0, _, _, _, _, h => h.elim
  | n + 1, t, tl, tc, V, h => ⟨h.1, h.2.1, fun i hi => by
      obtain ⟨b, off, e, h2⟩ := h.2.2 i hi
      exact ⟨b, off, e, InT.below (fun t tl tc V h => InV.below hb h) hb h2⟩⟩

end Go.Proofs.Ytkmbhjcedkojjaa
