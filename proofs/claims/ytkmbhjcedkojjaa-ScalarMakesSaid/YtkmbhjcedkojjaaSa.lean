/- A VALUE IN MEMORY OF A CALL'S OWN: its blocks are such as P lets, none of them frozen. -/
import Derived.Test.YtkmbhjcedkojjaaPh
namespace Go.Proofs.Ytkmbhjcedkojjaa
open Go.RowKit
/-- Fields in blocks of a call's own. -/
def OwF (P : Nat → Prop) (I : Option Addr → Nat → Nat → List Tm → Prop) (w : World) (f : Option Addr) (fl : Nat) (fs : List (ByteArray × List Tm)) : Prop :=
  fs.length = fl ∧ (fl : Int) ≤ 9223372036854775807 ∧ ∀ i (h : i < fs.length), ∃ (b off tl tc : Nat) (t : Option Addr), f = some ⟨b, off, none⟩ ∧ P b ∧ b < w.heap.size ∧ (∀ o, w.frozen? ⟨b, o, none⟩ = false) ∧ w.cell? ⟨b, off + i * 2, none⟩ = some (.string fs[i].1) ∧ w.cell? ⟨b, off + i * 2 + 1, none⟩ = some (.slice t tl tc) ∧ I t tl tc fs[i].2
/-- A term's cells, its fields in blocks of a call's own. -/
def OwT (P : Nat → Prop) (I : Option Addr → Nat → Nat → List Tm → Prop) (w : World) (b off : Nat) : Tm → Prop
  | .mk k lo hi s y m o fs => ∃ (f : Option Addr) (fl fc : Nat), w.cell? ⟨b, off, none⟩ = some (.int .i64 k) ∧ w.cell? ⟨b, off + 1, none⟩ = some (.int .i64 lo) ∧ w.cell? ⟨b, off + 2, none⟩ = some (.int .i64 hi) ∧ w.cell? ⟨b, off + 3, none⟩ = some (.string s) ∧
    w.cell? ⟨b, off + 4, none⟩ = some (.bool y) ∧ w.cell? ⟨b, off + 5, none⟩ = some (.bool m) ∧ w.cell? ⟨b, off + 6, none⟩ = some (.bool o) ∧ w.cell? ⟨b, off + 7, none⟩ = some (.slice f fl fc) ∧ OwF P I w f fl fs
/-- A value in blocks of a call's own, so deep at most. -/
def OwV (P : Nat → Prop) (w : World) : Nat → Option Addr → Nat → Nat → List Tm → Prop
  | 0, _, _, _, _ => False
  | n + 1, t, tl, _, V => V.length = tl ∧ (tl : Int) ≤ 9223372036854775807 ∧ ∀ i (h : i < V.length), ∃ b off : Nat, t = some ⟨b, off, none⟩ ∧ P b ∧ b < w.heap.size ∧ (∀ o, w.frozen? ⟨b, o, none⟩ = false) ∧ OwT P (fun t tl tc V => OwV P w n t tl tc V) w b (off + i * 8) V[i]
theorem cell_of_heap {w w' : World} {b : Nat} (h : w'.heap[b]? = w.heap[b]?) (o : Nat) : w'.cell? ⟨b, o, none⟩ = w.cell? ⟨b, o, none⟩ := World.cell?_of_block (a := ⟨b, o, none⟩) h
theorem frozen_of_heap {w w' : World} {b : Nat} (h : w'.heap[b]? = w.heap[b]?) (o : Nat) : w'.frozen? ⟨b, o, none⟩ = w.frozen? ⟨b, o, none⟩ := World.frozen?_of_block (a := ⟨b, o, none⟩) h
/-- From one world to another one in which its blocks are as they were. -/
theorem OwF.to {P Q : Nat → Prop} {I J : Option Addr → Nat → Nat → List Tm → Prop} {w w' : World} (hs : w.heap.size ≤ w'.heap.size) (hP : ∀ b, P b → b < w.heap.size → Q b ∧ w'.heap[b]? = w.heap[b]?) (hIJ : ∀ t tl tc V, I t tl tc V → J t tl tc V) {f : Option Addr} {fl : Nat} {fs : List (ByteArray × List Tm)} (h : OwF P I w f fl fs) : OwF Q J w' f fl fs := by
  refine ⟨h.1, h.2.1, fun i hi => ?_⟩
  obtain ⟨b, off, tl, tc, t, e, hp, lt, fz, c0, c1, h2⟩ := h.2.2 i hi
  obtain ⟨hq, hh⟩ := hP b hp lt
  exact ⟨b, off, tl, tc, t, e, hq, Nat.lt_of_lt_of_le lt hs, fun o => (frozen_of_heap hh o).trans (fz o), (cell_of_heap hh _).trans c0, (cell_of_heap hh _).trans c1, hIJ _ _ _ _ h2⟩
theorem OwT.to' {P Q : Nat → Prop} {I J : Option Addr → Nat → Nat → List Tm → Prop} {w w' : World} {b b' off off' : Nat} (hs : w.heap.size ≤ w'.heap.size) (hP : ∀ b, P b → b < w.heap.size → Q b ∧ w'.heap[b]? = w.heap[b]?) (hIJ : ∀ t tl tc V, I t tl tc V → J t tl tc V) (hc : ∀ r, r < 8 → w'.cell? ⟨b', off' + r, none⟩ = w.cell? ⟨b, off + r, none⟩) {x : Tm} (h : OwT P I w b off x) : OwT Q J w' b' off' x := by
  obtain ⟨k, lo, hi, s, y, m, o, fs⟩ := x
  obtain ⟨f, fl, fc, c0, c1, c2, c3, c4, c5, c6, c7, hf⟩ := h
  exact ⟨f, fl, fc, (hc 0 (by omega)).trans c0, (hc 1 (by omega)).trans c1, (hc 2 (by omega)).trans c2, (hc 3 (by omega)).trans c3, (hc 4 (by omega)).trans c4, (hc 5 (by omega)).trans c5, (hc 6 (by omega)).trans c6, (hc 7 (by omega)).trans c7, hf.to hs hP hIJ⟩
theorem OwV.to {P Q : Nat → Prop} {w w' : World} (hs : w.heap.size ≤ w'.heap.size) (hP : ∀ b, P b → b < w.heap.size → Q b ∧ w'.heap[b]? = w.heap[b]?) : ∀ {n : Nat} {t : Option Addr} {tl tc : Nat} {V : List Tm}, OwV P w n t tl tc V → OwV Q w' n t tl tc V
  | 0, _, _, _, _, h => h.elim
  | n + 1, t, tl, tc, V, h => ⟨h.1, h.2.1, fun i hi => by
      obtain ⟨b, off, e, hp, lt, fz, h2⟩ := h.2.2 i hi
      obtain ⟨hq, hh⟩ := hP b hp lt
      exact ⟨b, off, e, hq, Nat.lt_of_lt_of_le lt hs, fun o => (frozen_of_heap hh o).trans (fz o), OwT.to' hs hP (fun t tl tc V h => OwV.to hs hP h) (fun r _ => cell_of_heap hh _) h2⟩⟩
theorem OwV.below {P : Nat → Prop} {w w' : World} (hb : Below w.heap.size w w') {n : Nat} {t : Option Addr} {tl tc : Nat} {V : List Tm} (h : OwV P w n t tl tc V) : OwV P w' n t tl tc V :=
  h.to hb.size fun b hp lt => ⟨hp, hb.block b lt⟩
theorem OwV.imp {P Q : Nat → Prop} {w : World} (hP : ∀ b, P b → b < w.heap.size → Q b) {n : Nat} {t : Option Addr} {tl tc : Nat} {V : List Tm} (h : OwV P w n t tl tc V) : OwV Q w n t tl tc V :=
  h.to (Nat.le_refl _) fun b hp lt => ⟨hP b hp lt, rfl⟩
theorem OwF.inF {P : Nat → Prop} {I J : Option Addr → Nat → Nat → List Tm → Prop} (hIJ : ∀ t tl tc V, I t tl tc V → J t tl tc V) {w : World} {f : Option Addr} {fl : Nat} {fs : List (ByteArray × List Tm)} (h : OwF P I w f fl fs) : InF J w f fl fs := by
  refine ⟨h.1, h.2.1, fun i hi => ?_⟩
  obtain ⟨b, off, tl, tc, t, e, hp, lt, fz, c0, c1, h2⟩ := h.2.2 i hi
  exact ⟨b, off, tl, tc, t, e, lt, c0, c1, hIJ _ _ _ _ h2⟩
/-- It lies in the world. -/
theorem OwV.inV {P : Nat → Prop} {w : World} : ∀ {n : Nat} {t : Option Addr} {tl tc : Nat} {V : List Tm}, OwV P w n t tl tc V → InV w n t tl tc V
  | 0, _, _, _, _, h => h.elim
  | n + 1, t, tl, tc, V, h => ⟨h.1, h.2.1, fun i hi => by
      obtain ⟨b, off, e, hp, lt, fz, h2⟩ := h.2.2 i hi
      refine ⟨b, off, e, ?_⟩
      generalize V[i] = x at h2
      obtain ⟨k, lo, hi, s, y, m, o, fs⟩ := x
      obtain ⟨f, fl, fc, c0, c1, c2, c3, c4, c5, c6, c7, hf⟩ := h2
      exact ⟨lt, f, fl, fc, c0, c1, c2, c3, c4, c5, c6, c7, hf.inF fun t tl tc V h => OwV.inV h⟩⟩
theorem OwV.up {P : Nat → Prop} {w : World} : ∀ {n : Nat} {t : Option Addr} {tl tc : Nat} {V : List Tm}, OwV P w n t tl tc V → OwV P w (n + 1) t tl tc V
  | 0, _, _, _, _, h => h.elim
  | n + 1, t, tl, tc, V, h => ⟨h.1, h.2.1, fun i hi => by
      obtain ⟨b, off, e, hp, lt, fz, h2⟩ := h.2.2 i hi
      exact ⟨b, off, e, hp, lt, fz, OwT.to' (Nat.le_refl _) (fun b hp _ => ⟨hp, rfl⟩) (fun t tl tc V h => OwV.up h) (fun _ _ => rfl) h2⟩⟩
/-- No terms lie anywhere. -/
theorem OwV.none {P : Nat → Prop} (w : World) (n : Nat) (t : Option Addr) (tc : Nat) : OwV P w (n + 1) t 0 tc [] := ⟨rfl, by omega, fun i h => absurd h (Nat.not_lt_zero _)⟩

end Go.Proofs.Ytkmbhjcedkojjaa
