/- What a copy's rows hold while they are filled. -/
import Derived.Test.YtkmbhjcedkojjaaSb
import Derived.Test.YtkmbhjcedkojjaaPi
namespace Go.Proofs.Ytkmbhjcedkojjaa
open Go.RowKit
/-- Lists that are short enough to be copied. -/
def SlimV : Nat → List Tm → Prop
  | 0, _ => True
  | n + 1, V => V.length * 72 ≤ 140737488355328 ∧ ∀ i (h : i < V.length), V[i].fs.length * 40 ≤ 140737488355328 ∧ ∀ j (h2 : j < V[i].fs.length), SlimV n (V[i].fs[j]).2
theorem set_heap {w : World} {g o b : Nat} {v : Value} (h : b ≠ g) : (w.setCell ⟨g, o, none⟩ v).heap[b]? = w.heap[b]? := Below.heap_setCell _ _ _ _ h
theorem set_size {w : World} {a : Addr} {v : Value} : (w.setCell a v).heap.size = w.heap.size := by simp [World.setCell]
theorem set_far {w : World} {g o b q : Nat} {v : Value} (h : b ≠ g ∨ q ≠ o) : (w.setCell ⟨g, o, none⟩ v).cell? ⟨b, q, none⟩ = w.cell? ⟨b, q, none⟩ :=
  World.cell?_setCell_other _ _ _ _ (by intro e; cases e; rcases h with h | h <;> exact h rfl)
theorem set_here {w : World} {g o : Nat} {u v : Value} (h : w.cell? ⟨g, o, none⟩ = some u) : (w.setCell ⟨g, o, none⟩ v).cell? ⟨g, o, none⟩ = some v := World.cell?_setCell_same _ _ _ h
/-- The row of fields, j of them done. -/
def FRow (n : Nat) (w0 w : World) (g b off : Nat) (fs : List (ByteArray × List Tm)) (j : Nat) : Prop :=
  g < w.heap.size ∧ (∀ o, w.frozen? ⟨g, o, none⟩ = false) ∧ (∀ q, j * 2 ≤ q → q < fs.length * 2 → w.cell? ⟨g, q, none⟩ = w0.cell? ⟨b, off + q, none⟩) ∧
  ∀ i (h : i < fs.length), i < j → ∃ (tl tc : Nat) (t : Option Addr), w.cell? ⟨g, i * 2, none⟩ = some (.string fs[i].1) ∧ w.cell? ⟨g, i * 2 + 1, none⟩ = some (.slice t tl tc) ∧ OwV (fun b => g < b) w n t tl tc fs[i].2
theorem FRow.below {n : Nat} {w0 w w' : World} {g b off : Nat} {fs : List (ByteArray × List Tm)} {j : Nat} (h : FRow n w0 w g b off fs j) (hb : Below w.heap.size w w') : FRow n w0 w' g b off fs j := by
  obtain ⟨h1, h2, h3, h4⟩ := h
  have hh := hb.block g h1
  refine ⟨Nat.lt_of_lt_of_le h1 hb.size, fun o => (frozen_of_heap hh o).trans (h2 o), fun q a b => (cell_of_heap hh q).trans (h3 q a b), fun i a b => ?_⟩
  obtain ⟨tl, tc, t, c0, c1, i2⟩ := h4 i a b
  exact ⟨tl, tc, t, (cell_of_heap hh _).trans c0, (cell_of_heap hh _).trans c1, i2.below hb⟩
theorem FRow.step {n : Nat} {w0 w w' : World} {g b off : Nat} {fs : List (ByteArray × List Tm)} {j : Nat} (h : FRow n w0 w g b off fs j) (hb : Below w.heap.size w w') (hj : j < fs.length) {tl tc tc0 : Nat} {t t0 : Option Addr} (h0 : w0.cell? ⟨b, off + j * 2, none⟩ = some (.string fs[j].1)) (h1 : w0.cell? ⟨b, off + j * 2 + 1, none⟩ = some (.slice t0 tl tc0))
    {B : Nat} (hB : w.heap.size ≤ B) (ho : OwV (fun b => B ≤ b) w' n t tl tc fs[j].2) : FRow n w0 (w'.setCell ⟨g, j * 2 + 1, none⟩ (.slice t tl tc)) g b off fs (j + 1) := by
  have hl := h.1
  obtain ⟨g1, g2, g3, g4⟩ := h.below hb
  refine ⟨by rw [set_size]; exact g1, fun o => by rw [World.frozen?_setCell]; exact g2 o, fun q a b => ?_, fun i a b' => ?_⟩
  · rw [set_far (.inr (by omega))]
    exact g3 q (by omega) b
  · by_cases e : i = j
    · subst e
      refine ⟨tl, tc, t, ?_, set_here ((g3 (i * 2 + 1) (by omega) (by omega)).trans (by rw [← Nat.add_assoc]; exact h1)), ho.to (Nat.le_of_eq set_size.symm) fun b hb _ => ⟨by omega, set_heap (by omega)⟩⟩
      rw [set_far (.inr (by omega))]
      exact (g3 (i * 2) (by omega) (by omega)).trans h0
    · obtain ⟨tl', tc', t', c0, c1, i2⟩ := g4 i a (by omega)
      exact ⟨tl', tc', t', (set_far (.inr (by omega))).trans c0, (set_far (.inr (by omega))).trans c1, i2.to (Nat.le_of_eq set_size.symm) fun b hb _ => ⟨hb, set_heap (by omega)⟩⟩
/-- All of them done. -/
theorem FRow.done {n : Nat} {w0 w : World} {g b off : Nat} {fs : List (ByteArray × List Tm)} (h : FRow n w0 w g b off fs fs.length) (hm : (fs.length : Int) ≤ 9223372036854775807) {B : Nat} (hB : B < g) : OwF (fun b => B < b) (fun t tl tc V => OwV (fun b => B < b) w n t tl tc V) w (some ⟨g, 0, none⟩) fs.length fs := by
  refine ⟨rfl, hm, fun i hi => ?_⟩
  obtain ⟨tl, tc, t, c0, c1, i2⟩ := h.2.2.2 i hi hi
  exact ⟨g, 0, tl, tc, t, rfl, hB, h.1, h.2.1, by rw [Nat.zero_add]; exact c0, by rw [Nat.zero_add]; exact c1, i2.imp fun b hb _ => by omega⟩
/-- The row of terms, k of them done. -/
def TRow (n : Nat) (w0 w : World) (g b off : Nat) (A : List Tm) (k : Nat) : Prop :=
  g < w.heap.size ∧ (∀ o, w.frozen? ⟨g, o, none⟩ = false) ∧ (∀ q, k * 8 ≤ q → q < A.length * 8 → w.cell? ⟨g, q, none⟩ = w0.cell? ⟨b, off + q, none⟩) ∧
  ∀ i (h : i < A.length), i < k → OwT (fun b => g < b) (fun t tl tc V => OwV (fun b => g < b) w n t tl tc V) w g (i * 8) A[i]
theorem TRow.below {n : Nat} {w0 w w' : World} {g b off : Nat} {A : List Tm} {k : Nat} (h : TRow n w0 w g b off A k) (hb : Below w.heap.size w w') : TRow n w0 w' g b off A k := by
  obtain ⟨h1, h2, h3, h4⟩ := h
  have hh := hb.block g h1
  exact ⟨Nat.lt_of_lt_of_le h1 hb.size, fun o => (frozen_of_heap hh o).trans (h2 o), fun q a b => (cell_of_heap hh q).trans (h3 q a b), fun i a b => OwT.to' hb.size (fun b hp lt => ⟨hp, hb.block b lt⟩) (fun t tl tc V h => h.below hb) (fun r _ => cell_of_heap hh _) (h4 i a b)⟩
theorem TRow.step {n : Nat} {w0 w w' : World} {g b off : Nat} {A : List Tm} {k : Nat} (h : TRow n w0 w g b off A k) (hb : Below w.heap.size w w') (hk : k < A.length) (hi : InT (fun t tl tc V => InV w0 n t tl tc V) w0 b (off + k * 8) A[k])
    {f : Option Addr} {fl fc : Nat} (hf : OwF (fun b => g < b) (fun t tl tc V => OwV (fun b => g < b) w' n t tl tc V) w' f fl (A[k]).fs) : TRow n w0 (w'.setCell ⟨g, k * 8 + 7, none⟩ (.slice f fl fc)) g b off A (k + 1) := by
  obtain ⟨g1, g2, g3, g4⟩ := h.below hb
  have hP : ∀ b, g < b → b < w'.heap.size → g < b ∧ (w'.setCell ⟨g, k * 8 + 7, none⟩ (.slice f fl fc)).heap[b]? = w'.heap[b]? := fun b hb _ => ⟨hb, set_heap (by omega)⟩
  have hI : ∀ t tl tc V, OwV (fun b => g < b) w' n t tl tc V → OwV (fun b => g < b) (w'.setCell ⟨g, k * 8 + 7, none⟩ (.slice f fl fc)) n t tl tc V := fun t tl tc V h => h.to (Nat.le_of_eq set_size.symm) hP
  refine ⟨by rw [set_size]; exact g1, fun o => by rw [World.frozen?_setCell]; exact g2 o, fun q a b => ?_, fun i a b' => ?_⟩
  · rw [set_far (.inr (by omega))]
    exact g3 q (by omega) b
  · by_cases e : i = k
    · subst e
      have old : ∀ r, r < 8 → ∀ {v : Value}, w0.cell? ⟨b, off + i * 8 + r, none⟩ = some v → w'.cell? ⟨g, i * 8 + r, none⟩ = some v := fun r hr v hv => (g3 (i * 8 + r) (by omega) (by omega)).trans (by rw [← Nat.add_assoc]; exact hv)
      have old' : ∀ r, r < 7 → ∀ {v : Value}, w0.cell? ⟨b, off + i * 8 + r, none⟩ = some v → (w'.setCell ⟨g, i * 8 + 7, none⟩ (.slice f fl fc)).cell? ⟨g, i * 8 + r, none⟩ = some v := fun r hr v hv => (set_far (.inr (by omega))).trans (old r (by omega) hv)
      generalize A[i] = x at *
      obtain ⟨k, lo, hi', s, y, m, o, fs⟩ := x
      obtain ⟨lt, f0, fl0, fc0, c0, c1, c2, c3, c4, c5, c6, c7, _⟩ := hi
      exact ⟨f, fl, fc, old' 0 (by omega) c0, old' 1 (by omega) c1, old' 2 (by omega) c2, old' 3 (by omega) c3, old' 4 (by omega) c4, old' 5 (by omega) c5, old' 6 (by omega) c6, set_here (old 7 (by omega) c7), hf.to (Nat.le_of_eq set_size.symm) hP hI⟩
    · exact OwT.to' (Nat.le_of_eq set_size.symm) hP hI (fun r hr => set_far (.inr (by omega))) (g4 i a (by omega))
theorem TRow.done {n : Nat} {w0 w : World} {g b off : Nat} {A : List Tm} {tc : Nat} (h : TRow n w0 w g b off A A.length) (hm : (A.length : Int) ≤ 9223372036854775807) {B : Nat} (hB : B ≤ g) : OwV (fun b => B ≤ b) w (n + 1) (some ⟨g, 0, none⟩) A.length tc A := by
  refine ⟨rfl, hm, fun i hi => ⟨g, 0, rfl, hB, h.1, h.2.1, ?_⟩⟩
  exact OwT.to' (Nat.le_refl _) (fun b hb _ => ⟨by omega, rfl⟩) (fun t tl tc V h => h.imp fun b hb _ => by omega) (fun r _ => by rw [Nat.zero_add]) (h.2.2.2 i hi hi)
/-- The cells of a value's terms are there. -/
theorem cells_inT {n : Nat} {w : World} {t : Option Addr} {tc : Nat} {A : List Tm} (h : InV w (n + 1) t A.length tc A) : A.length = 0 ∨ ∃ b off, t = some ⟨b, off, none⟩ ∧ ∀ j, j < A.length * 8 → ∃ u, w.cell? ⟨b, off + j, none⟩ = some u ∧ u.oneCell' = true := by
  by_cases h0 : A.length = 0
  · exact .inl h0
  · obtain ⟨b, off, e, _⟩ := h.2.2 0 (by omega)
    refine .inr ⟨b, off, e, fun j hj => ?_⟩
    obtain ⟨b', off', e', h2⟩ := h.2.2 (j / 8) (by omega)
    obtain ⟨rfl, rfl⟩ : b = b' ∧ off = off' := by rw [e] at e'; cases e'; exact ⟨rfl, rfl⟩
    generalize A[j / 8] = x at h2
    obtain ⟨k, lo, hi, s, y, m, o, fs⟩ := x
    obtain ⟨lt, f, fl, fc, c0, c1, c2, c3, c4, c5, c6, c7, _⟩ := h2
    have ej : off + j = off + j / 8 * 8 + j % 8 := by omega
    rw [ej]
    have hr : j % 8 < 8 := Nat.mod_lt _ (by omega)
    generalize j % 8 = r at hr
    match r, hr with
    | 0, _ => exact ⟨_, c0, rfl⟩
    | 1, _ => exact ⟨_, c1, rfl⟩
    | 2, _ => exact ⟨_, c2, rfl⟩
    | 3, _ => exact ⟨_, c3, rfl⟩
    | 4, _ => exact ⟨_, c4, rfl⟩
    | 5, _ => exact ⟨_, c5, rfl⟩
    | 6, _ => exact ⟨_, c6, rfl⟩
    | 7, _ => exact ⟨_, c7, rfl⟩
    | r + 8, h => omega
theorem cells_inF {I : Option Addr → Nat → Nat → List Tm → Prop} {w : World} {f : Option Addr} {fs : List (ByteArray × List Tm)} (h : InF I w f fs.length fs) : fs.length = 0 ∨ ∃ b off, f = some ⟨b, off, none⟩ ∧ ∀ j, j < fs.length * 2 → ∃ u, w.cell? ⟨b, off + j, none⟩ = some u ∧ u.oneCell' = true := by
  by_cases h0 : fs.length = 0
  · exact .inl h0
  · obtain ⟨b, off, _, _, _, e, _⟩ := h.2.2 0 (by omega)
    refine .inr ⟨b, off, e, fun j hj => ?_⟩
    obtain ⟨b', off', tl, tc, t, e', _, c0, c1, _⟩ := h.2.2 (j / 2) (by omega)
    obtain ⟨rfl, rfl⟩ : b = b' ∧ off = off' := by rw [e] at e'; cases e'; exact ⟨rfl, rfl⟩
    have ej : off + j = off + j / 2 * 2 + j % 2 := by omega
    rw [ej]
    have hr : j % 2 < 2 := Nat.mod_lt _ (by omega)
    generalize j % 2 = r at hr
    match r, hr with
    | 0, _ => exact ⟨_, c0, rfl⟩
    | 1, _ => exact ⟨_, c1, rfl⟩
    | r + 2, h => omega

end Go.Proofs.Ytkmbhjcedkojjaa
