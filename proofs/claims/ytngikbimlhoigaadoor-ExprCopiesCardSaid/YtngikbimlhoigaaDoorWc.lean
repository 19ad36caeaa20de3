/- BETWEEN TWO ROUNDS OF Copy. -/
import Derived.Test.YtngikbimlhoigaaDoorWb
namespace Go.Proofs.YtngikbimlhoigaaDoor
open Go.RowKit
/-- No list is longer than what memory holds. -/
def Slim : Nat → Ex → Prop
  | 0, _ => False
  | n + 1, x => x.path.length * 16 ≤ 140737488355328 ∧ x.ps.length * 128 ≤ 140737488355328 ∧ x.ks.length * 112 ≤ 140737488355328 ∧ (∀ i (h : i < x.ps.length), Slim n x.ps[i].2) ∧ ∀ i (h : i < x.ks.length), Slim n x.ks[i]
/-- A copy: the same expression in memory of the call's own. -/
def CopyP (w : World) (n : Nat) (x : Ex) (e : Ending) (w' : World) : Prop := ∃ h' : Hd, e = .returned h'.agg ∧ Below w.heap.size w w' ∧ OwX w' w.heap.size n h' x
def hd0 : Hd := ⟨0, 0, ByteArray.empty, none, 0, 0, none, 0, 0, false, none, 0, 0⟩
theorem above_of {B : Nat} {W W' : World} (h : Below W.heap.size W W') : Above B W W' := ⟨h.size, fun i _ hi => h.block i hi⟩
theorem hd_of {W w : World} {g b o o' : Nat} {y : Hd} (e : ∀ r, r < 7 → W.cell? ⟨g, o + r, none⟩ = w.cell? ⟨b, o' + r, none⟩) (h : HdAt w b o' y) : HdAt W g o y :=
  ⟨(e 0 (by omega)).trans h.c0, (e 1 (by omega)).trans h.c1, (e 2 (by omega)).trans h.c2, (e 3 (by omega)).trans h.c3, (e 4 (by omega)).trans h.c4, (e 5 (by omega)).trans h.c5, (e 6 (by omega)).trans h.c6⟩
theorem putHd_above {w : World} {B b o : Nat} {x : Hd} (h : b < B) : Above B w (putHd w b o x) :=
  ⟨(putHd_grown w b o x).size, fun i hi hl => (putHd_grown w b o x).block i hl (fun e => by cases e; omega)⟩
/-- A cloned row, k of its heads copied. -/
def CRow (w W : World) (d n lo hi B2 : Nat) (t q : Option Addr) (L : List Ex) (k : Nat) : Prop :=
  0 < L.length → ∃ g b off, t = some ⟨g, 0, none⟩ ∧ q = some ⟨b, off, none⟩ ∧ lo ≤ g ∧ g < hi ∧ hi ≤ W.heap.size ∧ (∀ o, W.frozen? ⟨g, o, none⟩ = false) ∧
    (∀ j, k * (d + 7) ≤ j → j < L.length * (d + 7) → W.cell? ⟨g, j, none⟩ = w.cell? ⟨b, off + j, none⟩) ∧
    ∀ i (h : i < L.length), i < k → (∀ r, r < d → W.cell? ⟨g, i * (d + 7) + r, none⟩ = w.cell? ⟨b, off + (i * (d + 7) + r), none⟩) ∧ ∃ x, HdAt W g (i * (d + 7) + d) x ∧ OwX W B2 n x L[i]
theorem CRow.keep {w W W' : World} {d n lo hi B2 : Nat} {t q : Option Addr} {L : List Ex} {k : Nat} (h : CRow w W d n lo hi B2 t q L k) (ha : Above B2 W W')
    (hc : ∀ b, lo ≤ b → b < hi → b < W.heap.size → ∀ o, W'.cell? ⟨b, o, none⟩ = W.cell? ⟨b, o, none⟩ ∧ W'.frozen? ⟨b, o, none⟩ = W.frozen? ⟨b, o, none⟩) : CRow w W' d n lo hi B2 t q L k := fun h0 => by
  obtain ⟨g, b, off, h1, h2, h3, h4, h5, h6, h7, h8⟩ := h h0
  have e : ∀ o, W'.cell? ⟨g, o, none⟩ = W.cell? ⟨g, o, none⟩ := fun o => (hc g h3 h4 (by omega) o).1
  refine ⟨g, b, off, h1, h2, h3, h4, Nat.le_trans h5 ha.1, fun o => ((hc g h3 h4 (by omega) o).2).trans (h6 o), fun j a c => (e j).trans (h7 j a c), fun i hi hk => ?_⟩
  obtain ⟨h9, x, h10, h11⟩ := h8 i hi hk
  exact ⟨fun r hr => (e _).trans (h9 r hr), x, hd_of (fun r _ => e _) h10, h11.keep ha⟩
theorem CRow.step {w W W' : World} {d n lo hi B2 : Nat} {t q : Option Addr} {L : List Ex} {k : Nat} (h : CRow w W d n lo hi B2 t q L k) (hb : Below W.heap.size W W') : CRow w W' d n lo hi B2 t q L k :=
  h.keep (above_of hb) (fun b _ _ hl o => ⟨hb.cell (p := ⟨b, o, none⟩) hl, hb.frozen (p := ⟨b, o, none⟩) hl⟩)
theorem CRow.other {w W : World} {d n lo hi B2 g o : Nat} {x : Hd} {t q : Option Addr} {L : List Ex} {k : Nat} (h : CRow w W d n lo hi B2 t q L k) (hg : g < B2) (hn : g < lo ∨ hi ≤ g) : CRow w (putHd W g o x) d n lo hi B2 t q L k :=
  h.keep (putHd_above hg) (fun b h1 h2 _ o => ⟨putHd_far (by omega), putHd_frozen _⟩)
/-- The head at k as it lies. -/
theorem CRow.head {w W : World} {d n lo hi B2 g b off : Nat} {t q : Option Addr} {L : List Ex} {k : Nat} {y : Hd} (h : CRow w W d n lo hi B2 t q L k) (hk : k < L.length) (ht : t = some ⟨g, 0, none⟩) (hq : q = some ⟨b, off, none⟩) (hy : HdAt w b (off + k * (d + 7) + d) y) :
    HdAt W g (k * (d + 7) + d) y := by
  obtain ⟨g', b', off', rfl, rfl, h3, h4, h5, h6, h7, h8⟩ := h (by omega)
  cases ht
  cases hq
  have h9 : (k + 1) * (d + 7) ≤ L.length * (d + 7) := Nat.mul_le_mul_right _ hk
  rw [Nat.succ_mul] at h9
  exact hd_of (fun r hr => by
    have := h7 (k * (d + 7) + d + r) (by omega) (by omega)
    rw [show off + (k * (d + 7) + d + r) = off + k * (d + 7) + d + r by omega] at this
    exact this) hy
theorem CRow.put {w W : World} {d n lo hi B2 g b off : Nat} {t q : Option Addr} {L : List Ex} {k : Nat} {x y : Hd} (h : CRow w W d n lo hi B2 t q L k) (hk : k < L.length) (ht : t = some ⟨g, 0, none⟩) (hq : q = some ⟨b, off, none⟩) (hy : HdAt w b (off + k * (d + 7) + d) y) (hB : hi ≤ B2) (hx : OwX W B2 n x L[k]) :
    CRow w (putHd W g (k * (d + 7) + d) x) d n lo hi B2 t q L (k + 1) := by
  have hh := h.head hk ht hq hy
  intro h0
  obtain ⟨g', b', off', rfl, rfl, h3, h4, h5, h6, h7, h8⟩ := h h0
  cases ht
  cases hq
  have ha : Above B2 W (putHd W g (k * (d + 7) + d) x) := putHd_above (by omega)
  refine ⟨g, b, off, rfl, rfl, h3, h4, Nat.le_trans h5 ha.1, fun o => (putHd_frozen _).trans (h6 o), fun j a c => ?_, fun i hi hk2 => ?_⟩
  · rw [Nat.succ_mul] at a
    rw [putHd_other (by omega)]
    exact h7 j (by omega) c
  · by_cases e : i = k
    · subst e
      have h9 : (i + 1) * (d + 7) ≤ L.length * (d + 7) := Nat.mul_le_mul_right _ hk
      rw [Nat.succ_mul] at h9
      exact ⟨fun r hr => by rw [putHd_other (by omega)]; exact h7 _ (by omega) (by omega), x, putHd_here hh, hx.keep ha⟩
    · have hlt : i < k := by omega
      have h9 : (i + 1) * (d + 7) ≤ k * (d + 7) := Nat.mul_le_mul_right _ hlt
      rw [Nat.succ_mul] at h9
      obtain ⟨h10, z, h11, h12⟩ := h8 i hi hlt
      exact ⟨fun r hr => by rw [putHd_other (by omega)]; exact h10 r hr, z, hd_of (fun r hr => putHd_other (by omega)) h11, h12.keep ha⟩
/-- What a clone is, as a row of which nothing is copied. -/
theorem crow_of {w W W' : World} {d n lo hi B2 l : Nat} {t t' q : Option Addr} {L : List Ex} {c : Nat} {e : Ending} (h : CloneP (d + 7) l q W e W') (he : e = .returned (.slice t l c)) (hl : L.length = l) (hb : Below w.heap.size w W) (hlo : lo ≤ W.heap.size) (hhi : hi = W'.heap.size) (hq : ∀ j, 0 < L.length → ∀ b off, q = some ⟨b, off, none⟩ → j < L.length * (d + 7) → b < w.heap.size) (_ht : t' = t) : CRow w W' d n lo hi B2 t q L 0 := fun h0 => by
  obtain ⟨t2, c2, he2, hB, hr⟩ := h
  rw [he] at he2
  cases he2
  rcases hr with hr | ⟨g, b, off, rfl, rfl, h1, h2, h3, h4⟩
  · omega
  · refine ⟨g, b, off, rfl, rfl, by omega, by omega, by omega, h3, fun j _ hj => ?_, fun i _ hi => absurd hi (Nat.not_lt_zero _)⟩
    rw [h4 j (by rw [← hl]; exact hj)]
    exact hb.cell (p := ⟨b, off + j, none⟩) (hq j h0 b off rfl hj)
end Go.Proofs.YtngikbimlhoigaaDoor
