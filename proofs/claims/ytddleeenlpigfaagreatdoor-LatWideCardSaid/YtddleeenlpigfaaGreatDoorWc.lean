/- FOR LatWide: rows of terms that the law makes. -/
import Derived.Test.YtddleeenlpigfaaGreatDoorWb
import Derived.Maps.AppendAt
namespace Go.Proofs.YtddleeenlpigfaaGreatDoor.Lw
open Go.RowKit
def tc1 (x : Tm) : List Value := [.int .i64 x.k, .int .i64 x.lo, .int .i64 x.hi, .string x.s, .bool x.y, .bool x.m, .bool x.o, .slice none 0 0]
def cl (A : List Tm) : List Value := (A.map tc1).flatten
theorem cl_snoc (A : List Tm) (x : Tm) : cl (A ++ [x]) = cl A ++ tc1 x := by simp [cl]
theorem row_inV {w : World} {base k : Nat} {v : Value} {A : List Tm} (h : w.ownsRow base 31 8 v k (cl A)) (hA : A.length = k) (hfs : ∀ x ∈ A, x.fs = []) (hk : k ≤ 1000) : ∃ t c, v = .slice t k c ∧ InV w 1 t k c A := by
  rcases h.2 with ⟨rfl, hn0⟩ | ⟨g, cap, cur, rfl, hb, hg, hcap, hm, hsz, htake⟩
  · obtain rfl : k = 0 := hn0
    obtain rfl : A = [] := List.length_eq_zero_iff.1 hA
    exact ⟨none, 0, rfl, inV_nil⟩
  · refine ⟨_, cap, rfl, hA, by omega, fun i hi => ?_⟩
    have hc : ∀ r, r < 8 → w.cell? ⟨g, i * 8 + r, none⟩ = (tc1 A[i])[r]? := fun r hr => by
      have h1 := h.cells (g := g) rfl (i * 8 + r)
      have h2 : (cl A)[i * 8 + r]? = (tc1 A[i])[r]? := by
        unfold cl
        rw [flat_get _ i r (fun x hx => by obtain ⟨y, _, rfl⟩ := List.mem_map.1 hx; rfl) hr (by rw [List.length_map]; exact hi), List.getElem_map]
      obtain ⟨u, hu⟩ : ∃ u, (tc1 A[i])[r]? = some u := by
        cases hx : (tc1 A[i])[r]? with
        | some u => exact ⟨u, rfl⟩
        | none => exact absurd (List.getElem?_eq_none_iff.1 hx) (show ¬ 8 ≤ r by omega)
      rw [hu] at h2 ⊢
      have := h1 u h2
      rwa [show (⟨g, 0, none⟩ : Addr).add (i * 8 + r) = ⟨g, i * 8 + r, none⟩ by unfold Addr.add; split <;> simp_all] at this
    have hf := hfs A[i] (List.getElem_mem hi)
    have hlt := (Array.getElem?_eq_some_iff.1 hg).1
    refine ⟨g, 0, rfl, ?_⟩
    rw [Nat.zero_add]
    generalize A[i] = x at hc hf
    obtain ⟨k0, lo, hi2, s, y, m, o, fs⟩ := x
    obtain rfl : fs = [] := hf
    exact ⟨hlt, none, 0, 0, by have := hc 0 (by omega); rw [Nat.add_zero] at this; exact this, hc 1 (by omega), hc 2 (by omega), hc 3 (by omega), hc 4 (by omega), hc 5 (by omega), hc 6 (by omega), hc 7 (by omega), rfl, by decide, fun i hi => absurd hi (Nat.not_lt_zero _)⟩
theorem iv3 (k : Nat) : iv 3 1 (k + 1) = iv 3 1 k ++ [rg1 (3 * k) (3 * k + 1)] := by simpa using iv_succ 3 1 k
theorem iv5 (k : Nat) : iv 5 3 (k + 1) = iv 5 3 k ++ [rg1 (5 * k) (5 * k + 3)] := by simpa using iv_succ 5 3 k
theorem w_new' (w : World) (o : Obj) : (w.alloc o).heap[w.heap.size]? = some o := heap_alloc_new w o
theorem cell_new {W : World} {b i : Nat} {vs : Array Value} {t : TypeId} {v : Value} (h : W.heap[b]? = some (.cells vs t)) (hv : vs.toList[i]? = some v) : W.cell? ⟨b, i, none⟩ = some v := by
  have : vs[i]? = some v := by rw [← hv]; simp
  simp [World.cell?, h, this]
/-- Between two rounds of a loop that appends. -/
def Rwl (w0 : World) (A : List Tm) (k : Nat) (v : Value) (w : World) : Prop := w.ownsRow w0.heap.size 31 8 v k (cl A) ∧ Below w0.heap.size w0 w
theorem Rwl.first (w : World) : Rwl w [] 0 (.slice none 0 0) w := ⟨World.ownsRow_nil _ _ _ _, Below.refl _ _⟩
end Go.Proofs.YtddleeenlpigfaaGreatDoor.Lw
