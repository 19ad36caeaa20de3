/- FOR plain: a path appended to nil; a box that is stored whole. -/
import Derived.Test.YtngikbimlhoigaaDoorXg
import Derived.Lib.AppendZeros
namespace Go.Proofs.YtngikbimlhoigaaDoor
open Go.RowKit
theorem setCell_heap {W : World} {b i : Nat} {vs : Array Value} {t : TypeId} {v : Value} (h : W.heap[b]? = some (.cells vs t)) : (W.setCell ⟨b, i, none⟩ v).heap[b]? = some (.cells (vs.setIfInBounds i v) t) := by
  obtain ⟨hlt, hk⟩ := Array.getElem?_eq_some_iff.1 h
  show (W.heap.modify b _)[b]? = _
  rw [Array.getElem?_eq_getElem (by rw [Array.size_modify]; exact hlt), Array.getElem_modify_self, hk]
  rfl
theorem BoxH.put {W : World} {b : Nat} {h : Hd} (hb : BoxH W b h) (x : Hd) : BoxH (putHd W b 0 x) b x := by
  have h1 := setCell_heap (i := 0) (v := .int .i64 x.op) hb
  have h2 := setCell_heap (i := 0 + 1) (v := .int .i64 x.n) h1
  have h3 := setCell_heap (i := 0 + 2) (v := .string x.s) h2
  have h4 := setCell_heap (i := 0 + 3) (v := .slice x.p x.pl x.pc) h3
  have h5 := setCell_heap (i := 0 + 4) (v := .slice x.q x.ql x.qc) h4
  have h6 := setCell_heap (i := 0 + 5) (v := .bool x.o) h5
  have h7 := setCell_heap (i := 0 + 6) (v := .slice x.k x.kl x.kc) h6
  unfold putHd BoxH
  rw [h7]
  simp [Hd.vals]
theorem StrRow_news {w W : World} {b off l : Nat} {pa : List ByteArray} (h : Nm.StrRow w (some ⟨b, off, none⟩) l pa) (hb : Below w.heap.size w W) : ∀ j u, (pa.map Value.string)[j]? = some u → W.cell? ((⟨b, off, none⟩ : Addr).add j) = some u := fun j u hu => by
  rw [List.getElem?_map] at hu
  obtain ⟨x, hx, rfl⟩ := Option.map_eq_some_iff.1 hu
  have hj : j < pa.length := (List.getElem?_eq_some_iff.1 hx).1
  obtain ⟨b', off', e, hl, hc⟩ := h.at_ (by have := h.count; omega)
  cases e
  rw [show (⟨b, off, none⟩ : Addr).add j = ⟨b, off + j, none⟩ by unfold Addr.add; split <;> simp_all]
  exact (hb.cell (p := ⟨b, off + j, none⟩) hl).trans (hc j x hx)
/-- A path, appended to nil. -/
theorem path_append (w W : World) {p : Option Addr} {pa : List ByteArray} (pc : Nat) (h : Nm.StrRow w p pa.length pa) (hs : pa.length * 16 ≤ 140737488355328) (hb : Below w.heap.size w W) :
    ∃ t1 k1 W', (Builtin.append_ #[22, 22] 22 #[.slice none 0 0, .slice p pa.length pc]).run Tryd.prog W = .ok (.slice t1 pa.length k1) W' ∧ Below W.heap.size W W' ∧ OwS W' W.heap.size t1 pa.length pa := by
  obtain ⟨i0, hi, hz0, hz1, hz2⟩ := info_parts info9
  have hmx := h.max
  have heach : ∀ x ∈ pa, x.size ≤ 140737488355328 := fun x hx => by
    obtain ⟨i, hi, rfl⟩ := List.getElem_of_mem hx
    exact h.each i _ (List.getElem?_eq_getElem hi)
  by_cases h0 : pa.length = 0
  · obtain rfl : pa = [] := List.length_eq_zero_iff.1 h0
    cases p with
    | none => exact ⟨none, 0, W, by simp [Builtin.append_, run_underlying Tryd.underlying22, sizeOf, typeInfo, zeroValue, hi, hz0, Builtin.lenOf, go_sem], Below.refl _ _, ⟨rfl, by simp, by simp, fun h => by simp at h⟩⟩
    | some ad =>
      obtain ⟨v', w', hrun, hown, hg, hiff, hat⟩ := run_append_own_at (P := Tryd.prog) (w := W) W.heap.size 22 22 9 i0 (.string ByteArray.empty) 1 16 Tryd.underlying22 hi hz0 hz1 hz2 rfl (by decide) (.slice none 0 0) 0 [] (World.ownsRow_nil _ _ _ _) ad 0 pc [] rfl (by simp) (by simp) (by decide) (by decide) (Nat.le_refl _)
      obtain rfl := hiff.2 ⟨rfl, rfl⟩
      exact ⟨none, 0, w', hrun, (Below.refl _ _).grown hg (Nat.le_refl _) (fun r e => by simp [Value.ownBlock] at e), ⟨rfl, by simp, by simp, fun h => by simp at h⟩⟩
  · obtain ⟨b, off, rfl, hl, hc⟩ := h.at_ (by omega)
    obtain ⟨v', w', hrun, hown, hg, hiff, hat⟩ := run_append_own_at (P := Tryd.prog) (w := W) W.heap.size 22 22 9 i0 (.string ByteArray.empty) 1 16 Tryd.underlying22 hi hz0 hz1 hz2 rfl (by decide) (.slice none 0 0) 0 [] (World.ownsRow_nil _ _ _ _) ⟨b, off, none⟩ pa.length pc (pa.map Value.string) (by simp) (StrRow_news h hb) (by intro u hu; obtain ⟨x, _, rfl⟩ := List.mem_map.1 hu; rfl) (by unfold maxLen; omega) (by omega) (Nat.le_refl _)
    rw [List.nil_append, Nat.zero_add] at hown
    obtain ⟨m, hm⟩ : ∃ m, pa.length = m + 1 := ⟨pa.length - 1, by omega⟩
    rcases hown.2 with ⟨rfl, hn0⟩ | ⟨g, cap, cur, rfl, hgb, hg1, hcap, hmx2, hsz, htake⟩
    · omega
    · refine ⟨_, cap, w', hrun, (Below.refl _ _).grown hg (Nat.le_refl _) (fun r e => by simp [Value.ownBlock] at e), ⟨rfl, hmx, heach, fun _ => ⟨g, rfl, hgb, (Array.getElem?_eq_some_iff.1 hg1).1, fun o => by simp [World.frozen?, hg1], fun i x hx => ?_⟩⟩⟩
      have := hown.cells (g := g) rfl i (.string x) (by rw [List.getElem?_map, hx]; rfl)
      rwa [show (⟨g, 0, none⟩ : Addr).add i = ⟨g, i, none⟩ by unfold Addr.add; split <;> simp_all] at this
end Go.Proofs.YtngikbimlhoigaaDoor
