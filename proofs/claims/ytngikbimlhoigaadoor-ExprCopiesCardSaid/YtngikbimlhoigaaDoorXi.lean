/- FOR plain: the beginning, what an append leaves alone, the end. -/
import Derived.Test.YtngikbimlhoigaaDoorXh
namespace Go.Proofs.YtngikbimlhoigaaDoor
open Go.RowKit
theorem heap_cell2 {W : World} {b i : Nat} {vs : Array Value} {t : TypeId} {v : Value} (h : W.heap[b]? = some (.cells vs t)) (hv : vs[i]? = some v) : W.cell? ⟨b, i, none⟩ = some v := by simp [World.cell?, h, hv]
theorem BoxH.put3 {W : World} {b : Nat} {h : Hd} (hb : BoxH W b h) (a : Option Addr) (l c : Nat) : BoxH (W.setCell ⟨b, 3, none⟩ (.slice a l c)) b { h with p := a, pl := l, pc := c } := setCell_heap (i := 3) (v := .slice a l c) hb
/-- Between two rounds over the pairs, over the Kids. -/
def PRp (w : World) (n : Nat) (h : Hd) (pa : List ByteArray) (t1 : Option Addr) (k1 : Nat) (ps : List (ByteArray × Ex)) (j : Nat) (X : World) : Prop :=
  ∃ (av : Option Addr) (cv : Nat) (LP : List PX), PI w n h pa t1 k1 av cv none 0 LP [] X ∧ LP.map (fun y => (y.1, y.2.2)) = ps.take j
def PRk (w : World) (n : Nat) (h : Hd) (pa : List ByteArray) (t1 : Option Addr) (k1 : Nat) (ps : List (ByteArray × Ex)) (ks : List Ex) (j : Nat) (X : World) : Prop :=
  ∃ (av : Option Addr) (cv : Nat) (LP : List PX) (au : Option Addr) (cu : Nat) (LK : List HX), PI w n h pa t1 k1 av cv au cu LP LK X ∧ LP.map (fun y => (y.1, y.2.2)) = ps ∧ LK.map (·.2) = ks.take j
variable {w : World} {n : Nat} {h : Hd} {pa : List ByteArray} {t1 : Option Addr} {k1 : Nat} {av : Option Addr} {cv : Nat} {au : Option Addr} {cu : Nat} {LP : List PX} {LK : List HX} {Z w1 X : World}
theorem OwS.toP {W : World} {B l : Nat} {P : Nat → Prop} {a : Option Addr} {pa : List ByteArray} (hP : ∀ b, B ≤ b → b < W.heap.size → P b) (h : OwS W B a l pa) : PwS W P a l pa :=
  ⟨h.count, h.max, h.each, fun h0 => by obtain ⟨b, e, hb, hl, r⟩ := h.at_ h0; exact ⟨b, e, hP b hb hl, hl, r⟩⟩
theorem pi_begin {W W2 : World} (hlow : Below w.heap.size w W) (hz : w.heap.size + 3 ≤ W.heap.size) (hbx : BoxH W w.heap.size h) (hrs : BoxH W (w.heap.size + 1) hd0)
    (hout : BoxH W (w.heap.size + 2) { h with p := none, pl := 0, pc := 0, q := none, ql := 0, qc := 0, k := none, kl := 0, kc := 0 }) (hb : Below W.heap.size W W2) (hp : OwS W2 W.heap.size t1 pa.length pa) :
    PI w n h pa t1 k1 none 0 none 0 [] [] (W2.setCell ⟨w.heap.size + 2, 3, none⟩ (.slice t1 pa.length k1)) := by
  have g2 : W2.grownBy (W2.setCell ⟨w.heap.size + 2, 3, none⟩ (.slice t1 pa.length k1)) (some (w.heap.size + 2)) := grown_set
  have hz2 := hb.size
  refine ⟨(below_step hlow hb).grown g2 (by omega) (fun r e => by cases e; omega), ?_, ?_, Nat.le_trans (by omega) g2.size, ?_, ?_, World.ownsRow_nil _ _ _ _, World.ownsRow_nil _ _ _ _, by simp, by simp, by simp [Value.ownBlock]⟩
  · exact (g2.block _ (by omega) (fun e => by injection e with e; omega)).trans ((hb.block _ hbx.lt).trans hbx)
  · exact (g2.block _ (by omega) (fun e => by injection e with e; omega)).trans ((hb.block _ hrs.lt).trans hrs)
  · exact BoxH.put3 (show BoxH W2 (w.heap.size + 2) _ from (hb.block _ hout.lt).trans hout) t1 pa.length k1
  · refine (hp.toP (P := PP (w.heap.size + 3) (.slice none ([] : List PX).length 0) (.slice none ([] : List HX).length 0)) (fun b hb1 hl => ⟨by omega, by simp [Value.ownBlock], by simp [Value.ownBlock]⟩)).keep (apart_set (by omega))
theorem PI.grownP (hi : PI w n h pa t1 k1 av cv au cu LP LK Z) (hgr : Z.grownBy w1 (Value.slice av LP.length cv).ownBlock) : Below w.heap.size w w1 ∧ BoxH w1 w.heap.size h ∧ BoxH w1 (w.heap.size + 2) { h with p := t1, pl := pa.length, pc := k1, q := av, ql := LP.length, qc := cv, k := au, kl := LK.length, kc := cu } := by
  have hv : ∀ g, (Value.slice av LP.length cv).ownBlock = some g → w.heap.size + 3 ≤ g ∧ g < Z.heap.size := fun g e => hi.rp.lt g e
  have hz := hi.size
  have b1 : ∀ i, i < w.heap.size + 3 → w1.heap[i]? = Z.heap[i]? := fun i hl => hgr.block i (by omega) (fun e => by have := (hv i e.symm).1; omega)
  exact ⟨hi.low.grown hgr hi.low.size (fun r e => by have := (hv r e).1; omega), (b1 _ (by omega)).trans hi.box, (b1 _ (by omega)).trans hi.out⟩
theorem PI.grownK (hi : PI w n h pa t1 k1 av cv au cu LP LK Z) (hgr : Z.grownBy w1 (Value.slice au LK.length cu).ownBlock) : Below w.heap.size w w1 ∧ BoxH w1 w.heap.size h ∧ BoxH w1 (w.heap.size + 2) { h with p := t1, pl := pa.length, pc := k1, q := av, ql := LP.length, qc := cv, k := au, kl := LK.length, kc := cu } := by
  have hv : ∀ g, (Value.slice au LK.length cu).ownBlock = some g → w.heap.size + 3 ≤ g ∧ g < Z.heap.size := fun g e => hi.rk.lt g e
  have hz := hi.size
  have b1 : ∀ i, i < w.heap.size + 3 → w1.heap[i]? = Z.heap[i]? := fun i hl => hgr.block i (by omega) (fun e => by have := (hv i e.symm).1; omega)
  exact ⟨hi.low.grown hgr hi.low.size (fun r e => by have := (hv r e).1; omega), (b1 _ (by omega)).trans hi.box, (b1 _ (by omega)).trans hi.out⟩
/-- What a call made anew lies in neither row. -/
theorem PI.fresh {Zn : World} (hi : PI w n h pa t1 k1 av cv au cu LP LK Z) {x : Hd} {ye : Ex} (hO : OwX Zn Z.heap.size n x ye) : PwX Zn (PP (w.heap.size + 3) (.slice av LP.length cv) (.slice au LK.length cu)) n x ye :=
  hO.toP (fun b hb _ => ⟨Nat.le_trans hi.size hb, fun e => by have := (hi.rp.lt b e).2; omega, fun e => by have := (hi.rk.lt b e).2; omega⟩)
theorem row_frozen {W : World} {base e size m g : Nat} {v : Value} {xs : List Value} (h : W.ownsRow base e size v m xs) (hg : v.ownBlock = some g) : g < W.heap.size ∧ ∀ o, W.frozen? ⟨g, o, none⟩ = false := by
  rcases h.2 with ⟨rfl, _⟩ | ⟨g', cap, cur, rfl, _, hgb, _⟩
  · simp [Value.ownBlock] at hg
  · obtain rfl : g' = g := by simpa [Value.ownBlock] using hg
    exact ⟨(Array.getElem?_eq_some_iff.1 hgb).1, fun o => by simp [World.frozen?, hgb]⟩
theorem row_pos {W : World} {base e size l c : Nat} {a : Option Addr} {xs : List Value} (h : W.ownsRow base e size (.slice a l c) l xs) (h0 : 0 < l) : ∃ g, a = some ⟨g, 0, none⟩ ∧ base ≤ g := by
  rcases h.2 with ⟨_, hn0⟩ | ⟨g', cap, cur, he, hb, _⟩
  · omega
  · injection he with he
    exact ⟨g', he, hb⟩
/-- All is copied. -/
theorem PI.done {op m : Int} {s : ByteArray} {o : Bool} {ps : List (ByteArray × Ex)} {ks : List Ex} (hi : PI w n h pa t1 k1 av cv au cu LP LK X) (hP : LP.map (fun y => (y.1, y.2.2)) = ps) (hK : LK.map (·.2) = ks) (e1 : h.op = op) (e2 : h.n = m) (e3 : h.s = s) (e4 : h.o = o) (hs : s.size ≤ 140737488355328)
    (hl1 : ps.length ≤ 140737488355328) (hl2 : ks.length ≤ 140737488355328) :
    OwX X (w.heap.size + 3) (n + 1) { h with p := t1, pl := pa.length, pc := k1, q := av, ql := LP.length, qc := cv, k := au, kl := LK.length, kc := cu } (.mk op m s pa ps o ks) := by
  subst hP hK
  refine ⟨e1, e2, e3, e4, hs, ⟨rfl, hi.pa.max, hi.pa.each, fun h0 => ?_⟩, ⟨by simp, by simpa using hl1, fun p hp => ?_, fun h0 => ?_⟩, ⟨by simp, by simpa using hl2, fun h0 => ?_⟩⟩
  · obtain ⟨b, e, hb, hl, r⟩ := hi.pa.at_ h0
    exact ⟨b, e, hb.1, hl, r⟩
  · obtain ⟨y, hy, rfl⟩ := List.mem_map.1 hp
    exact (hi.hp y hy).1
  · obtain ⟨g, rfl, hg⟩ := row_pos hi.rp h0
    obtain ⟨f1, f2⟩ := row_frozen hi.rp (g := g) rfl
    refine ⟨g, rfl, hg, f1, f2, fun i hi0 => ?_⟩
    have hi2 : i < LP.length := by simpa using hi0
    have hc : ∀ r, r < 8 → X.cell? ⟨g, i * 8 + r, none⟩ = (Value.string LP[i].1 :: LP[i].2.1.vals.toList)[r]? := fun r hr => by
      have h1 := hi.rp.cells (g := g) rfl (i * 8 + r)
      have h2 : (pcells LP)[i * 8 + r]? = (Value.string LP[i].1 :: LP[i].2.1.vals.toList)[r]? := by
        unfold pcells
        rw [List.flatMap_def, flat_get _ i r (fun x hx => by obtain ⟨y, _, rfl⟩ := List.mem_map.1 hx; rfl) hr (by rw [List.length_map]; exact hi2), List.getElem_map]
      obtain ⟨u, hu⟩ : ∃ u, (Value.string LP[i].1 :: LP[i].2.1.vals.toList)[r]? = some u := by
        cases hx : (Value.string LP[i].1 :: LP[i].2.1.vals.toList)[r]? with
        | some u => exact ⟨u, rfl⟩
        | none => exact absurd (List.getElem?_eq_none_iff.1 hx) (show ¬ 8 ≤ r by omega)
      rw [hu] at h2 ⊢
      have := h1 u h2
      rwa [show (⟨g, 0, none⟩ : Addr).add (i * 8 + r) = ⟨g, i * 8 + r, none⟩ by unfold Addr.add; split <;> simp_all] at this
    refine ⟨LP[i].2.1, by simpa using hc 0 (by omega), ⟨hc 1 (by omega), hc 2 (by omega), hc 3 (by omega), hc 4 (by omega), hc 5 (by omega), hc 6 (by omega), hc 7 (by omega)⟩, ?_⟩
    have := (hi.hp LP[i] (List.getElem_mem hi2)).2.toB (B := w.heap.size + 3) (fun b hb _ => hb.1)
    simpa using this
  · obtain ⟨g, rfl, hg⟩ := row_pos hi.rk h0
    obtain ⟨f1, f2⟩ := row_frozen hi.rk (g := g) rfl
    refine ⟨g, rfl, hg, f1, f2, fun i hi0 => ?_⟩
    have hi2 : i < LK.length := by simpa using hi0
    have hc : ∀ r, r < 7 → X.cell? ⟨g, i * 7 + r, none⟩ = (LK[i].1.vals.toList)[r]? := fun r hr => by
      have h1 := hi.rk.cells (g := g) rfl (i * 7 + r)
      have h2 : (hcells LK)[i * 7 + r]? = (LK[i].1.vals.toList)[r]? := by
        unfold hcells
        rw [flat_get _ i r (fun x hx => by obtain ⟨y, _, rfl⟩ := List.mem_map.1 hx; rfl) hr (by rw [List.length_map]; exact hi2), List.getElem_map]
      obtain ⟨u, hu⟩ : ∃ u, (LK[i].1.vals.toList)[r]? = some u := by
        cases hx : (LK[i].1.vals.toList)[r]? with
        | some u => exact ⟨u, rfl⟩
        | none => exact absurd (List.getElem?_eq_none_iff.1 hx) (show ¬ 7 ≤ r by omega)
      rw [hu] at h2 ⊢
      have := h1 u h2
      rwa [show (⟨g, 0, none⟩ : Addr).add (i * 7 + r) = ⟨g, i * 7 + r, none⟩ by unfold Addr.add; split <;> simp_all] at this
    refine ⟨LK[i].1, ⟨by have := hc 0 (by omega); rw [Nat.add_zero] at this; exact this, hc 1 (by omega), hc 2 (by omega), hc 3 (by omega), hc 4 (by omega), hc 5 (by omega), hc 6 (by omega)⟩, ?_⟩
    have := (hi.hk LK[i] (List.getElem_mem hi2)).toB (B := w.heap.size + 3) (fun b hb _ => hb.1)
    simpa using this
end Go.Proofs.YtngikbimlhoigaaDoor
