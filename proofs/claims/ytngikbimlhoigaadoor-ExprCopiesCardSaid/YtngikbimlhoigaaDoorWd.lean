/- THE INVARIANT of Copy. -/
import Derived.Test.YtngikbimlhoigaaDoorWc
namespace Go.Proofs.YtngikbimlhoigaaDoor
open Go.RowKit
/-- Between two rounds: i of the pairs copied, j of the Kids. -/
structure CI (w : World) (n : Nat) (h1 : Hd) (q k : Option Addr) (pa : List ByteArray) (P K : List Ex) (b1 b2 B2 : Nat) (i j : Nat) (W : World) : Prop where
  low : Below w.heap.size w W
  box : BoxH W w.heap.size h1
  res : BoxH W (w.heap.size + 1) hd0
  o1 : w.heap.size + 2 ≤ b1
  o2 : b1 ≤ b2
  o3 : b2 ≤ B2
  o4 : B2 ≤ W.heap.size
  pa : OwS W (w.heap.size + 2) h1.p h1.pl pa
  pb : ∀ g, h1.p = some ⟨g, 0, none⟩ → 0 < h1.pl → g < b1
  pr : CRow w W 1 n b1 b2 B2 h1.q q P i
  kr : CRow w W 0 n b2 B2 B2 h1.k k K j
variable {w : World} {n : Nat} {h1 : Hd} {q k : Option Addr} {pa : List ByteArray} {P K : List Ex} {b1 b2 B2 i j : Nat} {W W' : World}
theorem CI.step (h : CI w n h1 q k pa P K b1 b2 B2 i j W) (hb : Below W.heap.size W W') : CI w n h1 q k pa P K b1 b2 B2 i j W' :=
  ⟨below_step h.low hb, (hb.block _ h.box.lt).trans h.box, (hb.block _ h.res.lt).trans h.res, h.o1, h.o2, h.o3, Nat.le_trans h.o4 hb.size, h.pa.keep (above_of hb), h.pb, h.pr.step hb, h.kr.step hb⟩
theorem OwS.other {B a l g o : Nat} {x : Hd} {t : Option Addr} (h : OwS W B t l pa) (hn : ∀ b, t = some ⟨b, 0, none⟩ → 0 < l → b < a) (hg : a ≤ g) : OwS (putHd W g o x) B t l pa :=
  ⟨h.count, h.max, h.each, fun h0 => by
    obtain ⟨b, e, hb, hl, hf, hc⟩ := h.at_ h0
    have := hn b e h0
    exact ⟨b, e, hb, Nat.lt_of_lt_of_le hl (putHd_grown W g o x).size, fun o => (putHd_frozen _).trans (hf o), fun i y hy => (putHd_far (by omega)).trans (hc i y hy)⟩⟩
theorem ci_put {g o : Nat} {x : Hd} (h : CI w n h1 q k pa P K b1 b2 B2 i j W) (hg : b1 ≤ g) {i' j' : Nat} (hp : CRow w (putHd W g o x) 1 n b1 b2 B2 h1.q q P i') (hk : CRow w (putHd W g o x) 0 n b2 B2 B2 h1.k k K j') : CI w n h1 q k pa P K b1 b2 B2 i' j' (putHd W g o x) :=
  ⟨h.low.grown (putHd_grown W g o x) h.low.size (fun r e => by cases e; have := h.o1; omega), ((putHd_grown W g o x).block _ h.box.lt (fun e => by cases e; have := h.o1; omega)).trans h.box, ((putHd_grown W g o x).block _ h.res.lt (fun e => by injection e with e; have := h.o1; omega)).trans h.res,
    h.o1, h.o2, h.o3, Nat.le_trans h.o4 (putHd_grown W g o x).size, h.pa.other h.pb hg, h.pb, hp, hk⟩
theorem CI.putP {g b off : Nat} {x y : Hd} (h : CI w n h1 q k pa P K b1 b2 B2 i j W) (hi : i < P.length) (ht : h1.q = some ⟨g, 0, none⟩) (hq : q = some ⟨b, off, none⟩) (hy : HdAt w b (off + i * 8 + 1) y) (hx : OwX W B2 n x P[i]) : CI w n h1 q k pa P K b1 b2 B2 (i + 1) j (putHd W g (i * 8 + 1) x) := by
  obtain ⟨g', b', off', e1, _, h3, h4, _⟩ := h.pr (by omega)
  rw [ht] at e1
  cases e1
  have := h.o3
  exact ci_put h h3 (h.pr.put hi ht hq hy h.o3 hx) (h.kr.other (by omega) (.inl h4))
theorem CI.putK {g b off : Nat} {x y : Hd} (h : CI w n h1 q k pa P K b1 b2 B2 i j W) (hj : j < K.length) (ht : h1.k = some ⟨g, 0, none⟩) (hq : k = some ⟨b, off, none⟩) (hy : HdAt w b (off + j * 7) y) (hx : OwX W B2 n x K[j]) : CI w n h1 q k pa P K b1 b2 B2 i (j + 1) (putHd W g (j * 7) x) := by
  obtain ⟨g', b', off', e1, _, h3, h4, _⟩ := h.kr (by omega)
  rw [ht] at e1
  cases e1
  have := h.o2
  exact ci_put h (by omega) (h.pr.other h4 (.inr h3)) (h.kr.put (d := 0) hj ht hq hy (Nat.le_refl _) hx)
/-- All is copied. -/
theorem CI.done {ps : List (ByteArray × Ex)} {ks : List Ex} {op m : Int} {s : ByteArray} {o : Bool} {ql kl : Nat} (h : CI w n h1 q k pa (ps.map (·.2)) ks b1 b2 B2 ps.length ks.length W) (hps : InPs (InX w n) w q ql ps) (hks : InKs (InX w n) w k kl ks)
    (e1 : h1.op = op) (e2 : h1.n = m) (e3 : h1.s = s) (e4 : h1.o = o) (e5 : h1.ql = ql) (e6 : h1.kl = kl) (hs : s.size ≤ 140737488355328) : OwX W (w.heap.size + 2) (n + 1) h1 (.mk op m s pa ps o ks) := by
  have z1 := h.o1
  have z2 := h.o2
  have z3 := h.o3
  refine ⟨e1, e2, e3, e4, hs, ⟨h.pa.count, h.pa.max, h.pa.each, fun h0 => ?_⟩, ⟨hps.count.trans e5.symm, by rw [e5]; exact hps.max, fun p hp => ?_, fun h0 => ?_⟩, ⟨hks.count.trans e6.symm, by rw [e6]; exact hks.max, fun h0 => ?_⟩⟩
  · obtain ⟨b, e, hb, r⟩ := h.pa.at_ h0
    exact ⟨b, e, by omega, r⟩
  · obtain ⟨i, hi, rfl⟩ := List.getElem_of_mem hp
    obtain ⟨_, _, _, _, _, hz, _⟩ := hps.at_ i hi
    exact hz
  · have hc := hps.count
    obtain ⟨g, b, off, f1, f2, f3, f4, f5, f6, f7, f8⟩ := h.pr (by rw [List.length_map]; omega)
    refine ⟨g, f1, by omega, by omega, f6, fun i hi => ?_⟩
    obtain ⟨c1, x, c2, c3⟩ := f8 i (by rw [List.length_map]; exact hi) hi
    obtain ⟨b', off', y, e, _, _, hn, _⟩ := hps.at_ i hi
    rw [f2] at e
    cases e
    rw [List.getElem_map] at c3
    exact ⟨x, (c1 0 (by omega)).trans (by rw [← hn]; rfl), c2, c3.low (by omega)⟩
  · have hc := hks.count
    obtain ⟨g, b, off, f1, f2, f3, f4, f5, f6, f7, f8⟩ := h.kr (by omega)
    refine ⟨g, f1, by omega, by omega, f6, fun i hi => ?_⟩
    obtain ⟨_, x, c2, c3⟩ := f8 i hi hi
    exact ⟨x, c2, c3.low (by omega)⟩
theorem BoxH.set3 {b : Nat} {h : Hd} (hb : BoxH W b h) (a : Option Addr) (c : Nat) : BoxH (W.setCell ⟨b, 3, none⟩ (.slice a h.pl c)) b { h with p := a, pc := c } := by
  obtain ⟨hlt, hk⟩ := Array.getElem?_eq_some_iff.1 hb
  show (W.heap.modify b _)[b]? = _
  rw [Array.getElem?_eq_getElem (by rw [Array.size_modify]; exact hlt), Array.getElem_modify_self, hk]
  rfl
theorem BoxH.set4 {b : Nat} {h : Hd} (hb : BoxH W b h) (a : Option Addr) (c : Nat) : BoxH (W.setCell ⟨b, 4, none⟩ (.slice a h.ql c)) b { h with q := a, qc := c } := by
  obtain ⟨hlt, hk⟩ := Array.getElem?_eq_some_iff.1 hb
  show (W.heap.modify b _)[b]? = _
  rw [Array.getElem?_eq_getElem (by rw [Array.size_modify]; exact hlt), Array.getElem_modify_self, hk]
  rfl
theorem BoxH.set6 {b : Nat} {h : Hd} (hb : BoxH W b h) (a : Option Addr) (c : Nat) : BoxH (W.setCell ⟨b, 6, none⟩ (.slice a h.kl c)) b { h with k := a, kc := c } := by
  obtain ⟨hlt, hk⟩ := Array.getElem?_eq_some_iff.1 hb
  show (W.heap.modify b _)[b]? = _
  rw [Array.getElem?_eq_getElem (by rw [Array.size_modify]; exact hlt), Array.getElem_modify_self, hk]
  rfl
theorem set_grown {b o : Nat} {v : Value} : W.grownBy (W.setCell ⟨b, o, none⟩ v) (some b) := grown_set
/-- What the three stores leave alone. -/
def st3 (W : World) (b : Nat) (v1 v2 v3 : Value) : World := ((W.setCell ⟨b, 3, none⟩ v1).setCell ⟨b, 4, none⟩ v2).setCell ⟨b, 6, none⟩ v3
theorem st3_grown {b : Nat} {v1 v2 v3 : Value} : W.grownBy (st3 W b v1 v2 v3) (some b) := World.grownBy.trans (World.grownBy.trans grown_set grown_set) grown_set
/-- The beginning: three lists cloned, their headers stored. -/
theorem ci_begin {wd Z1 Z2 Z3 : World} {op m : Int} {s : ByteArray} {p : Option Addr} {pl pc : Nat} {ql qc : Nat} {o : Bool} {kl kc : Nat} {ps : List (ByteArray × Ex)} {ks : List Ex} {t1 t2 t3 : Option Addr} {k1 k2 k3 : Nat}
    (hwz : wd.heap.size = w.heap.size + 2) (h0 : Below w.heap.size w wd) (hbx : BoxH wd w.heap.size ⟨op, m, s, p, pl, pc, q, ql, qc, o, k, kl, kc⟩) (hrs : BoxH wd (w.heap.size + 1) hd0)
    (hpa : Nm.StrRow w p pl pa) (hps : InPs (InX w n) w q ql ps) (hks : InKs (InX w n) w k kl ks)
    (c1 : CloneP 1 pl p wd (.returned (.slice t1 pl k1)) Z1) (c2 : CloneP 8 ql q Z1 (.returned (.slice t2 ql k2)) Z2) (c3 : CloneP 7 kl k Z2 (.returned (.slice t3 kl k3)) Z3) :
    CI w n ⟨op, m, s, t1, pl, k1, t2, ql, k2, o, t3, kl, k3⟩ q k pa (ps.map (·.2)) ks Z1.heap.size Z2.heap.size Z3.heap.size 0 0 (st3 Z3 w.heap.size (.slice t1 pl k1) (.slice t2 ql k2) (.slice t3 kl k3)) := by
  have b1 : Below wd.heap.size wd Z1 := by obtain ⟨_, _, _, hb, _⟩ := c1; exact hb
  have b2 : Below Z1.heap.size Z1 Z2 := by obtain ⟨_, _, _, hb, _⟩ := c2; exact hb
  have b3 : Below Z2.heap.size Z2 Z3 := by obtain ⟨_, _, _, hb, _⟩ := c3; exact hb
  have bw3 : Below wd.heap.size wd Z3 := below_step (below_step b1 b2) b3
  have bb : Below w.heap.size w Z3 := below_step h0 bw3
  have z1 := b1.size
  have z2 := b2.size
  have z3 := b3.size
  have hg : Z3.grownBy (st3 Z3 w.heap.size (.slice t1 pl k1) (.slice t2 ql k2) (.slice t3 kl k3)) (some w.heap.size) := st3_grown
  have hA : Above (w.heap.size + 1) Z3 (st3 Z3 w.heap.size (.slice t1 pl k1) (.slice t2 ql k2) (.slice t3 kl k3)) := ⟨hg.size, fun i hi hl => hg.block i hl (fun e => by cases e; omega)⟩
  have kcell : ∀ b o, w.heap.size + 1 ≤ b → b < Z3.heap.size → (st3 Z3 w.heap.size (.slice t1 pl k1) (.slice t2 ql k2) (.slice t3 kl k3)).cell? ⟨b, o, none⟩ = Z3.cell? ⟨b, o, none⟩ ∧ (st3 Z3 w.heap.size (.slice t1 pl k1) (.slice t2 ql k2) (.slice t3 kl k3)).frozen? ⟨b, o, none⟩ = Z3.frozen? ⟨b, o, none⟩ := fun b o hb hl => ⟨hA.cell hb hl, hA.frozen hb hl⟩
  have hbx3 : BoxH Z3 w.heap.size ⟨op, m, s, p, pl, pc, q, ql, qc, o, k, kl, kc⟩ := (bw3.block _ hbx.lt).trans hbx
  have hp1 : OwS Z1 (w.heap.size + 2) t1 pl pa := by
    refine ⟨hpa.count, hpa.max, fun x hx => ?_, fun hl => ?_⟩
    · obtain ⟨i, hi, rfl⟩ := List.getElem_of_mem hx
      exact hpa.each i _ (List.getElem?_eq_getElem hi)
    · obtain ⟨t', c', he, _, hr⟩ := c1
      cases he
      rcases hr with hr | ⟨g, b, off, rfl, rfl, f1, f2, f3, f4⟩
      · omega
      · obtain ⟨b', off', e, hlt, hc⟩ := hpa.at_ hl
        cases e
        refine ⟨g, rfl, by omega, f2, f3, fun i x hx => ?_⟩
        have hi : i < pa.length := by obtain ⟨h, _⟩ := List.getElem?_eq_some_iff.1 hx; exact h
        rw [f4 i (by rw [← hpa.count]; omega)]
        exact (h0.cell (p := ⟨b, off + i, none⟩) hlt).trans (hc i x hx)
  refine ⟨bb.grown hg bb.size (fun r e => by cases e; exact Nat.le_refl _), ?_, ?_, by omega, z2, z3, hg.size, ?_, fun g e hl => ?_, ?_, ?_⟩
  · exact ((hbx3.set3 t1 k1).set4 t2 k2).set6 t3 k3
  · exact (hg.block _ (by omega) (fun e => by injection e with e; omega)).trans ((bw3.block _ hrs.lt).trans hrs)
  · exact ((hp1.keep (above_of b2)).keep (above_of b3)).keep ⟨hA.1, fun i hi hl => hA.2 i (by omega) hl⟩
  · obtain ⟨b, e2, _, hl2, _⟩ := hp1.at_ hl
    have e3 : t1 = some ⟨g, 0, none⟩ := e
    rw [e3] at e2
    cases e2
    exact hl2
  · refine ((crow_of (d := 1) (lo := Z1.heap.size) (hi := Z2.heap.size) (B2 := Z3.heap.size) (L := ps.map (·.2)) c2 rfl (by rw [List.length_map]; exact hps.count) (below_step h0 b1) (Nat.le_refl _) rfl ?_ rfl).step b3).keep ⟨hA.1, fun i hi hl => hA.2 i (by omega) hl⟩ (fun b hb _ hl o => kcell b o (by omega) hl)
    intro jj hl b off e _
    rw [List.length_map] at hl
    obtain ⟨b', off', _, e', hlt, _⟩ := hps.at_ 0 hl
    rw [e] at e'
    cases e'
    exact hlt
  · refine (crow_of (d := 0) (lo := Z2.heap.size) (hi := Z3.heap.size) (B2 := Z3.heap.size) (L := ks) c3 rfl hks.count (below_step (below_step h0 b1) b2) (Nat.le_refl _) rfl ?_ rfl).keep ⟨hA.1, fun i hi hl => hA.2 i (by omega) hl⟩ (fun b hb _ hl o => kcell b o (by omega) hl)
    intro jj hl b off e _
    obtain ⟨b', off', _, e', hlt, _⟩ := hks.at_ 0 hl
    rw [e] at e'
    cases e'
    exact hlt
end Go.Proofs.YtngikbimlhoigaaDoor
