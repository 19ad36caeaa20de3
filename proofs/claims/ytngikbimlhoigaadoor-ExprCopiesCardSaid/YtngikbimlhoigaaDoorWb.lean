/- AN EXPRESSION IN BLOCKS OF A CALL's OWN. -/
import Derived.Test.YtngikbimlhoigaaDoorWa
import Derived.Test.YtngikbimlhoigaaDoorUb
namespace Go.Proofs.YtngikbimlhoigaaDoor
open Go.RowKit
/-- Texts in a row of one's own. -/
structure OwS (w : World) (B : Nat) (a : Option Addr) (l : Nat) (pa : List ByteArray) : Prop where
  count : pa.length = l
  max : l ≤ 140737488355328
  each : ∀ x ∈ pa, x.size ≤ 140737488355328
  at_ : 0 < l → ∃ b, a = some ⟨b, 0, none⟩ ∧ B ≤ b ∧ b < w.heap.size ∧ (∀ o, w.frozen? ⟨b, o, none⟩ = false) ∧ ∀ (i : Nat) (x : ByteArray), pa[i]? = some x → w.cell? ⟨b, i, none⟩ = some (.string x)
structure OwKs (I : Hd → Ex → Prop) (w : World) (B : Nat) (a : Option Addr) (l : Nat) (ks : List Ex) : Prop where
  count : ks.length = l
  max : l ≤ 140737488355328
  at_ : 0 < l → ∃ b, a = some ⟨b, 0, none⟩ ∧ B ≤ b ∧ b < w.heap.size ∧ (∀ o, w.frozen? ⟨b, o, none⟩ = false) ∧ ∀ i (h : i < ks.length), ∃ x : Hd, HdAt w b (i * 7) x ∧ I x ks[i]
structure OwPs (I : Hd → Ex → Prop) (w : World) (B : Nat) (a : Option Addr) (l : Nat) (ps : List (ByteArray × Ex)) : Prop where
  count : ps.length = l
  max : l ≤ 140737488355328
  each : ∀ p ∈ ps, p.1.size ≤ 140737488355328
  at_ : 0 < l → ∃ b, a = some ⟨b, 0, none⟩ ∧ B ≤ b ∧ b < w.heap.size ∧ (∀ o, w.frozen? ⟨b, o, none⟩ = false) ∧ ∀ i (h : i < ps.length), ∃ x : Hd, w.cell? ⟨b, i * 8, none⟩ = some (.string ps[i].1) ∧ HdAt w b (i * 8 + 1) x ∧ I x ps[i].2
def OwX (w : World) (B : Nat) : Nat → Hd → Ex → Prop
  | 0, _, _ => False
  | n + 1, h, .mk op m s path ps o ks => h.op = op ∧ h.n = m ∧ h.s = s ∧ h.o = o ∧ s.size ≤ 140737488355328 ∧ OwS w B h.p h.pl path ∧ OwPs (OwX w B n) w B h.q h.ql ps ∧ OwKs (OwX w B n) w B h.k h.kl ks
/-- From B on what lay lies as it lay. -/
def Above (B : Nat) (w w' : World) : Prop := w.heap.size ≤ w'.heap.size ∧ ∀ i, B ≤ i → i < w.heap.size → w'.heap[i]? = w.heap[i]?
theorem Above.cell {B : Nat} {w w' : World} (h : Above B w w') {b o : Nat} (hb : B ≤ b) (hl : b < w.heap.size) : w'.cell? ⟨b, o, none⟩ = w.cell? ⟨b, o, none⟩ := by simp only [World.cell?, h.2 b hb hl]
theorem Above.frozen {B : Nat} {w w' : World} (h : Above B w w') {b o : Nat} (hb : B ≤ b) (hl : b < w.heap.size) : w'.frozen? ⟨b, o, none⟩ = w.frozen? ⟨b, o, none⟩ := by simp only [World.frozen?, h.2 b hb hl]
theorem Above.hd {B : Nat} {w w' : World} (h : Above B w w') {b o : Nat} {x : Hd} (hb : B ≤ b) (hl : b < w.heap.size) (hx : HdAt w b o x) : HdAt w' b o x :=
  ⟨(h.cell hb hl).trans hx.c0, (h.cell hb hl).trans hx.c1, (h.cell hb hl).trans hx.c2, (h.cell hb hl).trans hx.c3, (h.cell hb hl).trans hx.c4, (h.cell hb hl).trans hx.c5, (h.cell hb hl).trans hx.c6⟩
theorem OwS.keep {w w' : World} {B : Nat} {a : Option Addr} {l : Nat} {pa : List ByteArray} (h : OwS w B a l pa) (hs : Above B w w') : OwS w' B a l pa :=
  ⟨h.count, h.max, h.each, fun h0 => by
    obtain ⟨b, e, hb, hl, hf, hc⟩ := h.at_ h0
    exact ⟨b, e, hb, Nat.lt_of_lt_of_le hl hs.1, fun o => (hs.frozen hb hl).trans (hf o), fun i x hx => (hs.cell hb hl).trans (hc i x hx)⟩⟩
theorem OwKs.keep {I J : Hd → Ex → Prop} {w w' : World} {B : Nat} {a : Option Addr} {l : Nat} {ks : List Ex} (h : OwKs I w B a l ks) (hs : Above B w w') (hI : ∀ h x, I h x → J h x) : OwKs J w' B a l ks :=
  ⟨h.count, h.max, fun h0 => by
    obtain ⟨b, e, hb, hl, hf, hc⟩ := h.at_ h0
    exact ⟨b, e, hb, Nat.lt_of_lt_of_le hl hs.1, fun o => (hs.frozen hb hl).trans (hf o), fun i hi => by obtain ⟨x, h1, h2⟩ := hc i hi; exact ⟨x, hs.hd hb hl h1, hI _ _ h2⟩⟩⟩
theorem OwPs.keep {I J : Hd → Ex → Prop} {w w' : World} {B : Nat} {a : Option Addr} {l : Nat} {ps : List (ByteArray × Ex)} (h : OwPs I w B a l ps) (hs : Above B w w') (hI : ∀ h x, I h x → J h x) : OwPs J w' B a l ps :=
  ⟨h.count, h.max, h.each, fun h0 => by
    obtain ⟨b, e, hb, hl, hf, hc⟩ := h.at_ h0
    exact ⟨b, e, hb, Nat.lt_of_lt_of_le hl hs.1, fun o => (hs.frozen hb hl).trans (hf o), fun i hi => by obtain ⟨x, h1, h2, h3⟩ := hc i hi; exact ⟨x, (hs.cell hb hl).trans h1, hs.hd hb hl h2, hI _ _ h3⟩⟩⟩
theorem OwX.keep {w w' : World} {B : Nat} (hs : Above B w w') : ∀ {n : Nat} {h : Hd} {x : Ex}, OwX w B n h x → OwX w' B n h x
  | 0, _, _, h => h.elim
  | _ + 1, _, .mk _ _ _ _ _ _ _, ⟨h1, h2, h3, h4, hz, h5, h6, h7⟩ => ⟨h1, h2, h3, h4, hz, h5.keep hs, h6.keep hs (fun _ _ h => OwX.keep hs h), h7.keep hs (fun _ _ h => OwX.keep hs h)⟩
theorem OwX.low {w : World} {B B' : Nat} (hB : B' ≤ B) : ∀ {n : Nat} {h : Hd} {x : Ex}, OwX w B n h x → OwX w B' n h x
  | 0, _, _, h => h.elim
  | _ + 1, _, .mk _ _ _ _ _ _ _, ⟨h1, h2, h3, h4, hz, h5, h6, h7⟩ => ⟨h1, h2, h3, h4, hz,
    ⟨h5.count, h5.max, h5.each, fun h0 => by obtain ⟨b, e, hb, r⟩ := h5.at_ h0; exact ⟨b, e, Nat.le_trans hB hb, r⟩⟩,
    ⟨h6.count, h6.max, h6.each, fun h0 => by obtain ⟨b, e, hb, hl, hf, hc⟩ := h6.at_ h0; exact ⟨b, e, Nat.le_trans hB hb, hl, hf, fun i hi => by obtain ⟨x, a1, a2, a3⟩ := hc i hi; exact ⟨x, a1, a2, OwX.low hB a3⟩⟩⟩,
    ⟨h7.count, h7.max, fun h0 => by obtain ⟨b, e, hb, hl, hf, hc⟩ := h7.at_ h0; exact ⟨b, e, Nat.le_trans hB hb, hl, hf, fun i hi => by obtain ⟨x, a1, a2⟩ := hc i hi; exact ⟨x, a1, OwX.low hB a2⟩⟩⟩⟩
theorem OwX.inX {w : World} {B : Nat} : ∀ {n : Nat} {h : Hd} {x : Ex}, OwX w B n h x → InX w n h x
  | 0, _, _, h => h.elim
  | _ + 1, _, .mk _ _ _ _ _ _ _, ⟨h1, h2, h3, h4, hz, h5, h6, h7⟩ => ⟨h1, h2, h3, h4, hz,
    ⟨h5.count, h5.max, fun i x hx => h5.each x (List.mem_of_getElem? hx), fun h0 => by obtain ⟨b, e, _, hl, _, hc⟩ := h5.at_ h0; exact ⟨b, 0, e, hl, fun i x hx => by rw [Nat.zero_add]; exact hc i x hx⟩⟩,
    ⟨h6.count, h6.max, fun i hi => by
      obtain ⟨b, e, _, hl, _, hc⟩ := h6.at_ (by have := h6.count; omega)
      obtain ⟨x, a1, a2, a3⟩ := hc i hi
      exact ⟨b, 0, x, e, hl, h6.each _ (List.getElem_mem hi), by rw [Nat.zero_add]; exact a1, by rw [Nat.zero_add]; exact a2, OwX.inX a3⟩⟩,
    ⟨h7.count, h7.max, fun i hi => by
      obtain ⟨b, e, _, hl, _, hc⟩ := h7.at_ (by have := h7.count; omega)
      obtain ⟨x, a1, a2⟩ := hc i hi
      exact ⟨b, 0, x, e, hl, by rw [Nat.zero_add]; exact a1, OwX.inX a2⟩⟩⟩
/-- A head is stored. -/
def putHd (w : World) (b o : Nat) (x : Hd) : World := ((((((w.setCell ⟨b, o, none⟩ (.int .i64 x.op)).setCell ⟨b, o + 1, none⟩ (.int .i64 x.n)).setCell ⟨b, o + 2, none⟩ (.string x.s)).setCell ⟨b, o + 3, none⟩ (.slice x.p x.pl x.pc)).setCell ⟨b, o + 4, none⟩ (.slice x.q x.ql x.qc)).setCell ⟨b, o + 5, none⟩ (.bool x.o)).setCell ⟨b, o + 6, none⟩ (.slice x.k x.kl x.kc)
theorem grown_set {w : World} {b o : Nat} {v : Value} : w.grownBy (w.setCell ⟨b, o, none⟩ v) (some b) :=
  ⟨rfl, rfl, rfl, (KeepsWalks.setCell w _ v).size, fun k _ hk => Below.heap_setCell _ _ _ k (fun e => hk (by rw [e]))⟩
theorem putHd_grown (w : World) (b o : Nat) (x : Hd) : w.grownBy (putHd w b o x) (some b) :=
  World.grownBy.trans (World.grownBy.trans (World.grownBy.trans (World.grownBy.trans (World.grownBy.trans (World.grownBy.trans grown_set grown_set) grown_set) grown_set) grown_set) grown_set) grown_set
theorem putHd_other {w : World} {b o o' : Nat} {x : Hd} (h : o' < o ∨ o + 7 ≤ o') : (putHd w b o x).cell? ⟨b, o', none⟩ = w.cell? ⟨b, o', none⟩ := by
  unfold putHd
  repeat rw [World.cell?_setCell_other (h := by intro y; injection y with _ y; omega)]
theorem set_far {w : World} {g o b q : Nat} {v : Value} (h : b ≠ g ∨ q ≠ o) : (w.setCell ⟨g, o, none⟩ v).cell? ⟨b, q, none⟩ = w.cell? ⟨b, q, none⟩ :=
  World.cell?_setCell_other _ _ _ _ (by intro e; cases e; rcases h with h | h <;> exact h rfl)
theorem set_here {w : World} {g o : Nat} {u v : Value} (h : w.cell? ⟨g, o, none⟩ = some u) : (w.setCell ⟨g, o, none⟩ v).cell? ⟨g, o, none⟩ = some v := World.cell?_setCell_same _ _ _ h
theorem putHd_here {w : World} {b o : Nat} {x y : Hd} (hy : HdAt w b o y) : HdAt (putHd w b o x) b o x := by
  have far : ∀ (w : World) (p q : Nat) (v : Value), q ≠ p → (w.setCell ⟨b, p, none⟩ v).cell? ⟨b, q, none⟩ = w.cell? ⟨b, q, none⟩ := fun w p q v hn => set_far (.inr hn)
  unfold putHd
  refine ⟨?_, ?_, ?_, ?_, ?_, ?_, ?_⟩
  · rw [far _ _ _ _ (by omega), far _ _ _ _ (by omega), far _ _ _ _ (by omega), far _ _ _ _ (by omega), far _ _ _ _ (by omega), far _ _ _ _ (by omega)]; exact set_here hy.c0
  · rw [far _ _ _ _ (by omega), far _ _ _ _ (by omega), far _ _ _ _ (by omega), far _ _ _ _ (by omega), far _ _ _ _ (by omega)]; exact set_here (by rw [far _ _ _ _ (by omega)]; exact hy.c1)
  · rw [far _ _ _ _ (by omega), far _ _ _ _ (by omega), far _ _ _ _ (by omega), far _ _ _ _ (by omega)]; exact set_here (by rw [far _ _ _ _ (by omega), far _ _ _ _ (by omega)]; exact hy.c2)
  · rw [far _ _ _ _ (by omega), far _ _ _ _ (by omega), far _ _ _ _ (by omega)]; exact set_here (by rw [far _ _ _ _ (by omega), far _ _ _ _ (by omega), far _ _ _ _ (by omega)]; exact hy.c3)
  · rw [far _ _ _ _ (by omega), far _ _ _ _ (by omega)]; exact set_here (by rw [far _ _ _ _ (by omega), far _ _ _ _ (by omega), far _ _ _ _ (by omega), far _ _ _ _ (by omega)]; exact hy.c4)
  · rw [far _ _ _ _ (by omega)]; exact set_here (by rw [far _ _ _ _ (by omega), far _ _ _ _ (by omega), far _ _ _ _ (by omega), far _ _ _ _ (by omega), far _ _ _ _ (by omega)]; exact hy.c5)
  · exact set_here (by rw [far _ _ _ _ (by omega), far _ _ _ _ (by omega), far _ _ _ _ (by omega), far _ _ _ _ (by omega), far _ _ _ _ (by omega), far _ _ _ _ (by omega)]; exact hy.c6)
theorem putHd_far {w : World} {b o b' o' : Nat} {x : Hd} (h : b' ≠ b) : (putHd w b o x).cell? ⟨b', o', none⟩ = w.cell? ⟨b', o', none⟩ := by
  unfold putHd
  repeat rw [set_far (.inl h)]
theorem putHd_frozen {w : World} {b o : Nat} {x : Hd} (p : Addr) : (putHd w b o x).frozen? p = w.frozen? p := by
  unfold putHd
  repeat rw [World.frozen?_setCell]
end Go.Proofs.YtngikbimlhoigaaDoor
