/- AN EXPRESSION IN BLOCKS OF WHICH P IS TRUE (for plain, whose rows grow by append). -/
import Derived.Test.YtngikbimlhoigaaDoorWb
namespace Go.Proofs.YtngikbimlhoigaaDoor
open Go.RowKit
/-- Texts in a row of one's own. -/
structure PwS (w : World) (P : Nat → Prop) (a : Option Addr) (l : Nat) (pa : List ByteArray) : Prop where
  count : pa.length = l
  max : l ≤ 140737488355328
  each : ∀ x ∈ pa, x.size ≤ 140737488355328
  at_ : 0 < l → ∃ b, a = some ⟨b, 0, none⟩ ∧ P b ∧ b < w.heap.size ∧ (∀ o, w.frozen? ⟨b, o, none⟩ = false) ∧ ∀ (i : Nat) (x : ByteArray), pa[i]? = some x → w.cell? ⟨b, i, none⟩ = some (.string x)
structure PwKs (I : Hd → Ex → Prop) (w : World) (P : Nat → Prop) (a : Option Addr) (l : Nat) (ks : List Ex) : Prop where
  count : ks.length = l
  max : l ≤ 140737488355328
  at_ : 0 < l → ∃ b, a = some ⟨b, 0, none⟩ ∧ P b ∧ b < w.heap.size ∧ (∀ o, w.frozen? ⟨b, o, none⟩ = false) ∧ ∀ i (h : i < ks.length), ∃ x : Hd, HdAt w b (i * 7) x ∧ I x ks[i]
structure PwPs (I : Hd → Ex → Prop) (w : World) (P : Nat → Prop) (a : Option Addr) (l : Nat) (ps : List (ByteArray × Ex)) : Prop where
  count : ps.length = l
  max : l ≤ 140737488355328
  each : ∀ p ∈ ps, p.1.size ≤ 140737488355328
  at_ : 0 < l → ∃ b, a = some ⟨b, 0, none⟩ ∧ P b ∧ b < w.heap.size ∧ (∀ o, w.frozen? ⟨b, o, none⟩ = false) ∧ ∀ i (h : i < ps.length), ∃ x : Hd, w.cell? ⟨b, i * 8, none⟩ = some (.string ps[i].1) ∧ HdAt w b (i * 8 + 1) x ∧ I x ps[i].2
def PwX (w : World) (P : Nat → Prop) : Nat → Hd → Ex → Prop
  | 0, _, _ => False
  | n + 1, h, .mk op m s path ps o ks => h.op = op ∧ h.n = m ∧ h.s = s ∧ h.o = o ∧ s.size ≤ 140737488355328 ∧ PwS w P h.p h.pl path ∧ PwPs (PwX w P n) w P h.q h.ql ps ∧ PwKs (PwX w P n) w P h.k h.kl ks
/-- Where P holds what lay lies as it lay. -/
def Apart (P : Nat → Prop) (w w' : World) : Prop := w.heap.size ≤ w'.heap.size ∧ ∀ i, P i → i < w.heap.size → w'.heap[i]? = w.heap[i]?
theorem Apart.cell {P : Nat → Prop} {w w' : World} (h : Apart P w w') {b o : Nat} (hb : P b) (hl : b < w.heap.size) : w'.cell? ⟨b, o, none⟩ = w.cell? ⟨b, o, none⟩ := by simp only [World.cell?, h.2 b hb hl]
theorem Apart.frozen {P : Nat → Prop} {w w' : World} (h : Apart P w w') {b o : Nat} (hb : P b) (hl : b < w.heap.size) : w'.frozen? ⟨b, o, none⟩ = w.frozen? ⟨b, o, none⟩ := by simp only [World.frozen?, h.2 b hb hl]
theorem Apart.hd {P : Nat → Prop} {w w' : World} (h : Apart P w w') {b o : Nat} {x : Hd} (hb : P b) (hl : b < w.heap.size) (hx : HdAt w b o x) : HdAt w' b o x :=
  ⟨(h.cell hb hl).trans hx.c0, (h.cell hb hl).trans hx.c1, (h.cell hb hl).trans hx.c2, (h.cell hb hl).trans hx.c3, (h.cell hb hl).trans hx.c4, (h.cell hb hl).trans hx.c5, (h.cell hb hl).trans hx.c6⟩
theorem PwS.keep {w w' : World} {P : Nat → Prop} {a : Option Addr} {l : Nat} {pa : List ByteArray} (h : PwS w P a l pa) (hs : Apart P w w') : PwS w' P a l pa :=
  ⟨h.count, h.max, h.each, fun h0 => by
    obtain ⟨b, e, hb, hl, hf, hc⟩ := h.at_ h0
    exact ⟨b, e, hb, Nat.lt_of_lt_of_le hl hs.1, fun o => (hs.frozen hb hl).trans (hf o), fun i x hx => (hs.cell hb hl).trans (hc i x hx)⟩⟩
theorem PwKs.keep {I J : Hd → Ex → Prop} {w w' : World} {P : Nat → Prop} {a : Option Addr} {l : Nat} {ks : List Ex} (h : PwKs I w P a l ks) (hs : Apart P w w') (hI : ∀ h x, I h x → J h x) : PwKs J w' P a l ks :=
  ⟨h.count, h.max, fun h0 => by
    obtain ⟨b, e, hb, hl, hf, hc⟩ := h.at_ h0
    exact ⟨b, e, hb, Nat.lt_of_lt_of_le hl hs.1, fun o => (hs.frozen hb hl).trans (hf o), fun i hi => by obtain ⟨x, h1, h2⟩ := hc i hi; exact ⟨x, hs.hd hb hl h1, hI _ _ h2⟩⟩⟩
theorem PwPs.keep {I J : Hd → Ex → Prop} {w w' : World} {P : Nat → Prop} {a : Option Addr} {l : Nat} {ps : List (ByteArray × Ex)} (h : PwPs I w P a l ps) (hs : Apart P w w') (hI : ∀ h x, I h x → J h x) : PwPs J w' P a l ps :=
  ⟨h.count, h.max, h.each, fun h0 => by
    obtain ⟨b, e, hb, hl, hf, hc⟩ := h.at_ h0
    exact ⟨b, e, hb, Nat.lt_of_lt_of_le hl hs.1, fun o => (hs.frozen hb hl).trans (hf o), fun i hi => by obtain ⟨x, h1, h2, h3⟩ := hc i hi; exact ⟨x, (hs.cell hb hl).trans h1, hs.hd hb hl h2, hI _ _ h3⟩⟩⟩
theorem PwX.keep {w w' : World} {P : Nat → Prop} (hs : Apart P w w') : ∀ {n : Nat} {h : Hd} {x : Ex}, PwX w P n h x → PwX w' P n h x
  | 0, _, _, h => h.elim
  | _ + 1, _, .mk _ _ _ _ _ _ _, ⟨h1, h2, h3, h4, hz, h5, h6, h7⟩ => ⟨h1, h2, h3, h4, hz, h5.keep hs, h6.keep hs (fun _ _ h => PwX.keep hs h), h7.keep hs (fun _ _ h => PwX.keep hs h)⟩
theorem PwX.low {w : World} {P P' : Nat → Prop} (hP : ∀ b, P b → b < w.heap.size → P' b) : ∀ {n : Nat} {h : Hd} {x : Ex}, PwX w P n h x → PwX w P' n h x
  | 0, _, _, h => h.elim
  | _ + 1, _, .mk _ _ _ _ _ _ _, ⟨h1, h2, h3, h4, hz, h5, h6, h7⟩ => ⟨h1, h2, h3, h4, hz,
    ⟨h5.count, h5.max, h5.each, fun h0 => by obtain ⟨b, e, hb, hl, r⟩ := h5.at_ h0; exact ⟨b, e, hP b hb hl, hl, r⟩⟩,
    ⟨h6.count, h6.max, h6.each, fun h0 => by obtain ⟨b, e, hb, hl, hf, hc⟩ := h6.at_ h0; exact ⟨b, e, hP b hb hl, hl, hf, fun i hi => by obtain ⟨x, a1, a2, a3⟩ := hc i hi; exact ⟨x, a1, a2, PwX.low hP a3⟩⟩⟩,
    ⟨h7.count, h7.max, fun h0 => by obtain ⟨b, e, hb, hl, hf, hc⟩ := h7.at_ h0; exact ⟨b, e, hP b hb hl, hl, hf, fun i hi => by obtain ⟨x, a1, a2⟩ := hc i hi; exact ⟨x, a1, PwX.low hP a2⟩⟩⟩⟩
theorem PwX.inX {w : World} {P : Nat → Prop} : ∀ {n : Nat} {h : Hd} {x : Ex}, PwX w P n h x → InX w n h x
  | 0, _, _, h => h.elim
  | _ + 1, _, .mk _ _ _ _ _ _ _, ⟨h1, h2, h3, h4, hz, h5, h6, h7⟩ => ⟨h1, h2, h3, h4, hz,
    ⟨h5.count, h5.max, fun i x hx => h5.each x (List.mem_of_getElem? hx), fun h0 => by obtain ⟨b, e, _, hl, _, hc⟩ := h5.at_ h0; exact ⟨b, 0, e, hl, fun i x hx => by rw [Nat.zero_add]; exact hc i x hx⟩⟩,
    ⟨h6.count, h6.max, fun i hi => by
      obtain ⟨b, e, _, hl, _, hc⟩ := h6.at_ (by have := h6.count; omega)
      obtain ⟨x, a1, a2, a3⟩ := hc i hi
      exact ⟨b, 0, x, e, hl, h6.each _ (List.getElem_mem hi), by rw [Nat.zero_add]; exact a1, by rw [Nat.zero_add]; exact a2, PwX.inX a3⟩⟩,
    ⟨h7.count, h7.max, fun i hi => by
      obtain ⟨b, e, _, hl, _, hc⟩ := h7.at_ (by have := h7.count; omega)
      obtain ⟨x, a1, a2⟩ := hc i hi
      exact ⟨b, 0, x, e, hl, by rw [Nat.zero_add]; exact a1, PwX.inX a2⟩⟩⟩
end Go.Proofs.YtngikbimlhoigaaDoor
