/- FOR plain: heads in rows that grow. -/
import Derived.Test.YtngikbimlhoigaaDoorXc
namespace Go.Proofs.YtngikbimlhoigaaDoor
open Go.RowKit
theorem OwX.toP {W : World} {B : Nat} {P : Nat → Prop} (hP : ∀ b, B ≤ b → b < W.heap.size → P b) : ∀ {n : Nat} {h : Hd} {x : Ex}, OwX W B n h x → PwX W P n h x
  | 0, _, _, h => h.elim
  | _ + 1, _, .mk _ _ _ _ _ _ _, ⟨h1, h2, h3, h4, hz, h5, h6, h7⟩ => ⟨h1, h2, h3, h4, hz,
    ⟨h5.count, h5.max, h5.each, fun h0 => by obtain ⟨b, e, hb, hl, r⟩ := h5.at_ h0; exact ⟨b, e, hP b hb hl, hl, r⟩⟩,
    ⟨h6.count, h6.max, h6.each, fun h0 => by obtain ⟨b, e, hb, hl, hf, hc⟩ := h6.at_ h0; exact ⟨b, e, hP b hb hl, hl, hf, fun i hi => by obtain ⟨x, a1, a2, a3⟩ := hc i hi; exact ⟨x, a1, a2, OwX.toP hP a3⟩⟩⟩,
    ⟨h7.count, h7.max, fun h0 => by obtain ⟨b, e, hb, hl, hf, hc⟩ := h7.at_ h0; exact ⟨b, e, hP b hb hl, hl, hf, fun i hi => by obtain ⟨x, a1, a2⟩ := hc i hi; exact ⟨x, a1, OwX.toP hP a2⟩⟩⟩⟩
theorem PwX.toB {W : World} {B : Nat} {P : Nat → Prop} (hP : ∀ b, P b → b < W.heap.size → B ≤ b) : ∀ {n : Nat} {h : Hd} {x : Ex}, PwX W P n h x → OwX W B n h x
  | 0, _, _, h => h.elim
  | _ + 1, _, .mk _ _ _ _ _ _ _, ⟨h1, h2, h3, h4, hz, h5, h6, h7⟩ => ⟨h1, h2, h3, h4, hz,
    ⟨h5.count, h5.max, h5.each, fun h0 => by obtain ⟨b, e, hb, hl, r⟩ := h5.at_ h0; exact ⟨b, e, hP b hb hl, hl, r⟩⟩,
    ⟨h6.count, h6.max, h6.each, fun h0 => by obtain ⟨b, e, hb, hl, hf, hc⟩ := h6.at_ h0; exact ⟨b, e, hP b hb hl, hl, hf, fun i hi => by obtain ⟨x, a1, a2, a3⟩ := hc i hi; exact ⟨x, a1, a2, PwX.toB hP a3⟩⟩⟩,
    ⟨h7.count, h7.max, fun h0 => by obtain ⟨b, e, hb, hl, hf, hc⟩ := h7.at_ h0; exact ⟨b, e, hP b hb hl, hl, hf, fun i hi => by obtain ⟨x, a1, a2⟩ := hc i hi; exact ⟨x, a1, PwX.toB hP a2⟩⟩⟩⟩
/-- Neither of two rows' own blocks, and not below B. -/
def PP (B : Nat) (v u : Value) (b : Nat) : Prop := B ≤ b ∧ v.ownBlock ≠ some b ∧ u.ownBlock ≠ some b
/-- A row was appended to: what lies in neither row lies as it lay, and lies in neither row as they lie now. -/
theorem grow_p {Z W : World} {B g : Nat} {v v' u : Value} (hgr : Z.grownBy W v.ownBlock) (hat : v'.ownBlock = v.ownBlock ∨ v'.ownBlock = some g) (hg : Z.heap.size ≤ g) {n : Nat} {h : Hd} {x : Ex} (hx : PwX Z (PP B v u) n h x) : PwX W (PP B v' u) n h x := by
  have h1 : PwX Z (fun b => PP B v u b ∧ b < g) n h x := hx.low (fun b hb hl => ⟨hb, by omega⟩)
  have h2 : PwX W (fun b => PP B v u b ∧ b < g) n h x := h1.keep ⟨hgr.size, fun i hi hl => hgr.block i hl (fun e => hi.1.2.1 e.symm)⟩
  refine h2.low (fun b hb _ => ⟨hb.1.1, fun e => ?_, hb.1.2.2⟩)
  rcases hat with h3 | h3
  · exact hb.1.2.1 (h3 ▸ e)
  · rw [h3] at e
    injection e with e
    omega
end Go.Proofs.YtngikbimlhoigaaDoor
