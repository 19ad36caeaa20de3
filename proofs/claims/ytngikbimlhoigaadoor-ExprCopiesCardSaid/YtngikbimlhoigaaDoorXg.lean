/- ROUNDS OF plain: a head is appended to one of the two rows. -/
import Derived.Test.YtngikbimlhoigaaDoorXf
namespace Go.Proofs.YtngikbimlhoigaaDoor
open Go.RowKit
theorem BoxH.put4 {W : World} {b : Nat} {h : Hd} (hb : BoxH W b h) (a : Option Addr) (l c : Nat) : BoxH (W.setCell ⟨b, 4, none⟩ (.slice a l c)) b { h with q := a, ql := l, qc := c } := by
  obtain ⟨hlt, hk⟩ := Array.getElem?_eq_some_iff.1 hb
  show (W.heap.modify b _)[b]? = _
  rw [Array.getElem?_eq_getElem (by rw [Array.size_modify]; exact hlt), Array.getElem_modify_self, hk]
  rfl
theorem BoxH.put6 {W : World} {b : Nat} {h : Hd} (hb : BoxH W b h) (a : Option Addr) (l c : Nat) : BoxH (W.setCell ⟨b, 6, none⟩ (.slice a l c)) b { h with k := a, kl := l, kc := c } := by
  obtain ⟨hlt, hk⟩ := Array.getElem?_eq_some_iff.1 hb
  show (W.heap.modify b _)[b]? = _
  rw [Array.getElem?_eq_getElem (by rw [Array.size_modify]; exact hlt), Array.getElem_modify_self, hk]
  rfl
theorem PP.swap {B : Nat} {v u : Value} {b : Nat} (h : PP B v u b) : PP B u v b := ⟨h.1, h.2.2, h.2.1⟩
theorem grow_q {Z W : World} {B g : Nat} {v u u' : Value} (hgr : Z.grownBy W u.ownBlock) (hat : u'.ownBlock = u.ownBlock ∨ u'.ownBlock = some g) (hg : Z.heap.size ≤ g) {n : Nat} {h : Hd} {x : Ex} (hx : PwX Z (PP B v u) n h x) : PwX W (PP B v u') n h x :=
  (grow_p hgr hat hg (hx.low (fun _ hb _ => hb.swap))).low (fun _ hb _ => hb.swap)
theorem PwS.low {W : World} {P P' : Nat → Prop} {a : Option Addr} {l : Nat} {pa : List ByteArray} (hP : ∀ b, P b → b < W.heap.size → P' b) (h : PwS W P a l pa) : PwS W P' a l pa :=
  ⟨h.count, h.max, h.each, fun h0 => by obtain ⟨b, e, hb, hl, r⟩ := h.at_ h0; exact ⟨b, e, hP b hb hl, hl, r⟩⟩
theorem grow_s {Z W : World} {B g : Nat} {v v' u : Value} (hgr : Z.grownBy W v.ownBlock) (hat : v'.ownBlock = v.ownBlock ∨ v'.ownBlock = some g) (hg : Z.heap.size ≤ g) {a : Option Addr} {l : Nat} {pa : List ByteArray} (hx : PwS Z (PP B v u) a l pa) : PwS W (PP B v' u) a l pa := by
  have h1 : PwS Z (fun b => PP B v u b ∧ b < g) a l pa := hx.low (fun b hb hl => ⟨hb, by omega⟩)
  have h2 : PwS W (fun b => PP B v u b ∧ b < g) a l pa := h1.keep ⟨hgr.size, fun i hi hl => hgr.block i hl (fun e => hi.1.2.1 e.symm)⟩
  refine h2.low (fun b hb _ => ⟨hb.1.1, fun e => ?_, hb.1.2.2⟩)
  rcases hat with h3 | h3
  · exact hb.1.2.1 (h3 ▸ e)
  · rw [h3] at e
    injection e with e
    omega
theorem kept_apart {W W' : World} {base e size k : Nat} {v u : Value} {xs : List Value} (hr : W.ownsRow base e size u k xs) (hg : W.grownBy W' v.ownBlock) (hne : ∀ g, v.ownBlock = some g → u.ownBlock ≠ some g) : W'.ownsRow base e size u k xs := by
  refine hr.kept hg ?_
  cases hu : u.ownBlock with
  | none => exact .inl rfl
  | some g => exact .inr (fun e2 => hne g e2.symm hu)
variable {w : World} {n : Nat} {h : Hd} {pa : List ByteArray} {t1 : Option Addr} {k1 : Nat} {av : Option Addr} {cv : Nat} {au : Option Addr} {cu : Nat} {LP : List PX} {LK : List HX} {Z w1 : World}
theorem apart_set {B b o : Nat} {v u x : Value} (hb : b < B) : Apart (PP B v u) w1 (w1.setCell ⟨b, o, none⟩ x) :=
  ⟨(grown_set (w := w1) (b := b) (o := o) (v := x)).size, fun i hi hl => (grown_set (w := w1) (b := b) (o := o) (v := x)).block i hl (fun e => by cases e; have := hi.1; omega)⟩
theorem PI.addP (hi : PI w n h pa t1 k1 av cv au cu LP LK Z) {av' : Option Addr} {cv' : Nat} (y : PX) (hown : w1.ownsRow (w.heap.size + 3) 51 8 (.slice av' (LP.length + 1) cv') (LP.length + 1) (pcells LP ++ (.string y.1 :: y.2.1.vals.toList)))
    (hgr : Z.grownBy w1 (Value.slice av LP.length cv).ownBlock) (hat : (Value.slice av' (LP.length + 1) cv').ownBlock = (Value.slice av LP.length cv).ownBlock ∨ (Value.slice av' (LP.length + 1) cv').ownBlock = some Z.heap.size) (hy1 : y.1.size ≤ 140737488355328)
    (hy : PwX Z (PP (w.heap.size + 3) (.slice av LP.length cv) (.slice au LK.length cu)) n y.2.1 y.2.2) : PI w n h pa t1 k1 av' cv' au cu (LP ++ [y]) LK (w1.setCell ⟨w.heap.size + 2, 4, none⟩ (.slice av' (LP.length + 1) cv')) := by
  have hv : ∀ g, (Value.slice av LP.length cv).ownBlock = some g → w.heap.size + 3 ≤ g ∧ g < Z.heap.size := fun g e => hi.rp.lt g e
  have hu : ∀ g, (Value.slice au LK.length cu).ownBlock = some g → w.heap.size + 3 ≤ g ∧ g < Z.heap.size := fun g e => hi.rk.lt g e
  have hv' : ∀ g, (Value.slice av' (LP.length + 1) cv').ownBlock = some g → w.heap.size + 3 ≤ g ∧ g < w1.heap.size := fun g e => hown.lt g e
  have g2 : w1.grownBy (w1.setCell ⟨w.heap.size + 2, 4, none⟩ (.slice av' (LP.length + 1) cv')) (some (w.heap.size + 2)) := grown_set
  have b1 : ∀ i, i < w.heap.size + 3 → w1.heap[i]? = Z.heap[i]? := fun i hl => hgr.block i (by have := hi.size; omega) (fun e => by have := (hv i e.symm).1; omega)
  have ll : (LP ++ [y]).length = LP.length + 1 := by simp
  have hz := hi.size
  have hzz := hgr.size
  refine ⟨(hi.low.grown hgr hi.low.size (fun r e => by have := (hv r e).1; omega)).grown g2 (by omega) (fun r e => by cases e; omega), ?_, ?_, Nat.le_trans (by omega) g2.size, ?_, ?_, ?_, ?_, ?_, ?_, ?_⟩
  · exact (g2.block _ (by omega) (fun e => by injection e with e; omega)).trans ((b1 _ (by omega)).trans hi.box)
  · exact (g2.block _ (by omega) (fun e => by injection e with e; omega)).trans ((b1 _ (by omega)).trans hi.res)
  · rw [ll]
    exact BoxH.put4 (show BoxH w1 (w.heap.size + 2) _ from (b1 _ (by omega)).trans hi.out) av' (LP.length + 1) cv'
  · rw [ll]
    exact (grow_s hgr hat (Nat.le_refl _) hi.pa).keep (apart_set (by omega))
  · rw [ll, pcells_append]
    have : pcells [y] = .string y.1 :: y.2.1.vals.toList := by simp [pcells]
    rw [this]
    exact hown.kept g2 (.inr (fun e => by have := (hv' _ e).1; omega))
  · exact (kept_apart hi.rk hgr hi.ne).kept g2 (.inr (fun e => by have := (hu _ e).1; omega))
  · intro z hz
    rw [ll]
    rcases List.mem_append.1 hz with hz | hz
    · exact ⟨(hi.hp z hz).1, (grow_p hgr hat (Nat.le_refl _) (hi.hp z hz).2).keep (apart_set (by omega))⟩
    · obtain rfl := List.mem_singleton.1 hz
      exact ⟨hy1, (grow_p hgr hat (Nat.le_refl _) hy).keep (apart_set (by omega))⟩
  · intro z hz
    rw [ll]
    exact (grow_p hgr hat (Nat.le_refl _) (hi.hk z hz)).keep (apart_set (by omega))
  · intro g e e2
    rw [ll] at e
    rcases hat with h3 | h3
    · exact hi.ne g (h3 ▸ e) e2
    · rw [h3] at e
      injection e with e
      have := (hu g e2).2
      omega
theorem PI.addK (hi : PI w n h pa t1 k1 av cv au cu LP LK Z) {au' : Option Addr} {cu' : Nat} (y : HX) (hown : w1.ownsRow (w.heap.size + 3) 26 7 (.slice au' (LK.length + 1) cu') (LK.length + 1) (hcells LK ++ y.1.vals.toList))
    (hgr : Z.grownBy w1 (Value.slice au LK.length cu).ownBlock) (hat : (Value.slice au' (LK.length + 1) cu').ownBlock = (Value.slice au LK.length cu).ownBlock ∨ (Value.slice au' (LK.length + 1) cu').ownBlock = some Z.heap.size)
    (hy : PwX Z (PP (w.heap.size + 3) (.slice av LP.length cv) (.slice au LK.length cu)) n y.1 y.2) : PI w n h pa t1 k1 av cv au' cu' LP (LK ++ [y]) (w1.setCell ⟨w.heap.size + 2, 6, none⟩ (.slice au' (LK.length + 1) cu')) := by
  have hv : ∀ g, (Value.slice av LP.length cv).ownBlock = some g → w.heap.size + 3 ≤ g ∧ g < Z.heap.size := fun g e => hi.rp.lt g e
  have hu : ∀ g, (Value.slice au LK.length cu).ownBlock = some g → w.heap.size + 3 ≤ g ∧ g < Z.heap.size := fun g e => hi.rk.lt g e
  have hu' : ∀ g, (Value.slice au' (LK.length + 1) cu').ownBlock = some g → w.heap.size + 3 ≤ g ∧ g < w1.heap.size := fun g e => hown.lt g e
  have g2 : w1.grownBy (w1.setCell ⟨w.heap.size + 2, 6, none⟩ (.slice au' (LK.length + 1) cu')) (some (w.heap.size + 2)) := grown_set
  have b1 : ∀ i, i < w.heap.size + 3 → w1.heap[i]? = Z.heap[i]? := fun i hl => hgr.block i (by have := hi.size; omega) (fun e => by have := (hu i e.symm).1; omega)
  have ll : (LK ++ [y]).length = LK.length + 1 := by simp
  have hz := hi.size
  have hzz := hgr.size
  refine ⟨(hi.low.grown hgr hi.low.size (fun r e => by have := (hu r e).1; omega)).grown g2 (by omega) (fun r e => by cases e; omega), ?_, ?_, Nat.le_trans (by omega) g2.size, ?_, ?_, ?_, ?_, ?_, ?_, ?_⟩
  · exact (g2.block _ (by omega) (fun e => by injection e with e; omega)).trans ((b1 _ (by omega)).trans hi.box)
  · exact (g2.block _ (by omega) (fun e => by injection e with e; omega)).trans ((b1 _ (by omega)).trans hi.res)
  · rw [ll]
    exact BoxH.put6 (show BoxH w1 (w.heap.size + 2) _ from (b1 _ (by omega)).trans hi.out) au' (LK.length + 1) cu'
  · rw [ll]
    exact ((grow_s hgr hat (Nat.le_refl _) (hi.pa.low (fun _ hb _ => hb.swap))).low (fun _ hb _ => hb.swap)).keep (apart_set (by omega))
  · exact (kept_apart hi.rp hgr (fun g e e2 => hi.ne g e2 e)).kept g2 (.inr (fun e => by have := (hv _ e).1; omega))
  · rw [ll, hcells_snoc]
    exact hown.kept g2 (.inr (fun e => by have := (hu' _ e).1; omega))
  · intro z hz
    rw [ll]
    exact ⟨(hi.hp z hz).1, (grow_q hgr hat (Nat.le_refl _) (hi.hp z hz).2).keep (apart_set (by omega))⟩
  · intro z hz
    rw [ll]
    rcases List.mem_append.1 hz with hz | hz
    · exact (grow_q hgr hat (Nat.le_refl _) (hi.hk z hz)).keep (apart_set (by omega))
    · obtain rfl := List.mem_singleton.1 hz
      exact (grow_q hgr hat (Nat.le_refl _) hy).keep (apart_set (by omega))
  · intro g e e2
    rw [ll] at e2
    rcases hat with h3 | h3
    · exact hi.ne g e (h3 ▸ e2)
    · rw [h3] at e2
      injection e2 with e2
      have := (hv g e).2
      omega
end Go.Proofs.YtngikbimlhoigaaDoor
