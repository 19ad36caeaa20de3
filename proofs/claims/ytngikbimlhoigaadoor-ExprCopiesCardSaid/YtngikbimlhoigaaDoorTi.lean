/- WALK of expr's Refs. -/
import Derived.Test.YtngikbimlhoigaaDoorTd
import Derived.Maps.AppendAt
import Derived.Deep.AppendLies
namespace Go.Proofs.YtngikbimlhoigaaDoor
open Go.RowKit Go.Shelf
attribute [local go_sem] Oper.semAt_some
/-- The name that an expression reads. -/
def ref1 (x : Ex) : List ByteArray := if x.op = 9 then x.path.take 1 else []
def refsL (l : List Ex) : List ByteArray := l.flatMap ref1
theorem ref1_len (x : Ex) : (ref1 x).length ≤ 1 := by unfold ref1; split <;> simp; omega
theorem refsL_len : ∀ l : List Ex, (refsL l).length ≤ l.length
  | [] => by simp [refsL]
  | x :: l => by
    have h1 := ref1_len x
    have h2 := refsL_len l
    simp only [refsL, List.flatMap_cons, List.length_append, List.length_cons] at h2 ⊢
    omega
theorem refsL_snoc (l : List Ex) (x : Ex) : refsL (l ++ [x]) = refsL l ++ ref1 x := by simp [refsL]
/-- Between two rounds. -/
structure RefI (w : World) (h : Hd) (F : Nat → Prop) (pre : List HX) (X : World) : Prop where
  far : ∀ r, F r → w.heap.size + 3 ≤ r
  bnd : ∀ r, F r → r < X.heap.size
  size : w.heap.size + 3 ≤ X.heap.size
  low : Below w.heap.size w X
  box : BoxH X (w.heap.size + 1 + 1) h
  row : ∃ v, Boxed X (w.heap.size + 1) 22 v ∧ X.ownsRow (w.heap.size + 3) 9 1 v (refsL (pre.map (·.2))).length ((refsL (pre.map (·.2))).map Value.string) ∧ ∀ g, v.ownBlock = some g → ¬ F g
theorem own_lt {W : World} {base e size k : Nat} {v : Value} {xs : List Value} (hr : W.ownsRow base e size v k xs) : ∀ g, v.ownBlock = some g → g < W.heap.size := fun g hg => by
  rcases hr.2 with ⟨rfl, _⟩ | ⟨g', cap, cur, rfl, _, hgb, _⟩
  · simp [Value.ownBlock] at hg
  · obtain rfl : g' = g := by simpa [Value.ownBlock] using hg
    exact (Array.getElem?_eq_some_iff.1 hgb).1
theorem refI_fr (w : World) (h : Hd) : Fr (RefI w h) where
  grow := fun {F pre X Y} hi hg => ⟨fun r hr => hr.elim (hi.far r) (fun h3 => Nat.le_trans hi.size h3.1), fun r hr => hr.elim (fun h3 => Nat.lt_of_lt_of_le (hi.bnd r h3) hg.size) (fun h3 => h3.2), Nat.le_trans hi.size hg.size, hi.low.grown hg hi.low.size (fun _ e => by cases e), (hg.block _ hi.box.lt (fun e => by cases e)).trans hi.box, by
    obtain ⟨v, h1, h2, h3⟩ := hi.row
    exact ⟨v, h1.kept hg (by simp), h2.kept hg (by cases v.ownBlock <;> simp), fun g hv hF => hF.elim (h3 g hv) (fun h4 => by have := own_lt h2 g hv; omega)⟩⟩
  put := fun {F pre X Y r} hi hr hg => ⟨hi.far, fun r h3 => Nat.lt_of_lt_of_le (hi.bnd r h3) hg.size, Nat.le_trans hi.size hg.size, hi.low.grown hg hi.low.size (fun k e => by cases e; have := hi.far _ hr; omega), (hg.block _ hi.box.lt (fun e => by cases e; have := hi.far _ hr; omega)).trans hi.box, by
    obtain ⟨v, h1, h2, h3⟩ := hi.row
    exact ⟨v, h1.kept hg (fun e => by cases e; have := hi.far _ hr; omega), h2.kept hg (.inr (fun e => h3 r e hr)), h3⟩⟩
  less := fun hF hi => ⟨fun r hr => hi.far r (hF r hr), fun r hr => hi.bnd r (hF r hr), hi.size, hi.low, hi.box, by
    obtain ⟨v, h1, h2, h3⟩ := hi.row
    exact ⟨v, h1, h2, fun g hg hFg => h3 g hg (hF g hFg)⟩⟩
/-- A list of texts of the call's own. -/
def TxtsP (l : List ByteArray) (w : World) (e : Ending) (w' : World) : Prop := ∃ v, e = .returned v ∧ w'.ownsRow w.heap.size 9 1 v l.length (l.map Value.string) ∧ Below w.heap.size w w'
theorem owns_up {W : World} {base base' e size k : Nat} {v : Value} {xs : List Value} (hr : W.ownsRow base e size v k xs) (h : base' ≤ base) : W.ownsRow base' e size v k xs := by
  refine ⟨hr.1, ?_⟩
  rcases hr.2 with h1 | ⟨g, cap, cur, hv, hb, rest⟩
  · exact .inl h1
  · exact .inr ⟨g, cap, cur, hv, Nat.le_trans h hb, rest⟩
set_option maxRecDepth 100000 in
set_option maxHeartbeats 4000000 in
theorem refs_any (w : World) (n : Nat) (h : Hd) (x : Ex) (hx : InX w n h x) (hN : (allN n x).length ≤ 1000000) : Calls Tryd.prog 20 #[h.agg] w (TxtsP (refsL (allN n x)) w) := by
  have hw1 : ∀ f, Fence.wide.fn f := fun _ => trivial
  have hw2 : Fence.wide.depth.isSome = false := rfl
  obtain ⟨i0, hi, hz0, hz1, hz2⟩ := info_parts info9
  have HI9 := Lib.hid (And.intro hi (And.intro hz0 (And.intro hz1 hz2)))
  have HN := Lib.hid hN
  have hI := fun W => Lib.hid (inOrder_any h W)
  obtain ⟨op, nn, s, p, pl, pc, q, ql, qc, o, k, kl, kc⟩ := h
  have HF := Lib.hid (inOrder_fit w n (w.heap.size + 1 + 1) _ x hx)
  clear hx hi hz0 hz1 hz2 hN
  unfold Hd.agg Hd.vals at hI
  unfold Hd.agg
  dsimp only at hI
  refine (callsIn_wide (n := 9)).1 ?_
  refine callsIn_of_wp_marks Tryd.func20 rfl trivial ?_ rfl
  simp only [Tryd.ntmps20, List.size_toArray, List.length_cons, List.length_nil, Nat.reduceAdd, Nat.reduceSub, Array.replicate_succ, Array.replicate_zero, List.push_toArray, List.append_toArray, List.nil_append, List.cons_append]
  gi_wp2_with (gi_at_call 27; refine (callsIn_wide.2 (hI _).out).mono ?_; rintro e w' ⟨rfl, rfl⟩)
  have hE3 := heap3 w (.cells #[.int .i64 op, .int .i64 nn, .string s, .slice p pl pc, .slice q ql qc, .bool o, .slice k kl kc] 26) (.cells #[.slice none 0 0] 22) (.cells #[.int .i64 op, .int .i64 nn, .string s, .slice p pl pc, .slice q ql qc, .bool o, .slice k kl kc] 26)
  have hB0 := below_alloc (below_alloc (below_alloc (Below.refl w.heap.size w) (.cells #[.int .i64 op, .int .i64 nn, .string s, .slice p pl pc, .slice q ql qc, .bool o, .slice k kl kc] 26)) (.cells #[.slice none 0 0] 22)) (.cells #[.int .i64 op, .int .i64 nn, .string s, .slice p pl pc, .slice q ql qc, .bool o, .slice k kl kc] 26)
  have hsz : (((w.alloc (.cells #[.int .i64 op, .int .i64 nn, .string s, .slice p pl pc, .slice q ql qc, .bool o, .slice k kl kc] 26)).alloc (.cells #[.slice none 0 0] 22)).alloc (.cells #[.int .i64 op, .int .i64 nn, .string s, .slice p pl pc, .slice q ql qc, .bool o, .slice k kl kc] 26)).heap.size = w.heap.size + 3 := by simp
  obtain ⟨W0, hW0⟩ : ∃ W0, ((w.alloc (.cells #[.int .i64 op, .int .i64 nn, .string s, .slice p pl pc, .slice q ql qc, .bool o, .slice k kl kc] 26)).alloc (.cells #[.slice none 0 0] 22)).alloc (.cells #[.int .i64 op, .int .i64 nn, .string s, .slice p pl pc, .slice q ql qc, .bool o, .slice k kl kc] 26) = W0 := ⟨_, rfl⟩
  rw [hW0] at hE3 hB0 hsz ⊢
  clear hW0
  refine range_fit (gf := 43) (lb := #[.pointer (some ⟨w.heap.size + 1 + 1, 0, none⟩)]) (by decide) rfl (enters_of Tryd.func43 (by kernel_rfl) rfl) HF.out (fun _ => rfl)
    (RefI w ⟨op, nn, s, p, pl, pc, q, ql, qc, o, k, kl, kc⟩) (fun _ _ _ _ => False) (refI_fr w _) (fun c => ⟨fun h _ => h, fun h _ _ => h, fun _ h => h⟩) (fun F pre X hi => ⟨hi.low, hi.box⟩)
    ⟨fun _ h => h.elim, fun _ h => h.elim, by omega, hB0, hE3.2.2, _, hE3.2.1, World.ownsRow_nil _ _ _ _, fun g hg => by simp [Value.ownBlock] at hg⟩ ?round ?done ?stop
  case round =>
    rintro l2 F2 ys ⟨yh, yx⟩ X hl2 hrec hI2 ⟨⟨m, hfit⟩, hnext⟩
    obtain ⟨m, rfl⟩ := InX.pos hfit
    obtain ⟨op2, nn2, s2, p2, pl2, pc2, q2, ql2, qc2, o2, k2, kl2, kc2⟩ := yh
    obtain ⟨xop, xn, xs, pa, xps, xo, xks⟩ := yx
    obtain ⟨h1, -, -, -, -, hpa, -, -⟩ := hfit
    dsimp only at h1 hpa
    subst h1
    have HI2 := Lib.hid hI2
    have HPA := Lib.hid hpa
    have hlX : l2 < X.heap.size := by obtain ⟨r, hr⟩ := hrec; exact (Array.getElem?_eq_some_iff.1 hr).1
    have hlen := Lib.hid (show ys.length ≤ 1000000 by
      have h1 := hnext.length_le
      have h2 := HN.out
      simp at h1; omega)
    clear hI2 hrec hnext hpa
    dsimp only [encX, Hd.agg]
    gi_wp2
    refine ⟨⟨by simp, fun i _ hi => Below.heap_alloc _ _ _ hi⟩, (refI_fr w _).alloc HI2.out _, ?_⟩
    intro Y hYz hYo hYl hIY
    have hbx : BoxH Y X.heap.size ⟨op2, nn2, s2, p2, pl2, pc2, q2, ql2, qc2, o2, k2, kl2, kc2⟩ := (hYo _ (by omega)).trans (World.alloc_heap_new X _)
    obtain ⟨d0, d1, d2, d3, d4, d5, d6⟩ := hbx.cells
    dsimp only at d0 d1 d2 d3 d4 d5 d6
    simp only [Nat.zero_add] at d1 d2 d3 d4 d5 d6
    have hXz := HI2.out.size
    have HIY := Lib.hid hIY
    have HBX := Lib.hid hbx
    clear hbx hYo hYl hIY
    by_cases h9 : op2 = 9
    · subst h9
      have hc := HPA.out.count
      by_cases h0 : 0 < pl2
      · obtain ⟨nm, pa', rfl⟩ : ∃ nm pa', pa = nm :: pa' := by
          cases pa with
          | nil => exact absurd hc (by simp; omega)
          | cons a l => exact ⟨a, l, rfl⟩
        have HR := Lib.hid (show ref1 (.mk 9 xn xs (nm :: pa') xps xo xks) = [nm] from rfl)
        obtain ⟨b, off, rfl, lt, hcell⟩ := HPA.out.at_ h0
        have g0 : (0 : Int) < (pl2 : Int) := by omega
        have hcp := (HIY.out.low.cell (p := ⟨b, off + 0, none⟩) lt).trans (hcell 0 nm rfl)
        simp only [Nat.add_zero] at hcp
        obtain ⟨v, hv, hrow, hgF⟩ := HIY.out.row
        have hlt2 := Nat.lt_of_lt_of_le lt HIY.out.low.size
        have cv := hv.cell
        have HV := Lib.hid hv
        have HROW := Lib.hid hrow
        have HLT := Lib.hid lt
        clear hv hrow hcell hc lt
        gi_wp2
        obtain ⟨wd, hwd⟩ : ∃ wd : World, wd = { Y with drawn := Y.drawn + 1 } := ⟨_, rfl⟩
        have hbd : Below Y.heap.size Y wd := by rw [hwd]; exact (Below.refl _ Y).drew
        have hwz : wd.heap.size = Y.heap.size := by rw [hwd]
        have hheap : ∀ i : Nat, wd.heap[i]? = Y.heap[i]? := fun i => by rw [hwd]
        have hrowD : (wd.alloc (.cells #[.string nm] 9)).ownsRow (w.heap.size + 3) 9 1 v (refsL (ys.map (·.2))).length ((refsL (ys.map (·.2))).map Value.string) := (HROW.out.kept (grown_below hbd) (by cases v.ownBlock <;> simp)).alloc _
        have hRl := refsL_len (ys.map (·.2))
        rw [List.length_map] at hRl
        obtain ⟨hi, hz0, hz1, hz2⟩ := HI9.out
        obtain ⟨v', w1, hrun, hown, hgrow, -, hat⟩ := run_append_own_at (P := Tryd.prog) (wd.alloc (.cells #[.string nm] 9)) (w.heap.size + 3) 22 22 9 i0 (.string ByteArray.empty) 1 16 Tryd.underlying22 hi hz0 hz1 hz2 rfl (by decide) v (refsL (ys.map (·.2))).length _ hrowD ⟨wd.heap.size, 0, none⟩ 1 1 [.string nm] rfl (cell_one_new _ _ _) (by simp [Value.oneCell']) (by unfold maxLen; have := hlen.out; omega) (by have := hlen.out; omega) (by have := HIY.out.size; simp; omega)
        obtain ⟨g', cap', rfl⟩ := ownsRow_succ hown
        obtain ⟨nL, hnL⟩ : ∃ nL, (refsL (ys.map (·.2))).length + 1 = nL := ⟨_, rfl⟩
        rw [hnL] at hrun hown
        have HNL := Lib.hid hnL
        clear hnL
        have hcd : Boxed wd (w.heap.size + 1) 22 v := (hheap _).trans HV.out
        have cd := hcd.cell
        have hxd : BoxH wd X.heap.size ⟨9, nn2, s2, some ⟨b, off, none⟩, pl2, pc2, q2, ql2, qc2, o2, k2, kl2, kc2⟩ := (hheap _).trans HBX.out
        have hblow : b < w.heap.size := HLT.out
        have hrb := own_base HROW.out
        have hrl := own_lt HROW.out
        have hbox : ∀ {Z : World}, BoxH Z X.heap.size ⟨9, nn2, s2, some ⟨b, off, none⟩, pl2, pc2, q2, ql2, qc2, o2, k2, kl2, kc2⟩ → Z.cell? ⟨b, off, none⟩ = some (.string nm) → Z.cell? ⟨X.heap.size, 3, none⟩ = some (.slice (some ⟨b, off, none⟩) pl2 pc2) ∧ Z.cell? ⟨b, off, none⟩ = some (.string nm) := fun h1 h2 => ⟨by have := h1.cells.c3; simpa using this, h2⟩
        have hSd := hbox hxd (by have := hbd.cell (p := ⟨b, off, none⟩) hlt2; rw [this]; exact hcp)
        have hSa := hbox (hxd.alloc (.cells #[.string nm] 9)) (by rw [World.cell?_alloc_past _ _ _ (by show b < wd.heap.size; omega)]; exact hSd.2)
        have hca : Boxed (wd.alloc (.cells #[.string nm] 9)) (w.heap.size + 1) 22 v := hcd.alloc _
        have ca := hca.cell
        have hc1 : Boxed w1 (w.heap.size + 1) 22 v := hca.kept hgrow (fun e => by have := hrb _ e.symm; omega)
        have hnx : some X.heap.size ≠ v.ownBlock := fun e => by
          obtain ⟨g, cap, cur, hv2, hgl⟩ : ∃ g cap cur, v = .slice (some ⟨g, 0, none⟩) (refsL (ys.map (·.2))).length cap ∧ Y.heap[g]? = some (.cells cur 9) := by
            rcases HROW.out.2 with ⟨rfl, _⟩ | ⟨g, cap, cur, hv2, _, hgl, _⟩
            · simp [Value.ownBlock] at e
            · exact ⟨g, cap, cur, hv2, hgl⟩
          rw [hv2] at e
          obtain rfl : X.heap.size = g := by simpa [Value.ownBlock] using e
          have := (show Y.heap[X.heap.size]? = _ from HBX.out).symm.trans hgl
          simp [Hd.vals] at this
        have hx1 : BoxH w1 X.heap.size ⟨9, nn2, s2, some ⟨b, off, none⟩, pl2, pc2, q2, ql2, qc2, o2, k2, kl2, kc2⟩ := (hgrow.block _ (by have := HBX.out.lt; simp; omega) hnx).trans (hxd.alloc (.cells #[.string nm] 9))
        have hS1 := hbox hx1 (by rw [hgrow.cell_far ⟨b, off, none⟩ (by simp; omega) (fun e => by have := hrb _ e.symm; simp at this; omega)]; exact hSa.2)
        have cw1 := hc1.cell
        have fw1 := hc1.frozen
        have n1 : X.heap.size ≠ w.heap.size + 1 := by omega
        have hS2 := hbox (Z := w1.setCell ⟨w.heap.size + 1, 0, none⟩ (.slice (some ⟨g', 0, none⟩) nL cap')) ((Below.heap_setCell w1 ⟨w.heap.size + 1, 0, none⟩ (.slice (some ⟨g', 0, none⟩) nL cap') _ (by simpa using n1)).trans hx1) (by rw [World.cell?_setCell_other (h := by intro y; injection y with y; omega)]; exact hS1.2)
        have fin : ∀ a : Act, fitPost F2 (RefI w ⟨op, nn, s, p, pl, pc, q, ql, qc, o, k, kl, kc⟩) (fun _ _ _ _ => False) (ys ++ [(⟨9, nn2, s2, some ⟨b, off, none⟩, pl2, pc2, q2, ql2, qc2, o2, k2, kl2, kc2⟩, Ex.mk 9 xn xs (nm :: pa') xps xo xks)]) Y .normal a (w1.setCell ⟨w.heap.size + 1, 0, none⟩ (.slice (some ⟨g', 0, none⟩) nL cap')) := fun _ => by
          have hgd : Y.grownBy w1 v.ownBlock := by
            refine ⟨hgrow.os.trans (by rw [hwd]; rfl), hgrow.tape.trans (by rw [hwd]; rfl), hgrow.output.trans (by rw [hwd]; rfl), by have := hgrow.size; simp at this; omega, fun i hi hne => ?_⟩
            exact (hgrow.block i (by simp; omega) hne).trans ((Below.heap_alloc wd _ i (by omega)).trans (hheap i))
          refine ⟨?_, HIY.out.far, fun r hr => ?_, ?_, ?_, ?_, (.slice (some ⟨g', 0, none⟩) nL cap'), ?_, ?_, ?_⟩
          · exact ((Stays.refl _ Y).grown hgd (fun r e hr => absurd hr (hgF r e))).grown (grownBy_setCell' _ _ _) (fun r e hr => by cases e; have := HIY.out.far _ hr; omega)
          · have := HIY.out.bnd _ hr; have := hgd.size; have := (grownBy_setCell' w1 (w.heap.size + 1) (.slice (some ⟨g', 0, none⟩) nL cap')).size; omega
          · have := HIY.out.size; have := hgd.size; have := (grownBy_setCell' w1 (w.heap.size + 1) (.slice (some ⟨g', 0, none⟩) nL cap')).size; omega
          · exact (HIY.out.low.grown hgd HIY.out.low.size (fun r e => by have := hrb r e; omega)).setCell (p := ⟨w.heap.size + 1, 0, none⟩) (by simp) _
          · exact (Below.heap_setCell w1 ⟨w.heap.size + 1, 0, none⟩ (.slice (some ⟨g', 0, none⟩) nL cap') _ (by simp)).trans ((hgd.block _ HIY.out.box.lt (fun e => by have := hrb _ e.symm; omega)).trans HIY.out.box)
          · exact hc1.set _
          · rw [List.map_append, List.map_cons, List.map_nil, refsL_snoc, HR.out, List.map_append, List.length_append]
            show World.ownsRow _ _ _ _ _ ((refsL (ys.map (·.2))).length + 1) _
            rw [HNL.out]
            refine hown.kept (grownBy_setCell' _ _ _) (.inr fun e => ?_)
            have := own_base hown _ e; omega
          · intro g hg hFg
            rcases hat with h5 | h5
            · rw [HNL.out] at h5
              exact hgF g (by rw [← h5]; exact hg) hFg
            · rw [HNL.out] at h5
              rw [h5] at hg
              have h6 := HIY.out.bnd _ hFg
              have : g = (wd.alloc (.cells #[.string nm] 9)).heap.size := by injection hg with h7; exact h7.symm
              simp at this; omega
        have HRUN := Lib.hid hrun
        have HFIN := Lib.hid fin
        clear hrun fin hgrow hown hat hrowD hbd hi hz0 hz1 hz2 hbox
        refine region_in (S := fun Z => Z.cell? ⟨X.heap.size, 3, none⟩ = some (.slice (some ⟨b, off, none⟩) pl2 pc2) ∧ Z.cell? ⟨b, off, none⟩ = some (.string nm)) (by kernel_rfl) (noDefer_spec (by kernel_rfl)) (fun ⟨_, _, h⟩ => h) ?_
        rw [← hwd]
        clear hwd hheap
        refine take_at' (i := 1) 18 (v := .pointer (some ⟨X.heap.size, 3, none⟩)) rfl rfl (by kernel_rfl) (by kernel_rfl) (by kernel_rfl) (fun _ _ _ h => h) (Or.inl ⟨by rfl, fun w' hS => (by go_simp)⟩) hSd ?_
        refine take_at' (i := 2) 19 (v := .slice (some ⟨b, off, none⟩) pl2 pc2) rfl rfl (by kernel_rfl) (by kernel_rfl) (by kernel_rfl) (fun _ _ _ h => h) (Or.inl ⟨by rfl, fun w' hS => (by obtain ⟨s1, s2⟩ := hS; go_simp)⟩) hSd ?_
        refine take_at' (i := 3) 20 (v := .pointer (some ⟨b, off, none⟩)) rfl rfl (by kernel_rfl) (by kernel_rfl) (by kernel_rfl) (fun _ _ _ h => h) (Or.inl ⟨by rfl, fun w' hS => (by go_simp)⟩) hSd ?_
        refine take_at' (i := 4) 21 (v := .string nm) rfl rfl (by kernel_rfl) (by kernel_rfl) (by kernel_rfl) (fun _ _ _ h => h) (Or.inl ⟨by rfl, fun w' hS => (by obtain ⟨s1, s2⟩ := hS; go_simp)⟩) hSd ?_
        simp only [List.setIfInBounds_toArray, List.set_cons_succ, List.set_cons_zero]
        refine wpAnyH_all (rs := [0, 5]) (by kernel_rfl) (by simp) ?_
        intro i hi
        have hi2 : i = 0 ∨ i = 5 := by simpa using hi
        rcases hi2 with rfl | rfl
        · refine value_at 17 (v := v) (w' := wd) rfl rfl rfl (by go_simp) ⟨hSd, ?_⟩
          simp only [List.setIfInBounds_toArray, List.set_cons_succ, List.set_cons_zero]
          refine wpAnyH_all (rs := [5]) (by kernel_rfl) (by simp) ?_
          intro i hi
          obtain rfl : i = 5 := by simpa using hi
          refine value_at 22 (v := .slice (some ⟨wd.heap.size, 0, none⟩) 1 1) (w' := wd.alloc (.cells #[.string nm] 9)) rfl rfl rfl (by go_simp) ⟨hSa, ?_⟩
          simp only [List.setIfInBounds_toArray, List.set_cons_succ, List.set_cons_zero]
          refine wpAnyH_all (rs := [6]) (by kernel_rfl) (by simp) ?_
          intro i hi
          obtain rfl : i = 6 := by simpa using hi
          refine value_at 23 (v := (.slice (some ⟨g', 0, none⟩) nL cap')) (w' := w1) rfl rfl rfl (append_run rfl rfl rfl HRUN.out) ⟨hS1, ?_⟩
          simp only [List.setIfInBounds_toArray, List.set_cons_succ, List.set_cons_zero]
          refine wpAnyH_all (rs := [7]) (by kernel_rfl) (by simp) ?_
          intro i hi
          obtain rfl : i = 7 := by simpa using hi
          refine skip_at (w' := w1.setCell ⟨w.heap.size + 1, 0, none⟩ (.slice (some ⟨g', 0, none⟩) nL cap')) rfl rfl rfl (by go_simp) ⟨hS2, ?_⟩
          refine wpAnyH_done (by kernel_rfl) ?_ _
          exact HFIN.out { tmps := #[], defers := [] }
        · refine value_at 22 (v := .slice (some ⟨wd.heap.size, 0, none⟩) 1 1) (w' := wd.alloc (.cells #[.string nm] 9)) rfl rfl rfl (by go_simp) ⟨hSa, ?_⟩
          simp only [List.setIfInBounds_toArray, List.set_cons_succ, List.set_cons_zero]
          refine wpAnyH_all (rs := [0]) (by kernel_rfl) (by simp) ?_
          intro i hi
          obtain rfl : i = 0 := by simpa using hi
          refine value_at 17 (v := v) (w' := wd.alloc (.cells #[.string nm] 9)) rfl rfl rfl (by go_simp) ⟨hSa, ?_⟩
          simp only [List.setIfInBounds_toArray, List.set_cons_succ, List.set_cons_zero]
          refine wpAnyH_all (rs := [6]) (by kernel_rfl) (by simp) ?_
          intro i hi
          obtain rfl : i = 6 := by simpa using hi
          refine value_at 23 (v := (.slice (some ⟨g', 0, none⟩) nL cap')) (w' := w1) rfl rfl rfl (append_run rfl rfl rfl HRUN.out) ⟨hS1, ?_⟩
          simp only [List.setIfInBounds_toArray, List.set_cons_succ, List.set_cons_zero]
          refine wpAnyH_all (rs := [7]) (by kernel_rfl) (by simp) ?_
          intro i hi
          obtain rfl : i = 7 := by simpa using hi
          refine skip_at (w' := w1.setCell ⟨w.heap.size + 1, 0, none⟩ (.slice (some ⟨g', 0, none⟩) nL cap')) rfl rfl rfl (by go_simp) ⟨hS2, ?_⟩
          refine wpAnyH_done (by kernel_rfl) ?_ _
          exact HFIN.out { tmps := #[], defers := [] }
      · have HR := Lib.hid (show ref1 (.mk 9 xn xs pa xps xo xks) = [] by
          obtain rfl : pa = [] := List.length_eq_zero_iff.1 (by omega)
          rfl)
        obtain rfl : pl2 = 0 := by omega
        gi_wp2
        refine ⟨Stays.refl _ _, HIY.out.far, HIY.out.bnd, HIY.out.size, HIY.out.low, HIY.out.box, ?_⟩
        rw [List.map_append, List.map_cons, List.map_nil, refsL_snoc, HR.out, List.append_nil]
        exact HIY.out.row
    · have HR := Lib.hid (show ref1 (.mk op2 xn xs pa xps xo xks) = [] from if_neg h9)
      have e9 := eq_no h9
      clear h9
      gi_wp2
      refine ⟨Stays.refl _ _, HIY.out.far, HIY.out.bnd, HIY.out.size, HIY.out.low, HIY.out.box, ?_⟩
      rw [List.map_append, List.map_cons, List.map_nil, refsL_snoc, HR.out, List.append_nil]
      exact HIY.out.row
  case done =>
    rintro D F2 ys X hD hys hI2 hKD
    obtain ⟨v, hv, hrow, hg⟩ := hI2.row
    have cc := hv.cell
    have HI2 := Lib.hid hI2
    have HKD := Lib.hid hKD
    have HYS := Lib.hid hys
    have HROW := Lib.hid hrow
    clear hI2 hKD hys hrow hv
    gi_wp2
    refine ⟨by simp, .inl ⟨_, _, rfl, run_takeDeferred HKD.out, ?_⟩⟩
    refine ⟨_, results_tmp rfl _ _ _, v, rfl, ?_, ?_⟩
    · have h5 := HROW.out.kept (grownBy_putObj' _ D (.deferred none)) (.inr (fun e => hg _ e hD))
      rw [HYS.out] at h5
      exact owns_up h5 (by omega)
    · exact HI2.out.low.grown (grownBy_putObj' _ _ _) HI2.out.low.size (fun r e => by cases e; have := HI2.out.far _ hD; omega)
  case stop =>
    rintro D F2 c ys X hD hys hI2 hKD
    exact hI2.elim
end Go.Proofs.YtngikbimlhoigaaDoor
