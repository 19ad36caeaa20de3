/- Ti, Tj, Ua, Ub, Uc, Wj -/
import Derived.Maps.AppendAt
import Derived.Deep.AppendLies
import Derived.Test.YtngnegnofmpgkaaZ7
/- WALK of expr's Refs. -/
namespace Go.Proofs.Ytngnegnofmpgkaa
open Go.RowKit Go.Shelf
attribute [local go_sem] Oper.semAt_some
/-- The name that an expression reads. -/
def ref1 (x : Ex) : List ByteArray := if x.op = 9 then x.path.take 1 else []
def refsL (l : List Ex) : List ByteArray := l.flatMap ref1
theorem ref1_len (x : Ex) : (ref1 x).length ≤ 1 := by unfold ref1; split <;> simp; omega
theorem refsL_len : ∀ l : List Ex, (refsL l).length ≤ l.length
  | [] => by simp [refsL]
  | x :: l => by
    have h1 := ref1_len x
    have h2 := refsL_len l
    simp only [refsL, List.flatMap_cons, List.length_append, List.length_cons] at h2 ⊢
    omega
theorem refsL_snoc (l : List Ex) (x : Ex) : refsL (l ++ [x]) = refsL l ++ ref1 x := by simp [refsL]
/-- Between two rounds. -/
structure RefI (w : World) (h : Hd) (F : Nat → Prop) (pre : List HX) (X : World) : Prop where
  far : ∀ r, F r → w.heap.size + 3 ≤ r
  bnd : ∀ r, F r → r < X.heap.size
  size : w.heap.size + 3 ≤ X.heap.size
  low : Below w.heap.size w X
  box : BoxH X (w.heap.size + 1 + 1) h
  row : ∃ v, Boxed X (w.heap.size + 1) 26 v ∧ X.ownsRow (w.heap.size + 3) 9 1 v (refsL (pre.map (·.2))).length ((refsL (pre.map (·.2))).map Value.string) ∧ ∀ g, v.ownBlock = some g → ¬ F g
theorem own_lt {W : World} {base e size k : Nat} {v : Value} {xs : List Value} (hr : W.ownsRow base e size v k xs) : ∀ g, v.ownBlock = some g → g < W.heap.size := fun g hg => by
  rcases hr.2 with ⟨rfl, _⟩ | ⟨g', cap, cur, rfl, _, hgb, _⟩
  · simp [Value.ownBlock] at hg
  · obtain rfl : g' = g := by simpa [Value.ownBlock] using hg
    exact (Array.getElem?_eq_some_iff.1 hgb).1
theorem refI_fr (w : World) (h : Hd) : Fr (RefI w h) where
  grow := fun {F pre X Y} hi hg => ⟨fun r hr => hr.elim (hi.far r) (fun h3 => Nat.le_trans hi.size h3.1), fun r hr => hr.elim (fun h3 => Nat.lt_of_lt_of_le (hi.bnd r h3) hg.size) (fun h3 => h3.2), Nat.le_trans hi.size hg.size, hi.low.grown hg hi.low.size (fun _ e => by cases e), (hg.block _ hi.box.lt (fun e => by cases e)).trans hi.box, by
    obtain ⟨v, h1, h2, h3⟩ := hi.row
    exact ⟨v, h1.kept hg (by simp), h2.kept hg (by cases v.ownBlock <;> simp), fun g hv hF => hF.elim (h3 g hv) (fun h4 => by have := own_lt h2 g hv; omega)⟩⟩
  put := fun {F pre X Y r} hi hr hg => ⟨hi.far, fun r h3 => Nat.lt_of_lt_of_le (hi.bnd r h3) hg.size, Nat.le_trans hi.size hg.size, hi.low.grown hg hi.low.size (fun k e => by cases e; have := hi.far _ hr; omega), (hg.block _ hi.box.lt (fun e => by cases e; have := hi.far _ hr; omega)).trans hi.box, by
    obtain ⟨v, h1, h2, h3⟩ := hi.row
    exact ⟨v, h1.kept hg (fun e => by cases e; have := hi.far _ hr; omega), h2.kept hg (.inr (fun e => h3 r e hr)), h3⟩⟩
  less := fun hF hi => ⟨fun r hr => hi.far r (hF r hr), fun r hr => hi.bnd r (hF r hr), hi.size, hi.low, hi.box, by
    obtain ⟨v, h1, h2, h3⟩ := hi.row
    exact ⟨v, h1, h2, fun g hg hFg => h3 g hg (hF g hFg)⟩⟩
/-- A list of texts of the call's own. -/
def TxtsP (l : List ByteArray) (w : World) (e : Ending) (w' : World) : Prop := ∃ v, e = .returned v ∧ w'.ownsRow w.heap.size 9 1 v l.length (l.map Value.string) ∧ Below w.heap.size w w'
theorem owns_up {W : World} {base base' e size k : Nat} {v : Value} {xs : List Value} (hr : W.ownsRow base e size v k xs) (h : base' ≤ base) : W.ownsRow base' e size v k xs := by
  refine ⟨hr.1, ?_⟩
  rcases hr.2 with h1 | ⟨g, cap, cur, hv, hb, rest⟩
  · exact .inl h1
  · exact .inr ⟨g, cap, cur, hv, Nat.le_trans h hb, rest⟩
set_option maxRecDepth 100000 in
set_option maxHeartbeats 4000000 in
theorem refs_any (w : World) (n : Nat) (h : Hd) (x : Ex) (hx : InX w n h x) (hN : (allN n x).length ≤ 1000000) : Calls Try.prog 92 #[h.agg] w (TxtsP (refsL (allN n x)) w) := by
  have hw1 : ∀ f, Fence.wide.fn f := fun _ => trivial
  have hw2 : Fence.wide.depth.isSome = false := rfl
  obtain ⟨i0, hi, hz0, hz1, hz2⟩ := info_parts info9
  have HI9 := Lib.hid (And.intro hi (And.intro hz0 (And.intro hz1 hz2)))
  have HN := Lib.hid hN
  have hI := fun W => Lib.hid (inOrder_any h W)
  obtain ⟨op, nn, s, p, pl, pc, q, ql, qc, o, k, kl, kc⟩ := h
  have HF := Lib.hid (inOrder_fit w n (w.heap.size + 1 + 1) _ x hx)
  clear hx hi hz0 hz1 hz2 hN
  unfold Hd.agg Hd.vals at hI
  unfold Hd.agg
  dsimp only at hI
  refine (callsIn_wide (n := 9)).1 ?_
  refine callsIn_of_wp_marks Try.func92 rfl trivial ?_ rfl
  simp only [Try.ntmps92, List.size_toArray, List.length_cons, List.length_nil, Nat.reduceAdd, Nat.reduceSub, Array.replicate_succ, Array.replicate_zero, List.push_toArray, List.append_toArray, List.nil_append, List.cons_append]
  gi_wp2_with (gi_at_call 100; refine (callsIn_wide.2 (hI _).out).mono ?_; rintro e w' ⟨rfl, rfl⟩)
  have hE3 := heap3 w (.cells #[.int .i64 op, .int .i64 nn, .string s, .slice p pl pc, .slice q ql qc, .bool o, .slice k kl kc] 38) (.cells #[.slice none 0 0] 26) (.cells #[.int .i64 op, .int .i64 nn, .string s, .slice p pl pc, .slice q ql qc, .bool o, .slice k kl kc] 38)
  have hB0 := below_alloc (below_alloc (below_alloc (Below.refl w.heap.size w) (.cells #[.int .i64 op, .int .i64 nn, .string s, .slice p pl pc, .slice q ql qc, .bool o, .slice k kl kc] 38)) (.cells #[.slice none 0 0] 26)) (.cells #[.int .i64 op, .int .i64 nn, .string s, .slice p pl pc, .slice q ql qc, .bool o, .slice k kl kc] 38)
  have hsz : (((w.alloc (.cells #[.int .i64 op, .int .i64 nn, .string s, .slice p pl pc, .slice q ql qc, .bool o, .slice k kl kc] 38)).alloc (.cells #[.slice none 0 0] 26)).alloc (.cells #[.int .i64 op, .int .i64 nn, .string s, .slice p pl pc, .slice q ql qc, .bool o, .slice k kl kc] 38)).heap.size = w.heap.size + 3 := by simp
  obtain ⟨W0, hW0⟩ : ∃ W0, ((w.alloc (.cells #[.int .i64 op, .int .i64 nn, .string s, .slice p pl pc, .slice q ql qc, .bool o, .slice k kl kc] 38)).alloc (.cells #[.slice none 0 0] 26)).alloc (.cells #[.int .i64 op, .int .i64 nn, .string s, .slice p pl pc, .slice q ql qc, .bool o, .slice k kl kc] 38) = W0 := ⟨_, rfl⟩
  rw [hW0] at hE3 hB0 hsz ⊢
  clear hW0
  refine range_fit (gf := 103) (lb := #[.pointer (some ⟨w.heap.size + 1 + 1, 0, none⟩)]) (by decide) rfl (enters_of Try.func103 (by kernel_rfl) rfl) HF.out (fun _ => rfl)
    (RefI w ⟨op, nn, s, p, pl, pc, q, ql, qc, o, k, kl, kc⟩) (fun _ _ _ _ => False) (refI_fr w _) (fun c => ⟨fun h _ => h, fun h _ _ => h, fun _ h => h⟩) (fun F pre X hi => ⟨hi.low, hi.box⟩)
    ⟨fun _ h => h.elim, fun _ h => h.elim, by omega, hB0, hE3.2.2, _, hE3.2.1, World.ownsRow_nil _ _ _ _, fun g hg => by simp [Value.ownBlock] at hg⟩ ?round ?done ?stop
  case round =>
    rintro l2 F2 ys ⟨yh, yx⟩ X hl2 hrec hI2 ⟨⟨m, hfit⟩, hnext⟩
    obtain ⟨m, rfl⟩ := InX.pos hfit
    obtain ⟨op2, nn2, s2, p2, pl2, pc2, q2, ql2, qc2, o2, k2, kl2, kc2⟩ := yh
    obtain ⟨xop, xn, xs, pa, xps, xo, xks⟩ := yx
    obtain ⟨h1, -, -, -, -, hpa, -, -⟩ := hfit
    dsimp only at h1 hpa
    subst h1
    have HI2 := Lib.hid hI2
    have HPA := Lib.hid hpa
    have hlX : l2 < X.heap.size := by obtain ⟨r, hr⟩ := hrec; exact (Array.getElem?_eq_some_iff.1 hr).1
    have hlen := Lib.hid (show ys.length ≤ 1000000 by
      have h1 := hnext.length_le
      have h2 := HN.out
      simp at h1; omega)
    clear hI2 hrec hnext hpa
    dsimp only [encX, Hd.agg]
    gi_wp2
    refine ⟨⟨by simp, fun i _ hi => Below.heap_alloc _ _ _ hi⟩, (refI_fr w _).alloc HI2.out _, ?_⟩
    intro Y hYz hYo hYl hIY
    have hbx : BoxH Y X.heap.size ⟨op2, nn2, s2, p2, pl2, pc2, q2, ql2, qc2, o2, k2, kl2, kc2⟩ := (hYo _ (by omega)).trans (World.alloc_heap_new X _)
    obtain ⟨d0, d1, d2, d3, d4, d5, d6⟩ := hbx.cells
    dsimp only at d0 d1 d2 d3 d4 d5 d6
    simp only [Nat.zero_add] at d1 d2 d3 d4 d5 d6
    have hXz := HI2.out.size
    have HIY := Lib.hid hIY
    have HBX := Lib.hid hbx
    clear hbx hYo hYl hIY
    by_cases h9 : op2 = 9
    · subst h9
      have hc := HPA.out.count
      by_cases h0 : 0 < pl2
      · obtain ⟨nm, pa', rfl⟩ : ∃ nm pa', pa = nm :: pa' := by
          cases pa with
          | nil => exact absurd hc (by simp; omega)
          | cons a l => exact ⟨a, l, rfl⟩
        have HR := Lib.hid (show ref1 (.mk 9 xn xs (nm :: pa') xps xo xks) = [nm] from rfl)
        obtain ⟨b, off, rfl, lt, hcell⟩ := HPA.out.at_ h0
        have g0 : (0 : Int) < (pl2 : Int) := by omega
        have hcp := (HIY.out.low.cell (p := ⟨b, off + 0, none⟩) lt).trans (hcell 0 nm rfl)
        simp only [Nat.add_zero] at hcp
        obtain ⟨v, hv, hrow, hgF⟩ := HIY.out.row
        have hlt2 := Nat.lt_of_lt_of_le lt HIY.out.low.size
        have cv := hv.cell
        have HV := Lib.hid hv
        have HROW := Lib.hid hrow
        have HLT := Lib.hid lt
        clear hv hrow hcell hc lt
        gi_wp2
        obtain ⟨wd, hwd⟩ : ∃ wd : World, wd = { Y with drawn := Y.drawn + 1 } := ⟨_, rfl⟩
        have hbd : Below Y.heap.size Y wd := by rw [hwd]; exact (Below.refl _ Y).drew
        have hwz : wd.heap.size = Y.heap.size := by rw [hwd]
        have hheap : ∀ i : Nat, wd.heap[i]? = Y.heap[i]? := fun i => by rw [hwd]
        have hrowD : (wd.alloc (.cells #[.string nm] 9)).ownsRow (w.heap.size + 3) 9 1 v (refsL (ys.map (·.2))).length ((refsL (ys.map (·.2))).map Value.string) := (HROW.out.kept (grown_below hbd) (by cases v.ownBlock <;> simp)).alloc _
        have hRl := refsL_len (ys.map (·.2))
        rw [List.length_map] at hRl
        obtain ⟨hi, hz0, hz1, hz2⟩ := HI9.out
        obtain ⟨v', w1, hrun, hown, hgrow, -, hat⟩ := run_append_own_at (P := Try.prog) (wd.alloc (.cells #[.string nm] 9)) (w.heap.size + 3) 26 26 9 i0 (.string ByteArray.empty) 1 16 Try.underlying26 hi hz0 hz1 hz2 rfl (by decide) v (refsL (ys.map (·.2))).length _ hrowD ⟨wd.heap.size, 0, none⟩ 1 1 [.string nm] rfl (cell_one_new _ _ _) (by simp [Value.oneCell']) (by unfold maxLen; have := hlen.out; omega) (by have := hlen.out; omega) (by have := HIY.out.size; simp; omega)
        obtain ⟨g', cap', rfl⟩ := ownsRow_succ hown
        obtain ⟨nL, hnL⟩ : ∃ nL, (refsL (ys.map (·.2))).length + 1 = nL := ⟨_, rfl⟩
        rw [hnL] at hrun hown
        have HNL := Lib.hid hnL
        clear hnL
        have hcd : Boxed wd (w.heap.size + 1) 26 v := (hheap _).trans HV.out
        have cd := hcd.cell
        have hxd : BoxH wd X.heap.size ⟨9, nn2, s2, some ⟨b, off, none⟩, pl2, pc2, q2, ql2, qc2, o2, k2, kl2, kc2⟩ := (hheap _).trans HBX.out
        have hblow : b < w.heap.size := HLT.out
        have hrb := own_base HROW.out
        have hrl := own_lt HROW.out
        have hbox : ∀ {Z : World}, BoxH Z X.heap.size ⟨9, nn2, s2, some ⟨b, off, none⟩, pl2, pc2, q2, ql2, qc2, o2, k2, kl2, kc2⟩ → Z.cell? ⟨b, off, none⟩ = some (.string nm) → Z.cell? ⟨X.heap.size, 3, none⟩ = some (.slice (some ⟨b, off, none⟩) pl2 pc2) ∧ Z.cell? ⟨b, off, none⟩ = some (.string nm) := fun h1 h2 => ⟨by have := h1.cells.c3; simpa using this, h2⟩
        have hSd := hbox hxd (by have := hbd.cell (p := ⟨b, off, none⟩) hlt2; rw [this]; exact hcp)
        have hSa := hbox (hxd.alloc (.cells #[.string nm] 9)) (by rw [World.cell?_alloc_past _ _ _ (by show b < wd.heap.size; omega)]; exact hSd.2)
        have hca : Boxed (wd.alloc (.cells #[.string nm] 9)) (w.heap.size + 1) 26 v := hcd.alloc _
        have ca := hca.cell
        have hc1 : Boxed w1 (w.heap.size + 1) 26 v := hca.kept hgrow (fun e => by have := hrb _ e.symm; omega)
        have hnx : some X.heap.size ≠ v.ownBlock := fun e => by
          obtain ⟨g, cap, cur, hv2, hgl⟩ : ∃ g cap cur, v = .slice (some ⟨g, 0, none⟩) (refsL (ys.map (·.2))).length cap ∧ Y.heap[g]? = some (.cells cur 9) := by
            rcases HROW.out.2 with ⟨rfl, _⟩ | ⟨g, cap, cur, hv2, _, hgl, _⟩
            · simp [Value.ownBlock] at e
            · exact ⟨g, cap, cur, hv2, hgl⟩
          rw [hv2] at e
          obtain rfl : X.heap.size = g := by simpa [Value.ownBlock] using e
          have := (show Y.heap[X.heap.size]? = _ from HBX.out).symm.trans hgl
          simp [Hd.vals] at this
        have hx1 : BoxH w1 X.heap.size ⟨9, nn2, s2, some ⟨b, off, none⟩, pl2, pc2, q2, ql2, qc2, o2, k2, kl2, kc2⟩ := (hgrow.block _ (by have := HBX.out.lt; simp; omega) hnx).trans (hxd.alloc (.cells #[.string nm] 9))
        have hS1 := hbox hx1 (by rw [hgrow.cell_far ⟨b, off, none⟩ (by simp; omega) (fun e => by have := hrb _ e.symm; simp at this; omega)]; exact hSa.2)
        have cw1 := hc1.cell
        have fw1 := hc1.frozen
        have n1 : X.heap.size ≠ w.heap.size + 1 := by omega
        have hS2 := hbox (Z := w1.setCell ⟨w.heap.size + 1, 0, none⟩ (.slice (some ⟨g', 0, none⟩) nL cap')) ((Below.heap_setCell w1 ⟨w.heap.size + 1, 0, none⟩ (.slice (some ⟨g', 0, none⟩) nL cap') _ (by simpa using n1)).trans hx1) (by rw [World.cell?_setCell_other (h := by intro y; injection y with y; omega)]; exact hS1.2)
        have fin : ∀ a : Act, fitPost F2 (RefI w ⟨op, nn, s, p, pl, pc, q, ql, qc, o, k, kl, kc⟩) (fun _ _ _ _ => False) (ys ++ [(⟨9, nn2, s2, some ⟨b, off, none⟩, pl2, pc2, q2, ql2, qc2, o2, k2, kl2, kc2⟩, Ex.mk 9 xn xs (nm :: pa') xps xo xks)]) Y .normal a (w1.setCell ⟨w.heap.size + 1, 0, none⟩ (.slice (some ⟨g', 0, none⟩) nL cap')) := fun _ => by
          have hgd : Y.grownBy w1 v.ownBlock := by
            refine ⟨hgrow.os.trans (by rw [hwd]; rfl), hgrow.tape.trans (by rw [hwd]; rfl), hgrow.output.trans (by rw [hwd]; rfl), by have := hgrow.size; simp at this; omega, fun i hi hne => ?_⟩
            exact (hgrow.block i (by simp; omega) hne).trans ((Below.heap_alloc wd _ i (by omega)).trans (hheap i))
          refine ⟨?_, HIY.out.far, fun r hr => ?_, ?_, ?_, ?_, (.slice (some ⟨g', 0, none⟩) nL cap'), ?_, ?_, ?_⟩
          · exact ((Stays.refl _ Y).grown hgd (fun r e hr => absurd hr (hgF r e))).grown (grownBy_setCell' _ _ _) (fun r e hr => by cases e; have := HIY.out.far _ hr; omega)
          · have := HIY.out.bnd _ hr; have := hgd.size; have := (grownBy_setCell' w1 (w.heap.size + 1) (.slice (some ⟨g', 0, none⟩) nL cap')).size; omega
          · have := HIY.out.size; have := hgd.size; have := (grownBy_setCell' w1 (w.heap.size + 1) (.slice (some ⟨g', 0, none⟩) nL cap')).size; omega
          · exact (HIY.out.low.grown hgd HIY.out.low.size (fun r e => by have := hrb r e; omega)).setCell (p := ⟨w.heap.size + 1, 0, none⟩) (by simp) _
          · exact (Below.heap_setCell w1 ⟨w.heap.size + 1, 0, none⟩ (.slice (some ⟨g', 0, none⟩) nL cap') _ (by simp)).trans ((hgd.block _ HIY.out.box.lt (fun e => by have := hrb _ e.symm; omega)).trans HIY.out.box)
          · exact hc1.set _
          · rw [List.map_append, List.map_cons, List.map_nil, refsL_snoc, HR.out, List.map_append, List.length_append]
            show World.ownsRow _ _ _ _ _ ((refsL (ys.map (·.2))).length + 1) _
            rw [HNL.out]
            refine hown.kept (grownBy_setCell' _ _ _) (.inr fun e => ?_)
            have := own_base hown _ e; omega
          · intro g hg hFg
            rcases hat with h5 | h5
            · rw [HNL.out] at h5
              exact hgF g (by rw [← h5]; exact hg) hFg
            · rw [HNL.out] at h5
              rw [h5] at hg
              have h6 := HIY.out.bnd _ hFg
              have : g = (wd.alloc (.cells #[.string nm] 9)).heap.size := by injection hg with h7; exact h7.symm
              simp at this; omega
        have HRUN := Lib.hid hrun
        have HFIN := Lib.hid fin
        clear hrun fin hgrow hown hat hrowD hbd hi hz0 hz1 hz2 hbox
        refine region_in (S := fun Z => Z.cell? ⟨X.heap.size, 3, none⟩ = some (.slice (some ⟨b, off, none⟩) pl2 pc2) ∧ Z.cell? ⟨b, off, none⟩ = some (.string nm)) (by kernel_rfl) (noDefer_spec (by kernel_rfl)) (fun ⟨_, _, h⟩ => h) ?_
        rw [← hwd]
        clear hwd hheap
        refine take_at' (i := 1) 18 (v := .pointer (some ⟨X.heap.size, 3, none⟩)) rfl rfl (by kernel_rfl) (by kernel_rfl) (by kernel_rfl) (fun _ _ _ h => h) (Or.inl ⟨by rfl, fun w' hS => (by go_simp)⟩) hSd ?_
        refine take_at' (i := 2) 19 (v := .slice (some ⟨b, off, none⟩) pl2 pc2) rfl rfl (by kernel_rfl) (by kernel_rfl) (by kernel_rfl) (fun _ _ _ h => h) (Or.inl ⟨by rfl, fun w' hS => (by obtain ⟨s1, s2⟩ := hS; go_simp)⟩) hSd ?_
        refine take_at' (i := 3) 20 (v := .pointer (some ⟨b, off, none⟩)) rfl rfl (by kernel_rfl) (by kernel_rfl) (by kernel_rfl) (fun _ _ _ h => h) (Or.inl ⟨by rfl, fun w' hS => (by go_simp)⟩) hSd ?_
        refine take_at' (i := 4) 21 (v := .string nm) rfl rfl (by kernel_rfl) (by kernel_rfl) (by kernel_rfl) (fun _ _ _ h => h) (Or.inl ⟨by rfl, fun w' hS => (by obtain ⟨s1, s2⟩ := hS; go_simp)⟩) hSd ?_
        simp only [List.setIfInBounds_toArray, List.set_cons_succ, List.set_cons_zero]
        refine wpAnyH_all (rs := [0, 5]) (by kernel_rfl) (by simp) ?_
        intro i hi
        have hi2 : i = 0 ∨ i = 5 := by simpa using hi
        rcases hi2 with rfl | rfl
        · refine value_at 17 (v := v) (w' := wd) rfl rfl rfl (by go_simp) ⟨hSd, ?_⟩
          simp only [List.setIfInBounds_toArray, List.set_cons_succ, List.set_cons_zero]
          refine wpAnyH_all (rs := [5]) (by kernel_rfl) (by simp) ?_
          intro i hi
          obtain rfl : i = 5 := by simpa using hi
          refine value_at 22 (v := .slice (some ⟨wd.heap.size, 0, none⟩) 1 1) (w' := wd.alloc (.cells #[.string nm] 9)) rfl rfl rfl (by go_simp) ⟨hSa, ?_⟩
          simp only [List.setIfInBounds_toArray, List.set_cons_succ, List.set_cons_zero]
          refine wpAnyH_all (rs := [6]) (by kernel_rfl) (by simp) ?_
          intro i hi
          obtain rfl : i = 6 := by simpa using hi
          refine value_at 23 (v := (.slice (some ⟨g', 0, none⟩) nL cap')) (w' := w1) rfl rfl rfl (append_run rfl rfl rfl HRUN.out) ⟨hS1, ?_⟩
          simp only [List.setIfInBounds_toArray, List.set_cons_succ, List.set_cons_zero]
          refine wpAnyH_all (rs := [7]) (by kernel_rfl) (by simp) ?_
          intro i hi
          obtain rfl : i = 7 := by simpa using hi
          refine skip_at (w' := w1.setCell ⟨w.heap.size + 1, 0, none⟩ (.slice (some ⟨g', 0, none⟩) nL cap')) rfl rfl rfl (by go_simp) ⟨hS2, ?_⟩
          refine wpAnyH_done (by kernel_rfl) ?_ _
          exact HFIN.out { tmps := #[], defers := [] }
        · refine value_at 22 (v := .slice (some ⟨wd.heap.size, 0, none⟩) 1 1) (w' := wd.alloc (.cells #[.string nm] 9)) rfl rfl rfl (by go_simp) ⟨hSa, ?_⟩
          simp only [List.setIfInBounds_toArray, List.set_cons_succ, List.set_cons_zero]
          refine wpAnyH_all (rs := [0]) (by kernel_rfl) (by simp) ?_
          intro i hi
          obtain rfl : i = 0 := by simpa using hi
          refine value_at 17 (v := v) (w' := wd.alloc (.cells #[.string nm] 9)) rfl rfl rfl (by go_simp) ⟨hSa, ?_⟩
          simp only [List.setIfInBounds_toArray, List.set_cons_succ, List.set_cons_zero]
          refine wpAnyH_all (rs := [6]) (by kernel_rfl) (by simp) ?_
          intro i hi
          obtain rfl : i = 6 := by simpa using hi
          refine value_at 23 (v := (.slice (some ⟨g', 0, none⟩) nL cap')) (w' := w1) rfl rfl rfl (append_run rfl rfl rfl HRUN.out) ⟨hS1, ?_⟩
          simp only [List.setIfInBounds_toArray, List.set_cons_succ, List.set_cons_zero]
          refine wpAnyH_all (rs := [7]) (by kernel_rfl) (by simp) ?_
          intro i hi
          obtain rfl : i = 7 := by simpa using hi
          refine skip_at (w' := w1.setCell ⟨w.heap.size + 1, 0, none⟩ (.slice (some ⟨g', 0, none⟩) nL cap')) rfl rfl rfl (by go_simp) ⟨hS2, ?_⟩
          refine wpAnyH_done (by kernel_rfl) ?_ _
          exact HFIN.out { tmps := #[], defers := [] }
      · have HR := Lib.hid (show ref1 (.mk 9 xn xs pa xps xo xks) = [] by
          obtain rfl : pa = [] := List.length_eq_zero_iff.1 (by omega)
          rfl)
        obtain rfl : pl2 = 0 := by omega
        gi_wp2
        refine ⟨Stays.refl _ _, HIY.out.far, HIY.out.bnd, HIY.out.size, HIY.out.low, HIY.out.box, ?_⟩
        rw [List.map_append, List.map_cons, List.map_nil, refsL_snoc, HR.out, List.append_nil]
        exact HIY.out.row
    · have HR := Lib.hid (show ref1 (.mk op2 xn xs pa xps xo xks) = [] from if_neg h9)
      have e9 := eq_no h9
      clear h9
      gi_wp2
      refine ⟨Stays.refl _ _, HIY.out.far, HIY.out.bnd, HIY.out.size, HIY.out.low, HIY.out.box, ?_⟩
      rw [List.map_append, List.map_cons, List.map_nil, refsL_snoc, HR.out, List.append_nil]
      exact HIY.out.row
  case done =>
    rintro D F2 ys X hD hys hI2 hKD
    obtain ⟨v, hv, hrow, hg⟩ := hI2.row
    have cc := hv.cell
    have HI2 := Lib.hid hI2
    have HKD := Lib.hid hKD
    have HYS := Lib.hid hys
    have HROW := Lib.hid hrow
    clear hI2 hKD hys hrow hv
    gi_wp2
    refine ⟨by simp, .inl ⟨_, _, rfl, run_takeDeferred HKD.out, ?_⟩⟩
    refine ⟨_, results_tmp rfl _ _ _, v, rfl, ?_, ?_⟩
    · have h5 := HROW.out.kept (grownBy_putObj' _ D (.deferred none)) (.inr (fun e => hg _ e hD))
      rw [HYS.out] at h5
      exact owns_up h5 (by omega)
    · exact HI2.out.low.grown (grownBy_putObj' _ _ _) HI2.out.low.size (fun r e => by cases e; have := HI2.out.far _ hD; omega)
  case stop =>
    rintro D F2 c ys X hD hys hI2 hKD
    exact hI2.elim
end Go.Proofs.Ytngnegnofmpgkaa
/- WALKS of the law's sample and awake: the page's example. -/
namespace Go.Proofs.Ytngnegnofmpgkaa
open Go.RowKit
def tA : ByteArray := ⟨#[97]⟩
def tB : ByteArray := ⟨#[98]⟩
def tC : ByteArray := ⟨#[99]⟩
def tX : ByteArray := ⟨#[120]⟩
def exC : Ex := .mk 9 0 ⟨#[]⟩ [tC] [] false []
def exS : Ex := .mk 10 0 ⟨#[]⟩ [] [(tX, exC)] false []
def exA : Ex := .mk 9 0 ⟨#[]⟩ [tA, tB] [] false []
def smp : Ex := .mk 11 0 ⟨#[]⟩ [] [] false [exA, exS]
def SmpP (w : World) (e : Ending) (w' : World) : Prop := ∃ h : Hd, e = .returned h.agg ∧ InX w' 3 h smp ∧ Below w.heap.size w w'
theorem str0 (w : World) : Nm.StrRow w none 0 [] := ⟨rfl, by omega, fun i x h => by simp at h, fun h => absurd h (by omega)⟩
theorem ks0 (I : Hd → Ex → Prop) (w : World) : InKs I w none 0 [] := ⟨rfl, by omega, fun i h => absurd h (by simp)⟩
theorem ps0 (I : Hd → Ex → Prop) (w : World) : InPs I w none 0 [] := ⟨rfl, by omega, fun i h => absurd h (by simp)⟩
/-- A reference's header over a row of its own. -/
theorem inx_ref {w : World} {n b l c : Nat} {pa : List ByteArray} (hb : w.heap[b]? = some (.cells (pa.map Value.string).toArray 9)) (hl : pa.length = l) (hz : l ≤ 1000) (hs : ∀ x ∈ pa, x.size ≤ 1000) :
    InX w (n + 1) ⟨9, 0, ⟨#[]⟩, some ⟨b, 0, none⟩, l, c, none, 0, 0, false, none, 0, 0⟩ (.mk 9 0 ⟨#[]⟩ pa [] false []) :=
  ⟨rfl, rfl, rfl, rfl, (by show (0 : Nat) ≤ _; omega), ⟨hl, by show l ≤ _; omega, fun i x h => by have := hs x (List.mem_of_getElem? h); omega, fun _ => ⟨b, 0, rfl, (Array.getElem?_eq_some_iff.1 hb).1, fun i x h => by simp [World.cell?, hb, h]⟩⟩, ps0 _ _, ks0 _ _⟩
theorem heap_at {X : World} {k : Nat} (o : Obj) (h : X.heap.size = k) : (X.alloc o).heap[k]? = some o := by subst h; exact World.alloc_heap_new X o
theorem heap_on {X : World} {k : Nat} {x : Obj} (o : Obj) (h : X.heap[k]? = some x) : (X.alloc o).heap[k]? = some x := (Below.heap_alloc _ _ _ (Array.getElem?_eq_some_iff.1 h).1).trans h
theorem smp_in {W : World} {a b c d : Nat} (h1 : W.heap[a]? = some (.cells #[.string ⟨#[97]⟩, .string ⟨#[98]⟩] 9)) (h2 : W.heap[b]? = some (.cells #[.string ⟨#[99]⟩] 9))
    (h3 : W.heap[c]? = some (.cells #[.string ⟨#[120]⟩, .int .i64 9, .int .i64 0, .string ⟨#[]⟩, .slice (some ⟨b, 0, none⟩) 1 1, .slice none 0 0, .bool false, .slice none 0 0] 69))
    (h4 : W.heap[d]? = some (.cells #[.int .i64 9, .int .i64 0, .string ⟨#[]⟩, .slice (some ⟨a, 0, none⟩) 2 2, .slice none 0 0, .bool false, .slice none 0 0, .int .i64 10, .int .i64 0, .string ⟨#[]⟩, .slice none 0 0, .slice (some ⟨c, 0, none⟩) 1 1, .bool false, .slice none 0 0] 38)) :
    InX W 3 ⟨11, 0, ⟨#[]⟩, none, 0, 0, none, 0, 0, false, some ⟨d, 0, none⟩, 2, 2⟩ smp := by
  have lc := (Array.getElem?_eq_some_iff.1 h3).1
  have ld := (Array.getElem?_eq_some_iff.1 h4).1
  have hC : InX W 1 ⟨9, 0, ⟨#[]⟩, some ⟨b, 0, none⟩, 1, 1, none, 0, 0, false, none, 0, 0⟩ exC := inx_ref (pa := [tC]) h2 rfl (by omega) (fun x hx => by simp at hx; subst hx; decide)
  have hA : InX W 2 ⟨9, 0, ⟨#[]⟩, some ⟨a, 0, none⟩, 2, 2, none, 0, 0, false, none, 0, 0⟩ exA := inx_ref (pa := [tA, tB]) h1 rfl (by omega) (fun x hx => by simp at hx; rcases hx with rfl | rfl <;> decide)
  have hS : InX W 2 ⟨10, 0, ⟨#[]⟩, none, 0, 0, some ⟨c, 0, none⟩, 1, 1, false, none, 0, 0⟩ exS := by
    refine ⟨rfl, rfl, rfl, rfl, (by show (0 : Nat) ≤ _; omega), str0 W, ⟨rfl, by show (1 : Nat) ≤ _; omega, fun i hi => ?_⟩, ks0 _ _⟩
    obtain rfl : i = 0 := by simpa using hi
    exact ⟨c, 0, _, rfl, lc, by show (1 : Nat) ≤ _; omega, by simp [World.cell?, h3]; rfl, ⟨by simp [World.cell?, h3], by simp [World.cell?, h3], by simp [World.cell?, h3], by simp [World.cell?, h3], by simp [World.cell?, h3], by simp [World.cell?, h3], by simp [World.cell?, h3]⟩, hC⟩
  refine ⟨rfl, rfl, rfl, rfl, (by show (0 : Nat) ≤ _; omega), str0 W, ps0 _ _, ⟨rfl, by show (2 : Nat) ≤ _; omega, fun i hi => ?_⟩⟩
  have hi2 : i = 0 ∨ i = 1 := by simp at hi; omega
  rcases hi2 with rfl | rfl
  · exact ⟨d, 0, _, rfl, ld, ⟨by simp [World.cell?, h4], by simp [World.cell?, h4], by simp [World.cell?, h4], by simp [World.cell?, h4], by simp [World.cell?, h4], by simp [World.cell?, h4], by simp [World.cell?, h4]⟩, hA⟩
  · exact ⟨d, 0, _, rfl, ld, ⟨by simp [World.cell?, h4], by simp [World.cell?, h4], by simp [World.cell?, h4], by simp [World.cell?, h4], by simp [World.cell?, h4], by simp [World.cell?, h4], by simp [World.cell?, h4]⟩, hS⟩
theorem smp_refs : refsL (allN 3 smp) = [tA, tC] := by kernel_rfl
theorem smp_size : szW (allN 3 smp).length = 4 := by kernel_rfl
theorem smp_depth : depW 3 smp = 3 := by kernel_rfl
theorem smp_ris : Nm.risB [tX] = true := (Nm.ris_yes (Nm.Ris.one (x := tX) rfl (by kernel_rfl))).symm
theorem smp_right : rightB 3 smp = true := by
  have h1 : ownB smp = true := by unfold smp; rw [ownB_eq, if_neg (by decide), if_pos (by decide)]; rfl
  have h2 : ownB exA = true := by unfold exA; rw [ownB_eq, if_neg (by decide), if_neg (by decide), if_neg (by decide), if_pos (by decide)]; kernel_rfl
  have h3 : ownB exS = true := by
    unfold exS; rw [ownB_eq, if_pos rfl]
    have : risP [(tX, exC)] = true := by unfold risP; show (decide (1 ≤ 32) && Nm.risB [tX]) = true; rw [smp_ris]; rfl
    rw [this]; rfl
  have h4 : ownB exC = true := by unfold exC; rw [ownB_eq, if_neg (by decide), if_neg (by decide), if_neg (by decide), if_pos (by decide)]; kernel_rfl
  show [smp, exA, exS, exC].all ownB = true
  simp [h1, h2, h3, h4]
end Go.Proofs.Ytngnegnofmpgkaa
/- WALK of the reference's Parts; rows of expressions of a call's own. -/
namespace Go.Proofs.Ytngnegnofmpgkaa
open Go.RowKit
theorem flat_get {α : Type} {s : Nat} : ∀ (L : List (List α)) (i r : Nat) (_ : ∀ x ∈ L, x.length = s) (_ : r < s) (hi : i < L.length), L.flatten[i * s + r]? = L[i][r]?
  | x :: L, 0, r, hs, hr, _ => by
    have : x.length = s := hs x (by simp)
    rw [Nat.zero_mul, Nat.zero_add, List.flatten_cons, List.getElem?_append_left (by omega)]
    rfl
  | x :: L, i + 1, r, hs, hr, hi => by
    have hx : x.length = s := hs x (by simp)
    rw [List.flatten_cons, List.getElem?_append_right (by rw [hx, Nat.add_mul]; omega)]
    have e : (i + 1) * s + r - x.length = i * s + r := by rw [hx, Nat.add_mul]; omega
    rw [e, flat_get L i r (fun y hy => hs y (by simp [hy])) hr (by simpa using hi)]
    rfl
theorem info26 : (Try.prog.info? 38).map (fun i => (i.zero, i.size, i.bytes)) = some (some (.agg #[.int .i64 0, .int .i64 0, .string ByteArray.empty, .slice none 0 0, .slice none 0 0, .bool false, .slice none 0 0]), 7, 112) := by kernel_rfl
/-- The cells of heads, one behind the other. -/
def hcells (L : List HX) : List Value := (L.map fun y => y.1.vals.toList).flatten
theorem hcells_snoc (L : List HX) (y : HX) : hcells (L ++ [y]) = hcells L ++ y.1.vals.toList := by simp [hcells]
theorem hcells_append (L M : List HX) : hcells (L ++ M) = hcells L ++ hcells M := by simp [hcells]
theorem hcells_len : ∀ L : List HX, (hcells L).length = L.length * 7
  | [] => rfl
  | y :: L => by
    have := hcells_len L
    simp only [hcells, List.map_cons, List.flatten_cons, List.length_append, List.length_cons] at this ⊢
    rw [this]; simp [Hd.vals]; omega
theorem vals_one (h : Hd) : ∀ u ∈ h.vals.toList, u.oneCell' = true := by
  intro u hu; simp [Hd.vals] at hu; rcases hu with rfl | rfl | rfl | rfl | rfl | rfl | rfl <;> rfl
theorem hcells_one (L : List HX) : ∀ u ∈ hcells L, u.oneCell' = true := by
  intro u hu
  obtain ⟨l, hl, hu2⟩ := List.mem_flatten.1 hu
  obtain ⟨y, _, rfl⟩ := List.mem_map.1 hl
  exact vals_one y.1 u hu2
/-- A row of heads that a call owns, as a list of expressions. -/
theorem row_ks {w : World} {base n : Nat} {v : Value} {L : List HX} {I : Hd → Ex → Prop} (h : w.ownsRow base 38 7 v n (hcells L)) (hn : L.length = n) (hz : n ≤ 140737488355328) (hI : ∀ y ∈ L, I y.1 y.2) :
    ∃ a c, v = .slice a n c ∧ InKs I w a n (L.map (·.2)) := by
  rcases h.2 with ⟨rfl, hn0⟩ | ⟨g, cap, cur, rfl, hb, hg, hcap, hm, hsz, htake⟩
  · obtain rfl : n = 0 := hn0
    obtain rfl : L = [] := List.length_eq_zero_iff.1 hn
    exact ⟨none, 0, rfl, ks0 _ _⟩
  · refine ⟨_, cap, rfl, by simpa using hn, hz, fun i hi => ?_⟩
    have hi2 : i < L.length := by simpa using hi
    have hc : ∀ r, r < 7 → w.cell? ⟨g, i * 7 + r, none⟩ = (L[i].1.vals.toList)[r]? := fun r hr => by
      have h1 := h.cells (g := g) rfl (i * 7 + r)
      have h2 : (hcells L)[i * 7 + r]? = (L[i].1.vals.toList)[r]? := by
        unfold hcells
        rw [flat_get _ i r (fun x hx => by obtain ⟨y, _, rfl⟩ := List.mem_map.1 hx; rfl) hr (by simpa using hi2)]
        simp
      have h3 : ∃ u, (L[i].1.vals.toList)[r]? = some u := ⟨_, List.getElem?_eq_getElem (by simp [Hd.vals]; omega)⟩
      obtain ⟨u, hu⟩ := h3
      rw [hu] at h2 ⊢
      have := h1 u h2
      rwa [show (⟨g, 0, none⟩ : Addr).add (i * 7 + r) = ⟨g, i * 7 + r, none⟩ by unfold Addr.add; split <;> simp_all] at this
    refine ⟨g, 0, L[i].1, rfl, (Array.getElem?_eq_some_iff.1 hg).1, ?_, by simpa using hI _ (List.getElem_mem hi2)⟩
    rw [Nat.zero_add]
    exact ⟨hc 0 (by omega), hc 1 (by omega), hc 2 (by omega), hc 3 (by omega), hc 4 (by omega), hc 5 (by omega), hc 6 (by omega)⟩
/-- A list of expressions, and nothing that was there has changed. -/
def KsP (w0 : World) (n : Nat) (l : List Ex) (w : World) (e : Ending) (w' : World) : Prop := ∃ a k c, e = .returned (.slice a k c) ∧ InKs (InX w0 n) w' a k l ∧ Below w.heap.size w w' ∧ ∀ b off, a = some ⟨b, off, none⟩ → 0 < k → b < w0.heap.size ∨ w.heap.size ≤ b
set_option maxRecDepth 100000 in
set_option maxHeartbeats 4000000 in
theorem rparts_any (w0 w : World) (n : Nat) (h : Hd) (x : Ex) (hx : InX w0 (n + 1) h x) (hb0 : Below w0.heap.size w0 w) (hsm : x.ps.length ≤ 1000000) : Calls Try.prog 62 #[h.agg] w (KsP w0 n x.parts w) := by
  obtain ⟨xop, xn, xs, xpath, ps, xo, ks⟩ := x
  obtain ⟨op, nn, s, p, pl, pc, q, ql, qc, o, k, kl, kc⟩ := h
  replace hsm : ps.length ≤ 1000000 := hsm
  obtain ⟨rfl, rfl, rfl, rfl, _, _, hps, hks⟩ := hx
  dsimp only at hps hks
  unfold Hd.agg
  dsimp only
  by_cases h10 : op = 10
  · subst h10
    obtain ⟨i0, hi, hz0, hz1, hz2⟩ := info_parts info26
    have hmax := hps.max
    obtain rfl := hps.count
    have HPS := Lib.hid hps.at_
    have HB0 := Lib.hid hb0
    have HBX : Hid (BoxH (w.alloc (.cells #[.int .i64 10, .int .i64 nn, .string s, .slice p pl pc, .slice q ps.length qc, .bool o, .slice k kl kc] 38)) w.heap.size ⟨10, nn, s, p, pl, pc, q, ps.length, qc, o, k, kl, kc⟩) := World.alloc_heap_new w _
    have HB1 : Hid (Below w.heap.size w (w.alloc (.cells #[.int .i64 10, .int .i64 nn, .string s, .slice p pl pc, .slice q ps.length qc, .bool o, .slice k kl kc] 38))) := below_alloc (Below.refl _ _) _
    clear hps hks hb0
    go_enter Try.func62, Try.ntmps62
    go_wp2_with fail
    obtain ⟨W1, hW1⟩ : ∃ W1, w.alloc (.cells #[.int .i64 10, .int .i64 nn, .string s, .slice p pl pc, .slice q ps.length qc, .bool o, .slice k kl kc] 38) = W1 := ⟨_, rfl⟩
    rw [hW1] at HBX HB1 ⊢
    clear hW1
    go_loopw [3, 4] (fun v i wr => ∃ (j : Nat) (L : List HX), j ≤ ps.length ∧ i = .int .i64 j ∧ Hid (L.map (·.2) = (ps.take j).map (·.2) ∧ ∀ y ∈ L, InX w0 n y.1 y.2) ∧ Hid (wr.ownsRow W1.heap.size 38 7 v j (hcells L)) ∧ Hid (Below W1.heap.size W1 wr)) (fun _ i _ => ps.length - (intOf i).toNat)
    case atStart => exact ⟨0, [], Nat.zero_le _, rfl, ⟨rfl, fun y hy => absurd hy (by simp)⟩, World.ownsRow_nil _ _ _ _, Below.refl _ _⟩
    case round =>
      obtain ⟨j, L, hj, rfl, hL, hO, hB⟩ := hrel
      rename World => wr
      have v1 := ((hB.out.block _ HBX.out.lt).trans HBX.out : BoxH wr w.heap.size _) |> BoxH.cells |> HdAt.c4
      simp only [Nat.zero_add] at v1
      have hbw := below_step HB0.out (below_step HB1.out hB.out)
      have hz1b := hB.out.size
      have hlb := HBX.out.lt
      by_cases hlt : j < ps.length
      · have hki : (j : Int) < (ps.length : Int) := by omega
        have hk0 : (0 : Int) ≤ (j : Int) := by omega
        obtain ⟨b, off, x, rfl, lt, -, -, hx, hI⟩ := HPS.out j hlt
        have hx2 := HdAt.below hx hbw lt
        have HL2 := Lib.hid (show (L ++ [((x, ps[j].2) : HX)]).map (·.2) = (ps.take (j + 1)).map (·.2) ∧ ∀ y ∈ L ++ [((x, ps[j].2) : HX)], InX w0 n y.1 y.2 from ⟨by rw [List.map_append, hL.out.1, List.take_succ_eq_append_getElem hlt, List.map_append]; rfl, fun y hy => by
          rcases List.mem_append.1 hy with h | h
          · exact hL.out.2 y h
          · rw [List.mem_singleton.1 h]; exact hI⟩)
        have HS2 := Lib.hid (hcells_snoc L (x, ps[j].2))
        obtain ⟨op2, nn2, s2, p2, pl2, pc2, q2, ql2, qc2, o2, k2, kl2, kc2⟩ := x
        obtain ⟨c0, c1, c2, c3, c4, c5, c6⟩ := hx2
        dsimp only at c0 c1 c2 c3 c4 c5 c6
        clear hx hI hbw lt hL
        have HCN : Hid (∀ r u, [Value.int .i64 op2, .int .i64 nn2, .string s2, .slice p2 pl2 pc2, .slice q2 ql2 qc2, .bool o2, .slice k2 kl2 kc2][r]? = some u → (wr.alloc (.cells #[.int .i64 op2, .int .i64 nn2, .string s2, .slice p2 pl2 pc2, .slice q2 ql2 qc2, .bool o2, .slice k2 kl2 kc2] 38)).cell? ((⟨wr.heap.size, 0, none⟩ : Addr).add r) = some u) := World.news_of_block (World.alloc_heap_new wr _)
        go_wp2_with (at_builtin; refine wpList_append_own _ rfl _ _ 36 rfl W1.heap.size 38 i0 _ 7 112 Try.underlying36 hi hz0 hz1 hz2 rfl (by decide) _ j _ rfl (hO.out.alloc _) ⟨wr.heap.size, 0, none⟩ 1 1 [.int .i64 op2, .int .i64 nn2, .string s2, .slice p2 pl2 pc2, .slice q2 ql2 qc2, .bool o2, .slice k2 kl2 kc2] rfl rfl HCN.out (fun x hx => by simp at hx; rcases hx with rfl | rfl | rfl | rfl | rfl | rfl | rfl <;> rfl) (by unfold maxLen; omega) (by omega) (by simp; omega) ?_; intro v' w3 hown' hgrow3 hnil3; have OW3 := Lib.hid hown'; have G3 := Lib.hid hgrow3; clear hown' hgrow3 hnil3)
        go_roundw
        case rel => exact ⟨j + 1, _, by omega, by go_num, HL2.out, (by rw [HS2.out]; exact OW3.out), ((hB.out.alloc hz1b _).grown G3.out (by simp; omega) (own_base hO.out))⟩
        case measure => simp [intOf]; omega
      · obtain rfl : j = ps.length := by omega
        have hl2 : L.length = ps.length := by have := congrArg List.length hL.out.1; simpa using this
        obtain ⟨a, c, rfl, hK⟩ := row_ks hO.out hl2 hmax hL.out.2
        have HK := Lib.hid hK
        have HL := Lib.hid hL.out.1
        have HOB := Lib.hid (own_base hO.out)
        clear hK hbw
        go_wp2_with fail
        go_ret
        refine ⟨_, _, _, rfl, ?_, below_step HB1.out hB.out, fun b off e _ => .inr (by subst e; have := HOB.out b rfl; have := HB1.out.size; omega)⟩
        rw [HL.out, List.take_length] at HK
        exact HK.out
  · have e1 : (op == 10) = false := by simpa using h10
    have e2 : (op != 10) = true := by simpa using h10
    have HK := Lib.hid (show InKs (InX w0 n) w k kl ks from hks.below (fun _ _ h => h) hb0)
    have HE := Lib.hid (show (Ex.mk op nn s xpath ps o ks).parts = ks from if_neg h10)
    have HK0 := Lib.hid hks
    clear h10 hps hks
    go_enter Try.func62, Try.ntmps62
    go_wp2_with fail
    go_ret
    refine ⟨_, _, _, rfl, ?_, below_alloc (Below.refl _ _) _, fun b off e h0 => .inl ?_⟩
    case refine_2 =>
      obtain ⟨b2, off2, y, e2, lt, _⟩ := HK0.out.at_ 0 (by rw [HK0.out.count]; exact h0)
      rw [e2] at e
      injection e with e3
      injection e3 with e4
      omega
    rw [HE.out]
    exact HK.out.below (fun _ _ h => h) (below_alloc (Below.refl _ _) _)
end Go.Proofs.Ytngnegnofmpgkaa
/- WALKS of the reference's Depth and All. -/
namespace Go.Proofs.Ytngnegnofmpgkaa
open Go.RowKit
/-- How many expressions there are in all, those of all lists. -/
def tN : Nat → Ex → Nat
  | 0, _ => 0
  | n + 1, x => 1 + (x.ps.map fun p => tN n p.2).sum + (x.ks.map (tN n)).sum
theorem sum_mem {l : List Nat} {a : Nat} (h : a ∈ l) : a ≤ l.sum := by
  induction l with
  | nil => cases h
  | cons b l ih =>
    rw [List.sum_cons]
    rcases List.mem_cons.1 h with rfl | h
    · omega
    · have := ih h; omega
theorem sum_len {l : List Nat} (h : ∀ a ∈ l, 1 ≤ a) : l.length ≤ l.sum := by
  induction l with
  | nil => simp
  | cons b l ih =>
    rw [List.sum_cons, List.length_cons]
    have h1 := h b (by simp)
    have h2 := ih fun a ha => h a (by simp [ha])
    omega
theorem tN_pos {w : World} {n : Nat} {h : Hd} {x : Ex} (hx : InX w n h x) : 1 ≤ tN n x := by
  obtain ⟨m, rfl⟩ := hx.pos
  show 1 ≤ 1 + _ + _
  omega
theorem ps_each {w : World} {n : Nat} {h : Hd} {x : Ex} (hx : InX w (n + 1) h x) : ∀ p ∈ x.ps, ∃ h', InX w n h' p.2 := fun p hp => by
  obtain ⟨op, m, s, pa, ps, o, ks⟩ := x
  obtain ⟨i, hi, rfl⟩ := List.mem_iff_getElem.1 hp
  obtain ⟨b, off, y, _, _, _, _, _, hI⟩ := hx.2.2.2.2.2.2.1.at_ i hi
  exact ⟨y, hI⟩
theorem ks_each {w : World} {n : Nat} {h : Hd} {x : Ex} (hx : InX w (n + 1) h x) : ∀ k ∈ x.ks, ∃ h', InX w n h' k := fun k hk => by
  obtain ⟨op, m, s, pa, ps, o, ks⟩ := x
  obtain ⟨i, hi, rfl⟩ := List.mem_iff_getElem.1 hk
  obtain ⟨b, off, y, _, _, _, hI⟩ := hx.2.2.2.2.2.2.2.at_ i hi
  exact ⟨y, hI⟩
theorem ps_len {w : World} {n : Nat} {h : Hd} {x : Ex} (hx : InX w (n + 1) h x) : x.ps.length + x.ks.length + 1 ≤ tN (n + 1) x := by
  have h1 := sum_len (l := x.ps.map fun p => tN n p.2) (fun a ha => by obtain ⟨p, hp, rfl⟩ := List.mem_map.1 ha; obtain ⟨h', hh⟩ := ps_each hx p hp; exact tN_pos hh)
  have h2 := sum_len (l := x.ks.map (tN n)) (fun a ha => by obtain ⟨p, hp, rfl⟩ := List.mem_map.1 ha; obtain ⟨h', hh⟩ := ks_each hx p hp; exact tN_pos hh)
  rw [List.length_map] at h1 h2
  show _ ≤ 1 + _ + _
  omega
theorem part_le {n : Nat} {x y : Ex} (hy : y ∈ x.parts) : tN n y ≤ tN (n + 1) x := by
  unfold Ex.parts at hy
  show _ ≤ 1 + _ + _
  split at hy
  · obtain ⟨p, hp, rfl⟩ := List.mem_map.1 hy
    have := sum_mem (l := x.ps.map fun p => tN n p.2) (List.mem_map.2 ⟨p, hp, rfl⟩)
    omega
  · have := sum_mem (l := x.ks.map (tN n)) (List.mem_map.2 ⟨y, hy, rfl⟩)
    omega
theorem parts_sum {n : Nat} {x : Ex} : 1 + (x.parts.map (tN n)).sum ≤ tN (n + 1) x := by
  unfold Ex.parts
  show _ ≤ 1 + _ + _
  split
  · rw [List.map_map]; show 1 + (x.ps.map fun p => tN n p.2).sum ≤ _; omega
  · omega
theorem allN_le : ∀ (n : Nat) (x : Ex), (allN n x).length ≤ tN n x
  | 0, _ => Nat.le_refl _
  | n + 1, x => by
    have h := parts_sum (n := n) (x := x)
    have h2 : ∀ l : List Ex, (l.flatMap (allN n)).length ≤ (l.map (tN n)).sum := fun l => by
      induction l with
      | nil => simp
      | cons y l ih =>
        rw [List.flatMap_cons, List.length_append, List.map_cons, List.sum_cons]
        have := allN_le n y; omega
    have h3 := h2 x.parts
    show (x :: x.parts.flatMap (allN n)).length ≤ _
    rw [List.length_cons]; omega
theorem mxL_max (l : List Int) (x : Int) : mxL (l ++ [x]) = if mxL l < x then x else mxL l := by
  rw [mxL_snoc]; omega
set_option maxRecDepth 100000 in
set_option maxHeartbeats 4000000 in
theorem rdepth_step (w0 : World) (n : Nat) (ih : ∀ (h : Hd) (x : Ex) (w : World), InX w0 n h x → Below w0.heap.size w0 w → tN n x ≤ 1000000 → Calls Try.prog 39 #[h.agg] w (IntP (depW n x) w))
    (h : Hd) (x : Ex) (w : World) (hx : InX w0 (n + 1) h x) (hb0 : Below w0.heap.size w0 w) (hsm : tN (n + 1) x ≤ 1000000) : Calls Try.prog 39 #[h.agg] w (IntP (depW (n + 1) x) w) := by
  have hpl := ps_len hx
  have KP := fun (W : World) (hW : Below w.heap.size w W) => Lib.hid (rparts_any w0 W n h x hx (below_step hb0 hW) (by omega))
  have HP := Lib.hid (fun y (hy : y ∈ x.parts) => part_le (n := n) hy)
  have HSM := Lib.hid hsm
  have IH := Lib.hid ih
  have HB0 := Lib.hid hb0
  obtain ⟨op, nn, s, p, pl, pc, q, ql, qc, o, k, kl, kc⟩ := h
  unfold Hd.agg at KP
  unfold Hd.agg
  dsimp only at KP ⊢
  have HB1 : Hid (Below w.heap.size w (w.alloc (.cells #[.int .i64 op, .int .i64 nn, .string s, .slice p pl pc, .slice q ql qc, .bool o, .slice k kl kc] 38))) := below_alloc (Below.refl _ _) _
  obtain ⟨L, hL⟩ : ∃ L, x.parts = L := ⟨_, rfl⟩
  have HD := Lib.hid (show depW (n + 1) x = wrap64 (1 + mxL (L.map (depW n))) by rw [← hL]; rfl)
  rw [hL] at HP KP
  clear hx hb0 hsm ih hpl hL
  go_enter Try.func39, Try.ntmps39
  go_wp2_with (go_at_call 62; refine (KP _ HB1.out).out.mono ?_; rintro e w2 ⟨a, kk, cc, rfl, hk, hb2, -⟩; have HK := Lib.hid hk; have HB2 := Lib.hid (below_step HB1.out hb2); clear hk hb2)
  clear KP HB1
  obtain rfl := HK.out.count
  have hkm := HK.out.max
  go_loopw [3, 5, 6] (fun v i _ wr => ∃ (j : Nat), j ≤ L.length ∧ i = .int .i64 j ∧ v = .int .i64 (mxL ((L.take j).map (depW n))) ∧ Hid (Below w2.heap.size w2 wr)) (fun _ i _ _ => L.length - (intOf i).toNat)
  case atStart => exact ⟨0, Nat.zero_le _, rfl, rfl, Below.refl _ _⟩
  case round =>
    obtain ⟨j, hj, rfl, rfl, hB⟩ := hrel
    rename World => wr
    obtain ⟨v, hv⟩ : ∃ v, mxL ((L.take j).map (depW n)) = v := ⟨_, rfl⟩
    rw [hv]
    by_cases hlt : j < L.length
    · have hki : (j : Int) < (L.length : Int) := by omega
      have hk0 : (0 : Int) ≤ (j : Int) := by omega
      obtain ⟨b, off, y, rfl, lt, hy, hI⟩ := HK.out.at_ j hlt
      have hy2 := HdAt.below hy hB.out lt
      have hlz := Nat.lt_of_lt_of_le lt hB.out.size
      have KD := Lib.hid (IH.out y L[j] wr hI (below_step HB0.out (below_step HB2.out hB.out)) (Nat.le_trans (HP.out _ (List.getElem_mem hlt)) HSM.out))
      obtain ⟨d, hd⟩ : ∃ d, depW n L[j] = d := ⟨_, rfl⟩
      rw [hd] at KD
      have HM := Lib.hid (show mxL ((L.take (j + 1)).map (depW n)) = if v < d then d else v by
        rw [List.take_succ_eq_append_getElem hlt, List.map_append, List.map_cons, List.map_nil, mxL_max, hv, hd])
      obtain ⟨op2, nn2, s2, p2, pl2, pc2, q2, ql2, qc2, o2, k2, kl2, kc2⟩ := y
      obtain ⟨c0, c1, c2, c3, c4, c5, c6⟩ := hy2
      dsimp only at c0 c1 c2 c3 c4 c5 c6
      unfold Hd.agg at KD
      dsimp only at KD
      clear hy hI lt hv hd
      by_cases hvd : v < d
      · go_wp2_with (go_at_call 39; refine KD.out.mono ?_; rintro e w5 ⟨rfl, hb5⟩; have HB5 := Lib.hid hb5; clear hb5)
        go_roundw
        case rel => exact ⟨j + 1, by omega, by go_num, by rw [HM.out, if_pos hvd], below_step hB.out HB5.out⟩
        case measure => simp [intOf]; omega
      · go_wp2_with (go_at_call 39; refine KD.out.mono ?_; rintro e w5 ⟨rfl, hb5⟩; have HB5 := Lib.hid hb5; clear hb5)
        go_roundw
        case rel => exact ⟨j + 1, by omega, by go_num, by rw [HM.out, if_neg (by omega)], below_step hB.out HB5.out⟩
        case measure => simp [intOf]; omega
    · obtain rfl : j = L.length := by omega
      have HM := Lib.hid (show depW (n + 1) x = wrap64 (1 + v) by rw [HD.out, ← hv, List.take_length])
      clear hv
      go_wp2_with fail
      go_ret
      exact ⟨ret_int (by rw [HM.out]), below_step HB2.out hB.out⟩
theorem rdepth_any (w0 : World) : ∀ (n : Nat) (h : Hd) (x : Ex) (w : World), InX w0 n h x → Below w0.heap.size w0 w → tN n x ≤ 1000000 → Calls Try.prog 39 #[h.agg] w (IntP (depW n x) w)
  | 0, _, _, _, h, _, _ => h.elim
  | n + 1, h, x, w, hx, hb, hs => rdepth_step w0 n (rdepth_any w0 n) h x w hx hb hs
end Go.Proofs.Ytngnegnofmpgkaa
/- WALK of the reference's All. -/
namespace Go.Proofs.Ytngnegnofmpgkaa
open Go.RowKit
theorem InKs.grown {I : Hd → Ex → Prop} {w w' : World} {row : Option Nat} {a : Option Addr} {l : Nat} {ks : List Ex} (h : InKs I w a l ks) (hg : w.grownBy w' row) (hne : ∀ b off, a = some ⟨b, off, none⟩ → row ≠ some b) : InKs I w' a l ks :=
  ⟨h.count, h.max, fun i hi => by
    obtain ⟨b, off, x, e, lt, hx, hI⟩ := h.at_ i hi
    have hb : w'.heap[b]? = w.heap[b]? := hg.block b lt (fun e2 => hne b off e e2.symm)
    have e : ∀ i, w'.cell? ⟨b, i, none⟩ = w.cell? ⟨b, i, none⟩ := fun i => by simp only [World.cell?, hb]
    exact ⟨b, off, x, by assumption, Nat.lt_of_lt_of_le lt hg.size, ⟨(e _).trans hx.c0, (e _).trans hx.c1, (e _).trans hx.c2, (e _).trans hx.c3, (e _).trans hx.c4, (e _).trans hx.c5, (e _).trans hx.c6⟩, hI⟩⟩
/-- All expressions in order, in a row of the call's own. -/
def AllP (w0 : World) (l : List Ex) (w : World) (e : Ending) (w' : World) : Prop := ∃ (v : Value) (L : List HX), e = .returned v ∧ w'.ownsRow w.heap.size 38 7 v L.length (hcells L) ∧ L.map (·.2) = l ∧ (∀ y ∈ L, ∃ m, InX w0 m y.1 y.2) ∧ Below w.heap.size w w'
set_option maxRecDepth 100000 in
set_option maxHeartbeats 4000000 in
theorem all_step (w0 : World) (n : Nat) (ih : ∀ (h : Hd) (x : Ex) (w : World), InX w0 n h x → Below w0.heap.size w0 w → tN n x ≤ 1000000 → Calls Try.prog 101 #[h.agg] w (AllP w0 (allN n x) w))
    (h : Hd) (x : Ex) (w : World) (hx : InX w0 (n + 1) h x) (hb0 : Below w0.heap.size w0 w) (hsm : tN (n + 1) x ≤ 1000000) : Calls Try.prog 101 #[h.agg] w (AllP w0 (allN (n + 1) x) w) := by
  have hpl := ps_len hx
  have hal := allN_le (n + 1) x
  have KP := fun (W : World) (hW : Below w.heap.size w W) => Lib.hid (rparts_any w0 W n h x hx (below_step hb0 hW) (by omega))
  have HP := Lib.hid (fun y (hy : y ∈ x.parts) => part_le (n := n) hy)
  have HSM := Lib.hid hsm
  have IH := Lib.hid ih
  have HB0 := Lib.hid hb0
  have HXX := Lib.hid hx
  obtain ⟨i0, hi, hz0, hz1, hz2⟩ := info_parts info26
  obtain ⟨op, nn, s, p, pl, pc, q, ql, qc, o, k, kl, kc⟩ := h
  unfold Hd.agg at KP
  unfold Hd.agg
  dsimp only at KP ⊢
  have HB1 : Hid (Below w.heap.size w ((w.alloc (.cells #[.int .i64 op, .int .i64 nn, .string s, .slice p pl pc, .slice q ql qc, .bool o, .slice k kl kc] 38)).alloc (.cells #[.int .i64 op, .int .i64 nn, .string s, .slice p pl pc, .slice q ql qc, .bool o, .slice k kl kc] 38))) := below_alloc (below_alloc (Below.refl _ _) _) _
  have HO1 : Hid (World.ownsRow ((w.alloc (.cells #[.int .i64 op, .int .i64 nn, .string s, .slice p pl pc, .slice q ql qc, .bool o, .slice k kl kc] 38)).alloc (.cells #[.int .i64 op, .int .i64 nn, .string s, .slice p pl pc, .slice q ql qc, .bool o, .slice k kl kc] 38)) w.heap.size 38 7 (.slice (some ⟨w.heap.size + 1, 0, none⟩) 1 1) 1 (hcells [(⟨op, nn, s, p, pl, pc, q, ql, qc, o, k, kl, kc⟩, x)])) :=
    ⟨by rw [hcells_len]; rfl, .inr ⟨w.heap.size + 1, 1, _, rfl, by omega, heap_new1 w _ _, Nat.le_refl _, by unfold maxLen; omega, rfl, rfl⟩⟩
  obtain ⟨P, hP⟩ : ∃ P, x.parts = P := ⟨_, rfl⟩
  have HA := Lib.hid (show allN (n + 1) x = x :: P.flatMap (allN n) by rw [← hP]; rfl)
  have hal2 : (P.flatMap (allN n)).length + 1 ≤ 1000000 := by rw [HA.out, List.length_cons] at hal; omega
  rw [hP] at HP KP
  clear hx hb0 hsm ih hpl hP hal
  go_enter Try.func101, Try.ntmps101
  go_wp2_with (go_at_call 62; refine (KP _ HB1.out).out.mono ?_; rintro e w2 ⟨a, kk, cc, rfl, hk, hb2, hd2⟩; have HK := Lib.hid hk; have HD2 := Lib.hid hd2; have HB2 := Lib.hid hb2; clear hk hb2 hd2)
  have HO2 := Lib.hid (HO1.out.kept (grown_below HB2.out) (.inr (by simp [Value.ownBlock])))
  have HBW := Lib.hid (below_step HB1.out HB2.out)
  clear KP HB1 HO1 HB2
  obtain rfl := HK.out.count
  have hkm := HK.out.max
  go_loopw [3, 5] (fun v i wr => ∃ (j : Nat) (L : List HX), j ≤ P.length ∧ i = .int .i64 j ∧ Hid (L.map (·.2) = x :: (P.take j).flatMap (allN n) ∧ ∀ y ∈ L, ∃ m, InX w0 m y.1 y.2) ∧ Hid (wr.ownsRow w.heap.size 38 7 v L.length (hcells L)) ∧ Hid (Below w.heap.size w wr) ∧ Hid (InKs (InX w0 n) wr a P.length P ∧ ∀ b off, a = some ⟨b, off, none⟩ → 0 < P.length → v.ownBlock ≠ some b)) (fun _ i _ => P.length - (intOf i).toNat)
  case atStart => exact ⟨0, [(⟨op, nn, s, p, pl, pc, q, ql, qc, o, k, kl, kc⟩, x)], Nat.zero_le _, rfl, ⟨rfl, fun y hy => by rw [List.mem_singleton.1 hy]; exact ⟨n + 1, HXX.out⟩⟩, HO2.out, HBW.out, HK.out, fun b off e h0 => by
    have h1 := HD2.out b off e h0
    have h2 := HB0.out.size
    simp only [World.size_alloc] at h1
    simp [Value.ownBlock]; omega⟩
  case round =>
    obtain ⟨j, L, hj, rfl, hL, hO, hB, hKK⟩ := hrel
    rename World => wr
    by_cases hlt : j < P.length
    · have hki : (j : Int) < (P.length : Int) := by omega
      have hk0 : (0 : Int) ≤ (j : Int) := by omega
      obtain ⟨b, off, y, rfl, lt, hy2, hI⟩ := hKK.out.1.at_ j hlt
      have hnb := Lib.hid (hKK.out.2 b off rfl (by omega))
      have KD := Lib.hid (IH.out y P[j] wr hI (below_step HB0.out hB.out) (Nat.le_trans (HP.out _ (List.getElem_mem hlt)) HSM.out))
      have hLl : L.length = 1 + ((P.take j).flatMap (allN n)).length := by have := congrArg List.length hL.out.1; simp at this; simp; omega
      have hsum : ((P.take j).flatMap (allN n)).length + (allN n P[j]).length ≤ (P.flatMap (allN n)).length := by
        have h1 : P.take (j + 1) ++ P.drop (j + 1) = P := List.take_append_drop _ _
        have h2 := congrArg (fun l => (l.flatMap (allN n)).length) h1
        simp only [List.flatMap_append, List.length_append] at h2
        rw [List.take_succ_eq_append_getElem hlt, List.flatMap_append, List.length_append] at h2
        simp at h2 ⊢; omega
      have hpos : 1 ≤ (allN n P[j]).length := by
        obtain ⟨m, rfl⟩ := InX.pos hI
        simp [allN]
      obtain ⟨op2, nn2, s2, p2, pl2, pc2, q2, ql2, qc2, o2, k2, kl2, kc2⟩ := y
      obtain ⟨c0, c1, c2, c3, c4, c5, c6⟩ := hy2
      dsimp only at c0 c1 c2 c3 c4 c5 c6
      unfold Hd.agg at KD
      dsimp only at KD
      have LT := Lib.hid lt
      clear hI
      go_wp2_with (first
        | (go_at_call 101; refine KD.out.mono ?_; rintro e w5 ⟨v5, L5, rfl, hO5, hL5, hI5, hb5⟩
           have hl5 : L5.length = (allN n P[j]).length := by rw [← hL5, List.length_map]
           obtain ⟨m5, hm5⟩ : ∃ m5, L5.length = m5 + 1 := ⟨L5.length - 1, by omega⟩
           have hO6 := hO5
           rw [hm5] at hO6
           obtain ⟨g5, cap5, rfl⟩ := ownsRow_succ hO6
           have HO5 := Lib.hid hO5
           have HL5 := Lib.hid (And.intro hL5 hI5)
           have HB5 := Lib.hid hb5
           have HM5 := Lib.hid hm5
           have hs5 := hb5.size
           have hsz5 : w.heap.size ≤ w5.heap.size := Nat.le_trans hB.out.size hs5
           clear hO5 hL5 hI5 hb5 hO6)
        | (at_builtin; refine wpList_append_own_at _ rfl _ _ 36 rfl w.heap.size 38 i0 _ 7 112 Try.underlying36 hi hz0 hz1 hz2 rfl (by decide) _ L.length (hcells L) rfl (hO.out.kept (grown_below HB5.out) (by cases Value.ownBlock _ <;> simp)) ⟨g5, 0, none⟩ (m5 + 1) cap5 (hcells L5) rfl (by rw [hcells_len, HM5.out]) (HO5.out.cells (g := g5) rfl) (hcells_one L5) (by unfold maxLen; omega) (by omega) (by omega) ?_; intro v' w6 hown' hgrow6 hnil6 hat6; have HAT := Lib.hid hat6; have OW6 := Lib.hid hown'; have G6 := Lib.hid hgrow6; clear hown' hgrow6 hnil6 hat6))
      go_roundw
      case rel =>
        refine ⟨j + 1, L ++ L5, by omega, by go_num, ⟨?_, ?_⟩, ?_, ?_, ?_, ?_⟩
        · rw [List.map_append, hL.out.1, HL5.out.1, List.take_succ_eq_append_getElem hlt, List.flatMap_append]; simp
        · intro y hy
          rcases List.mem_append.1 hy with h | h
          · exact hL.out.2 y h
          · exact HL5.out.2 y h
        · rw [hcells_append, List.length_append, HM5.out]; exact OW6.out
        · exact (below_step hB.out HB5.out).grown G6.out hsz5 (own_base hO.out)
        · exact InKs.grown (hKK.out.1.below (fun _ _ h => h) HB5.out) G6.out (fun b2 off2 e => by injection e with e3; injection e3 with e4; subst e4; exact hnb.out)
        · intro b2 off2 e _ h2
          injection e with e3; injection e3 with e4; subst e4
          rcases HAT.out with h3 | h3
          · exact hnb.out (h3.symm.trans h2)
          · rw [h3] at h2; injection h2 with h4; have := LT.out; have := HB5.out.size; omega
      case measure => simp [intOf]; omega
    · obtain rfl : j = P.length := by omega
      have HL := Lib.hid hL.out
      rw [List.take_length] at HL
      clear hL
      go_wp2_with fail
      go_ret
      exact ⟨_, L, rfl, hO.out, by rw [HL.out.1, HA.out], HL.out.2, hB.out⟩
theorem all_any (w0 : World) : ∀ (n : Nat) (h : Hd) (x : Ex) (w : World), InX w0 n h x → Below w0.heap.size w0 w → tN n x ≤ 1000000 → Calls Try.prog 101 #[h.agg] w (AllP w0 (allN n x) w)
  | 0, _, _, _, h, _, _ => h.elim
  | n + 1, h, x, w, hx, hb, hs => all_step w0 n (all_any w0 n) h x w hx hb hs
end Go.Proofs.Ytngnegnofmpgkaa
/- THE NAMES THAT ARE READ are texts that came in; a row of texts, read. -/
namespace Go.Proofs.Ytngnegnofmpgkaa
open Go.RowKit
theorem allN_in {w : World} : ∀ {n : Nat} {h : Hd} {x : Ex}, InX w n h x → ∀ y ∈ allN n x, ∃ m h', InX w m h' y
  | 0, _, _, h, _, _ => h.elim
  | n + 1, h, .mk op nn s pa ps o ks, hx, y, hy => by
    rcases List.mem_cons.1 hy with rfl | hy
    · exact ⟨n + 1, h, hx⟩
    · obtain ⟨z, hz, hyz⟩ := List.mem_flatMap.1 hy
      obtain ⟨-, -, -, -, -, -, hps, hks⟩ := hx
      unfold Ex.parts at hz
      split at hz
      · obtain ⟨p, hp, rfl⟩ := List.mem_map.1 hz
        obtain ⟨i, hi, rfl⟩ := List.getElem_of_mem hp
        obtain ⟨_, _, x', _, _, _, _, _, hI⟩ := hps.at_ i hi
        exact allN_in hI y hyz
      · obtain ⟨i, hi, rfl⟩ := List.getElem_of_mem hz
        obtain ⟨_, _, x', _, _, _, hI⟩ := hks.at_ i hi
        exact allN_in hI y hyz
theorem refs_small {w : World} {n : Nat} {h : Hd} {x : Ex} (hx : InX w n h x) : ∀ y ∈ refsL (allN n x), y.size ≤ 140737488355328 := fun y hy => by
  obtain ⟨z, hz, hyz⟩ := List.mem_flatMap.1 hy
  obtain ⟨m, h', hI⟩ := allN_in hx z hz
  obtain ⟨m, rfl⟩ := InX.pos hI
  obtain ⟨op, nn, s, pa, ps, o, ks⟩ := z
  obtain ⟨-, -, -, -, -, hpa, -, -⟩ := hI
  unfold ref1 at hyz
  split at hyz
  · have h1 : y ∈ pa := List.mem_of_mem_take hyz
    obtain ⟨i, hi, rfl⟩ := List.getElem_of_mem h1
    exact hpa.each i _ (List.getElem?_eq_getElem hi)
  · cases hyz
theorem str_row {w : World} {base : Nat} {v : Value} {l : List ByteArray} (h : w.ownsRow base 9 1 v l.length (l.map Value.string)) (hl : l.length ≤ 140737488355328) (hs : ∀ y ∈ l, y.size ≤ 140737488355328) :
    ∃ a c, v = .slice a l.length c ∧ Nm.StrRow w a l.length l := by
  rcases h.2 with ⟨rfl, hn0⟩ | ⟨g, cap, cur, rfl, hb, hg, hcap, hm, hsz, htake⟩
  · have h0 : l.length = 0 := hn0
    refine ⟨none, 0, by rw [h0], rfl, hl, fun i x hx => hs x (List.mem_of_getElem? hx), fun h1 => by omega⟩
  · refine ⟨_, cap, rfl, rfl, hl, fun i x hx => hs x (List.mem_of_getElem? hx), fun h1 => ⟨g, 0, rfl, (Array.getElem?_eq_some_iff.1 hg).1, fun i x hx => ?_⟩⟩
    have h2 := h.cells (g := g) rfl i (.string x) (by rw [List.getElem?_map, hx]; rfl)
    rwa [show (⟨g, 0, none⟩ : Addr).add i = ⟨g, 0 + i, none⟩ by unfold Addr.add; split <;> simp_all] at h2
end Go.Proofs.Ytngnegnofmpgkaa
