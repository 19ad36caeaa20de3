/- WALK of frame.All. -/
import Derived.Test.YtnejahfeafllkaaFk
import Derived.Test.YtnejahfeafllkaaFm
import Derived.Maps.AppendAt
namespace Go.Proofs.Ytnejahfeafllkaa
open Go.RowKit Go.Shelf
attribute [local go_sem] Oper.semAt_some
/-- The place behind the last one. -/
def endOf (pre : List Rc) : Nat := match pre.getLast? with | some x => x.2.1 | none => 0
theorem endOf_snoc (pre : List Rc) (x : Rc) : endOf (pre ++ [x]) = x.2.1 := by simp [endOf]
def txtsV (pre : List Rc) : List Value := pre.map fun x => Value.string x.2.2
theorem txtsV_snoc (pre : List Rc) (x : Rc) : txtsV (pre ++ [x]) = txtsV pre ++ [.string x.2.2] := by simp [txtsV]
/-- A record in a block. -/
def RBox (W : World) (B : Nat) (x : Rc) : Prop := W.heap[B]? = some (.cells #[.int .i64 (x.1 : Int), .int .i64 (x.2.1 : Int), .string x.2.2] 93 (0, 0))
theorem RBox.lt {W : World} {B : Nat} {x : Rc} (h : RBox W B x) : B < W.heap.size := (Array.getElem?_eq_some_iff.1 h).1
theorem RBox.cells {W : World} {B : Nat} {x : Rc} (h : RBox W B x) : W.cell? ⟨B, 1, none⟩ = some (.int .i64 (x.2.1 : Int)) ∧ W.cell? ⟨B, 2, none⟩ = some (.string x.2.2) := by
  unfold RBox at h
  exact ⟨by simp [World.cell?, h], by simp [World.cell?, h]⟩
theorem RBox.below {W W' : World} {B : Nat} {x : Rc} (h : RBox W B x) (hb : Below W.heap.size W W') : RBox W' B x := (hb.block B h.lt).trans h
theorem rbox_own {W W' : World} {row : Option Nat} {B : Nat} {x : Rc} (h : RBox W B x) (hg : W.grownBy W' row) (hr : ∀ r, row = some r → ∃ o : Obj, W.heap[r]? = some o ∧ o.isCells = false) : RBox W' B x := by
  refine (hg.block B h.lt (fun e => ?_)).trans h
  obtain ⟨o, ho, hc⟩ := hr B e.symm
  rw [show W.heap[B]? = _ from h] at ho; cases ho; cases hc
theorem RBox.not_row {W : World} {B : Nat} {x : Rc} (h : RBox W B x) {base size k : Nat} {v : Value} {xs : List Value} (hr : W.ownsRow base 9 size v k xs) : some B ≠ v.ownBlock := by
  rcases hr.2 with ⟨rfl, _⟩ | ⟨g, cap, cur, rfl, _, hgb, _⟩
  · simp [Value.ownBlock]
  · intro e'
    obtain rfl : B = g := by simpa [Value.ownBlock] using e'
    have := (show W.heap[B]? = _ from h).symm.trans hgb
    simp at this
theorem own_slice {W : World} {base e size k : Nat} {v : Value} {xs : List Value} (hr : W.ownsRow base e size v k xs) : ∃ a n c, v = .slice a n c := by
  rcases hr.2 with ⟨rfl, _⟩ | ⟨g, cap, cur, rfl, _⟩
  · exact ⟨_, _, _, rfl⟩
  · exact ⟨_, _, _, rfl⟩
theorem low_not_row {W : World} {B base e size k : Nat} {v : Value} {xs : List Value} (hr : W.ownsRow base e size v k xs) (hB : B < base) : some B ≠ v.ownBlock := fun e' => by
  have := own_base hr B e'.symm; omega
/-- Behind an append: what is not the row's own lies as it lay. -/
theorem after_append {W w1 : World} {v : Value} {t : ByteArray} (hg : (W.drew.alloc (.cells #[.string t] 9)).grownBy w1 v.ownBlock) {B : Nat} {o : Obj} (h : W.heap[B]? = some o) (hB : some B ≠ v.ownBlock) : w1.heap[B]? = some o := by
  have hl : B < W.heap.size := (Array.getElem?_eq_some_iff.1 h).1
  rw [hg.block B (by simp; omega) hB]
  exact (Below.heap_alloc W.drew _ B hl).trans h
theorem Try.info9 : (Try.prog.info? 9).map (fun i => (i.zero, i.size, i.bytes)) = some (some (.string ⟨#[]⟩), 1, 16) := by kernel_rfl
theorem kpB_t {B : Nat} {s : ByteArray} {X Y Z : World} (h : KpB B s X Y) (k : KpB B s Y Z) : KpB B s X Z := fun b => k (h b)
theorem kpB_b {B : Nat} {s : ByteArray} {w : World} (hB : B < w.heap.size) (W : World) (l : Nat) (o o' : Obj) (hl : w.heap.size ≤ l) (_ : W.heap[l]? = some o) (_ : o.isCells = false) (_ : o.isWalk = false) : KpB B s W (W.putObj l o') := fun b =>
  (World.putObj_heap_other (show B ≠ l by omega)).trans b
/-- What lies between two rounds. -/
def AllI (s : ByteArray) (w : World) (pre : List Rc) (W : World) : Prop :=
  (∃ v, Boxed W w.heap.size 55 v ∧ W.ownsRow (w.heap.size + 3) 9 1 v pre.length (txtsV pre) ∧ True) ∧ Boxed W (w.heap.size + 1) 3 (.int .i64 (endOf pre : Int)) ∧ Boxed W (w.heap.size + 2) 9 (.string s) ∧ Below w.heap.size w W
/-- WHAT A ROUND LEAVES. -/
theorem all_step {s : ByteArray} {w W w1 : World} {pre : List Rc} {x : Rc} {v : Value} {g' cap' B : Nat} (hrow : W.ownsRow (w.heap.size + 3) 9 1 v pre.length (txtsV pre)) (hv : Boxed W w.heap.size 55 v)
    (bE : Boxed W (w.heap.size + 1) 3 (.int .i64 (endOf pre : Int))) (bN : Boxed W (w.heap.size + 2) 9 (.string s)) (hB : Below w.heap.size w W) (hzW : w.heap.size + 3 ≤ W.heap.size)
    (hgrow : (W.drew.alloc (.cells #[.string x.2.2] 9)).grownBy w1 v.ownBlock) (hown : w1.ownsRow (w.heap.size + 3) 9 1 (.slice (some ⟨g', 0, none⟩) (pre.length + 1) cap') (pre.length + 1) (txtsV pre ++ [.string x.2.2])) :
    KeepsFrom B W ((w1.setCell ⟨w.heap.size, 0, none⟩ (.slice (some ⟨g', 0, none⟩) (pre.length + 1) cap')).setCell ⟨w.heap.size + 1, 0, none⟩ (.int .i64 (x.2.1 : Int))) ∧
    KpB (w.heap.size + 1 + 1) s W ((w1.setCell ⟨w.heap.size, 0, none⟩ (.slice (some ⟨g', 0, none⟩) (pre.length + 1) cap')).setCell ⟨w.heap.size + 1, 0, none⟩ (.int .i64 (x.2.1 : Int))) ∧
    AllI s w (pre ++ [x]) ((w1.setCell ⟨w.heap.size, 0, none⟩ (.slice (some ⟨g', 0, none⟩) (pre.length + 1) cap')).setCell ⟨w.heap.size + 1, 0, none⟩ (.int .i64 (x.2.1 : Int))) := by
  have bL2 : Boxed w1 w.heap.size 55 v := after_append hgrow hv (low_not_row hrow (by omega))
  have bE2 : Boxed w1 (w.heap.size + 1) 3 (.int .i64 (endOf pre : Int)) := after_append hgrow bE (low_not_row hrow (by omega))
  have bN2 : Boxed w1 (w.heap.size + 2) 9 (.string s) := after_append hgrow bN (low_not_row hrow (by omega))
  have bN3 := (bN2.other (B' := w.heap.size) (by omega) (.slice (some ⟨g', 0, none⟩) (pre.length + 1) cap')).other (B' := w.heap.size + 1) (by omega) (.int .i64 (x.2.1 : Int))
  have hr2 := hown.kept (grownBy_setCell' w1 w.heap.size (.slice (some ⟨g', 0, none⟩) (pre.length + 1) cap')) (.inr (low_not_row hown (by omega)).symm)
  have hr3 := hr2.kept (grownBy_setCell' _ (w.heap.size + 1) (.int .i64 (x.2.1 : Int))) (.inr (low_not_row hr2 (by omega)).symm)
  refine ⟨KeepsOthers.from ?_ _, fun _ => bN3, ⟨_, (bL2.set _).other (by omega) _, ?_, trivial⟩, ?_, bN3, ?_⟩
  · refine ((((KeepsOthers.drew W).trans (KeepsOthers.alloc _ _)).trans (KeepsOthers.of_grownBy hgrow fun j o ej hj => ?_)).trans (KeepsOthers.setCell _ _ _)).trans (KeepsOthers.setCell _ _ _)
    rcases ((show W.drew.ownsRow (w.heap.size + 3) 9 1 v pre.length (txtsV pre) from hrow).alloc (.cells #[.string x.2.2] 9)).2 with ⟨rfl, _⟩ | ⟨g, cap, cur, rfl, _, hgb, _⟩
    · simp [Value.ownBlock] at ej
    · obtain rfl : g = j := by simpa [Value.ownBlock] using ej
      rw [hgb] at hj; cases hj; rfl
  · rw [txtsV_snoc, List.length_append]; exact hr3
  · rw [endOf_snoc]; exact (bE2.other (by omega) _).set _
  · refine (((hB.drew.alloc hB.size (.cells #[.string x.2.2] 9)).grown hgrow (by simp; omega) fun j ej => ?_).setCell (p := ⟨w.heap.size, 0, none⟩) (Nat.le_refl _) _).setCell (p := ⟨w.heap.size + 1, 0, none⟩) (by simp) _
    have := own_base hrow j ej; omega
set_option maxRecDepth 100000 in
set_option maxHeartbeats 2000000 in
theorem all_any (s : ByteArray) (w : World) (hs : s.size ≤ 1000000) : Calls Try.prog 28 #[.string s] w fun e w' => ∃ v, e = .returned (.tuple #[v, .int .i64 (endOf (recsP s 0) : Int)]) ∧ w'.ownsRow (w.heap.size + 3) 9 1 v (recsP s 0).length (txtsV (recsP s 0)) ∧ Below w.heap.size w w' := by
  have hw1 : ∀ f, Fence.wide.fn f := fun _ => trivial
  have hw2 : Fence.wide.depth.isSome = false := rfl
  refine (callsIn_wide (n := 9)).1 ?_
  refine callsIn_of_wp_marks Try.func28 rfl trivial ?_ rfl
  simp only [Try.ntmps28, List.size_toArray, List.length_cons, List.length_nil, Nat.reduceAdd, Nat.reduceSub, Array.replicate_succ, Array.replicate_zero, List.push_toArray, List.append_toArray, List.nil_append, List.cons_append]
  gi_wp2_with (gi_at_call 48; refine (callsIn_wide.2 (right_any s _)).mono ?_; rintro e w' ⟨rfl, rfl⟩)
  have bL := ((Boxed.new w 55 (.slice none 0 0)).alloc (.cells #[.int .i64 0] 3)).alloc (.cells #[.string s] 9)
  have bE := (Boxed.new (w.alloc (.cells #[.slice none 0 0] 55)) 3 (.int .i64 0)).alloc (.cells #[.string s] 9)
  have bN := Boxed.new ((w.alloc (.cells #[.slice none 0 0] 55)).alloc (.cells #[.int .i64 0] 3)) 9 (.string s)
  simp only [World.size_alloc] at bE bN
  have hB0 : Below w.heap.size w (((w.alloc (.cells #[.slice none 0 0] 55)).alloc (.cells #[.int .i64 0] 3)).alloc (.cells #[.string s] 9)) := (((Below.refl _ w).alloc (Nat.le_refl _) _).alloc (by simp) _).alloc (by simp; omega) _
  have hsz : (((w.alloc (.cells #[.slice none 0 0] 55)).alloc (.cells #[.int .i64 0] 3)).alloc (.cells #[.string s] 9)).heap.size = w.heap.size + 3 := by simp
  obtain ⟨W0, hW0⟩ : ∃ W0, ((w.alloc (.cells #[.slice none 0 0] 55)).alloc (.cells #[.int .i64 0] 3)).alloc (.cells #[.string s] 9) = W0 := ⟨_, rfl⟩
  rw [hW0] at bL bE bN hB0 hsz ⊢
  clear hW0
  refine wpIn_rangeFunc_ownH rfl (by decide) (gf := 72) (lb := #[.pointer (some ⟨w.heap.size + 1 + 1, 0, none⟩)]) rfl trivial (enters_of Try.func72 (by kernel_rfl) rfl)
    (right_stops 8 (w.heap.size + 1 + 1) s W0 (by omega) bN) kpB_t (kpB_b (by omega)) (Below.refl _ _) (fun _ => rfl)
    (AllI s w) (fun _ _ _ => False)
    (OwnFrom.and (Own.from (holdsRow_own (w.heap.size + 3) w.heap.size 55 9 1 (fun pre : List Rc => pre.length) txtsV (fun _ _ => True)) _) (OwnFrom.and (Own.from (boxed_own (w.heap.size + 1) 3 (fun pre : List Rc => .int .i64 (endOf pre : Int))) _) (OwnFrom.and (Own.from (boxed_own (w.heap.size + 2) 9 (fun _ : List Rc => .string s)) _) (ownFrom_below (Nat.le_refl _) (by omega)))))
    (fun _ _ _ _ _ hs _ _ => hs)
    ⟨⟨_, bL, World.ownsRow_nil _ _ _ _, trivial⟩, bE, bN, hB0⟩
    (fun x a' W => ∃ Bx, w.heap.size + 3 ≤ Bx ∧ RBox W Bx x ∧ a' = { tmps := #[.string s, undef, .pointer (some ⟨w.heap.size, 0, none⟩), .pointer (some ⟨w.heap.size + 1, 0, none⟩), .pointer (some ⟨Bx, 0, none⟩), .string s, .func (.func 72) #[] #[.pointer (some ⟨w.heap.size + 1 + 1, 0, none⟩)], .agg #[.int .i64 (x.1 : Int), .int .i64 (x.2.1 : Int), .string x.2.2], undef, undef, undef, undef, undef, undef, undef, undef, undef], defers := [] })
    (fun x a' _ X Y row hs hg hr => by obtain ⟨Bx, h1, h2, h3⟩ := hs; exact ⟨Bx, h1, rbox_own h2 hg (fun r e => (hr r e).2), h3⟩)
    ?assign ?body ?done ?stop
  case assign =>
    rintro l pre x W K ⟨⟨v, hv, hrow, _⟩, bE1, bN1, hB1⟩ hK
    have hzW : w.heap.size + 3 ≤ W.heap.size := by have := bN1.lt; omega
    dsimp only [encR]
    gi_wp2
    refine hK _ _ ((KeepsOthers.alloc _ _).from _) (fun b => b.alloc _) ⟨⟨v, hv.alloc _, hrow.alloc _, trivial⟩, bE1.alloc _, bN1.alloc _, hB1.alloc hB1.size _⟩ ⟨W.heap.size, hzW, World.alloc_heap_new W _, rfl⟩
  case body =>
    rintro l pre x a' W hl _ ⟨⟨v, hv, hrow, _⟩, bE1, bN1, hB1⟩ ⟨Bx, hBx, hX, rfl⟩ hlt
    obtain ⟨i0, hi, hz0, hz1, hz2⟩ := info_parts Try.info9
    have hlen := recsP_len s
    have hzW : w.heap.size + 3 ≤ W.heap.size := by have := bN1.lt; omega
    have hrowA : (W.drew.alloc (.cells #[.string x.2.2] 9)).ownsRow (w.heap.size + 3) 9 1 v pre.length (txtsV pre) := (show W.drew.ownsRow (w.heap.size + 3) 9 1 v pre.length (txtsV pre) from hrow).alloc _
    obtain ⟨v', w1, hrun, hown, hgrow, _⟩ := run_append_own (P := Try.prog) (W.drew.alloc (.cells #[.string x.2.2] 9)) (w.heap.size + 3) 55 55 9 i0 (.string ⟨#[]⟩) 1 16 (by kernel_rfl) hi hz0 hz1 hz2 rfl (by decide) v pre.length (txtsV pre) hrowA ⟨W.heap.size, 0, none⟩ 1 1 [.string x.2.2] rfl (cell_one_new _ _ _) (by simp [Value.oneCell']) (by unfold maxLen; omega) (by omega) (by simp; omega)
    obtain ⟨g', cap', rfl⟩ := ownsRow_succ hown
    have bL2 : Boxed w1 w.heap.size 55 v := after_append hgrow hv (low_not_row hrow (by omega))
    have bE2 : Boxed w1 (w.heap.size + 1) 3 (.int .i64 (endOf pre : Int)) := after_append hgrow bE1 (low_not_row hrow (by omega))
    have hX2 : RBox w1 Bx x := after_append hgrow hX (hX.not_row hrow)
    have hcv := hv.cell
    obtain ⟨hx1, hx2⟩ := hX.cells
    obtain ⟨hy1, hy2⟩ := hX2.cells
    have c1 := bL2.cell
    have f1 := bL2.frozen
    have c2 := bE2.cell
    have f2 := bE2.frozen
    have n1 : ¬ w.heap.size = Bx := by omega
    have n2 : ¬ w.heap.size + 1 = Bx := by omega
    have ltL : w.heap.size < W.heap.size := by omega
    have ltX : Bx < W.heap.size := hX.lt
    have hrun2 : (Builtin.append_ #[55, 55] 55 #[v, .slice (some ⟨W.heap.size, 0, none⟩) 1 1]).run Try.prog (W.alloc (.cells #[.string x.2.2] 9)).drew = .ok (.slice (some ⟨g', 0, none⟩) (pre.length + 1) cap') w1 := hrun
    have HROW := Lib.hid hrow
    have HX := Lib.hid hX
    have HV := Lib.hid hv
    have HOWN := Lib.hid hown
    have HGR := Lib.hid hgrow
    have HB2 := Lib.hid bL2
    have HE2 := Lib.hid bE2
    have HX2 := Lib.hid hX2
    clear hrow hX hv hrowA hi hz0 hz1 hz2 hown hgrow bL2 bE2 hX2 hrun
    have hS0 : ∀ W' : World, W'.heap = W.heap → (W'.cell? ⟨Bx, 1, none⟩ = some (.int .i64 (x.2.1 : Int)) ∧ W'.cell? ⟨Bx, 2, none⟩ = some (.string x.2.2)) := fun W' h => by
      unfold World.cell? at hx1 hx2 ⊢; rw [h]; exact ⟨hx1, hx2⟩
    refine wpIn_block ?_
    refine region_in (S := fun w' => w'.cell? ⟨Bx, 1, none⟩ = some (.int .i64 (x.2.1 : Int)) ∧ w'.cell? ⟨Bx, 2, none⟩ = some (.string x.2.2)) (by kernel_rfl) (noDefer_spec (by kernel_rfl)) (fun ⟨_, _, h⟩ => h) ?_
    refine wpAnyH_take (i := 1) (v := .pointer (some ⟨Bx, 2, none⟩)) rfl (by kernel_rfl) (by kernel_rfl) (by kernel_rfl) (fun _ _ _ h => h) (Or.inl ⟨by rfl, fun w' hS => (by go_simp)⟩) (hS0 _ rfl) ?_
    simp only [Act.put]
    refine wpAnyH_take (i := 2) (v := .string x.2.2) rfl (by kernel_rfl) (by kernel_rfl) (by kernel_rfl) (fun _ _ _ h => h) (Or.inl ⟨by rfl, fun w' hS => (by obtain ⟨hS1, hS2⟩ := hS; go_simp)⟩) (hS0 _ rfl) ?_
    simp only [Act.put]
    refine wpAnyH_take (i := 5) (v := .pointer (some ⟨Bx, 1, none⟩)) rfl (by kernel_rfl) (by kernel_rfl) (by kernel_rfl) (fun _ _ _ h => h) (Or.inl ⟨by rfl, fun w' hS => (by go_simp)⟩) (hS0 _ rfl) ?_
    simp only [Act.put]
    refine wpAnyH_take (i := 6) (v := .int .i64 (x.2.1 : Int)) rfl (by kernel_rfl) (by kernel_rfl) (by kernel_rfl) (fun _ _ _ h => h) (Or.inl ⟨by rfl, fun w' hS => (by obtain ⟨hS1, hS2⟩ := hS; go_simp)⟩) (hS0 _ rfl) ?_
    simp only [Act.put]
    obtain ⟨wd, hwd⟩ : ∃ wd : World, wd = W.drew := ⟨_, rfl⟩
    have hwz : wd.heap.size = W.heap.size := by rw [hwd]; rfl
    have hcd : wd.cell? ⟨w.heap.size, 0, none⟩ = some v := by rw [hwd]; exact hcv
    have hca : (wd.alloc (.cells #[.string x.2.2] 9)).cell? ⟨w.heap.size, 0, none⟩ = some v := by rw [World.cell?_alloc_past _ _ _ (by omega)]; exact hcd
    have hSa : (wd.alloc (.cells #[.string x.2.2] 9)).cell? ⟨Bx, 1, none⟩ = some (.int .i64 (x.2.1 : Int)) ∧ (wd.alloc (.cells #[.string x.2.2] 9)).cell? ⟨Bx, 2, none⟩ = some (.string x.2.2) := by
      rw [World.cell?_alloc_past _ _ _ (by omega), World.cell?_alloc_past _ _ _ (by omega), hwd]; exact ⟨hx1, hx2⟩
    have hSd := hS0 wd (by rw [hwd]; rfl)
    rw [← hwz] at hrun2
    have hrun3 : (Builtin.append_ #[55, 55] 55 #[v, .slice (some ⟨wd.heap.size, 0, none⟩) 1 1]).run Try.prog (wd.alloc (.cells #[.string x.2.2] 9)) = .ok (.slice (some ⟨g', 0, none⟩) (pre.length + 1) cap') w1 := by rw [hwd] at hrun2 ⊢; exact hrun2
    rw [show ({ W with drawn := W.drawn + 1 } : World) = wd from hwd.symm]
    have HRUN := Lib.hid hrun3
    clear hrun2 hrun3 hwd hS0 hx1 hx2 hcv
    refine wpAnyH_all (rs := [0, 3]) (by kernel_rfl) (by simp) ?_
    intro i hi
    have hi2 : i = 0 ∨ i = 3 := by simpa using hi
    rcases hi2 with rfl | rfl
    · refine wpOp_value (v := v) (w' := wd) rfl rfl (by go_simp) ⟨hSd, ?_⟩
      simp only [Act.put]
      refine wpAnyH_all (rs := [3]) (by kernel_rfl) (by simp) ?_
      intro i hi
      obtain rfl : i = 3 := by simpa using hi
      refine wpOp_value (v := .slice (some ⟨wd.heap.size, 0, none⟩) 1 1) (w' := wd.alloc (.cells #[.string x.2.2] 9)) rfl rfl (by go_simp) ⟨hSa, ?_⟩
      simp only [Act.put]
      refine wpAnyH_all (rs := [4]) (by kernel_rfl) (by simp) ?_
      intro i hi
      obtain rfl : i = 4 := by simpa using hi
      refine wpOp_value (v := .slice (some ⟨g', 0, none⟩) (pre.length + 1) cap') (w' := w1) rfl rfl (append_run rfl rfl rfl HRUN.out) ⟨⟨hy1, hy2⟩, ?_⟩
      simp only [Act.put]
      refine wpAnyH_all (rs := [7]) (by kernel_rfl) (by simp) ?_
      intro i hi
      obtain rfl : i = 7 := by simpa using hi
      refine wpOp_skip (w' := w1.setCell ⟨w.heap.size, 0, none⟩ (.slice (some ⟨g', 0, none⟩) (pre.length + 1) cap')) rfl rfl (by go_simp) ⟨?_, ?_⟩
      · rw [World.cell?_setCell_other (h := by intro y; injection y with y; exact n1 y), World.cell?_setCell_other (h := by intro y; injection y with y; exact n1 y)]; exact ⟨hy1, hy2⟩
      simp only [Act.put]
      refine wpAnyH_all (rs := [8]) (by kernel_rfl) (by simp) ?_
      intro i hi
      obtain rfl : i = 8 := by simpa using hi
      refine wpOp_skip (w' := (w1.setCell ⟨w.heap.size, 0, none⟩ (.slice (some ⟨g', 0, none⟩) (pre.length + 1) cap')).setCell ⟨w.heap.size + 1, 0, none⟩ (.int .i64 (x.2.1 : Int))) rfl rfl (by go_simp) ⟨?_, ?_⟩
      · rw [World.cell?_setCell_other (h := by intro y; injection y with y; exact n2 y), World.cell?_setCell_other (h := by intro y; injection y with y; exact n1 y), World.cell?_setCell_other (h := by intro y; injection y with y; exact n2 y), World.cell?_setCell_other (h := by intro y; injection y with y; exact n1 y)]; exact ⟨hy1, hy2⟩
      refine wpAnyH_done (by kernel_rfl) ?_ _
      exact all_step HROW.out HV.out bE1 bN1 hB1 hzW HGR.out HOWN.out
    · refine wpOp_value (v := .slice (some ⟨wd.heap.size, 0, none⟩) 1 1) (w' := wd.alloc (.cells #[.string x.2.2] 9)) rfl rfl (by go_simp) ⟨hSa, ?_⟩
      simp only [Act.put]
      refine wpAnyH_all (rs := [0]) (by kernel_rfl) (by simp) ?_
      intro i hi
      obtain rfl : i = 0 := by simpa using hi
      refine wpOp_value (v := v) (w' := wd.alloc (.cells #[.string x.2.2] 9)) rfl rfl (by go_simp) ⟨hSa, ?_⟩
      simp only [Act.put]
      refine wpAnyH_all (rs := [4]) (by kernel_rfl) (by simp) ?_
      intro i hi
      obtain rfl : i = 4 := by simpa using hi
      refine wpOp_value (v := .slice (some ⟨g', 0, none⟩) (pre.length + 1) cap') (w' := w1) rfl rfl (append_run rfl rfl rfl HRUN.out) ⟨⟨hy1, hy2⟩, ?_⟩
      simp only [Act.put]
      refine wpAnyH_all (rs := [7]) (by kernel_rfl) (by simp) ?_
      intro i hi
      obtain rfl : i = 7 := by simpa using hi
      refine wpOp_skip (w' := w1.setCell ⟨w.heap.size, 0, none⟩ (.slice (some ⟨g', 0, none⟩) (pre.length + 1) cap')) rfl rfl (by go_simp) ⟨?_, ?_⟩
      · rw [World.cell?_setCell_other (h := by intro y; injection y with y; exact n1 y), World.cell?_setCell_other (h := by intro y; injection y with y; exact n1 y)]; exact ⟨hy1, hy2⟩
      simp only [Act.put]
      refine wpAnyH_all (rs := [8]) (by kernel_rfl) (by simp) ?_
      intro i hi
      obtain rfl : i = 8 := by simpa using hi
      refine wpOp_skip (w' := (w1.setCell ⟨w.heap.size, 0, none⟩ (.slice (some ⟨g', 0, none⟩) (pre.length + 1) cap')).setCell ⟨w.heap.size + 1, 0, none⟩ (.int .i64 (x.2.1 : Int))) rfl rfl (by go_simp) ⟨?_, ?_⟩
      · rw [World.cell?_setCell_other (h := by intro y; injection y with y; exact n2 y), World.cell?_setCell_other (h := by intro y; injection y with y; exact n1 y), World.cell?_setCell_other (h := by intro y; injection y with y; exact n2 y), World.cell?_setCell_other (h := by intro y; injection y with y; exact n1 y)]; exact ⟨hy1, hy2⟩
      refine wpAnyH_done (by kernel_rfl) ?_ _
      exact all_step HROW.out HV.out bE1 bN1 hB1 hzW HGR.out HOWN.out
  case done =>
    rintro D ys W hD rfl ⟨⟨v, hv, hrow, _⟩, bE1, bN1, hB1⟩ hK
    obtain ⟨va, vn, vc, rfl⟩ := own_slice hrow
    have hcv := hv.cell
    have hfv := hv.frozen
    have hce := bE1.cell
    have hfe := bE1.frozen
    gi_wp2
    refine wpIn_wide.2 ?_
    go_region
    have hr2 := hrow.kept (grownBy_setCell' W w.heap.size (.slice va vn vc)) (.inr (low_not_row hrow (by omega)).symm)
    have hr3 := hr2.kept (grownBy_setCell' _ (w.heap.size + 1) (.int .i64 (endOf (recsP s 0) : Int))) (.inr (low_not_row hr2 (by omega)).symm)
    have hr4 : ((W.setCell ⟨w.heap.size, 0, none⟩ (.slice va vn vc)).setCell ⟨w.heap.size + 1, 0, none⟩ (.int .i64 (endOf (recsP s 0) : Int))).drew.ownsRow (w.heap.size + 3) 9 1 (.slice va vn vc) (recsP s 0).length (txtsV (recsP s 0)) := hr3
    have hK4 := (((KeepsOthers.setCell W ⟨w.heap.size, 0, none⟩ (.slice va vn vc)).trans (KeepsOthers.setCell _ ⟨w.heap.size + 1, 0, none⟩ (.int .i64 (endOf (recsP s 0) : Int)))).trans (KeepsOthers.drew _)).same D _ hK rfl
    have hB4 : Below w.heap.size w ((W.setCell ⟨w.heap.size, 0, none⟩ (.slice va vn vc)).setCell ⟨w.heap.size + 1, 0, none⟩ (.int .i64 (endOf (recsP s 0) : Int))).drew := ((hB1.setCell (p := ⟨w.heap.size, 0, none⟩) (Nat.le_refl _) _).setCell (p := ⟨w.heap.size + 1, 0, none⟩) (by simp) _).drew
    have b1 : Boxed ((W.setCell ⟨w.heap.size, 0, none⟩ (.slice va vn vc)).setCell ⟨w.heap.size + 1, 0, none⟩ (.int .i64 (endOf (recsP s 0) : Int))).drew w.heap.size 55 (.slice va vn vc) := (hv.set (.slice va vn vc)).other (B' := w.heap.size + 1) (by omega) (.int .i64 (endOf (recsP s 0) : Int))
    have b2 : Boxed ((W.setCell ⟨w.heap.size, 0, none⟩ (.slice va vn vc)).setCell ⟨w.heap.size + 1, 0, none⟩ (.int .i64 (endOf (recsP s 0) : Int))).drew (w.heap.size + 1) 3 (.int .i64 (endOf (recsP s 0) : Int)) := (bE1.other (B' := w.heap.size) (by omega) (.slice va vn vc)).set (.int .i64 (endOf (recsP s 0) : Int))
    generalize ((W.setCell ⟨w.heap.size, 0, none⟩ (.slice va vn vc)).setCell ⟨w.heap.size + 1, 0, none⟩ (.int .i64 (endOf (recsP s 0) : Int))).drew = W2 at *
    have k1 := (b1.kept (grownBy_putObj' W2 D (.deferred none)) (fun e => by have := Option.some.inj e; omega)).cell
    have k2 := (b2.kept (grownBy_putObj' W2 D (.deferred none)) (fun e => by have := Option.some.inj e; omega)).cell
    have HR4 := Lib.hid hr4
    have HK4 := Lib.hid hK4
    have HB4 := Lib.hid hB4
    clear hr2 hr3 hr4 hK4 hB4 b1 b2 hcv hfv hce hfe hrow hv bE1 bN1 hB1 hK hB0 bN bE bL
    gi_wp2
    refine ⟨by simp, .inl ⟨_, _, rfl, run_takeDeferred HK4.out, ?_⟩⟩
    refine ⟨.tuple #[.slice va vn vc, .int .i64 (endOf (recsP s 0) : Int)], ?_, ?_⟩
    · simp [results, Try.results28, go_sem, k1, k2]
    · exact ⟨_, rfl, ownsRow_putObj HR4.out _ HK4.out rfl, HB4.out.trans (belowK_b (w := w) (Nat.le_refl _) W2 D _ _ (by omega) HK4.out rfl rfl)⟩
  case stop =>
    rintro D c pre W _ _ h _
    exact h.elim
end Go.Proofs.Ytnejahfeafllkaa
