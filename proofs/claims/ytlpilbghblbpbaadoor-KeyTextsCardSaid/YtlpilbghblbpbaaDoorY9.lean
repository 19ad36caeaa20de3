/- Rf, Ta, Tb, Tc, Td, Vd -/
import Derived.Laws.Rows
import Derived.OrdersHeld
import Derived.IntWalk
import Derived.Lib.Builder
import Derived.Lib.AppendStr
import Derived.Lib.UnsafeStr
import Derived.Shelf.RegionOpenPlain
import Derived.Laws.Externs
import Derived.Test.YtlpilbghblbpbaaDoorY5
import Derived.Test.YtlpilbghblbpbaaDoorY7
/- WALK of expr's tell: one function is handed all expressions, in order, till it wants no more. -/
namespace Go.Proofs.YtlpilbghblbpbaaDoor
open Go.RowKit Go.Shelf
attribute [local go_sem] Oper.semAt_some
/-- All of L was handed over; or a part, and no more was wanted. -/
def TellPost (J Jx : (Nat → Prop) → List HX → World → Prop) (F : Nat → Prop) (pre : List HX) (L : List Ex) (W : World) (e : Ending) (W' : World) : Prop :=
  (e = .returned (.bool true) ∧ (∃ xs : List HX, xs.map (·.2) = L ∧ J F (pre ++ xs) W') ∧ Stays F W W') ∨ (e = .returned (.bool false) ∧ (∃ xs : List HX, xs.map (·.2) <+: L ∧ Jx F (pre ++ xs) W') ∧ Stays F W W')
/-- Between two parts. -/
structure TellI (J : (Nat → Prop) → List HX → World → Prop) (n : Nat) (F1 : Nat → Prop) (pre1 : List HX) (X2 : World) (F : Nat → Prop) (ys : List HX) (X : World) : Prop where
  far : ∀ r, F r → X2.heap.size ≤ r
  st : Stays F1 X2 X
  got : ∃ xs : List HX, xs.map (·.2) = (ys.map (·.2)).flatMap (allN n) ∧ J (fun r => F r ∨ F1 r) (pre1 ++ xs) X
/-- No more was wanted. -/
structure TellX (Jx : (Nat → Prop) → List HX → World → Prop) (n : Nat) (F0 F1 : Nat → Prop) (pre1 : List HX) (X2 : World) (bc : Nat) (c : Code) (F : Nat → Prop) (ys : List HX) (X : World) : Prop where
  jump : c = .ret
  far : ∀ r, F r → X2.heap.size ≤ r
  st : Stays F0 X2 X
  cell : Boxed X bc 4 (.bool false)
  got : ∃ xs : List HX, xs.map (·.2) <+: (ys.map (·.2)).flatMap (allN n) ∧ Jx (fun r => F r ∨ F1 r) (pre1 ++ xs) X
theorem tellI_fr {J : (Nat → Prop) → List HX → World → Prop} (hJ : Fr J) (n : Nat) (F1 : Nat → Prop) (pre1 : List HX) (X2 : World) : Fr (TellI J n F1 pre1 X2) where
  grow := fun {F pre X Y} h hg => ⟨fun r hr => hr.elim (h.far r) (fun h3 => Nat.le_trans h.st.1 h3.1), h.st.grown hg (fun _ e => by cases e), by
    obtain ⟨xs, h1, h2⟩ := h.got
    exact ⟨xs, h1, hJ.less (fun r hr => hr.elim (fun h3 => h3.elim (fun h4 => .inl (.inl h4)) .inr) (fun h3 => .inl (.inr h3))) (hJ.grow h2 hg)⟩⟩
  put := fun {F pre X Y r} h hr hg => ⟨h.far, h.st.grown hg (fun k e _ => by cases e; exact h.far _ hr), by
    obtain ⟨xs, h1, h2⟩ := h.got
    exact ⟨xs, h1, hJ.put h2 (.inl hr) hg⟩⟩
  less := fun hF h => ⟨fun r hr => h.far r (hF r hr), h.st, by
    obtain ⟨xs, h1, h2⟩ := h.got
    exact ⟨xs, h1, hJ.less (fun r hr => hr.elim (fun h3 => .inl (hF r h3)) .inr) h2⟩⟩
theorem tellX_fr {Jx : (Nat → Prop) → List HX → World → Prop} (hJ : Fr Jx) (n : Nat) (F0 F1 : Nat → Prop) (pre1 : List HX) (X2 : World) (bc : Nat) (hbc : bc < X2.heap.size) (c : Code) : Fr (TellX Jx n F0 F1 pre1 X2 bc c) where
  grow := fun {F pre X Y} h hg => ⟨h.jump, fun r hr => hr.elim (h.far r) (fun h3 => Nat.le_trans h.st.1 h3.1), h.st.grown hg (fun _ e => by cases e), h.cell.kept hg (by simp), by
    obtain ⟨xs, h1, h2⟩ := h.got
    exact ⟨xs, h1, hJ.less (fun r hr => hr.elim (fun h3 => h3.elim (fun h4 => .inl (.inl h4)) .inr) (fun h3 => .inl (.inr h3))) (hJ.grow h2 hg)⟩⟩
  put := fun {F pre X Y r} h hr hg => ⟨h.jump, h.far, h.st.grown hg (fun k e _ => by cases e; exact h.far _ hr), h.cell.kept hg (fun e => by cases e; have := h.far _ hr; omega), by
    obtain ⟨xs, h1, h2⟩ := h.got
    exact ⟨xs, h1, hJ.put h2 (.inl hr) hg⟩⟩
  less := fun hF h => ⟨h.jump, fun r hr => h.far r (hF r hr), h.st, h.cell, by
    obtain ⟨xs, h1, h2⟩ := h.got
    exact ⟨xs, h1, hJ.less (fun r hr => hr.elim (fun h3 => .inl (hF r h3)) .inr) h2⟩⟩
theorem heap3 (W : World) (o1 o2 o3 : Obj) : (((W.alloc o1).alloc o2).alloc o3).heap[W.heap.size]? = some o1 ∧ (((W.alloc o1).alloc o2).alloc o3).heap[W.heap.size + 1]? = some o2 ∧ (((W.alloc o1).alloc o2).alloc o3).heap[W.heap.size + 1 + 1]? = some o3 := by
  refine ⟨(Below.heap_alloc _ _ _ (by simp; omega)).trans ((Below.heap_alloc _ _ _ (by simp)).trans (World.alloc_heap_new W o1)), (Below.heap_alloc _ _ _ (by simp)).trans (heap_new1 W o1 o2), ?_⟩
  have := World.alloc_heap_new ((W.alloc o1).alloc o2) o3
  simpa only [World.size_alloc] using this
set_option maxRecDepth 100000 in
set_option maxHeartbeats 4000000 in
theorem tell_step (w0 : World) (l : Nat) (J Jx : (Nat → Prop) → List HX → World → Prop) (hJ : Fr J) (hJx : Fr Jx) (hInv : ∀ F pre X, J F pre X → Below w0.heap.size w0 X) (full : List Ex)
    (hY : ∀ m F pre x X, J F pre X → FitA w0 full pre x → YieldAt Fence.wide m Tryd.prog l (encX x) X fun e Y => (e = .returned (.bool true) ∧ J F (pre ++ [x]) Y ∧ Stays F X Y) ∨ (e = .returned (.bool false) ∧ Jx F (pre ++ [x]) Y ∧ Stays F X Y))
    (n : Nat) (ih : ∀ h x F pre W, InX w0 n h x → J F pre W → pre.map (·.2) ++ allN n x <+: full → Calls Tryd.prog 58 #[h.agg, .func (.yield l) #[] #[]] W (TellPost J Jx F pre (allN n x) W))
    (h : Hd) (x : Ex) (F : Nat → Prop) (pre : List HX) (W : World) (hx : InX w0 (n + 1) h x) (h0 : J F pre W) (hfull : pre.map (·.2) ++ allN (n + 1) x <+: full) : Calls Tryd.prog 58 #[h.agg, .func (.yield l) #[] #[]] W (TellPost J Jx F pre (allN (n + 1) x) W) := by
  have hw1 : ∀ f, Fence.wide.fn f := fun _ => trivial
  have hw2 : Fence.wide.depth.isSome = false := rfl
  have hFx : FitA w0 full pre (h, x) := ⟨⟨n + 1, hx⟩, by
    obtain ⟨t, ht⟩ := hfull
    exact ⟨x.parts.flatMap (allN n) ++ t, by rw [← ht, List.map_append]; simp [allN]⟩⟩
  have HFU := Lib.hid hfull
  have hP := fun X => Lib.hid (parts_any w0 n h x X hx)
  obtain ⟨F0, hF0⟩ : ∃ F0 : Nat → Prop, F0 = fun r => ((F r ∨ (W.heap.size ≤ r ∧ r < W.heap.size + 1)) ∨ (W.heap.size + 1 ≤ r ∧ r < W.heap.size + 1 + 1)) ∨ (W.heap.size + 1 + 1 ≤ r ∧ r < W.heap.size + 1 + 1 + 1) := ⟨_, rfl⟩
  obtain ⟨op, nn, s, p, pl, pc, q, ql, qc, o, k, kl, kc⟩ := h
  have h3 : J F0 pre (((W.alloc (.cells #[.int .i64 op, .int .i64 nn, .string s, .slice p pl pc, .slice q ql qc, .bool o, .slice k kl kc] 38)).alloc (.cells #[.func (.yield l) #[] #[]] 34)).alloc (.cells #[.bool false] 4)) := by
    have := hJ.grow (hJ.grow (hJ.grow h0 (World.grownBy_alloc W (.cells #[.int .i64 op, .int .i64 nn, .string s, .slice p pl pc, .slice q ql qc, .bool o, .slice k kl kc] 38) none)) (World.grownBy_alloc _ (.cells #[.func (.yield l) #[] #[]] 34) none)) (World.grownBy_alloc _ (.cells #[.bool false] 4) none)
    simp only [World.size_alloc] at this
    rw [hF0]; exact this
  obtain ⟨fn, tmps, assign, body, hy, hR⟩ := hY 8 F0 pre (⟨op, nn, s, p, pl, pc, q, ql, qc, o, k, kl, kc⟩, x) _ h3 hFx
  dsimp only [encX, Hd.agg] at hy
  have HIH := Lib.hid ih
  have HJ := Lib.hid hJ
  have HJx := Lib.hid hJx
  have HI := Lib.hid hInv
  have HF0 := Lib.hid hF0
  clear ih hJ hJx hInv hF0 hY hx h0 h3 hFx hfull
  unfold Hd.agg
  unfold Hd.agg at hP
  dsimp only at hP
  refine (callsIn_wide (n := 9)).1 ?_
  refine callsIn_of_wp_marks Tryd.func58 rfl trivial ?_ rfl
  simp only [Tryd.ntmps58, List.size_toArray, List.length_cons, List.length_nil, Nat.reduceAdd, Nat.reduceSub, Array.replicate_succ, Array.replicate_zero, List.push_toArray, List.append_toArray, List.nil_append, List.cons_append]
  gi_wp2
  refine hR.mono ?_
  rintro e X1 (⟨rfl, hJ1, hs1⟩ | ⟨rfl, hJ1, hs1⟩)
  · have hE3 := heap3 W (.cells #[.int .i64 op, .int .i64 nn, .string s, .slice p pl pc, .slice q ql qc, .bool o, .slice k kl kc] 38) (.cells #[.func (.yield l) #[] #[]] 34) (.cells #[.bool false] 4)
    have hbE := (hs1.2 W.heap.size (by rw [HF0.out]; exact .inl (.inl (.inr ⟨Nat.le_refl _, by omega⟩))) (by simp; omega)).trans hE3.1
    have hbY : Boxed X1 (W.heap.size + 1) 34 (.func (.yield l) #[] #[]) := (hs1.2 (W.heap.size + 1) (by rw [HF0.out]; exact .inl (.inr ⟨Nat.le_refl _, by omega⟩)) (by simp)).trans hE3.2.1
    have hbC : Boxed X1 (W.heap.size + 1 + 1) 4 (.bool false) := (hs1.2 (W.heap.size + 1 + 1) (by rw [HF0.out]; exact .inr ⟨Nat.le_refl _, by omega⟩) (by simp)).trans hE3.2.2
    have hst : Stays F W X1 := ⟨by have := hs1.1; simp at this; omega, fun i hi hl => (hs1.2 i (by rw [HF0.out]; exact .inl (.inl (.inl hi))) (by simp; omega)).trans ((Below.heap_alloc _ _ _ (by simp; omega)).trans ((Below.heap_alloc _ _ _ (by simp; omega)).trans (Below.heap_alloc _ _ _ hl)))⟩
    clear hE3
    clear hy hR
    have HS := Lib.hid hst
    have HJ1 := Lib.hid hJ1
    have hcE := BoxH.cells (X := X1) (b := W.heap.size) (h := ⟨op, nn, s, p, pl, pc, q, ql, qc, o, k, kl, kc⟩) hbE
    obtain ⟨d0, d1, d2, d3, d4, d5, d6⟩ := hcE
    dsimp only at d0 d1 d2 d3 d4 d5 d6
    simp only [Nat.zero_add] at d1 d2 d3 d4 d5 d6
    clear hst hJ1
    gi_wp2_with (gi_at_call 46; refine (callsIn_wide.2 (hP _).out).mono ?_; rintro e X2 ⟨gf, be, ob, rfl, hbe, hob, hb2, heg, hseq⟩)
    clear d0 d1 d2 d3 d4 d5 d6
    have hz1 : W.heap.size + 1 + 1 < X1.heap.size := hbC.lt
    have hz2 := hb2.size
    have hY2 : Boxed X2 (W.heap.size + 1) 34 (.func (.yield l) #[] #[]) := (hb2.block _ hbY.lt).trans hbY
    have hC2 : Boxed X2 (W.heap.size + 1 + 1) 4 (.bool false) := (hb2.block _ hbC.lt).trans hbC
    have hbl : be < X2.heap.size := (Array.getElem?_eq_some_iff.1 hob).1
    obtain ⟨F1, hF1⟩ : ∃ F1 : Nat → Prop, F1 = fun r => F0 r ∨ (X1.heap.size ≤ r ∧ r < X2.heap.size) := ⟨_, rfl⟩
    have hj2 := HJ.out.grow HJ1.out (grown_below hb2)
    rw [← hF1] at hj2
    obtain ⟨pre1, hpre1⟩ : ∃ pre1 : List HX, pre1 = pre ++ [(⟨op, nn, s, p, pl, pc, q, ql, qc, o, k, kl, kc⟩, x)] := ⟨_, rfl⟩
    rw [← hpre1] at hj2
    have f1Y : F1 (W.heap.size + 1) := by rw [hF1, HF0.out]; exact .inl (.inl (.inr ⟨Nat.le_refl _, by omega⟩))
    have f1C : F1 (W.heap.size + 1 + 1) := by rw [hF1, HF0.out]; exact .inl (.inr ⟨Nat.le_refl _, by omega⟩)
    have f1B : F1 be := by rw [hF1]; exact .inr ⟨hbe, hbl⟩
    have f1F : ∀ r, F r → F1 r := fun r hr => by rw [hF1, HF0.out]; exact .inl (.inl (.inl (.inl hr)))
    have hS2 : Stays F W X2 := HS.out.grown (grown_below hb2) (fun _ e => by cases e)
    clear hbE hbY hbC hs1 HJ1 HS hF1 hb2
    refine range_fit (gf := gf) (lb := #[.pointer (some ⟨be, 0, none⟩)]) (by decide) rfl heg hseq (fun _ => rfl) (TellI J n F1 pre1 X2) (TellX Jx n (fun r => F r ∧ r < W.heap.size) F1 pre1 X2 (W.heap.size + 1 + 1)) (tellI_fr HJ.out n F1 pre1 X2) (tellX_fr HJx.out n _ F1 pre1 X2 _ hC2.lt)
      (fun F2 ys X h2 => ⟨by obtain ⟨xs, _, hj⟩ := h2.got; exact HI.out _ _ _ hj, (h2.st.2 be f1B hbl).trans hob⟩)
      ⟨fun _ h => h.elim, Stays.refl _ _, [], rfl, by rw [List.append_nil]; exact HJ.out.less (fun r hr => hr.elim (fun h => h.elim) id) hj2⟩ ?round ?done ?stop
    case round =>
      rintro l2 F2 ys ⟨yh, yx⟩ X hl2 hrec hI2 hfit
      obtain ⟨op2, nn2, s2, p2, pl2, pc2, q2, ql2, qc2, o2, k2, kl2, kc2⟩ := yh
      have HF := Lib.hid hfit.1
      have HPX := Lib.hid hfit.2
      have HI2 := Lib.hid hI2
      have hlX : l2 < X.heap.size := by obtain ⟨r, hr⟩ := hrec; exact (Array.getElem?_eq_some_iff.1 hr).1
      clear hfit hI2 hrec
      dsimp only [encX, Hd.agg]
      gi_wp2
      refine ⟨⟨by simp, fun i _ hi => Below.heap_alloc _ _ _ hi⟩, (tellI_fr HJ.out n F1 pre1 X2).alloc HI2.out _, ?_⟩
      intro Y hYz hYo hYl hIY
      have hbx : BoxH Y X.heap.size ⟨op2, nn2, s2, p2, pl2, pc2, q2, ql2, qc2, o2, k2, kl2, kc2⟩ := (hYo _ (by omega)).trans (World.alloc_heap_new X _)
      obtain ⟨d0, d1, d2, d3, d4, d5, d6⟩ := hbx.cells
      dsimp only at d0 d1 d2 d3 d4 d5 d6
      simp only [Nat.zero_add] at d1 d2 d3 d4 d5 d6
      have hYY : Boxed Y (W.heap.size + 1) 34 (.func (.yield l) #[] #[]) := hIY.st.boxed f1Y hY2
      have hYC : Boxed Y (W.heap.size + 1 + 1) 4 (.bool false) := hIY.st.boxed f1C hC2
      have cy := hYY.cell
      have cc := hYC.cell
      have cf := hYC.frozen
      obtain ⟨xs, hxs, hj⟩ := hIY.got
      have hT := Lib.hid (HIH.out ⟨op2, nn2, s2, p2, pl2, pc2, q2, ql2, qc2, o2, k2, kl2, kc2⟩ yx (fun r => F2 r ∨ F1 r) (pre1 ++ xs) Y HF.out hj (by
        obtain ⟨t, ht⟩ := HFU.out
        obtain ⟨t2, ht2⟩ := HPX.out
        refine ⟨t2.flatMap (allN n) ++ t, ?_⟩
        rw [← ht, hpre1]
        show _ = pre.map (·.2) ++ x :: x.parts.flatMap (allN n) ++ t
        rw [← ht2, List.map_append, hxs]
        simp))
      have HXS := Lib.hid hxs
      have HIY := Lib.hid hIY
      have HYC := Lib.hid hYC
      clear hbx hYY hYC hj hxs hIY hYo hYz hYl
      unfold Hd.agg at hT
      dsimp only at hT
      gi_wp2_with (gi_at_call 58; refine (CallsIn.inRound l2 (callsIn_wide.2 hT.out)).mono ?_; rintro e Z (⟨rfl, ⟨zs, hzs, hjz⟩, hsz⟩ | ⟨rfl, ⟨zs, hzs, hjz⟩, hsz⟩); all_goals (have HZS := Lib.hid hzs; have HJZ := Lib.hid hjz; have HSZ := Lib.hid hsz; have HCZ := Lib.hid (hsz.boxed (.inr f1C) HYC.out); have cz := HCZ.out.cell; have fz := HCZ.out.frozen; clear hzs hjz hsz))
      · refine ⟨HSZ.out.less fun r hr => .inl hr, HIY.out.far, HIY.out.st.trans (HSZ.out.less fun r hr => .inr hr), xs ++ zs, ?_, ?_⟩
        · rw [List.map_append, List.map_append, List.flatMap_append, HXS.out, HZS.out]; simp
        · rw [← List.append_assoc]; exact HJZ.out
      · have hb5 := HCZ.out.set (.bool false)
        refine ⟨(HSZ.out.less fun r hr => .inl hr).grown (grownBy_setCell' _ _ _) (fun r e hr => by cases e; have := HIY.out.far _ hr; have := hC2.lt; omega), rfl, HIY.out.far, ?_, hb5, xs ++ zs, ?_, ?_⟩
        · exact ((HIY.out.st.less fun r hr => f1F r hr.1).trans (HSZ.out.less fun r hr => .inr (f1F r hr.1))).grown (grownBy_setCell' _ _ _) (fun r e hr => by cases e; have := hr.2; omega)
        · rw [List.map_append, List.map_append, List.flatMap_append, HXS.out]
          simpa using HZS.out
        · rw [← List.append_assoc]; exact HJx.out.put HJZ.out (.inr f1C) (grownBy_setCell' _ _ _)
    case done =>
      rintro D F2 ys X hD hys hI2 hKD
      have hXC : Boxed X (W.heap.size + 1 + 1) 4 (.bool false) := hI2.st.boxed f1C hC2
      have cc := hXC.cell
      have cf := hXC.frozen
      have HI2 := Lib.hid hI2
      have HKD := Lib.hid hKD
      have HYS := Lib.hid hys
      clear hI2 hKD hys
      gi_wp2
      have hne : D ≠ W.heap.size + 1 + 1 := fun e => by have := HI2.out.far _ hD; have := hC2.lt; omega
      have hK5 := (Below.heap_setCell X ⟨W.heap.size + 1 + 1, 0, none⟩ (.bool true) D hne).trans HKD.out
      refine ⟨by simp, .inl ⟨_, _, rfl, run_takeDeferred hK5, ?_⟩⟩
      have hb5 := (hXC.set (.bool true)).kept (grownBy_putObj' _ D (.deferred none)) (by simpa using fun e => hne e.symm)
      have cc5 := hb5.cell
      refine ⟨.bool true, by simp [results, Tryd.f58, go_sem, cc5], ?_⟩
      obtain ⟨xs, hxs, hj⟩ := HI2.out.got
      refine .inl ⟨rfl, ⟨(⟨op, nn, s, p, pl, pc, q, ql, qc, o, k, kl, kc⟩, x) :: xs, ?_, ?_⟩, ?_⟩
      · rw [List.map_cons, hxs, HYS.out]; rfl
      · refine HJ.out.less (F' := fun r => F2 r ∨ F1 r) (fun r hr => .inr (f1F r hr)) (HJ.out.put (HJ.out.put ?_ (.inr f1C) (grownBy_setCell' _ _ _)) (.inl hD) (grownBy_putObj' _ _ _))
        rw [hpre1, List.append_assoc] at hj
        exact hj
      · exact ((hS2.trans (HI2.out.st.less f1F)).grown (grownBy_setCell' _ _ _) (fun r e _ => by cases e; omega)).grown (grownBy_putObj' _ _ _) (fun r e _ => by cases e; have := HI2.out.far _ hD; omega)
    case stop =>
      rintro D F2 c ys X hD hys hI2 hKD
      obtain rfl := hI2.jump
      have cc := hI2.cell.cell
      have HI2 := Lib.hid hI2
      have HKD := Lib.hid hKD
      have HYS := Lib.hid hys
      clear hI2 hKD hys
      gi_wp2
      refine ⟨by simp, .inl ⟨_, _, rfl, run_takeDeferred HKD.out, ?_⟩⟩
      have hne : D ≠ W.heap.size + 1 + 1 := fun e => by have := HI2.out.far _ hD; have := hC2.lt; omega
      have hb5 := HI2.out.cell.kept (grownBy_putObj' _ D (.deferred none)) (by simpa using fun e => hne e.symm)
      have cc5 := hb5.cell
      refine ⟨.bool false, by simp [results, Tryd.f58, go_sem, cc5], ?_⟩
      obtain ⟨xs, hxs, hj⟩ := HI2.out.got
      refine .inr ⟨rfl, ⟨(⟨op, nn, s, p, pl, pc, q, ql, qc, o, k, kl, kc⟩, x) :: xs, ?_, ?_⟩, ?_⟩
      · rw [List.map_cons]
        obtain ⟨t1, ht1⟩ := hxs
        obtain ⟨t2, ht2⟩ := HYS.out
        exact ⟨t1 ++ t2.flatMap (allN n), by show x :: _ ++ _ = x :: x.parts.flatMap (allN n); rw [← ht2, List.flatMap_append, ← ht1]; simp⟩
      · refine HJx.out.less (F' := fun r => F2 r ∨ F1 r) (fun r hr => .inr (f1F r hr)) (HJx.out.put ?_ (.inl hD) (grownBy_putObj' _ _ _))
        rw [hpre1, List.append_assoc] at hj
        exact hj
      · have h5 : Stays (fun r => F r ∧ r < W.heap.size) W X := (hS2.less fun r hr => hr.1).trans HI2.out.st
        have h6 := h5.grown (grownBy_putObj' X D (.deferred none)) (fun r e _ => by cases e; have := HI2.out.far _ hD; omega)
        exact ⟨h6.1, fun i hF hi => h6.2 i ⟨hF, hi⟩ hi⟩
  · have hE3 := heap3 W (.cells #[.int .i64 op, .int .i64 nn, .string s, .slice p pl pc, .slice q ql qc, .bool o, .slice k kl kc] 38) (.cells #[.func (.yield l) #[] #[]] 34) (.cells #[.bool false] 4)
    have hbE := (hs1.2 W.heap.size (by rw [HF0.out]; exact .inl (.inl (.inr ⟨Nat.le_refl _, by omega⟩))) (by simp; omega)).trans hE3.1
    have hbY : Boxed X1 (W.heap.size + 1) 34 (.func (.yield l) #[] #[]) := (hs1.2 (W.heap.size + 1) (by rw [HF0.out]; exact .inl (.inr ⟨Nat.le_refl _, by omega⟩)) (by simp)).trans hE3.2.1
    have hbC : Boxed X1 (W.heap.size + 1 + 1) 4 (.bool false) := (hs1.2 (W.heap.size + 1 + 1) (by rw [HF0.out]; exact .inr ⟨Nat.le_refl _, by omega⟩) (by simp)).trans hE3.2.2
    have hst : Stays F W X1 := ⟨by have := hs1.1; simp at this; omega, fun i hi hl => (hs1.2 i (by rw [HF0.out]; exact .inl (.inl (.inl hi))) (by simp; omega)).trans ((Below.heap_alloc _ _ _ (by simp; omega)).trans ((Below.heap_alloc _ _ _ (by simp; omega)).trans (Below.heap_alloc _ _ _ hl)))⟩
    clear hE3
    have cc := hbC.cell
    have cf := hbC.frozen
    have HJ1 := Lib.hid hJ1
    clear hy hR hs1 hbE hbY hJ1
    gi_wp2
    have hb5 := hbC.set (.bool false)
    have cc5 := hb5.cell
    refine ⟨.bool false, by simp [results, Tryd.f58, go_sem, cc5], ?_⟩
    refine .inr ⟨rfl, ⟨[_], ?_, HJx.out.less (fun r hr => ?_) (HJx.out.put HJ1.out (r := W.heap.size + 1 + 1) ?_ (grownBy_setCell' _ _ _))⟩, hst.grown (grownBy_setCell' _ _ _) (fun r e _ => by cases e; omega)⟩
    · exact ⟨x.parts.flatMap (allN n), rfl⟩
    · rw [HF0.out]; exact .inl (.inl (.inl hr))
    · rw [HF0.out]; exact .inr ⟨Nat.le_refl _, by omega⟩
theorem tell_in (w0 : World) (l : Nat) (J Jx : (Nat → Prop) → List HX → World → Prop) (hJ : Fr J) (hJx : Fr Jx) (hInv : ∀ F pre X, J F pre X → Below w0.heap.size w0 X) (full : List Ex)
    (hY : ∀ m F pre x X, J F pre X → FitA w0 full pre x → YieldAt Fence.wide m Tryd.prog l (encX x) X fun e Y => (e = .returned (.bool true) ∧ J F (pre ++ [x]) Y ∧ Stays F X Y) ∨ (e = .returned (.bool false) ∧ Jx F (pre ++ [x]) Y ∧ Stays F X Y)) :
    ∀ (n : Nat) (h : Hd) (x : Ex) (F : Nat → Prop) (pre : List HX) (W : World), InX w0 n h x → J F pre W → pre.map (·.2) ++ allN n x <+: full → Calls Tryd.prog 58 #[h.agg, .func (.yield l) #[] #[]] W (TellPost J Jx F pre (allN n x) W)
  | 0, _, _, _, _, _, h, _, _ => h.elim
  | n + 1, h, x, F, pre, W, hx, h0, hf => tell_step w0 l J Jx hJ hJx hInv full hY n (tell_in w0 l J Jx hJ hJx hInv full hY n) h x F pre W hx h0 hf
set_option maxHeartbeats 1000000 in
theorem inOrder_fit (w0 : World) (n be : Nat) (h : Hd) (x : Ex) (hx : InX w0 n h x) :
    FitSeq Tryd.prog 57 #[.pointer (some ⟨be, 0, none⟩)] encX (fun X => Below w0.heap.size w0 X ∧ BoxH X be h) (FitA w0 (allN n x)) (fun xs => xs.map (·.2) = allN n x) (fun pre => pre.map (·.2) <+: allN n x) := by
  intro l J Jx W hJ hJx hInv hY h0
  have hw1 : ∀ f, Fence.wide.fn f := fun _ => trivial
  have hw2 : Fence.wide.depth.isSome = false := rfl
  have hT := tell_in w0 l J Jx hJ hJx (fun F pre X hj => (hInv F pre X hj).1) (allN n x) hY n h x none_ [] W hx h0 (by simp)
  have hbx := (hInv _ [] W h0).2
  have hbl := hbx.lt
  obtain ⟨op, nn, s, p, pl, pc, q, ql, qc, o, k, kl, kc⟩ := h
  obtain ⟨d0, d1, d2, d3, d4, d5, d6⟩ := hbx.cells
  dsimp only at d0 d1 d2 d3 d4 d5 d6
  simp only [Nat.zero_add] at d1 d2 d3 d4 d5 d6
  unfold Hd.agg at hT
  dsimp only at hT
  have HT := Lib.hid hT
  clear hT hY hJ hJx hInv hbx hx h0
  refine (callsIn_wide (n := 9)).1 ?_
  refine callsIn_of_wp Tryd.func57 rfl trivial ?_ rfl
  simp only [Tryd.ntmps57, List.size_toArray, List.length_cons, List.length_nil, Nat.reduceAdd, Nat.reduceSub, Array.replicate_succ, Array.replicate_zero, List.push_toArray, List.append_toArray, List.nil_append, List.cons_append]
  gi_wp2_with (gi_at_call 58; refine (callsIn_wide.2 HT.out).mono ?_; rintro e Z (⟨rfl, ⟨zs, hzs, hjz⟩, -⟩ | ⟨rfl, ⟨zs, hzs, hjz⟩, -⟩))
  · go_end0
    exact ⟨⟨_, rfl⟩, .inl ⟨zs, hzs, hjz⟩⟩
  · go_end0
    exact ⟨⟨_, rfl⟩, .inr ⟨zs, hzs, hjz⟩⟩
end Go.Proofs.YtlpilbghblbpbaaDoor
/- WALK of expr's Right. -/
namespace Go.Proofs.YtlpilbghblbpbaaDoor
open Go.RowKit Go.Shelf
attribute [local go_sem] Oper.semAt_some
/-- What a caller keeps: what lies below B, whatever becomes of what lies beyond. -/
structure LowI {α : Type} (B : Nat) (Q : List α → World → Prop) (F : Nat → Prop) (pre : List α) (X : World) : Prop where
  far : ∀ r, F r → B ≤ r
  size : B ≤ X.heap.size
  held : Q pre X
def Low {α : Type} (B : Nat) (Q : List α → World → Prop) : Prop := ∀ pre X Y row, Q pre X → B ≤ X.heap.size → X.grownBy Y row → (∀ r, row = some r → B ≤ r) → Q pre Y
theorem fr_low {α : Type} {B : Nat} {Q : List α → World → Prop} (hQ : Low B Q) : Fr (LowI B Q) where
  grow := fun {F pre X Y} h hg => ⟨fun r hr => hr.elim (h.far r) (fun h3 => Nat.le_trans h.size h3.1), Nat.le_trans h.size hg.size, hQ _ X Y none h.held h.size hg (fun _ e => by cases e)⟩
  put := fun {F pre X Y r} h hr hg => ⟨h.far, Nat.le_trans h.size hg.size, hQ _ X Y (some r) h.held h.size hg (fun k e => by cases e; exact h.far _ hr)⟩
  less := fun hF h => ⟨fun r hr => h.far r (hF r hr), h.size, h.held⟩
theorem low_below {α : Type} {B : Nat} {w : World} (h : w.heap.size ≤ B) : Low B (fun (_ : List α) X => Below w.heap.size w X) := fun _ _ _ _ hq _ hg hr => hq.grown hg hq.size (fun k e => Nat.le_trans h (hr k e))
theorem low_box {α : Type} {B b : Nat} {t : TypeId} (f : List α → Value) (hb : b < B) : Low B (fun pre X => Boxed X b t (f pre)) := fun _ _ _ _ hq _ hg hr => hq.kept hg (fun e => by have := hr _ e.symm; omega)
theorem low_boxH {α : Type} {B b : Nat} (h : Hd) (hb : b < B) : Low B (fun (_ : List α) X => BoxH X b h) := fun _ _ _ _ hq _ hg hr => (hg.block b hq.lt (fun e => by have := hr _ e.symm; omega)).trans hq
theorem low_pure {α : Type} {B : Nat} (p : List α → Prop) : Low B (fun pre _ => p pre) := fun _ _ _ _ hq _ _ _ => hq
theorem Low.and {α : Type} {B : Nat} {Q R : List α → World → Prop} (h : Low B Q) (k : Low B R) : Low B (fun pre X => Q pre X ∧ R pre X) := fun pre X Y row hq hs hg hr => ⟨h pre X Y row hq.1 hs hg hr, k pre X Y row hq.2 hs hg hr⟩
/-- All so far are right of themselves. -/
def RightQ (w : World) (h : Hd) (pre : List HX) (X : World) : Prop := (∀ y ∈ pre, ownB y.2 = true) ∧ Below w.heap.size w X ∧ BoxH X (w.heap.size + 1 + 1) h ∧ Boxed X (w.heap.size + 1) 4 (.bool false)
def RightX (w : World) (c : Code) (pre : List HX) (X : World) : Prop := (c = .ret ∧ ∃ y ∈ pre, ownB y.2 = false) ∧ Below w.heap.size w X ∧ Boxed X (w.heap.size + 1) 4 (.bool false)
noncomputable def rightB (n : Nat) (x : Ex) : Bool := (allN n x).all ownB
set_option maxRecDepth 100000 in
set_option maxHeartbeats 4000000 in
theorem right_any (w : World) (n : Nat) (h : Hd) (x : Ex) (hx : InX w n h x) (hE : Nm.Env w) : Calls Tryd.prog 33 #[h.agg] w (BoolP (rightB n x) w) := by
  have hw1 : ∀ f, Fence.wide.fn f := fun _ => trivial
  have hw2 : Fence.wide.depth.isSome = false := rfl
  have HX := Lib.hid hx
  have HE := Lib.hid hE
  have hI := fun W => Lib.hid (inOrder_any h W)
  obtain ⟨op, nn, s, p, pl, pc, q, ql, qc, o, k, kl, kc⟩ := h
  have HF := Lib.hid (inOrder_fit w n (w.heap.size + 1 + 1) _ x hx)
  clear hx hE
  unfold Hd.agg Hd.vals at hI
  unfold Hd.agg
  dsimp only at hI
  refine (callsIn_wide (n := 9)).1 ?_
  refine callsIn_of_wp_marks Tryd.func33 rfl trivial ?_ rfl
  simp only [Tryd.ntmps33, List.size_toArray, List.length_cons, List.length_nil, Nat.reduceAdd, Nat.reduceSub, Array.replicate_succ, Array.replicate_zero, List.push_toArray, List.append_toArray, List.nil_append, List.cons_append]
  gi_wp2_with (gi_at_call 44; refine (callsIn_wide.2 (hI _).out).mono ?_; rintro e w' ⟨rfl, rfl⟩)
  have hE3 := heap3 w (.cells #[.int .i64 op, .int .i64 nn, .string s, .slice p pl pc, .slice q ql qc, .bool o, .slice k kl kc] 38) (.cells #[.bool false] 4) (.cells #[.int .i64 op, .int .i64 nn, .string s, .slice p pl pc, .slice q ql qc, .bool o, .slice k kl kc] 38)
  have hB0 := below_alloc (below_alloc (below_alloc (Below.refl w.heap.size w) (.cells #[.int .i64 op, .int .i64 nn, .string s, .slice p pl pc, .slice q ql qc, .bool o, .slice k kl kc] 38)) (.cells #[.bool false] 4)) (.cells #[.int .i64 op, .int .i64 nn, .string s, .slice p pl pc, .slice q ql qc, .bool o, .slice k kl kc] 38)
  have hsz : (((w.alloc (.cells #[.int .i64 op, .int .i64 nn, .string s, .slice p pl pc, .slice q ql qc, .bool o, .slice k kl kc] 38)).alloc (.cells #[.bool false] 4)).alloc (.cells #[.int .i64 op, .int .i64 nn, .string s, .slice p pl pc, .slice q ql qc, .bool o, .slice k kl kc] 38)).heap.size = w.heap.size + 3 := by simp
  obtain ⟨W0, hW0⟩ : ∃ W0, ((w.alloc (.cells #[.int .i64 op, .int .i64 nn, .string s, .slice p pl pc, .slice q ql qc, .bool o, .slice k kl kc] 38)).alloc (.cells #[.bool false] 4)).alloc (.cells #[.int .i64 op, .int .i64 nn, .string s, .slice p pl pc, .slice q ql qc, .bool o, .slice k kl kc] 38) = W0 := ⟨_, rfl⟩
  rw [hW0] at hE3 hB0 hsz ⊢
  clear hW0
  have hQ : Low (w.heap.size + 3) (RightQ w ⟨op, nn, s, p, pl, pc, q, ql, qc, o, k, kl, kc⟩) := (low_pure _).and ((low_below (by omega)).and ((low_boxH _ (by omega)).and (low_box (fun _ => .bool false) (by omega))))
  have hQx : ∀ c, Low (w.heap.size + 3) (RightX w c) := fun c => (low_pure _).and ((low_below (by omega)).and (low_box (fun _ => .bool false) (by omega)))
  refine range_fit (gf := 57) (lb := #[.pointer (some ⟨w.heap.size + 1 + 1, 0, none⟩)]) (by decide) rfl (enters_of Tryd.func57 (by kernel_rfl) rfl) HF.out (fun _ => rfl)
    (LowI (w.heap.size + 3) (RightQ w _)) (fun c => LowI (w.heap.size + 3) (RightX w c)) (fr_low hQ) (fun c => fr_low (hQx c)) (fun F pre X hi => ⟨hi.held.2.1, hi.held.2.2.1⟩)
    ⟨fun _ h => h.elim, by omega, ⟨(fun y h => absurd h (by simp)), hB0, hE3.2.2, hE3.2.1⟩⟩ ?round ?done ?stop
  case round =>
    rintro l2 F2 ys ⟨yh, yx⟩ X hl2 hrec hI2 ⟨⟨m, hfit⟩, -⟩
    obtain ⟨op2, nn2, s2, p2, pl2, pc2, q2, ql2, qc2, o2, k2, kl2, kc2⟩ := yh
    have HF2 := Lib.hid hfit
    have HI2 := Lib.hid hI2
    have hlX : l2 < X.heap.size := by obtain ⟨r, hr⟩ := hrec; exact (Array.getElem?_eq_some_iff.1 hr).1
    clear hfit hI2 hrec
    dsimp only [encX, Hd.agg]
    gi_wp2
    refine ⟨⟨by simp, fun i _ hi => Below.heap_alloc _ _ _ hi⟩, (fr_low hQ).alloc HI2.out _, ?_⟩
    intro Y hYz hYo hYl hIY
    have hbx : BoxH Y X.heap.size ⟨op2, nn2, s2, p2, pl2, pc2, q2, ql2, qc2, o2, k2, kl2, kc2⟩ := (hYo _ (by omega)).trans (World.alloc_heap_new X _)
    obtain ⟨d0, d1, d2, d3, d4, d5, d6⟩ := hbx.cells
    dsimp only at d0 d1 d2 d3 d4 d5 d6
    simp only [Nat.zero_add] at d1 d2 d3 d4 d5 d6
    obtain ⟨hall, hbl, hbH, hbC⟩ := hIY.held
    have hO := Lib.hid (own_any w Y m ⟨op2, nn2, s2, p2, pl2, pc2, q2, ql2, qc2, o2, k2, kl2, kc2⟩ yx HF2.out hbl (HE.out.below hbl))
    obtain ⟨r, hr⟩ : ∃ r, ownB yx = r := ⟨_, rfl⟩
    rw [hr] at hO
    have HR := Lib.hid hr
    have HA := Lib.hid hall
    have HIY := Lib.hid hIY
    have HBL := Lib.hid hbl
    have HBH := Lib.hid hbH
    have HBC := Lib.hid hbC
    clear hbx hall hbl hbH hbC hIY hr hYo hYz hYl
    unfold Hd.agg at hO
    dsimp only at hO
    cases r
    · gi_wp2_with (gi_at_call 45; refine (CallsIn.inRound l2 (callsIn_wide.2 hO.out)).mono ?_; rintro e Z ⟨rfl, hbz⟩; have HBZ := Lib.hid hbz; have HCZ := Lib.hid (HBC.out.kept (grown_below hbz) (by simp)); have cz := HCZ.out.cell; have fz := HCZ.out.frozen; clear hbz)
      refine ⟨?_, ?_⟩
      · exact (Stays.refl _ _).grown (grown_below HBZ.out) (fun _ e => by cases e) |>.grown (grownBy_setCell' _ _ _) (fun r e hr => by cases e; have := HIY.out.far _ hr; omega)
      · refine ⟨HIY.out.far, Nat.le_trans HIY.out.size (Nat.le_trans HBZ.out.size (grownBy_setCell' Z _ _).size), ⟨rfl, _, List.mem_append.2 (.inr (List.mem_singleton.2 rfl)), HR.out⟩, ?_, HCZ.out.set _⟩
        exact (below_step HBL.out HBZ.out).setCell (p := ⟨w.heap.size + 1, 0, none⟩) (by simp) _
    · gi_wp2_with (gi_at_call 45; refine (CallsIn.inRound l2 (callsIn_wide.2 hO.out)).mono ?_; rintro e Z ⟨rfl, hbz⟩; have HBZ := Lib.hid hbz; clear hbz)
      refine ⟨(Stays.refl _ _).grown (grown_below HBZ.out) (fun _ e => by cases e), HIY.out.far, Nat.le_trans HIY.out.size HBZ.out.size, ?_, below_step HBL.out HBZ.out, (HBZ.out.block _ HBH.out.lt).trans HBH.out, HBC.out.kept (grown_below HBZ.out) (by simp)⟩
      intro y hy
      rcases List.mem_append.1 hy with h1 | h1
      · exact HA.out y h1
      · rw [List.mem_singleton.1 h1]; exact HR.out
  case done =>
    rintro D F2 ys X hD hys hI2 hKD
    have hXC := hI2.held.2.2.2
    have cc := hXC.cell
    have cf := hXC.frozen
    have HI2 := Lib.hid hI2
    have HKD := Lib.hid hKD
    have HYS := Lib.hid hys
    clear hI2 hKD hys
    gi_wp2
    have hne : D ≠ w.heap.size + 1 := fun e => by have := HI2.out.far _ hD; omega
    have hK5 := (Below.heap_setCell X ⟨w.heap.size + 1, 0, none⟩ (.bool true) D hne).trans HKD.out
    refine ⟨by simp, .inl ⟨_, _, rfl, run_takeDeferred hK5, ?_⟩⟩
    have hb5 := (hXC.set (.bool true)).kept (grownBy_putObj' _ D (.deferred none)) (by simpa using fun e => hne e.symm)
    have cc5 := hb5.cell
    refine ⟨.bool true, by simp [results, Tryd.f33, go_sem, cc5], ?_, ?_⟩
    · refine ret_bool ?_
      unfold rightB
      rw [← HYS.out]
      exact (List.all_eq_true.2 fun y hy => by obtain ⟨z, hz, rfl⟩ := List.mem_map.1 hy; exact HI2.out.held.1 z hz).symm
    · exact (HI2.out.held.2.1.setCell (p := ⟨w.heap.size + 1, 0, none⟩) (by simp) _).grown (grownBy_putObj' _ _ _) (Nat.le_trans (by omega) (Nat.le_trans HI2.out.size (grownBy_setCell' X _ _).size)) (fun r e => by cases e; have := HI2.out.far _ hD; omega)
  case stop =>
    rintro D F2 c ys X hD hys hI2 hKD
    obtain ⟨⟨rfl, y, hy, hyB⟩, hbl, hXC⟩ := hI2.held
    have cc := hXC.cell
    have HI2 := Lib.hid hI2
    have HKD := Lib.hid hKD
    have HYS := Lib.hid hys
    have HYB := Lib.hid hyB
    clear hI2 hKD hys hyB
    gi_wp2
    refine ⟨by simp, .inl ⟨_, _, rfl, run_takeDeferred HKD.out, ?_⟩⟩
    have hne : D ≠ w.heap.size + 1 := fun e => by have := HI2.out.far _ hD; omega
    have hb5 := hXC.kept (grownBy_putObj' _ D (.deferred none)) (by simpa using fun e => hne e.symm)
    have cc5 := hb5.cell
    refine ⟨.bool false, by simp [results, Tryd.f33, go_sem, cc5], ?_, ?_⟩
    · refine ret_bool ?_
      unfold rightB
      refine (List.all_eq_false.2 ⟨y.2, ?_, by rw [HYB.out]; decide⟩).symm
      exact HYS.out.subset (List.mem_map.2 ⟨y, hy, rfl⟩)
    · exact hbl.grown (grownBy_putObj' _ _ _) (Nat.le_trans (by omega) HI2.out.size) (fun r e => by cases e; have := HI2.out.far _ hD; omega)
end Go.Proofs.YtlpilbghblbpbaaDoor
/- A DRAWN REGION IN A ROUND of a range over a function; its operations one by one. -/
namespace Go.Proofs.YtlpilbghblbpbaaDoor
open Go.RowKit
theorem oper_in {l n : Nat} {P : Program} {o : Oper} {a : Act} {w : World} {K : Act → World → Prop} {Q : Exit → Act → World → Prop} (hd : ∀ c, o.op ≠ .defer c) (h : o.wp P a w K Q) : o.wpIn (Fence.wide.inRound l) n P a w K Q := by
  refine ⟨fun _ _ => trivial, ?_⟩
  rw [show (Fence.wide.inRound l).round = some l from rfl, Oper.semAt_some l _ _ hd]
  unfold Oper.wp at h
  generalize (execOp a.eval o).run P w = r at *
  cases r with
  | ok x w' =>
    cases x with
    | value v => exact h
    | skip => exact h
    | defer d => exact h
    | enter f args => exact ⟨(fun h1 => by cases h1), (callsIn_wide (n := n - 1)).2 h⟩
    | row row args => exact ⟨(fun h1 => by cases h1), fun c cs _ => by
        obtain ⟨v, w2, hR, hS⟩ := h c cs
        exact ⟨v, w2, hR, stepsIn_wide.2 hS⟩⟩
    | _ => exact h.elim
  | halt x w' => cases x <;> exact h
theorem any_in {l n : Nat} {P : Program} {md : Region.Mode} {ops : Array Oper} {Q : Exit → Act → World → Prop} (hd : ∀ (j : Nat) (o : Oper) c, ops[j]? = some o → o.op ≠ .defer c) (hQ : ¬ LetsOut Q) :
    ∀ (fuel : Nat) (listed : Array Bool) (a : Act) (w : World), wpAny P md ops Q fuel listed a w → wpAnyIn (Fence.wide.inRound l) n P md ops Q fuel listed a w
  | 0, _, _, _, h => h
  | fuel + 1, _, _, _, h => ⟨h.1, fun i hi => by
    have h2 := h.2 i hi
    unfold wpOp at h2
    unfold wpOpIn
    cases ho : ops[i]? with
    | none => rw [ho] at h2; exact any_in hd hQ fuel _ _ _ h2
    | some o =>
      rw [ho] at h2
      simp only at h2 ⊢
      split
      · rename_i hw
        rw [if_pos hw] at h2
        rcases h2 with h2 | ⟨_, h3⟩
        · exact oper_in (hd i o · ho) (Oper.wp_mono (fun a w => any_in hd hQ fuel _ a w) h2)
        · exact absurd h3 hQ
      · rename_i hw
        rw [if_neg hw] at h2
        exact ⟨fun _ _ => trivial, any_in hd hQ fuel _ _ _ h2⟩⟩
theorem region_in {l n : Nat} {P : Program} {id : Nat} {ops : Array Oper} {Q : Exit → Act → World → Prop} {S : World → Prop} {a : Act} {w : World} (hm : P.follows .mixedOrders = true) (hd : ∀ (j : Nat) (o : Oper) c, ops[j]? = some o → o.op ≠ .defer c) (hQ : ¬ LetsOut Q)
    (h : wpAnyH P .any ops Q S ops.size (Array.replicate ops.size false) a { w with drawn := w.drawn + 1 }) : (Code.region id ops true).wpIn (Fence.wide.inRound l) n P Q a w :=
  wpIn_region_any hm (any_in hd hQ _ _ _ _ (wpAny_of_held _ _ _ _ h))
def noDefer (ops : Array Oper) : Bool := ops.all fun o => match o.op with | .defer _ => false | _ => true
theorem noDefer_spec {ops : Array Oper} (h : noDefer ops = true) (j : Nat) (o : Oper) (c : Call) (ho : ops[j]? = some o) : o.op ≠ .defer c := by
  intro heq
  have := Array.all_eq_true_iff_forall_mem.1 h o (Array.mem_of_getElem? ho)
  simp [heq] at this

section
variable {P : Program} {md : Region.Mode} {ops : Array Oper} {Q : Exit → Act → World → Prop} {S : World → Prop}
theorem take_at' {i : Nat} {oi : Oper} (d : Nat) {v : Value} {fuel : Nat} {listed : Array Bool} {a : Act} {w : World} (hi : ops[i]? = some oi) (hd : oi.dst = some d)
    (hs : Region.noSelect ops = true) (hf : Region.free md ops listed i = true) (hr : (Region.ready md ops listed).contains i = true)
    (hQ : ∀ c a w, Q (.panic c) (a.put oi.dst v) w → Q (.panic c) a w) (hy : YieldsIf P ops S oi v a) (hS : S w)
    (h : wpAnyH P md ops Q S fuel (listed.setIfInBounds i true) { a with tmps := a.tmps.setIfInBounds d v } w) : wpAnyH P md ops Q S (fuel + 1) listed a w :=
  wpAnyH_take hi hs hf hr hQ hy hS (by rw [hd]; exact h)
theorem value_at {i : Nat} {o : Oper} (d : Nat) {a : Act} {w w' : World} {v : Value} {K : Act → World → Prop} (ho : ops[i]? = some o) (hd : o.dst = some d) (hw : Region.wanted o (yielded ops a.tmps) = true) (hr : (execOp a.eval o).run P w = .ok (.value v) w') (h : K { a with tmps := a.tmps.setIfInBounds d v } w') : wpOp P ops Q i K a w := by
  unfold wpOp
  simp only [ho, hw, if_true, Oper.wp, hr, Oper.upon]
  exact .inl (by rw [hd]; exact h)
theorem skip_at {i : Nat} {o : Oper} {a : Act} {w w' : World} {K : Act → World → Prop} (ho : ops[i]? = some o) (hd : o.dst = none) (hw : Region.wanted o (yielded ops a.tmps) = true) (hr : (execOp a.eval o).run P w = .ok .skip w') (h : K a w') : wpOp P ops Q i K a w := by
  unfold wpOp
  simp only [ho, hw, if_true, Oper.wp, hr, Oper.upon]
  exact .inl (by rw [hd]; exact h)
theorem call_at {i : Nat} {o : Oper} (d : Nat) {a : Act} {w w' : World} {f : FuncId} {args : Array Value} {K : Act → World → Prop} (ho : ops[i]? = some o) (hd : o.dst = some d) (hw : Region.wanted o (yielded ops a.tmps) = true) (hr : (execOp a.eval o).run P w = .ok (.enter f args) w')
    (h : Calls P f args w' fun e w2 => ∃ u, e = .returned u ∧ K { a with tmps := a.tmps.setIfInBounds d u } w2) : wpOp P ops Q i K a w := by
  unfold wpOp
  simp only [ho, hw, if_true, Oper.wp, hr, Oper.upon]
  exact .inl (h.mono fun e w2 ⟨u, he, hk⟩ => by subst he; rw [hd]; exact hk)
theorem append_run {o : Oper} {a : Act} {s x : Operand} {t : TypeId} {w w' : World} {v u r : Value} (hop : o.op = Op.call { callee := Callee.builtin Builtin.append, args := #[s, x], argTypes := #[t, t] }) (hs : a.eval s = v) (hx : a.eval x = u)
    (hrun : (Builtin.append_ #[t, t] o.type #[v, u]).run P w = .ok r w') : (execOp a.eval o).run P w = .ok (.value r) w' := by
  simp [execOp, hop, resolve, invoke, builtin, hs, hx, hrun, Result.andThen]
end
end Go.Proofs.YtlpilbghblbpbaaDoor
/- WALKS of expr's Size and Depth. -/
namespace Go.Proofs.YtlpilbghblbpbaaDoor
open Go.RowKit Go.Shelf
attribute [local go_sem] Oper.semAt_some
def szW : Nat → Int
  | 0 => 0
  | k + 1 => wrap64 (szW k + 1)
theorem szW_is : ∀ (k : Nat), k ≤ 1000000000 → szW k = k
  | 0, _ => rfl
  | k + 1, h => by
    show wrap64 (szW k + 1) = _
    rw [szW_is k (by omega)]; unfold wrap64; omega
/-- A number, and nothing that was there has changed. -/
def IntP (n : Int) (w : World) (e : Ending) (w' : World) : Prop := e = .returned (.int .i64 n) ∧ Below w.heap.size w w'
def SizeQ (w : World) (h : Hd) (pre : List HX) (X : World) : Prop := Below w.heap.size w X ∧ BoxH X (w.heap.size + 1 + 1) h ∧ Boxed X (w.heap.size + 1) 3 (.int .i64 (szW pre.length))
end Go.Proofs.YtlpilbghblbpbaaDoor
/- WALK of expr's Depth. -/
namespace Go.Proofs.YtlpilbghblbpbaaDoor
open Go.RowKit Go.Shelf
attribute [local go_sem] Oper.semAt_some
theorem low_heap {α : Type} {B b : Nat} (ob : Obj) (hb : b < B) : Low B (fun (_ : List α) X => X.heap[b]? = some ob) := fun _ _ _ _ hq _ hg hr => (hg.block _ (Array.getElem?_eq_some_iff.1 hq).1 (fun e => by have := hr _ e.symm; omega)).trans hq
def mxL (l : List Int) : Int := l.foldl (fun a b => max a b) 0
theorem mxL_snoc (l : List Int) (x : Int) : mxL (l ++ [x]) = max (mxL l) x := by simp [mxL]
def depW : Nat → Ex → Int
  | 0, _ => 0
  | n + 1, x => wrap64 (1 + mxL (x.parts.map (depW n)))
def DepQ (w : World) (n be : Nat) (ob : Obj) (pre : List HX) (X : World) : Prop := Below w.heap.size w X ∧ X.heap[be]? = some ob ∧ Boxed X (w.heap.size + 1) 3 (.int .i64 (mxL ((pre.map (·.2)).map (depW n))))
set_option maxRecDepth 100000 in
set_option maxHeartbeats 4000000 in
theorem depth_step (w0 : World) (n : Nat) (ih : ∀ (h : Hd) (x : Ex) (W : World), InX w0 n h x → Below w0.heap.size w0 W → Calls Tryd.prog 34 #[h.agg] W (IntP (depW n x) W))
    (h : Hd) (x : Ex) (w : World) (hx : InX w0 (n + 1) h x) (hb0 : Below w0.heap.size w0 w) : Calls Tryd.prog 34 #[h.agg] w (IntP (depW (n + 1) x) w) := by
  have hw1 : ∀ f, Fence.wide.fn f := fun _ => trivial
  have hw2 : Fence.wide.depth.isSome = false := rfl
  have hP := fun X => Lib.hid (parts_any w0 n h x X hx)
  obtain ⟨op, nn, s, p, pl, pc, q, ql, qc, o, k, kl, kc⟩ := h
  have HIH := Lib.hid ih
  have HB0 := Lib.hid hb0
  clear hx ih hb0
  unfold Hd.agg at hP
  unfold Hd.agg
  dsimp only at hP
  refine (callsIn_wide (n := 9)).1 ?_
  refine callsIn_of_wp_marks Tryd.func34 rfl trivial ?_ rfl
  simp only [Tryd.ntmps34, List.size_toArray, List.length_cons, List.length_nil, Nat.reduceAdd, Nat.reduceSub, Array.replicate_succ, Array.replicate_zero, List.push_toArray, List.append_toArray, List.nil_append, List.cons_append]
  have hbx := (Boxed.new (w.alloc (.cells #[.int .i64 op, .int .i64 nn, .string s, .slice p pl pc, .slice q ql qc, .bool o, .slice k kl kc] 38)) 3 (.int .i64 0))
  rw [World.size_alloc] at hbx
  have hB1 := below_alloc (below_alloc (Below.refl w.heap.size w) (.cells #[.int .i64 op, .int .i64 nn, .string s, .slice p pl pc, .slice q ql qc, .bool o, .slice k kl kc] 38)) (.cells #[.int .i64 0] 3)
  have HBX := Lib.hid hbx
  have HB1 := Lib.hid hB1
  clear hbx hB1
  gi_wp2_with (gi_at_call 46; refine (callsIn_wide.2 (hP _).out).mono ?_; rintro e W2 ⟨gf, be, ob, rfl, hbe, hob, hb2, heg, hseq⟩)
  have hB2 := below_step HB1.out hb2
  have hC2 : Boxed W2 (w.heap.size + 1) 3 (.int .i64 0) := (hb2.block _ HBX.out.lt).trans HBX.out
  have hbl : be < W2.heap.size := (Array.getElem?_eq_some_iff.1 hob).1
  have hz1 := HBX.out.lt
  have hz2 := hb2.size
  clear HBX HB1 hb2 hP
  have hQ : Low W2.heap.size (DepQ w n be ob) := (low_below hB2.size).and ((low_heap ob hbl).and (low_box (fun (pre : List HX) => .int .i64 (mxL ((pre.map (·.2)).map (depW n)))) (by omega)))
  refine range_fit (gf := gf) (lb := #[.pointer (some ⟨be, 0, none⟩)]) (by decide) rfl heg hseq (fun _ => rfl)
    (LowI W2.heap.size (DepQ w n be ob)) (fun _ _ _ _ => False) (fr_low hQ) (fun c => ⟨fun h _ => h, fun h _ _ => h, fun _ h => h⟩) (fun F pre X hi => ⟨below_step HB0.out hi.held.1, hi.held.2.1⟩)
    ⟨fun _ h => h.elim, Nat.le_refl _, ⟨hB2, hob, hC2⟩⟩ ?round ?done ?stop
  case round =>
    rintro l2 F2 ys ⟨yh, yx⟩ X hl2 hrec hI2 hfit
    obtain ⟨op2, nn2, s2, p2, pl2, pc2, q2, ql2, qc2, o2, k2, kl2, kc2⟩ := yh
    have HF2 := Lib.hid hfit.1
    have HI2 := Lib.hid hI2
    have hlX : l2 < X.heap.size := by obtain ⟨r, hr⟩ := hrec; exact (Array.getElem?_eq_some_iff.1 hr).1
    clear hfit hI2 hrec
    dsimp only [encX, Hd.agg]
    gi_wp2
    refine ⟨⟨by simp, fun i _ hi => Below.heap_alloc _ _ _ hi⟩, (fr_low hQ).alloc HI2.out _, ?_⟩
    intro Y hYz hYo hYl hIY
    have hbx : BoxH Y X.heap.size ⟨op2, nn2, s2, p2, pl2, pc2, q2, ql2, qc2, o2, k2, kl2, kc2⟩ := (hYo _ (by omega)).trans (World.alloc_heap_new X _)
    have hne : w.heap.size + 1 ≠ X.heap.size := by have := HI2.out.size; omega
    obtain ⟨hbl2, hbo, hbC⟩ := hIY.held
    have hO := fun W hW => Lib.hid (HIH.out ⟨op2, nn2, s2, p2, pl2, pc2, q2, ql2, qc2, o2, k2, kl2, kc2⟩ yx W HF2.out (below_step HB0.out hW))
    unfold Hd.agg at hO
    dsimp only at hO
    obtain ⟨v, hv⟩ : ∃ v, mxL ((ys.map (·.2)).map (depW n)) = v := ⟨_, rfl⟩
    rw [hv] at hbC
    have HIY := Lib.hid hIY
    have HV := Lib.hid hv
    have HBC := Lib.hid hbC
    have HBX := Lib.hid hbx
    have HBL := Lib.hid hbl2
    clear hIY hv hbC hbx hbl2 hbo hYz hYo hYl HI2
    obtain ⟨wd, hwd⟩ : ∃ wd : World, wd = { Y with drawn := Y.drawn + 1 } := ⟨_, rfl⟩
    have hbd : Below Y.heap.size Y wd := by rw [hwd]; exact (Below.refl _ Y).drew
    have hxd : BoxH wd X.heap.size ⟨op2, nn2, s2, p2, pl2, pc2, q2, ql2, qc2, o2, k2, kl2, kc2⟩ := (hbd.block _ HBX.out.lt).trans HBX.out
    have hcd : Boxed wd (w.heap.size + 1) 3 (.int .i64 v) := (hbd.block _ HBC.out.lt).trans HBC.out
    have fin : ∀ (a : Act) (Z : World), Below wd.heap.size wd Z → fitPost F2 (LowI W2.heap.size (DepQ w n be ob)) (fun _ _ _ _ => False) (ys ++ [(⟨op2, nn2, s2, p2, pl2, pc2, q2, ql2, qc2, o2, k2, kl2, kc2⟩, yx)]) Y .normal a (Z.setCell ⟨w.heap.size + 1, 0, none⟩ (.int .i64 (max v (depW n yx))))     := fun _ Z hZ => by
      have hYZ := below_step hbd hZ
      refine ⟨((Stays.refl _ _).grown (grown_below hYZ) (fun _ e => by cases e)).grown (grownBy_setCell' _ _ _) (fun r e hr => by cases e; have := HIY.out.far _ hr; omega), HIY.out.far, Nat.le_trans HIY.out.size (Nat.le_trans hYZ.size (grownBy_setCell' Z _ _).size), ?_, ?_, ?_⟩
      · exact (below_step HBL.out hYZ).setCell (p := ⟨w.heap.size + 1, 0, none⟩) (by simp) _
      · exact (Below.heap_setCell Z ⟨w.heap.size + 1, 0, none⟩ _ _ (by simp; omega)).trans ((hYZ.block _ (Array.getElem?_eq_some_iff.1 HIY.out.held.2.1).1).trans HIY.out.held.2.1)
      · rw [List.map_append, List.map_append]
        show Boxed _ _ _ (.int .i64 (mxL (_ ++ [depW n yx])))
        rw [mxL_snoc, HV.out]
        exact Boxed.set _ (show Boxed Z _ _ _ from (hYZ.block _ HBC.out.lt).trans HBC.out)
    refine wpIn_block ?_
    refine region_in (S := fun w' => BoxH w' X.heap.size ⟨op2, nn2, s2, p2, pl2, pc2, q2, ql2, qc2, o2, k2, kl2, kc2⟩) (by kernel_rfl) (noDefer_spec (by kernel_rfl)) (fun ⟨_, _, h⟩ => h) ?_
    rw [← hwd]
    clear hwd
    have cd := hcd.cell
    refine take_at' (i := 1) 9 (v := .agg #[.int .i64 op2, .int .i64 nn2, .string s2, .slice p2 pl2 pc2, .slice q2 ql2 qc2, .bool o2, .slice k2 kl2 kc2]) rfl rfl (by kernel_rfl) (by kernel_rfl) (by kernel_rfl) (fun _ _ _ h => h) (Or.inl ⟨by rfl, fun w' hS => (by
      obtain ⟨d0, d1, d2, d3, d4, d5, d6⟩ := hS.cells
      dsimp only at d0 d1 d2 d3 d4 d5 d6
      simp only [Nat.zero_add] at d1 d2 d3 d4 d5 d6
      go_simp)⟩) hxd ?_
    refine wpAnyH_all (rs := [0, 2]) (by kernel_rfl) (by simp) ?_
    intro i hi
    have hi2 : i = 0 ∨ i = 2 := by simpa using hi
    rcases hi2 with rfl | rfl
    · refine value_at 8 (v := .int .i64 v) (w' := wd) rfl rfl rfl (by go_simp) ⟨hxd, ?_⟩
      refine wpAnyH_all (rs := [2]) (by kernel_rfl) (by simp) ?_
      intro i hi
      obtain rfl : i = 2 := by simpa using hi
      refine call_at 10 (f := 34) (args := #[.agg #[.int .i64 op2, .int .i64 nn2, .string s2, .slice p2 pl2 pc2, .slice q2 ql2 qc2, .bool o2, .slice k2 kl2 kc2]]) (w' := wd) rfl rfl rfl (by go_simp) ((hO wd (below_step HBL.out hbd)).out.mono ?_)
      rintro e Z ⟨rfl, hZ⟩
      have hxz : BoxH Z X.heap.size ⟨op2, nn2, s2, p2, pl2, pc2, q2, ql2, qc2, o2, k2, kl2, kc2⟩ := (hZ.block _ hxd.lt).trans hxd
      have hcz : Boxed Z (w.heap.size + 1) 3 (.int .i64 v) := (hZ.block _ hcd.lt).trans hcd
      have cz := hcz.cell
      have fz := hcz.frozen
      refine ⟨_, rfl, hxz, ?_⟩
      refine wpAnyH_all (rs := [3]) (by kernel_rfl) (by simp) ?_
      intro i hi
      obtain rfl : i = 3 := by simpa using hi
      refine value_at 11 (v := .int .i64 (max v (depW n yx))) (w' := Z) rfl rfl rfl (by go_simp) ⟨hxz, ?_⟩
      refine wpAnyH_all (rs := [4]) (by kernel_rfl) (by simp) ?_
      intro i hi
      obtain rfl : i = 4 := by simpa using hi
      refine skip_at (w' := Z.setCell ⟨w.heap.size + 1, 0, none⟩ (.int .i64 (max v (depW n yx)))) rfl rfl rfl (by go_simp) ⟨(Below.heap_setCell Z ⟨w.heap.size + 1, 0, none⟩ _ _ (by simpa using hne.symm)).trans hxz, ?_⟩
      refine wpAnyH_done (by kernel_rfl) ?_ _
      exact fin { tmps := #[], defers := [] } Z hZ
    · refine call_at 10 (f := 34) (args := #[.agg #[.int .i64 op2, .int .i64 nn2, .string s2, .slice p2 pl2 pc2, .slice q2 ql2 qc2, .bool o2, .slice k2 kl2 kc2]]) (w' := wd) rfl rfl rfl (by go_simp) ((hO wd (below_step HBL.out hbd)).out.mono ?_)
      rintro e Z ⟨rfl, hZ⟩
      have hxz : BoxH Z X.heap.size ⟨op2, nn2, s2, p2, pl2, pc2, q2, ql2, qc2, o2, k2, kl2, kc2⟩ := (hZ.block _ hxd.lt).trans hxd
      have hcz : Boxed Z (w.heap.size + 1) 3 (.int .i64 v) := (hZ.block _ hcd.lt).trans hcd
      have cz := hcz.cell
      have fz := hcz.frozen
      refine ⟨_, rfl, hxz, ?_⟩
      refine wpAnyH_all (rs := [0]) (by kernel_rfl) (by simp) ?_
      intro i hi
      obtain rfl : i = 0 := by simpa using hi
      refine value_at 8 (v := .int .i64 v) (w' := Z) rfl rfl rfl (by go_simp) ⟨hxz, ?_⟩
      refine wpAnyH_all (rs := [3]) (by kernel_rfl) (by simp) ?_
      intro i hi
      obtain rfl : i = 3 := by simpa using hi
      refine value_at 11 (v := .int .i64 (max v (depW n yx))) (w' := Z) rfl rfl rfl (by go_simp) ⟨hxz, ?_⟩
      refine wpAnyH_all (rs := [4]) (by kernel_rfl) (by simp) ?_
      intro i hi
      obtain rfl : i = 4 := by simpa using hi
      refine skip_at (w' := Z.setCell ⟨w.heap.size + 1, 0, none⟩ (.int .i64 (max v (depW n yx)))) rfl rfl rfl (by go_simp) ⟨(Below.heap_setCell Z ⟨w.heap.size + 1, 0, none⟩ _ _ (by simpa using hne.symm)).trans hxz, ?_⟩
      refine wpAnyH_done (by kernel_rfl) ?_ _
      exact fin { tmps := #[], defers := [] } Z hZ
  case done =>
    rintro D F2 ys X hD hys hI2 hKD
    have hXC := hI2.held.2.2
    have cc := hXC.cell
    have HI2 := Lib.hid hI2
    have HKD := Lib.hid hKD
    have HYS := Lib.hid hys
    obtain ⟨v, hv⟩ : ∃ v, mxL ((ys.map (·.2)).map (depW n)) = v := ⟨_, rfl⟩
    rw [hv] at cc
    have HV := Lib.hid hv
    clear hI2 hKD hys hv hXC
    gi_wp2
    refine ⟨by simp, .inl ⟨_, _, rfl, run_takeDeferred HKD.out, ?_⟩⟩
    refine ⟨_, results_tmp rfl _ _ _, ?_, ?_⟩
    · exact ret_int (by rw [← HV.out, HYS.out]; rfl)
    · exact HI2.out.held.1.grown (grownBy_putObj' _ _ _) (Nat.le_trans hB2.size HI2.out.size) (fun r e => by cases e; have := HI2.out.far _ hD; have := hB2.size; omega)
  case stop =>
    rintro D F2 c ys X hD hys hI2 hKD
    exact hI2.elim
theorem depth_any (w0 : World) : ∀ (n : Nat) (h : Hd) (x : Ex) (w : World), InX w0 n h x → Below w0.heap.size w0 w → Calls Tryd.prog 34 #[h.agg] w (IntP (depW n x) w)
  | 0, _, _, _, h, _ => h.elim
  | n + 1, h, x, w, hx, hb => depth_step w0 n (depth_any w0 n) h x w hx hb
set_option maxHeartbeats 1000000 in
/-- expr.Check. -/
theorem check_any (w : World) (n : Nat) (h : Hd) (x : Ex) (hx : InX w n h x) (hE : Nm.Env w) : Calls Tryd.prog 21 #[h.agg] w (IntP (if rightB n x then (if 16 < depW n x then 22 else 0) else 1) w) := by
  have HR := fun W (hW : Below w.heap.size w W) => Lib.hid (right_any W n h x (hx.below hW) (hE.below hW))
  have HD := fun W (hW : Below w.heap.size w W) => Lib.hid (depth_any w n h x W hx hW)
  obtain ⟨op, nn, s, p, pl, pc, q, ql, qc, o, k, kl, kc⟩ := h
  clear hx hE
  obtain ⟨r, hr⟩ : ∃ r, rightB n x = r := ⟨_, rfl⟩
  obtain ⟨d, hd⟩ : ∃ d, depW n x = d := ⟨_, rfl⟩
  rw [hr, hd]
  rw [hr] at HR
  rw [hd] at HD
  clear hr hd
  unfold Hd.agg at HR HD
  unfold Hd.agg
  dsimp only at HR HD
  have HB1 : Hid (Below w.heap.size w (w.alloc (.cells #[.int .i64 op, .int .i64 nn, .string s, .slice p pl pc, .slice q ql qc, .bool o, .slice k kl kc] 38))) := (Below.refl _ w).alloc (Nat.le_refl _) _
  cases r
  · go_enter Tryd.func21, Tryd.ntmps21
    go_wp2_with (go_at_call 33; refine (HR _ HB1.out).out.mono ?_; rintro e w2 ⟨rfl, hB2⟩; have HB2 := Lib.hid hB2; clear hB2)
    go_ret
    exact ⟨rfl, below_step HB1.out HB2.out⟩
  · by_cases h16 : 16 < d
    · go_enter Tryd.func21, Tryd.ntmps21
      go_wp2_with (first
        | (go_at_call 33; refine (HR _ HB1.out).out.mono ?_; rintro e w2 ⟨rfl, hB2⟩; obtain ⟨hc, hf⟩ := bcell hB2; have HB2 := Lib.hid hB2; clear hB2)
        | (go_at_call 34; refine (HD _ (below_step HB1.out HB2.out)).out.mono ?_; rintro e w3 ⟨rfl, hB3⟩; have HB3 := Lib.hid hB3; clear hB3))
      go_ret
      exact ⟨ret_int (by simp), below_step (below_step HB1.out HB2.out) HB3.out⟩
    · go_enter Tryd.func21, Tryd.ntmps21
      go_wp2_with (first
        | (go_at_call 33; refine (HR _ HB1.out).out.mono ?_; rintro e w2 ⟨rfl, hB2⟩; obtain ⟨hc, hf⟩ := bcell hB2; have HB2 := Lib.hid hB2; clear hB2)
        | (go_at_call 34; refine (HD _ (below_step HB1.out HB2.out)).out.mono ?_; rintro e w3 ⟨rfl, hB3⟩; have HB3 := Lib.hid hB3; clear hB3))
      go_ret
      exact ⟨ret_int (by simp), below_step (below_step HB1.out HB2.out) HB3.out⟩
end Go.Proofs.YtlpilbghblbpbaaDoor
/- A WRITER IN ITS BLOCK: copyCheck, WriteString and String of the builder in it. -/
namespace Go.Proofs.YtlpilbghblbpbaaDoor.Sw
open Go.RowKit
theorem infoB : ∃ j, Tryd.prog.info? 55 = some j ∧ j.size = 2 := Option.map_eq_some_iff.1 (show (Tryd.prog.info? 55).map (·.size) = some 2 by kernel_rfl)
set_option maxHeartbeats 1000000 in
set_option maxRecDepth 100000 in
theorem copy_used (b : Nat) (w : World) (h0 : w.cell? ⟨b, 0, none⟩ = some (.pointer (some ⟨b, 0, none⟩))) :
    Calls Tryd.prog 38 #[.pointer (some ⟨b, 0, none⟩)] w fun e w' => e = .returned (.tuple #[]) ∧ w' = w := by
  obtain ⟨j, hj, _⟩ := infoB
  go_enter Tryd.func38, Tryd.ntmps38
  go_wp2
  rw [Lib.run_neq_ptr_same w _ Tryd.underlying53 hj]
  go_wp2
  go_end0
  exact ⟨rfl, rfl⟩
set_option maxHeartbeats 1000000 in
set_option maxRecDepth 100000 in
theorem copy_fresh (b : Nat) (w : World) (h0 : w.cell? ⟨b, 0, none⟩ = some (.pointer none)) (hsh : w.shape? b = some (57, 2)) (hfz : w.frozen? ⟨b, 0, none⟩ = false) :
    Calls Tryd.prog 38 #[.pointer (some ⟨b, 0, none⟩)] w fun e w' => e = .returned (.tuple #[]) ∧ w' = w.setCell ⟨b, 0, none⟩ (.pointer (some ⟨b, 0, none⟩)) := by
  obtain ⟨j, hj, hjs⟩ := infoB
  have hl : liesAt Tryd.prog Tryd.prog.depth 57 (2 / Tryd.prog.cellsOf 57) 0 55 1 = true := by kernel_rfl
  have h50 : Tryd.prog.funcs[50]? = some Tryd.f50 := Tryd.func50
  go_enter Tryd.func38, Tryd.ntmps38
  go_wp2
  rw [Lib.run_to_unsafe w ⟨b, 0, none⟩ Tryd.underlying53 Tryd.underlying85 hj (by rw [hjs]; decide) hsh (Nat.zero_lt_succ 1)]
  simp only [Result.andThen]
  rw [Oper.upon_value]
  go_wp2
  rw [run_callFunc_extern Tryd.func50 (by kernel_rfl) (by kernel_rfl) (by kernel_rfl) (e := Extern.AbiNoEscape.same) (by kernel_rfl)]
  rw [Lib.run_noEscape]
  simp only [Result.andThen]
  rw [Oper.upon_value]
  go_wp2
  rw [Lib.run_from_unsafe w ⟨b, 0, none⟩ Tryd.underlying85 Tryd.underlying53 hj hsh hl]
  simp only [Result.andThen]
  rw [Oper.upon_value]
  go_wp2
  go_end0
  exact ⟨rfl, rfl⟩
end Go.Proofs.YtlpilbghblbpbaaDoor.Sw
