/- WALK of expr's tell: one function is handed all expressions, in order, till it wants no more. -/
import Derived.Test.YtngikbimlhoigaaDoorRe
import Derived.Laws.Rows
namespace Go.Proofs.YtngikbimlhoigaaDoor
open Go.RowKit Go.Shelf
attribute [local go_sem] Oper.semAt_some
/-- All of L was handed over; or a part, and no more was wanted. -/
def TellPost (J Jx : (Nat → Prop) → List HX → World → Prop) (F : Nat → Prop) (pre : List HX) (L : List Ex) (W : World) (e : Ending) (W' : World) : Prop :=
  (e = .returned (.bool true) ∧ (∃ xs : List HX, xs.map (·.2) = L ∧ J F (pre ++ xs) W') ∧ Stays F W W') ∨ (e = .returned (.bool false) ∧ (∃ xs : List HX, xs.map (·.2) <+: L ∧ Jx F (pre ++ xs) W') ∧ Stays F W W')
/-- Between two parts. -/
structure TellI (J : (Nat → Prop) → List HX → World → Prop) (n : Nat) (F1 : Nat → Prop) (pre1 : List HX) (X2 : World) (F : Nat → Prop) (ys : List HX) (X : World) : Prop where
  far : ∀ r, F r → X2.heap.size ≤ r
  st : Stays F1 X2 X
  got : ∃ xs : List HX, xs.map (·.2) = (ys.map (·.2)).flatMap (allN n) ∧ J (fun r => F r ∨ F1 r) (pre1 ++ xs) X
/-- No more was wanted. -/
structure TellX (Jx : (Nat → Prop) → List HX → World → Prop) (n : Nat) (F0 F1 : Nat → Prop) (pre1 : List HX) (X2 : World) (bc : Nat) (c : Code) (F : Nat → Prop) (ys : List HX) (X : World) : Prop where
  jump : c = .ret
  far : ∀ r, F r → X2.heap.size ≤ r
  st : Stays F0 X2 X
  cell : Boxed X bc 4 (.bool false)
  got : ∃ xs : List HX, xs.map (·.2) <+: (ys.map (·.2)).flatMap (allN n) ∧ Jx (fun r => F r ∨ F1 r) (pre1 ++ xs) X
theorem tellI_fr {J : (Nat → Prop) → List HX → World → Prop} (hJ : Fr J) (n : Nat) (F1 : Nat → Prop) (pre1 : List HX) (X2 : World) : Fr (TellI J n F1 pre1 X2) where
  grow := fun {F pre X Y} h hg => ⟨fun r hr => hr.elim (h.far r) (fun h3 => Nat.le_trans h.st.1 h3.1), h.st.grown hg (fun _ e => by cases e), by
    obtain ⟨xs, h1, h2⟩ := h.got
    exact ⟨xs, h1, hJ.less (fun r hr => hr.elim (fun h3 => h3.elim (fun h4 => .inl (.inl h4)) .inr) (fun h3 => .inl (.inr h3))) (hJ.grow h2 hg)⟩⟩
  put := fun {F pre X Y r} h hr hg => ⟨h.far, h.st.grown hg (fun k e _ => by cases e; exact h.far _ hr), by
    obtain ⟨xs, h1, h2⟩ := h.got
    exact ⟨xs, h1, hJ.put h2 (.inl hr) hg⟩⟩
  less := fun hF h => ⟨fun r hr => h.far r (hF r hr), h.st, by
    obtain ⟨xs, h1, h2⟩ := h.got
    exact ⟨xs, h1, hJ.less (fun r hr => hr.elim (fun h3 => .inl (hF r h3)) .inr) h2⟩⟩
theorem tellX_fr {Jx : (Nat → Prop) → List HX → World → Prop} (hJ : Fr Jx) (n : Nat) (F0 F1 : Nat → Prop) (pre1 : List HX) (X2 : World) (bc : Nat) (hbc : bc < X2.heap.size) (c : Code) : Fr (TellX Jx n F0 F1 pre1 X2 bc c) where
  grow := fun {F pre X Y} h hg => ⟨h.jump, fun r hr => hr.elim (h.far r) (fun h3 => Nat.le_trans h.st.1 h3.1), h.st.grown hg (fun _ e => by cases e), h.cell.kept hg (by simp), by
    obtain ⟨xs, h1, h2⟩ := h.got
    exact ⟨xs, h1, hJ.less (fun r hr => hr.elim (fun h3 => h3.elim (fun h4 => .inl (.inl h4)) .inr) (fun h3 => .inl (.inr h3))) (hJ.grow h2 hg)⟩⟩
  put := fun {F pre X Y r} h hr hg => ⟨h.jump, h.far, h.st.grown hg (fun k e _ => by cases e; exact h.far _ hr), h.cell.kept hg (fun e => by cases e; have := h.far _ hr; omega), by
    obtain ⟨xs, h1, h2⟩ := h.got
    exact ⟨xs, h1, hJ.put h2 (.inl hr) hg⟩⟩
  less := fun hF h => ⟨h.jump, fun r hr => h.far r (hF r hr), h.st, h.cell, by
    obtain ⟨xs, h1, h2⟩ := h.got
    exact ⟨xs, h1, hJ.less (fun r hr => hr.elim (fun h3 => .inl (hF r h3)) .inr) h2⟩⟩
theorem heap3 (W : World) (o1 o2 o3 : Obj) : (((W.alloc o1).alloc o2).alloc o3).heap[W.heap.size]? = some o1 ∧ (((W.alloc o1).alloc o2).alloc o3).heap[W.heap.size + 1]? = some o2 ∧ (((W.alloc o1).alloc o2).alloc o3).heap[W.heap.size + 1 + 1]? = some o3 := by
  refine ⟨(Below.heap_alloc _ _ _ (by simp; omega)).trans ((Below.heap_alloc _ _ _ (by simp)).trans (World.alloc_heap_new W o1)), (Below.heap_alloc _ _ _ (by simp)).trans (heap_new1 W o1 o2), ?_⟩
  have := World.alloc_heap_new ((W.alloc o1).alloc o2) o3
  simpa only [World.size_alloc] using this
set_option maxRecDepth 100000 in
set_option maxHeartbeats 4000000 in
theorem tell_step (w0 : World) (l : Nat) (J Jx : (Nat → Prop) → List HX → World → Prop) (hJ : Fr J) (hJx : Fr Jx) (hInv : ∀ F pre X, J F pre X → Below w0.heap.size w0 X) (full : List Ex)
    (hY : ∀ m F pre x X, J F pre X → FitA w0 full pre x → YieldAt Fence.wide m Tryd.prog l (encX x) X fun e Y => (e = .returned (.bool true) ∧ J F (pre ++ [x]) Y ∧ Stays F X Y) ∨ (e = .returned (.bool false) ∧ Jx F (pre ++ [x]) Y ∧ Stays F X Y))
    (n : Nat) (ih : ∀ h x F pre W, InX w0 n h x → J F pre W → pre.map (·.2) ++ allN n x <+: full → Calls Tryd.prog 44 #[h.agg, .func (.yield l) #[] #[]] W (TellPost J Jx F pre (allN n x) W))
    (h : Hd) (x : Ex) (F : Nat → Prop) (pre : List HX) (W : World) (hx : InX w0 (n + 1) h x) (h0 : J F pre W) (hfull : pre.map (·.2) ++ allN (n + 1) x <+: full) : Calls Tryd.prog 44 #[h.agg, .func (.yield l) #[] #[]] W (TellPost J Jx F pre (allN (n + 1) x) W) := by
  have hw1 : ∀ f, Fence.wide.fn f := fun _ => trivial
  have hw2 : Fence.wide.depth.isSome = false := rfl
  have hFx : FitA w0 full pre (h, x) := ⟨⟨n + 1, hx⟩, by
    obtain ⟨t, ht⟩ := hfull
    exact ⟨x.parts.flatMap (allN n) ++ t, by rw [← ht, List.map_append]; simp [allN]⟩⟩
  have HFU := Lib.hid hfull
  have hP := fun X => Lib.hid (parts_any w0 n h x X hx)
  obtain ⟨F0, hF0⟩ : ∃ F0 : Nat → Prop, F0 = fun r => ((F r ∨ (W.heap.size ≤ r ∧ r < W.heap.size + 1)) ∨ (W.heap.size + 1 ≤ r ∧ r < W.heap.size + 1 + 1)) ∨ (W.heap.size + 1 + 1 ≤ r ∧ r < W.heap.size + 1 + 1 + 1) := ⟨_, rfl⟩
  obtain ⟨op, nn, s, p, pl, pc, q, ql, qc, o, k, kl, kc⟩ := h
  have h3 : J F0 pre (((W.alloc (.cells #[.int .i64 op, .int .i64 nn, .string s, .slice p pl pc, .slice q ql qc, .bool o, .slice k kl kc] 26)).alloc (.cells #[.func (.yield l) #[] #[]] 27)).alloc (.cells #[.bool false] 4)) := by
    have := hJ.grow (hJ.grow (hJ.grow h0 (World.grownBy_alloc W (.cells #[.int .i64 op, .int .i64 nn, .string s, .slice p pl pc, .slice q ql qc, .bool o, .slice k kl kc] 26) none)) (World.grownBy_alloc _ (.cells #[.func (.yield l) #[] #[]] 27) none)) (World.grownBy_alloc _ (.cells #[.bool false] 4) none)
    simp only [World.size_alloc] at this
    rw [hF0]; exact this
  obtain ⟨fn, tmps, assign, body, hy, hR⟩ := hY 8 F0 pre (⟨op, nn, s, p, pl, pc, q, ql, qc, o, k, kl, kc⟩, x) _ h3 hFx
  dsimp only [encX, Hd.agg] at hy
  have HIH := Lib.hid ih
  have HJ := Lib.hid hJ
  have HJx := Lib.hid hJx
  have HI := Lib.hid hInv
  have HF0 := Lib.hid hF0
  clear ih hJ hJx hInv hF0 hY hx h0 h3 hFx hfull
  unfold Hd.agg
  unfold Hd.agg at hP
  dsimp only at hP
  refine (callsIn_wide (n := 9)).1 ?_
  refine callsIn_of_wp_marks Tryd.func44 rfl trivial ?_ rfl
  simp only [Tryd.ntmps44, List.size_toArray, List.length_cons, List.length_nil, Nat.reduceAdd, Nat.reduceSub, Array.replicate_succ, Array.replicate_zero, List.push_toArray, List.append_toArray, List.nil_append, List.cons_append]
  gi_wp2
  refine hR.mono ?_
  rintro e X1 (⟨rfl, hJ1, hs1⟩ | ⟨rfl, hJ1, hs1⟩)
  · have hE3 := heap3 W (.cells #[.int .i64 op, .int .i64 nn, .string s, .slice p pl pc, .slice q ql qc, .bool o, .slice k kl kc] 26) (.cells #[.func (.yield l) #[] #[]] 27) (.cells #[.bool false] 4)
    have hbE := (hs1.2 W.heap.size (by rw [HF0.out]; exact .inl (.inl (.inr ⟨Nat.le_refl _, by omega⟩))) (by simp; omega)).trans hE3.1
    have hbY : Boxed X1 (W.heap.size + 1) 27 (.func (.yield l) #[] #[]) := (hs1.2 (W.heap.size + 1) (by rw [HF0.out]; exact .inl (.inr ⟨Nat.le_refl _, by omega⟩)) (by simp)).trans hE3.2.1
    have hbC : Boxed X1 (W.heap.size + 1 + 1) 4 (.bool false) := (hs1.2 (W.heap.size + 1 + 1) (by rw [HF0.out]; exact .inr ⟨Nat.le_refl _, by omega⟩) (by simp)).trans hE3.2.2
    have hst : Stays F W X1 := ⟨by have := hs1.1; simp at this; omega, fun i hi hl => (hs1.2 i (by rw [HF0.out]; exact .inl (.inl (.inl hi))) (by simp; omega)).trans ((Below.heap_alloc _ _ _ (by simp; omega)).trans ((Below.heap_alloc _ _ _ (by simp; omega)).trans (Below.heap_alloc _ _ _ hl)))⟩
    clear hE3
    clear hy hR
    have HS := Lib.hid hst
    have HJ1 := Lib.hid hJ1
    have hcE := BoxH.cells (X := X1) (b := W.heap.size) (h := ⟨op, nn, s, p, pl, pc, q, ql, qc, o, k, kl, kc⟩) hbE
    obtain ⟨d0, d1, d2, d3, d4, d5, d6⟩ := hcE
    dsimp only at d0 d1 d2 d3 d4 d5 d6
    simp only [Nat.zero_add] at d1 d2 d3 d4 d5 d6
    clear hst hJ1
    gi_wp2_with (gi_at_call 35; refine (callsIn_wide.2 (hP _).out).mono ?_; rintro e X2 ⟨gf, be, ob, rfl, hbe, hob, hb2, heg, hseq⟩)
    clear d0 d1 d2 d3 d4 d5 d6
    have hz1 : W.heap.size + 1 + 1 < X1.heap.size := hbC.lt
    have hz2 := hb2.size
    have hY2 : Boxed X2 (W.heap.size + 1) 27 (.func (.yield l) #[] #[]) := (hb2.block _ hbY.lt).trans hbY
    have hC2 : Boxed X2 (W.heap.size + 1 + 1) 4 (.bool false) := (hb2.block _ hbC.lt).trans hbC
    have hbl : be < X2.heap.size := (Array.getElem?_eq_some_iff.1 hob).1
    obtain ⟨F1, hF1⟩ : ∃ F1 : Nat → Prop, F1 = fun r => F0 r ∨ (X1.heap.size ≤ r ∧ r < X2.heap.size) := ⟨_, rfl⟩
    have hj2 := HJ.out.grow HJ1.out (grown_below hb2)
    rw [← hF1] at hj2
    obtain ⟨pre1, hpre1⟩ : ∃ pre1 : List HX, pre1 = pre ++ [(⟨op, nn, s, p, pl, pc, q, ql, qc, o, k, kl, kc⟩, x)] := ⟨_, rfl⟩
    rw [← hpre1] at hj2
    have f1Y : F1 (W.heap.size + 1) := by rw [hF1, HF0.out]; exact .inl (.inl (.inr ⟨Nat.le_refl _, by omega⟩))
    have f1C : F1 (W.heap.size + 1 + 1) := by rw [hF1, HF0.out]; exact .inl (.inr ⟨Nat.le_refl _, by omega⟩)
    have f1B : F1 be := by rw [hF1]; exact .inr ⟨hbe, hbl⟩
    have f1F : ∀ r, F r → F1 r := fun r hr => by rw [hF1, HF0.out]; exact .inl (.inl (.inl (.inl hr)))
    have hS2 : Stays F W X2 := HS.out.grown (grown_below hb2) (fun _ e => by cases e)
    clear hbE hbY hbC hs1 HJ1 HS hF1 hb2
    refine range_fit (gf := gf) (lb := #[.pointer (some ⟨be, 0, none⟩)]) (by decide) rfl heg hseq (fun _ => rfl) (TellI J n F1 pre1 X2) (TellX Jx n (fun r => F r ∧ r < W.heap.size) F1 pre1 X2 (W.heap.size + 1 + 1)) (tellI_fr HJ.out n F1 pre1 X2) (tellX_fr HJx.out n _ F1 pre1 X2 _ hC2.lt)
      (fun F2 ys X h2 => ⟨by obtain ⟨xs, _, hj⟩ := h2.got; exact HI.out _ _ _ hj, (h2.st.2 be f1B hbl).trans hob⟩)
      ⟨fun _ h => h.elim, Stays.refl _ _, [], rfl, by rw [List.append_nil]; exact HJ.out.less (fun r hr => hr.elim (fun h => h.elim) id) hj2⟩ ?round ?done ?stop
    case round =>
      rintro l2 F2 ys ⟨yh, yx⟩ X hl2 hrec hI2 hfit
      obtain ⟨op2, nn2, s2, p2, pl2, pc2, q2, ql2, qc2, o2, k2, kl2, kc2⟩ := yh
      have HF := Lib.hid hfit.1
      have HPX := Lib.hid hfit.2
      have HI2 := Lib.hid hI2
      have hlX : l2 < X.heap.size := by obtain ⟨r, hr⟩ := hrec; exact (Array.getElem?_eq_some_iff.1 hr).1
      clear hfit hI2 hrec
      dsimp only [encX, Hd.agg]
      gi_wp2
      refine ⟨⟨by simp, fun i _ hi => Below.heap_alloc _ _ _ hi⟩, (tellI_fr HJ.out n F1 pre1 X2).alloc HI2.out _, ?_⟩
      intro Y hYz hYo hYl hIY
      have hbx : BoxH Y X.heap.size ⟨op2, nn2, s2, p2, pl2, pc2, q2, ql2, qc2, o2, k2, kl2, kc2⟩ := (hYo _ (by omega)).trans (World.alloc_heap_new X _)
      obtain ⟨d0, d1, d2, d3, d4, d5, d6⟩ := hbx.cells
      dsimp only at d0 d1 d2 d3 d4 d5 d6
      simp only [Nat.zero_add] at d1 d2 d3 d4 d5 d6
      have hYY : Boxed Y (W.heap.size + 1) 27 (.func (.yield l) #[] #[]) := hIY.st.boxed f1Y hY2
      have hYC : Boxed Y (W.heap.size + 1 + 1) 4 (.bool false) := hIY.st.boxed f1C hC2
      have cy := hYY.cell
      have cc := hYC.cell
      have cf := hYC.frozen
      obtain ⟨xs, hxs, hj⟩ := hIY.got
      have hT := Lib.hid (HIH.out ⟨op2, nn2, s2, p2, pl2, pc2, q2, ql2, qc2, o2, k2, kl2, kc2⟩ yx (fun r => F2 r ∨ F1 r) (pre1 ++ xs) Y HF.out hj (by
        obtain ⟨t, ht⟩ := HFU.out
        obtain ⟨t2, ht2⟩ := HPX.out
        refine ⟨t2.flatMap (allN n) ++ t, ?_⟩
        rw [← ht, hpre1]
        show _ = pre.map (·.2) ++ x :: x.parts.flatMap (allN n) ++ t
        rw [← ht2, List.map_append, hxs]
        simp))
      have HXS := Lib.hid hxs
      have HIY := Lib.hid hIY
      have HYC := Lib.hid hYC
      clear hbx hYY hYC hj hxs hIY hYo hYz hYl
      unfold Hd.agg at hT
      dsimp only at hT
      gi_wp2_with (gi_at_call 44; refine (CallsIn.inRound l2 (callsIn_wide.2 hT.out)).mono ?_; rintro e Z (⟨rfl, ⟨zs, hzs, hjz⟩, hsz⟩ | ⟨rfl, ⟨zs, hzs, hjz⟩, hsz⟩); all_goals (have HZS := Lib.hid hzs; have HJZ := Lib.hid hjz; have HSZ := Lib.hid hsz; have HCZ := Lib.hid (hsz.boxed (.inr f1C) HYC.out); have cz := HCZ.out.cell; have fz := HCZ.out.frozen; clear hzs hjz hsz))
      · refine ⟨HSZ.out.less fun r hr => .inl hr, HIY.out.far, HIY.out.st.trans (HSZ.out.less fun r hr => .inr hr), xs ++ zs, ?_, ?_⟩
        · rw [List.map_append, List.map_append, List.flatMap_append, HXS.out, HZS.out]; simp
        · rw [← List.append_assoc]; exact HJZ.out
      · have hb5 := HCZ.out.set (.bool false)
        refine ⟨(HSZ.out.less fun r hr => .inl hr).grown (grownBy_setCell' _ _ _) (fun r e hr => by cases e; have := HIY.out.far _ hr; have := hC2.lt; omega), rfl, HIY.out.far, ?_, hb5, xs ++ zs, ?_, ?_⟩
        · exact ((HIY.out.st.less fun r hr => f1F r hr.1).trans (HSZ.out.less fun r hr => .inr (f1F r hr.1))).grown (grownBy_setCell' _ _ _) (fun r e hr => by cases e; have := hr.2; omega)
        · rw [List.map_append, List.map_append, List.flatMap_append, HXS.out]
          simpa using HZS.out
        · rw [← List.append_assoc]; exact HJx.out.put HJZ.out (.inr f1C) (grownBy_setCell' _ _ _)
    case done =>
      rintro D F2 ys X hD hys hI2 hKD
      have hXC : Boxed X (W.heap.size + 1 + 1) 4 (.bool false) := hI2.st.boxed f1C hC2
      have cc := hXC.cell
      have cf := hXC.frozen
      have HI2 := Lib.hid hI2
      have HKD := Lib.hid hKD
      have HYS := Lib.hid hys
      clear hI2 hKD hys
      gi_wp2
      have hne : D ≠ W.heap.size + 1 + 1 := fun e => by have := HI2.out.far _ hD; have := hC2.lt; omega
      have hK5 := (Below.heap_setCell X ⟨W.heap.size + 1 + 1, 0, none⟩ (.bool true) D hne).trans HKD.out
      refine ⟨by simp, .inl ⟨_, _, rfl, run_takeDeferred hK5, ?_⟩⟩
      have hb5 := (hXC.set (.bool true)).kept (grownBy_putObj' _ D (.deferred none)) (by simpa using fun e => hne e.symm)
      have cc5 := hb5.cell
      refine ⟨.bool true, by simp [results, Tryd.f44, go_sem, cc5], ?_⟩
      obtain ⟨xs, hxs, hj⟩ := HI2.out.got
      refine .inl ⟨rfl, ⟨(⟨op, nn, s, p, pl, pc, q, ql, qc, o, k, kl, kc⟩, x) :: xs, ?_, ?_⟩, ?_⟩
      · rw [List.map_cons, hxs, HYS.out]; rfl
      · refine HJ.out.less (F' := fun r => F2 r ∨ F1 r) (fun r hr => .inr (f1F r hr)) (HJ.out.put (HJ.out.put ?_ (.inr f1C) (grownBy_setCell' _ _ _)) (.inl hD) (grownBy_putObj' _ _ _))
        rw [hpre1, List.append_assoc] at hj
        exact hj
      · exact ((hS2.trans (HI2.out.st.less f1F)).grown (grownBy_setCell' _ _ _) (fun r e _ => by cases e; omega)).grown (grownBy_putObj' _ _ _) (fun r e _ => by cases e; have := HI2.out.far _ hD; omega)
    case stop =>
      rintro D F2 c ys X hD hys hI2 hKD
      obtain rfl := hI2.jump
      have cc := hI2.cell.cell
      have HI2 := Lib.hid hI2
      have HKD := Lib.hid hKD
      have HYS := Lib.hid hys
      clear hI2 hKD hys
      gi_wp2
      refine ⟨by simp, .inl ⟨_, _, rfl, run_takeDeferred HKD.out, ?_⟩⟩
      have hne : D ≠ W.heap.size + 1 + 1 := fun e => by have := HI2.out.far _ hD; have := hC2.lt; omega
      have hb5 := HI2.out.cell.kept (grownBy_putObj' _ D (.deferred none)) (by simpa using fun e => hne e.symm)
      have cc5 := hb5.cell
      refine ⟨.bool false, by simp [results, Tryd.f44, go_sem, cc5], ?_⟩
      obtain ⟨xs, hxs, hj⟩ := HI2.out.got
      refine .inr ⟨rfl, ⟨(⟨op, nn, s, p, pl, pc, q, ql, qc, o, k, kl, kc⟩, x) :: xs, ?_, ?_⟩, ?_⟩
      · rw [List.map_cons]
        obtain ⟨t1, ht1⟩ := hxs
        obtain ⟨t2, ht2⟩ := HYS.out
        exact ⟨t1 ++ t2.flatMap (allN n), by show x :: _ ++ _ = x :: x.parts.flatMap (allN n); rw [← ht2, List.flatMap_append, ← ht1]; simp⟩
      · refine HJx.out.less (F' := fun r => F2 r ∨ F1 r) (fun r hr => .inr (f1F r hr)) (HJx.out.put ?_ (.inl hD) (grownBy_putObj' _ _ _))
        rw [hpre1, List.append_assoc] at hj
        exact hj
      · have h5 : Stays (fun r => F r ∧ r < W.heap.size) W X := (hS2.less fun r hr => hr.1).trans HI2.out.st
        have h6 := h5.grown (grownBy_putObj' X D (.deferred none)) (fun r e _ => by cases e; have := HI2.out.far _ hD; omega)
        exact ⟨h6.1, fun i hF hi => h6.2 i ⟨hF, hi⟩ hi⟩
  · have hE3 := heap3 W (.cells #[.int .i64 op, .int .i64 nn, .string s, .slice p pl pc, .slice q ql qc, .bool o, .slice k kl kc] 26) (.cells #[.func (.yield l) #[] #[]] 27) (.cells #[.bool false] 4)
    have hbE := (hs1.2 W.heap.size (by rw [HF0.out]; exact .inl (.inl (.inr ⟨Nat.le_refl _, by omega⟩))) (by simp; omega)).trans hE3.1
    have hbY : Boxed X1 (W.heap.size + 1) 27 (.func (.yield l) #[] #[]) := (hs1.2 (W.heap.size + 1) (by rw [HF0.out]; exact .inl (.inr ⟨Nat.le_refl _, by omega⟩)) (by simp)).trans hE3.2.1
    have hbC : Boxed X1 (W.heap.size + 1 + 1) 4 (.bool false) := (hs1.2 (W.heap.size + 1 + 1) (by rw [HF0.out]; exact .inr ⟨Nat.le_refl _, by omega⟩) (by simp)).trans hE3.2.2
    have hst : Stays F W X1 := ⟨by have := hs1.1; simp at this; omega, fun i hi hl => (hs1.2 i (by rw [HF0.out]; exact .inl (.inl (.inl hi))) (by simp; omega)).trans ((Below.heap_alloc _ _ _ (by simp; omega)).trans ((Below.heap_alloc _ _ _ (by simp; omega)).trans (Below.heap_alloc _ _ _ hl)))⟩
    clear hE3
    have cc := hbC.cell
    have cf := hbC.frozen
    have HJ1 := Lib.hid hJ1
    clear hy hR hs1 hbE hbY hJ1
    gi_wp2
    have hb5 := hbC.set (.bool false)
    have cc5 := hb5.cell
    refine ⟨.bool false, by simp [results, Tryd.f44, go_sem, cc5], ?_⟩
    refine .inr ⟨rfl, ⟨[_], ?_, HJx.out.less (fun r hr => ?_) (HJx.out.put HJ1.out (r := W.heap.size + 1 + 1) ?_ (grownBy_setCell' _ _ _))⟩, hst.grown (grownBy_setCell' _ _ _) (fun r e _ => by cases e; omega)⟩
    · exact ⟨x.parts.flatMap (allN n), rfl⟩
    · rw [HF0.out]; exact .inl (.inl (.inl hr))
    · rw [HF0.out]; exact .inr ⟨Nat.le_refl _, by omega⟩
theorem tell_in (w0 : World) (l : Nat) (J Jx : (Nat → Prop) → List HX → World → Prop) (hJ : Fr J) (hJx : Fr Jx) (hInv : ∀ F pre X, J F pre X → Below w0.heap.size w0 X) (full : List Ex)
    (hY : ∀ m F pre x X, J F pre X → FitA w0 full pre x → YieldAt Fence.wide m Tryd.prog l (encX x) X fun e Y => (e = .returned (.bool true) ∧ J F (pre ++ [x]) Y ∧ Stays F X Y) ∨ (e = .returned (.bool false) ∧ Jx F (pre ++ [x]) Y ∧ Stays F X Y)) :
    ∀ (n : Nat) (h : Hd) (x : Ex) (F : Nat → Prop) (pre : List HX) (W : World), InX w0 n h x → J F pre W → pre.map (·.2) ++ allN n x <+: full → Calls Tryd.prog 44 #[h.agg, .func (.yield l) #[] #[]] W (TellPost J Jx F pre (allN n x) W)
  | 0, _, _, _, _, _, h, _, _ => h.elim
  | n + 1, h, x, F, pre, W, hx, h0, hf => tell_step w0 l J Jx hJ hJx hInv full hY n (tell_in w0 l J Jx hJ hJx hInv full hY n) h x F pre W hx h0 hf
set_option maxHeartbeats 1000000 in
theorem inOrder_fit (w0 : World) (n be : Nat) (h : Hd) (x : Ex) (hx : InX w0 n h x) :
    FitSeq Tryd.prog 43 #[.pointer (some ⟨be, 0, none⟩)] encX (fun X => Below w0.heap.size w0 X ∧ BoxH X be h) (FitA w0 (allN n x)) (fun xs => xs.map (·.2) = allN n x) (fun pre => pre.map (·.2) <+: allN n x) := by
  intro l J Jx W hJ hJx hInv hY h0
  have hw1 : ∀ f, Fence.wide.fn f := fun _ => trivial
  have hw2 : Fence.wide.depth.isSome = false := rfl
  have hT := tell_in w0 l J Jx hJ hJx (fun F pre X hj => (hInv F pre X hj).1) (allN n x) hY n h x none_ [] W hx h0 (by simp)
  have hbx := (hInv _ [] W h0).2
  have hbl := hbx.lt
  obtain ⟨op, nn, s, p, pl, pc, q, ql, qc, o, k, kl, kc⟩ := h
  obtain ⟨d0, d1, d2, d3, d4, d5, d6⟩ := hbx.cells
  dsimp only at d0 d1 d2 d3 d4 d5 d6
  simp only [Nat.zero_add] at d1 d2 d3 d4 d5 d6
  unfold Hd.agg at hT
  dsimp only at hT
  have HT := Lib.hid hT
  clear hT hY hJ hJx hInv hbx hx h0
  refine (callsIn_wide (n := 9)).1 ?_
  refine callsIn_of_wp Tryd.func43 rfl trivial ?_ rfl
  simp only [Tryd.ntmps43, List.size_toArray, List.length_cons, List.length_nil, Nat.reduceAdd, Nat.reduceSub, Array.replicate_succ, Array.replicate_zero, List.push_toArray, List.append_toArray, List.nil_append, List.cons_append]
  gi_wp2_with (gi_at_call 44; refine (callsIn_wide.2 HT.out).mono ?_; rintro e Z (⟨rfl, ⟨zs, hzs, hjz⟩, -⟩ | ⟨rfl, ⟨zs, hzs, hjz⟩, -⟩))
  · go_end0
    exact ⟨⟨_, rfl⟩, .inl ⟨zs, hzs, hjz⟩⟩
  · go_end0
    exact ⟨⟨_, rfl⟩, .inr ⟨zs, hzs, hjz⟩⟩
end Go.Proofs.YtngikbimlhoigaaDoor
