/- Rf, Ta, Tb, Tc, Td, Te, Tf, Tg, Th -/
import Derived.Laws.Rows
import Derived.OrdersHeld
import Derived.IntWalk
import Derived.Deep.DeepCutAuto
import Derived.Deep.CutBlock
import Derived.Test.YtngnegnofmpgkaaZ6
/- WALK of expr's tell: one function is handed all expressions, in order, till it wants no more. -/
namespace Go.Proofs.Ytngnegnofmpgkaa
open Go.RowKit Go.Shelf
attribute [local go_sem] Oper.semAt_some
/-- All of L was handed over; or a part, and no more was wanted. -/
def TellPost (J Jx : (Nat → Prop) → List HX → World → Prop) (F : Nat → Prop) (pre : List HX) (L : List Ex) (W : World) (e : Ending) (W' : World) : Prop :=
  (e = .returned (.bool true) ∧ (∃ xs : List HX, xs.map (·.2) = L ∧ J F (pre ++ xs) W') ∧ Stays F W W') ∨ (e = .returned (.bool false) ∧ (∃ xs : List HX, xs.map (·.2) <+: L ∧ Jx F (pre ++ xs) W') ∧ Stays F W W')
/-- Between two parts. -/
structure TellI (J : (Nat → Prop) → List HX → World → Prop) (n : Nat) (F1 : Nat → Prop) (pre1 : List HX) (X2 : World) (F : Nat → Prop) (ys : List HX) (X : World) : Prop where
  far : ∀ r, F r → X2.heap.size ≤ r
  st : Stays F1 X2 X
  got : ∃ xs : List HX, xs.map (·.2) = (ys.map (·.2)).flatMap (allN n) ∧ J (fun r => F r ∨ F1 r) (pre1 ++ xs) X
/-- No more was wanted. -/
structure TellX (Jx : (Nat → Prop) → List HX → World → Prop) (n : Nat) (F0 F1 : Nat → Prop) (pre1 : List HX) (X2 : World) (bc : Nat) (c : Code) (F : Nat → Prop) (ys : List HX) (X : World) : Prop where
  jump : c = .ret
  far : ∀ r, F r → X2.heap.size ≤ r
  st : Stays F0 X2 X
  cell : Boxed X bc 4 (.bool false)
  got : ∃ xs : List HX, xs.map (·.2) <+: (ys.map (·.2)).flatMap (allN n) ∧ Jx (fun r => F r ∨ F1 r) (pre1 ++ xs) X
theorem tellI_fr {J : (Nat → Prop) → List HX → World → Prop} (hJ : Fr J) (n : Nat) (F1 : Nat → Prop) (pre1 : List HX) (X2 : World) : Fr (TellI J n F1 pre1 X2) where
  grow := fun {F pre X Y} h hg => ⟨fun r hr => hr.elim (h.far r) (fun h3 => Nat.le_trans h.st.1 h3.1), h.st.grown hg (fun _ e => by cases e), by
    obtain ⟨xs, h1, h2⟩ := h.got
    exact ⟨xs, h1, hJ.less (fun r hr => hr.elim (fun h3 => h3.elim (fun h4 => .inl (.inl h4)) .inr) (fun h3 => .inl (.inr h3))) (hJ.grow h2 hg)⟩⟩
  put := fun {F pre X Y r} h hr hg => ⟨h.far, h.st.grown hg (fun k e _ => by cases e; exact h.far _ hr), by
    obtain ⟨xs, h1, h2⟩ := h.got
    exact ⟨xs, h1, hJ.put h2 (.inl hr) hg⟩⟩
  less := fun hF h => ⟨fun r hr => h.far r (hF r hr), h.st, by
    obtain ⟨xs, h1, h2⟩ := h.got
    exact ⟨xs, h1, hJ.less (fun r hr => hr.elim (fun h3 => .inl (hF r h3)) .inr) h2⟩⟩
theorem tellX_fr {Jx : (Nat → Prop) → List HX → World → Prop} (hJ : Fr Jx) (n : Nat) (F0 F1 : Nat → Prop) (pre1 : List HX) (X2 : World) (bc : Nat) (hbc : bc < X2.heap.size) (c : Code) : Fr (TellX Jx n F0 F1 pre1 X2 bc c) where
  grow := fun {F pre X Y} h hg => ⟨h.jump, fun r hr => hr.elim (h.far r) (fun h3 => Nat.le_trans h.st.1 h3.1), h.st.grown hg (fun _ e => by cases e), h.cell.kept hg (by simp), by
    obtain ⟨xs, h1, h2⟩ := h.got
    exact ⟨xs, h1, hJ.less (fun r hr => hr.elim (fun h3 => h3.elim (fun h4 => .inl (.inl h4)) .inr) (fun h3 => .inl (.inr h3))) (hJ.grow h2 hg)⟩⟩
  put := fun {F pre X Y r} h hr hg => ⟨h.jump, h.far, h.st.grown hg (fun k e _ => by cases e; exact h.far _ hr), h.cell.kept hg (fun e => by cases e; have := h.far _ hr; omega), by
    obtain ⟨xs, h1, h2⟩ := h.got
    exact ⟨xs, h1, hJ.put h2 (.inl hr) hg⟩⟩
  less := fun hF h => ⟨h.jump, fun r hr => h.far r (hF r hr), h.st, h.cell, by
    obtain ⟨xs, h1, h2⟩ := h.got
    exact ⟨xs, h1, hJ.less (fun r hr => hr.elim (fun h3 => .inl (hF r h3)) .inr) h2⟩⟩
theorem heap3 (W : World) (o1 o2 o3 : Obj) : (((W.alloc o1).alloc o2).alloc o3).heap[W.heap.size]? = some o1 ∧ (((W.alloc o1).alloc o2).alloc o3).heap[W.heap.size + 1]? = some o2 ∧ (((W.alloc o1).alloc o2).alloc o3).heap[W.heap.size + 1 + 1]? = some o3 := by
  refine ⟨(Below.heap_alloc _ _ _ (by simp; omega)).trans ((Below.heap_alloc _ _ _ (by simp)).trans (World.alloc_heap_new W o1)), (Below.heap_alloc _ _ _ (by simp)).trans (heap_new1 W o1 o2), ?_⟩
  have := World.alloc_heap_new ((W.alloc o1).alloc o2) o3
  simpa only [World.size_alloc] using this
set_option maxRecDepth 100000 in
set_option maxHeartbeats 4000000 in
theorem tell_step (w0 : World) (l : Nat) (J Jx : (Nat → Prop) → List HX → World → Prop) (hJ : Fr J) (hJx : Fr Jx) (hInv : ∀ F pre X, J F pre X → Below w0.heap.size w0 X) (full : List Ex)
    (hY : ∀ m F pre x X, J F pre X → FitA w0 full pre x → YieldAt Fence.wide m Try.prog l (encX x) X fun e Y => (e = .returned (.bool true) ∧ J F (pre ++ [x]) Y ∧ Stays F X Y) ∨ (e = .returned (.bool false) ∧ Jx F (pre ++ [x]) Y ∧ Stays F X Y))
    (n : Nat) (ih : ∀ h x F pre W, InX w0 n h x → J F pre W → pre.map (·.2) ++ allN n x <+: full → Calls Try.prog 104 #[h.agg, .func (.yield l) #[] #[]] W (TellPost J Jx F pre (allN n x) W))
    (h : Hd) (x : Ex) (F : Nat → Prop) (pre : List HX) (W : World) (hx : InX w0 (n + 1) h x) (h0 : J F pre W) (hfull : pre.map (·.2) ++ allN (n + 1) x <+: full) : Calls Try.prog 104 #[h.agg, .func (.yield l) #[] #[]] W (TellPost J Jx F pre (allN (n + 1) x) W) := by
  have hw1 : ∀ f, Fence.wide.fn f := fun _ => trivial
  have hw2 : Fence.wide.depth.isSome = false := rfl
  have hFx : FitA w0 full pre (h, x) := ⟨⟨n + 1, hx⟩, by
    obtain ⟨t, ht⟩ := hfull
    exact ⟨x.parts.flatMap (allN n) ++ t, by rw [← ht, List.map_append]; simp [allN]⟩⟩
  have HFU := Lib.hid hfull
  have hP := fun X => Lib.hid (parts_any w0 n h x X hx)
  obtain ⟨F0, hF0⟩ : ∃ F0 : Nat → Prop, F0 = fun r => ((F r ∨ (W.heap.size ≤ r ∧ r < W.heap.size + 1)) ∨ (W.heap.size + 1 ≤ r ∧ r < W.heap.size + 1 + 1)) ∨ (W.heap.size + 1 + 1 ≤ r ∧ r < W.heap.size + 1 + 1 + 1) := ⟨_, rfl⟩
  obtain ⟨op, nn, s, p, pl, pc, q, ql, qc, o, k, kl, kc⟩ := h
  have h3 : J F0 pre (((W.alloc (.cells #[.int .i64 op, .int .i64 nn, .string s, .slice p pl pc, .slice q ql qc, .bool o, .slice k kl kc] 38)).alloc (.cells #[.func (.yield l) #[] #[]] 46)).alloc (.cells #[.bool false] 4)) := by
    have := hJ.grow (hJ.grow (hJ.grow h0 (World.grownBy_alloc W (.cells #[.int .i64 op, .int .i64 nn, .string s, .slice p pl pc, .slice q ql qc, .bool o, .slice k kl kc] 38) none)) (World.grownBy_alloc _ (.cells #[.func (.yield l) #[] #[]] 46) none)) (World.grownBy_alloc _ (.cells #[.bool false] 4) none)
    simp only [World.size_alloc] at this
    rw [hF0]; exact this
  obtain ⟨fn, tmps, assign, body, hy, hR⟩ := hY 8 F0 pre (⟨op, nn, s, p, pl, pc, q, ql, qc, o, k, kl, kc⟩, x) _ h3 hFx
  dsimp only [encX, Hd.agg] at hy
  have HIH := Lib.hid ih
  have HJ := Lib.hid hJ
  have HJx := Lib.hid hJx
  have HI := Lib.hid hInv
  have HF0 := Lib.hid hF0
  clear ih hJ hJx hInv hF0 hY hx h0 h3 hFx hfull
  unfold Hd.agg
  unfold Hd.agg at hP
  dsimp only at hP
  refine (callsIn_wide (n := 9)).1 ?_
  refine callsIn_of_wp_marks Try.func104 rfl trivial ?_ rfl
  simp only [Try.ntmps104, List.size_toArray, List.length_cons, List.length_nil, Nat.reduceAdd, Nat.reduceSub, Array.replicate_succ, Array.replicate_zero, List.push_toArray, List.append_toArray, List.nil_append, List.cons_append]
  gi_wp2
  refine hR.mono ?_
  rintro e X1 (⟨rfl, hJ1, hs1⟩ | ⟨rfl, hJ1, hs1⟩)
  · have hE3 := heap3 W (.cells #[.int .i64 op, .int .i64 nn, .string s, .slice p pl pc, .slice q ql qc, .bool o, .slice k kl kc] 38) (.cells #[.func (.yield l) #[] #[]] 46) (.cells #[.bool false] 4)
    have hbE := (hs1.2 W.heap.size (by rw [HF0.out]; exact .inl (.inl (.inr ⟨Nat.le_refl _, by omega⟩))) (by simp; omega)).trans hE3.1
    have hbY : Boxed X1 (W.heap.size + 1) 46 (.func (.yield l) #[] #[]) := (hs1.2 (W.heap.size + 1) (by rw [HF0.out]; exact .inl (.inr ⟨Nat.le_refl _, by omega⟩)) (by simp)).trans hE3.2.1
    have hbC : Boxed X1 (W.heap.size + 1 + 1) 4 (.bool false) := (hs1.2 (W.heap.size + 1 + 1) (by rw [HF0.out]; exact .inr ⟨Nat.le_refl _, by omega⟩) (by simp)).trans hE3.2.2
    have hst : Stays F W X1 := ⟨by have := hs1.1; simp at this; omega, fun i hi hl => (hs1.2 i (by rw [HF0.out]; exact .inl (.inl (.inl hi))) (by simp; omega)).trans ((Below.heap_alloc _ _ _ (by simp; omega)).trans ((Below.heap_alloc _ _ _ (by simp; omega)).trans (Below.heap_alloc _ _ _ hl)))⟩
    clear hE3
    clear hy hR
    have HS := Lib.hid hst
    have HJ1 := Lib.hid hJ1
    have hcE := BoxH.cells (X := X1) (b := W.heap.size) (h := ⟨op, nn, s, p, pl, pc, q, ql, qc, o, k, kl, kc⟩) hbE
    obtain ⟨d0, d1, d2, d3, d4, d5, d6⟩ := hcE
    dsimp only at d0 d1 d2 d3 d4 d5 d6
    simp only [Nat.zero_add] at d1 d2 d3 d4 d5 d6
    clear hst hJ1
    gi_wp2_with (gi_at_call 105; refine (callsIn_wide.2 (hP _).out).mono ?_; rintro e X2 ⟨gf, be, ob, rfl, hbe, hob, hb2, heg, hseq⟩)
    clear d0 d1 d2 d3 d4 d5 d6
    have hz1 : W.heap.size + 1 + 1 < X1.heap.size := hbC.lt
    have hz2 := hb2.size
    have hY2 : Boxed X2 (W.heap.size + 1) 46 (.func (.yield l) #[] #[]) := (hb2.block _ hbY.lt).trans hbY
    have hC2 : Boxed X2 (W.heap.size + 1 + 1) 4 (.bool false) := (hb2.block _ hbC.lt).trans hbC
    have hbl : be < X2.heap.size := (Array.getElem?_eq_some_iff.1 hob).1
    obtain ⟨F1, hF1⟩ : ∃ F1 : Nat → Prop, F1 = fun r => F0 r ∨ (X1.heap.size ≤ r ∧ r < X2.heap.size) := ⟨_, rfl⟩
    have hj2 := HJ.out.grow HJ1.out (grown_below hb2)
    rw [← hF1] at hj2
    obtain ⟨pre1, hpre1⟩ : ∃ pre1 : List HX, pre1 = pre ++ [(⟨op, nn, s, p, pl, pc, q, ql, qc, o, k, kl, kc⟩, x)] := ⟨_, rfl⟩
    rw [← hpre1] at hj2
    have f1Y : F1 (W.heap.size + 1) := by rw [hF1, HF0.out]; exact .inl (.inl (.inr ⟨Nat.le_refl _, by omega⟩))
    have f1C : F1 (W.heap.size + 1 + 1) := by rw [hF1, HF0.out]; exact .inl (.inr ⟨Nat.le_refl _, by omega⟩)
    have f1B : F1 be := by rw [hF1]; exact .inr ⟨hbe, hbl⟩
    have f1F : ∀ r, F r → F1 r := fun r hr => by rw [hF1, HF0.out]; exact .inl (.inl (.inl (.inl hr)))
    have hS2 : Stays F W X2 := HS.out.grown (grown_below hb2) (fun _ e => by cases e)
    clear hbE hbY hbC hs1 HJ1 HS hF1 hb2
    refine range_fit (gf := gf) (lb := #[.pointer (some ⟨be, 0, none⟩)]) (by decide) rfl heg hseq (fun _ => rfl) (TellI J n F1 pre1 X2) (TellX Jx n (fun r => F r ∧ r < W.heap.size) F1 pre1 X2 (W.heap.size + 1 + 1)) (tellI_fr HJ.out n F1 pre1 X2) (tellX_fr HJx.out n _ F1 pre1 X2 _ hC2.lt)
      (fun F2 ys X h2 => ⟨by obtain ⟨xs, _, hj⟩ := h2.got; exact HI.out _ _ _ hj, (h2.st.2 be f1B hbl).trans hob⟩)
      ⟨fun _ h => h.elim, Stays.refl _ _, [], rfl, by rw [List.append_nil]; exact HJ.out.less (fun r hr => hr.elim (fun h => h.elim) id) hj2⟩ ?round ?done ?stop
    case round =>
      rintro l2 F2 ys ⟨yh, yx⟩ X hl2 hrec hI2 hfit
      obtain ⟨op2, nn2, s2, p2, pl2, pc2, q2, ql2, qc2, o2, k2, kl2, kc2⟩ := yh
      have HF := Lib.hid hfit.1
      have HPX := Lib.hid hfit.2
      have HI2 := Lib.hid hI2
      have hlX : l2 < X.heap.size := by obtain ⟨r, hr⟩ := hrec; exact (Array.getElem?_eq_some_iff.1 hr).1
      clear hfit hI2 hrec
      dsimp only [encX, Hd.agg]
      gi_wp2
      refine ⟨⟨by simp, fun i _ hi => Below.heap_alloc _ _ _ hi⟩, (tellI_fr HJ.out n F1 pre1 X2).alloc HI2.out _, ?_⟩
      intro Y hYz hYo hYl hIY
      have hbx : BoxH Y X.heap.size ⟨op2, nn2, s2, p2, pl2, pc2, q2, ql2, qc2, o2, k2, kl2, kc2⟩ := (hYo _ (by omega)).trans (World.alloc_heap_new X _)
      obtain ⟨d0, d1, d2, d3, d4, d5, d6⟩ := hbx.cells
      dsimp only at d0 d1 d2 d3 d4 d5 d6
      simp only [Nat.zero_add] at d1 d2 d3 d4 d5 d6
      have hYY : Boxed Y (W.heap.size + 1) 46 (.func (.yield l) #[] #[]) := hIY.st.boxed f1Y hY2
      have hYC : Boxed Y (W.heap.size + 1 + 1) 4 (.bool false) := hIY.st.boxed f1C hC2
      have cy := hYY.cell
      have cc := hYC.cell
      have cf := hYC.frozen
      obtain ⟨xs, hxs, hj⟩ := hIY.got
      have hT := Lib.hid (HIH.out ⟨op2, nn2, s2, p2, pl2, pc2, q2, ql2, qc2, o2, k2, kl2, kc2⟩ yx (fun r => F2 r ∨ F1 r) (pre1 ++ xs) Y HF.out hj (by
        obtain ⟨t, ht⟩ := HFU.out
        obtain ⟨t2, ht2⟩ := HPX.out
        refine ⟨t2.flatMap (allN n) ++ t, ?_⟩
        rw [← ht, hpre1]
        show _ = pre.map (·.2) ++ x :: x.parts.flatMap (allN n) ++ t
        rw [← ht2, List.map_append, hxs]
        simp))
      have HXS := Lib.hid hxs
      have HIY := Lib.hid hIY
      have HYC := Lib.hid hYC
      clear hbx hYY hYC hj hxs hIY hYo hYz hYl
      unfold Hd.agg at hT
      dsimp only at hT
      gi_wp2_with (gi_at_call 104; refine (CallsIn.inRound l2 (callsIn_wide.2 hT.out)).mono ?_; rintro e Z (⟨rfl, ⟨zs, hzs, hjz⟩, hsz⟩ | ⟨rfl, ⟨zs, hzs, hjz⟩, hsz⟩); all_goals (have HZS := Lib.hid hzs; have HJZ := Lib.hid hjz; have HSZ := Lib.hid hsz; have HCZ := Lib.hid (hsz.boxed (.inr f1C) HYC.out); have cz := HCZ.out.cell; have fz := HCZ.out.frozen; clear hzs hjz hsz))
      · refine ⟨HSZ.out.less fun r hr => .inl hr, HIY.out.far, HIY.out.st.trans (HSZ.out.less fun r hr => .inr hr), xs ++ zs, ?_, ?_⟩
        · rw [List.map_append, List.map_append, List.flatMap_append, HXS.out, HZS.out]; simp
        · rw [← List.append_assoc]; exact HJZ.out
      · have hb5 := HCZ.out.set (.bool false)
        refine ⟨(HSZ.out.less fun r hr => .inl hr).grown (grownBy_setCell' _ _ _) (fun r e hr => by cases e; have := HIY.out.far _ hr; have := hC2.lt; omega), rfl, HIY.out.far, ?_, hb5, xs ++ zs, ?_, ?_⟩
        · exact ((HIY.out.st.less fun r hr => f1F r hr.1).trans (HSZ.out.less fun r hr => .inr (f1F r hr.1))).grown (grownBy_setCell' _ _ _) (fun r e hr => by cases e; have := hr.2; omega)
        · rw [List.map_append, List.map_append, List.flatMap_append, HXS.out]
          simpa using HZS.out
        · rw [← List.append_assoc]; exact HJx.out.put HJZ.out (.inr f1C) (grownBy_setCell' _ _ _)
    case done =>
      rintro D F2 ys X hD hys hI2 hKD
      have hXC : Boxed X (W.heap.size + 1 + 1) 4 (.bool false) := hI2.st.boxed f1C hC2
      have cc := hXC.cell
      have cf := hXC.frozen
      have HI2 := Lib.hid hI2
      have HKD := Lib.hid hKD
      have HYS := Lib.hid hys
      clear hI2 hKD hys
      gi_wp2
      have hne : D ≠ W.heap.size + 1 + 1 := fun e => by have := HI2.out.far _ hD; have := hC2.lt; omega
      have hK5 := (Below.heap_setCell X ⟨W.heap.size + 1 + 1, 0, none⟩ (.bool true) D hne).trans HKD.out
      refine ⟨by simp, .inl ⟨_, _, rfl, run_takeDeferred hK5, ?_⟩⟩
      have hb5 := (hXC.set (.bool true)).kept (grownBy_putObj' _ D (.deferred none)) (by simpa using fun e => hne e.symm)
      have cc5 := hb5.cell
      refine ⟨.bool true, by simp [results, Try.f104, go_sem, cc5], ?_⟩
      obtain ⟨xs, hxs, hj⟩ := HI2.out.got
      refine .inl ⟨rfl, ⟨(⟨op, nn, s, p, pl, pc, q, ql, qc, o, k, kl, kc⟩, x) :: xs, ?_, ?_⟩, ?_⟩
      · rw [List.map_cons, hxs, HYS.out]; rfl
      · refine HJ.out.less (F' := fun r => F2 r ∨ F1 r) (fun r hr => .inr (f1F r hr)) (HJ.out.put (HJ.out.put ?_ (.inr f1C) (grownBy_setCell' _ _ _)) (.inl hD) (grownBy_putObj' _ _ _))
        rw [hpre1, List.append_assoc] at hj
        exact hj
      · exact ((hS2.trans (HI2.out.st.less f1F)).grown (grownBy_setCell' _ _ _) (fun r e _ => by cases e; omega)).grown (grownBy_putObj' _ _ _) (fun r e _ => by cases e; have := HI2.out.far _ hD; omega)
    case stop =>
      rintro D F2 c ys X hD hys hI2 hKD
      obtain rfl := hI2.jump
      have cc := hI2.cell.cell
      have HI2 := Lib.hid hI2
      have HKD := Lib.hid hKD
      have HYS := Lib.hid hys
      clear hI2 hKD hys
      gi_wp2
      refine ⟨by simp, .inl ⟨_, _, rfl, run_takeDeferred HKD.out, ?_⟩⟩
      have hne : D ≠ W.heap.size + 1 + 1 := fun e => by have := HI2.out.far _ hD; have := hC2.lt; omega
      have hb5 := HI2.out.cell.kept (grownBy_putObj' _ D (.deferred none)) (by simpa using fun e => hne e.symm)
      have cc5 := hb5.cell
      refine ⟨.bool false, by simp [results, Try.f104, go_sem, cc5], ?_⟩
      obtain ⟨xs, hxs, hj⟩ := HI2.out.got
      refine .inr ⟨rfl, ⟨(⟨op, nn, s, p, pl, pc, q, ql, qc, o, k, kl, kc⟩, x) :: xs, ?_, ?_⟩, ?_⟩
      · rw [List.map_cons]
        obtain ⟨t1, ht1⟩ := hxs
        obtain ⟨t2, ht2⟩ := HYS.out
        exact ⟨t1 ++ t2.flatMap (allN n), by show x :: _ ++ _ = x :: x.parts.flatMap (allN n); rw [← ht2, List.flatMap_append, ← ht1]; simp⟩
      · refine HJx.out.less (F' := fun r => F2 r ∨ F1 r) (fun r hr => .inr (f1F r hr)) (HJx.out.put ?_ (.inl hD) (grownBy_putObj' _ _ _))
        rw [hpre1, List.append_assoc] at hj
        exact hj
      · have h5 : Stays (fun r => F r ∧ r < W.heap.size) W X := (hS2.less fun r hr => hr.1).trans HI2.out.st
        have h6 := h5.grown (grownBy_putObj' X D (.deferred none)) (fun r e _ => by cases e; have := HI2.out.far _ hD; omega)
        exact ⟨h6.1, fun i hF hi => h6.2 i ⟨hF, hi⟩ hi⟩
  · have hE3 := heap3 W (.cells #[.int .i64 op, .int .i64 nn, .string s, .slice p pl pc, .slice q ql qc, .bool o, .slice k kl kc] 38) (.cells #[.func (.yield l) #[] #[]] 46) (.cells #[.bool false] 4)
    have hbE := (hs1.2 W.heap.size (by rw [HF0.out]; exact .inl (.inl (.inr ⟨Nat.le_refl _, by omega⟩))) (by simp; omega)).trans hE3.1
    have hbY : Boxed X1 (W.heap.size + 1) 46 (.func (.yield l) #[] #[]) := (hs1.2 (W.heap.size + 1) (by rw [HF0.out]; exact .inl (.inr ⟨Nat.le_refl _, by omega⟩)) (by simp)).trans hE3.2.1
    have hbC : Boxed X1 (W.heap.size + 1 + 1) 4 (.bool false) := (hs1.2 (W.heap.size + 1 + 1) (by rw [HF0.out]; exact .inr ⟨Nat.le_refl _, by omega⟩) (by simp)).trans hE3.2.2
    have hst : Stays F W X1 := ⟨by have := hs1.1; simp at this; omega, fun i hi hl => (hs1.2 i (by rw [HF0.out]; exact .inl (.inl (.inl hi))) (by simp; omega)).trans ((Below.heap_alloc _ _ _ (by simp; omega)).trans ((Below.heap_alloc _ _ _ (by simp; omega)).trans (Below.heap_alloc _ _ _ hl)))⟩
    clear hE3
    have cc := hbC.cell
    have cf := hbC.frozen
    have HJ1 := Lib.hid hJ1
    clear hy hR hs1 hbE hbY hJ1
    gi_wp2
    have hb5 := hbC.set (.bool false)
    have cc5 := hb5.cell
    refine ⟨.bool false, by simp [results, Try.f104, go_sem, cc5], ?_⟩
    refine .inr ⟨rfl, ⟨[_], ?_, HJx.out.less (fun r hr => ?_) (HJx.out.put HJ1.out (r := W.heap.size + 1 + 1) ?_ (grownBy_setCell' _ _ _))⟩, hst.grown (grownBy_setCell' _ _ _) (fun r e _ => by cases e; omega)⟩
    · exact ⟨x.parts.flatMap (allN n), rfl⟩
    · rw [HF0.out]; exact .inl (.inl (.inl hr))
    · rw [HF0.out]; exact .inr ⟨Nat.le_refl _, by omega⟩
theorem tell_in (w0 : World) (l : Nat) (J Jx : (Nat → Prop) → List HX → World → Prop) (hJ : Fr J) (hJx : Fr Jx) (hInv : ∀ F pre X, J F pre X → Below w0.heap.size w0 X) (full : List Ex)
    (hY : ∀ m F pre x X, J F pre X → FitA w0 full pre x → YieldAt Fence.wide m Try.prog l (encX x) X fun e Y => (e = .returned (.bool true) ∧ J F (pre ++ [x]) Y ∧ Stays F X Y) ∨ (e = .returned (.bool false) ∧ Jx F (pre ++ [x]) Y ∧ Stays F X Y)) :
    ∀ (n : Nat) (h : Hd) (x : Ex) (F : Nat → Prop) (pre : List HX) (W : World), InX w0 n h x → J F pre W → pre.map (·.2) ++ allN n x <+: full → Calls Try.prog 104 #[h.agg, .func (.yield l) #[] #[]] W (TellPost J Jx F pre (allN n x) W)
  | 0, _, _, _, _, _, h, _, _ => h.elim
  | n + 1, h, x, F, pre, W, hx, h0, hf => tell_step w0 l J Jx hJ hJx hInv full hY n (tell_in w0 l J Jx hJ hJx hInv full hY n) h x F pre W hx h0 hf
set_option maxHeartbeats 1000000 in
theorem inOrder_fit (w0 : World) (n be : Nat) (h : Hd) (x : Ex) (hx : InX w0 n h x) :
    FitSeq Try.prog 103 #[.pointer (some ⟨be, 0, none⟩)] encX (fun X => Below w0.heap.size w0 X ∧ BoxH X be h) (FitA w0 (allN n x)) (fun xs => xs.map (·.2) = allN n x) (fun pre => pre.map (·.2) <+: allN n x) := by
  intro l J Jx W hJ hJx hInv hY h0
  have hw1 : ∀ f, Fence.wide.fn f := fun _ => trivial
  have hw2 : Fence.wide.depth.isSome = false := rfl
  have hT := tell_in w0 l J Jx hJ hJx (fun F pre X hj => (hInv F pre X hj).1) (allN n x) hY n h x none_ [] W hx h0 (by simp)
  have hbx := (hInv _ [] W h0).2
  have hbl := hbx.lt
  obtain ⟨op, nn, s, p, pl, pc, q, ql, qc, o, k, kl, kc⟩ := h
  obtain ⟨d0, d1, d2, d3, d4, d5, d6⟩ := hbx.cells
  dsimp only at d0 d1 d2 d3 d4 d5 d6
  simp only [Nat.zero_add] at d1 d2 d3 d4 d5 d6
  unfold Hd.agg at hT
  dsimp only at hT
  have HT := Lib.hid hT
  clear hT hY hJ hJx hInv hbx hx h0
  refine (callsIn_wide (n := 9)).1 ?_
  refine callsIn_of_wp Try.func103 rfl trivial ?_ rfl
  simp only [Try.ntmps103, List.size_toArray, List.length_cons, List.length_nil, Nat.reduceAdd, Nat.reduceSub, Array.replicate_succ, Array.replicate_zero, List.push_toArray, List.append_toArray, List.nil_append, List.cons_append]
  gi_wp2_with (gi_at_call 104; refine (callsIn_wide.2 HT.out).mono ?_; rintro e Z (⟨rfl, ⟨zs, hzs, hjz⟩, -⟩ | ⟨rfl, ⟨zs, hzs, hjz⟩, -⟩))
  · go_end0
    exact ⟨⟨_, rfl⟩, .inl ⟨zs, hzs, hjz⟩⟩
  · go_end0
    exact ⟨⟨_, rfl⟩, .inr ⟨zs, hzs, hjz⟩⟩
end Go.Proofs.Ytngnegnofmpgkaa
/- WALK of expr's Right. -/
namespace Go.Proofs.Ytngnegnofmpgkaa
open Go.RowKit Go.Shelf
attribute [local go_sem] Oper.semAt_some
/-- What a caller keeps: what lies below B, whatever becomes of what lies beyond. -/
structure LowI {α : Type} (B : Nat) (Q : List α → World → Prop) (F : Nat → Prop) (pre : List α) (X : World) : Prop where
  far : ∀ r, F r → B ≤ r
  size : B ≤ X.heap.size
  held : Q pre X
def Low {α : Type} (B : Nat) (Q : List α → World → Prop) : Prop := ∀ pre X Y row, Q pre X → B ≤ X.heap.size → X.grownBy Y row → (∀ r, row = some r → B ≤ r) → Q pre Y
theorem fr_low {α : Type} {B : Nat} {Q : List α → World → Prop} (hQ : Low B Q) : Fr (LowI B Q) where
  grow := fun {F pre X Y} h hg => ⟨fun r hr => hr.elim (h.far r) (fun h3 => Nat.le_trans h.size h3.1), Nat.le_trans h.size hg.size, hQ _ X Y none h.held h.size hg (fun _ e => by cases e)⟩
  put := fun {F pre X Y r} h hr hg => ⟨h.far, Nat.le_trans h.size hg.size, hQ _ X Y (some r) h.held h.size hg (fun k e => by cases e; exact h.far _ hr)⟩
  less := fun hF h => ⟨fun r hr => h.far r (hF r hr), h.size, h.held⟩
theorem low_below {α : Type} {B : Nat} {w : World} (h : w.heap.size ≤ B) : Low B (fun (_ : List α) X => Below w.heap.size w X) := fun _ _ _ _ hq _ hg hr => hq.grown hg hq.size (fun k e => Nat.le_trans h (hr k e))
theorem low_box {α : Type} {B b : Nat} {t : TypeId} (f : List α → Value) (hb : b < B) : Low B (fun pre X => Boxed X b t (f pre)) := fun _ _ _ _ hq _ hg hr => hq.kept hg (fun e => by have := hr _ e.symm; omega)
theorem low_boxH {α : Type} {B b : Nat} (h : Hd) (hb : b < B) : Low B (fun (_ : List α) X => BoxH X b h) := fun _ _ _ _ hq _ hg hr => (hg.block b hq.lt (fun e => by have := hr _ e.symm; omega)).trans hq
theorem low_pure {α : Type} {B : Nat} (p : List α → Prop) : Low B (fun pre _ => p pre) := fun _ _ _ _ hq _ _ _ => hq
theorem Low.and {α : Type} {B : Nat} {Q R : List α → World → Prop} (h : Low B Q) (k : Low B R) : Low B (fun pre X => Q pre X ∧ R pre X) := fun pre X Y row hq hs hg hr => ⟨h pre X Y row hq.1 hs hg hr, k pre X Y row hq.2 hs hg hr⟩
/-- All so far are right of themselves. -/
def RightQ (w : World) (h : Hd) (pre : List HX) (X : World) : Prop := (∀ y ∈ pre, ownB y.2 = true) ∧ Below w.heap.size w X ∧ BoxH X (w.heap.size + 1 + 1) h ∧ Boxed X (w.heap.size + 1) 4 (.bool false)
def RightX (w : World) (c : Code) (pre : List HX) (X : World) : Prop := (c = .ret ∧ ∃ y ∈ pre, ownB y.2 = false) ∧ Below w.heap.size w X ∧ Boxed X (w.heap.size + 1) 4 (.bool false)
noncomputable def rightB (n : Nat) (x : Ex) : Bool := (allN n x).all ownB
end Go.Proofs.Ytngnegnofmpgkaa
/- A DRAWN REGION IN A ROUND of a range over a function; its operations one by one. -/
namespace Go.Proofs.Ytngnegnofmpgkaa
open Go.RowKit
theorem oper_in {l n : Nat} {P : Program} {o : Oper} {a : Act} {w : World} {K : Act → World → Prop} {Q : Exit → Act → World → Prop} (hd : ∀ c, o.op ≠ .defer c) (h : o.wp P a w K Q) : o.wpIn (Fence.wide.inRound l) n P a w K Q := by
  refine ⟨fun _ _ => trivial, ?_⟩
  rw [show (Fence.wide.inRound l).round = some l from rfl, Oper.semAt_some l _ _ hd]
  unfold Oper.wp at h
  generalize (execOp a.eval o).run P w = r at *
  cases r with
  | ok x w' =>
    cases x with
    | value v => exact h
    | skip => exact h
    | defer d => exact h
    | enter f args => exact ⟨(fun h1 => by cases h1), (callsIn_wide (n := n - 1)).2 h⟩
    | row row args => exact ⟨(fun h1 => by cases h1), fun c cs _ => by
        obtain ⟨v, w2, hR, hS⟩ := h c cs
        exact ⟨v, w2, hR, stepsIn_wide.2 hS⟩⟩
    | _ => exact h.elim
  | halt x w' => cases x <;> exact h
theorem any_in {l n : Nat} {P : Program} {md : Region.Mode} {ops : Array Oper} {Q : Exit → Act → World → Prop} (hd : ∀ (j : Nat) (o : Oper) c, ops[j]? = some o → o.op ≠ .defer c) (hQ : ¬ LetsOut Q) :
    ∀ (fuel : Nat) (listed : Array Bool) (a : Act) (w : World), wpAny P md ops Q fuel listed a w → wpAnyIn (Fence.wide.inRound l) n P md ops Q fuel listed a w
  | 0, _, _, _, h => h
  | fuel + 1, _, _, _, h => ⟨h.1, fun i hi => by
    have h2 := h.2 i hi
    unfold wpOp at h2
    unfold wpOpIn
    cases ho : ops[i]? with
    | none => rw [ho] at h2; exact any_in hd hQ fuel _ _ _ h2
    | some o =>
      rw [ho] at h2
      simp only at h2 ⊢
      split
      · rename_i hw
        rw [if_pos hw] at h2
        rcases h2 with h2 | ⟨_, h3⟩
        · exact oper_in (hd i o · ho) (Oper.wp_mono (fun a w => any_in hd hQ fuel _ a w) h2)
        · exact absurd h3 hQ
      · rename_i hw
        rw [if_neg hw] at h2
        exact ⟨fun _ _ => trivial, any_in hd hQ fuel _ _ _ h2⟩⟩
theorem region_in {l n : Nat} {P : Program} {id : Nat} {ops : Array Oper} {Q : Exit → Act → World → Prop} {S : World → Prop} {a : Act} {w : World} (hm : P.follows .mixedOrders = true) (hd : ∀ (j : Nat) (o : Oper) c, ops[j]? = some o → o.op ≠ .defer c) (hQ : ¬ LetsOut Q)
    (h : wpAnyH P .any ops Q S ops.size (Array.replicate ops.size false) a { w with drawn := w.drawn + 1 }) : (Code.region id ops true).wpIn (Fence.wide.inRound l) n P Q a w :=
  wpIn_region_any hm (any_in hd hQ _ _ _ _ (wpAny_of_held _ _ _ _ h))
def noDefer (ops : Array Oper) : Bool := ops.all fun o => match o.op with | .defer _ => false | _ => true
theorem noDefer_spec {ops : Array Oper} (h : noDefer ops = true) (j : Nat) (o : Oper) (c : Call) (ho : ops[j]? = some o) : o.op ≠ .defer c := by
  intro heq
  have := Array.all_eq_true_iff_forall_mem.1 h o (Array.mem_of_getElem? ho)
  simp [heq] at this

section
variable {P : Program} {md : Region.Mode} {ops : Array Oper} {Q : Exit → Act → World → Prop} {S : World → Prop}
theorem take_at' {i : Nat} {oi : Oper} (d : Nat) {v : Value} {fuel : Nat} {listed : Array Bool} {a : Act} {w : World} (hi : ops[i]? = some oi) (hd : oi.dst = some d)
    (hs : Region.noSelect ops = true) (hf : Region.free md ops listed i = true) (hr : (Region.ready md ops listed).contains i = true)
    (hQ : ∀ c a w, Q (.panic c) (a.put oi.dst v) w → Q (.panic c) a w) (hy : YieldsIf P ops S oi v a) (hS : S w)
    (h : wpAnyH P md ops Q S fuel (listed.setIfInBounds i true) { a with tmps := a.tmps.setIfInBounds d v } w) : wpAnyH P md ops Q S (fuel + 1) listed a w :=
  wpAnyH_take hi hs hf hr hQ hy hS (by rw [hd]; exact h)
theorem value_at {i : Nat} {o : Oper} (d : Nat) {a : Act} {w w' : World} {v : Value} {K : Act → World → Prop} (ho : ops[i]? = some o) (hd : o.dst = some d) (hw : Region.wanted o (yielded ops a.tmps) = true) (hr : (execOp a.eval o).run P w = .ok (.value v) w') (h : K { a with tmps := a.tmps.setIfInBounds d v } w') : wpOp P ops Q i K a w := by
  unfold wpOp
  simp only [ho, hw, if_true, Oper.wp, hr, Oper.upon]
  exact .inl (by rw [hd]; exact h)
theorem skip_at {i : Nat} {o : Oper} {a : Act} {w w' : World} {K : Act → World → Prop} (ho : ops[i]? = some o) (hd : o.dst = none) (hw : Region.wanted o (yielded ops a.tmps) = true) (hr : (execOp a.eval o).run P w = .ok .skip w') (h : K a w') : wpOp P ops Q i K a w := by
  unfold wpOp
  simp only [ho, hw, if_true, Oper.wp, hr, Oper.upon]
  exact .inl (by rw [hd]; exact h)
theorem call_at {i : Nat} {o : Oper} (d : Nat) {a : Act} {w w' : World} {f : FuncId} {args : Array Value} {K : Act → World → Prop} (ho : ops[i]? = some o) (hd : o.dst = some d) (hw : Region.wanted o (yielded ops a.tmps) = true) (hr : (execOp a.eval o).run P w = .ok (.enter f args) w')
    (h : Calls P f args w' fun e w2 => ∃ u, e = .returned u ∧ K { a with tmps := a.tmps.setIfInBounds d u } w2) : wpOp P ops Q i K a w := by
  unfold wpOp
  simp only [ho, hw, if_true, Oper.wp, hr, Oper.upon]
  exact .inl (h.mono fun e w2 ⟨u, he, hk⟩ => by subst he; rw [hd]; exact hk)
theorem append_run {o : Oper} {a : Act} {s x : Operand} {t : TypeId} {w w' : World} {v u r : Value} (hop : o.op = Op.call { callee := Callee.builtin Builtin.append, args := #[s, x], argTypes := #[t, t] }) (hs : a.eval s = v) (hx : a.eval x = u)
    (hrun : (Builtin.append_ #[t, t] o.type #[v, u]).run P w = .ok r w') : (execOp a.eval o).run P w = .ok (.value r) w' := by
  simp [execOp, hop, resolve, invoke, builtin, hs, hx, hrun, Result.andThen]
end
end Go.Proofs.Ytngnegnofmpgkaa
/- WALKS of expr's Size and Depth. -/
namespace Go.Proofs.Ytngnegnofmpgkaa
open Go.RowKit Go.Shelf
attribute [local go_sem] Oper.semAt_some
def szW : Nat → Int
  | 0 => 0
  | k + 1 => wrap64 (szW k + 1)
theorem szW_is : ∀ (k : Nat), k ≤ 1000000000 → szW k = k
  | 0, _ => rfl
  | k + 1, h => by
    show wrap64 (szW k + 1) = _
    rw [szW_is k (by omega)]; unfold wrap64; omega
/-- A number, and nothing that was there has changed. -/
def IntP (n : Int) (w : World) (e : Ending) (w' : World) : Prop := e = .returned (.int .i64 n) ∧ Below w.heap.size w w'
def SizeQ (w : World) (h : Hd) (pre : List HX) (X : World) : Prop := Below w.heap.size w X ∧ BoxH X (w.heap.size + 1 + 1) h ∧ Boxed X (w.heap.size + 1) 3 (.int .i64 (szW pre.length))
end Go.Proofs.Ytngnegnofmpgkaa
/- WALK of expr's Depth. -/
namespace Go.Proofs.Ytngnegnofmpgkaa
open Go.RowKit Go.Shelf
attribute [local go_sem] Oper.semAt_some
theorem low_heap {α : Type} {B b : Nat} (ob : Obj) (hb : b < B) : Low B (fun (_ : List α) X => X.heap[b]? = some ob) := fun _ _ _ _ hq _ hg hr => (hg.block _ (Array.getElem?_eq_some_iff.1 hq).1 (fun e => by have := hr _ e.symm; omega)).trans hq
def mxL (l : List Int) : Int := l.foldl (fun a b => max a b) 0
theorem mxL_snoc (l : List Int) (x : Int) : mxL (l ++ [x]) = max (mxL l) x := by simp [mxL]
def depW : Nat → Ex → Int
  | 0, _ => 0
  | n + 1, x => wrap64 (1 + mxL (x.parts.map (depW n)))
def DepQ (w : World) (n be : Nat) (ob : Obj) (pre : List HX) (X : World) : Prop := Below w.heap.size w X ∧ X.heap[be]? = some ob ∧ Boxed X (w.heap.size + 1) 3 (.int .i64 (mxL ((pre.map (·.2)).map (depW n))))
end Go.Proofs.Ytngnegnofmpgkaa
/- WALKS of slices.Equal at texts, slices.EqualFunc at expressions. -/
namespace Go.Proofs.Ytngnegnofmpgkaa.Nm
open Go.RowKit
end Go.Proofs.Ytngnegnofmpgkaa.Nm
namespace Go.Proofs.Ytngnegnofmpgkaa
open Go.RowKit
noncomputable def eqB {α : Type} (a b : α) : Bool := @decide (a = b) (Classical.propDecidable _)
theorem eqB_yes {α : Type} {a b : α} (h : a = b) : eqB a b = true := by unfold eqB; exact @decide_eq_true _ (Classical.propDecidable _) h
theorem eqB_no {α : Type} {a b : α} (h : ¬ a = b) : eqB a b = false := by unfold eqB; exact @decide_eq_false _ (Classical.propDecidable _) h
theorem of_eqB {α : Type} {a b : α} (h : eqB a b = true) : a = b := by unfold eqB at h; exact @of_decide_eq_true _ (Classical.propDecidable _) h
theorem not_eqB {α : Type} {a b : α} (h : eqB a b = false) : ¬ a = b := by unfold eqB at h; exact @of_decide_eq_false _ (Classical.propDecidable _) h
theorem eqB_iff {α β : Type} {a b : α} {c d : β} (h : a = b ↔ c = d) : eqB a b = eqB c d := by
  by_cases e : a = b
  · rw [eqB_yes e, eqB_yes (h.1 e)]
  · rw [eqB_no e, eqB_no (fun k => e (h.2 k))]
theorem sameB_eq (xs ys : List ByteArray) : Nm.sameB xs ys = eqB xs ys := by
  by_cases e : xs = ys
  · rw [eqB_yes e, e]; simp [Nm.sameB]
  · rw [eqB_no e]
    refine decide_eq_false fun h => e ?_
    refine List.ext_getElem (by have := congrArg List.length h; simpa [Nm.bl] using this) fun i h1 h2 => ?_
    have h3 : (Nm.bl xs)[i]'(by simpa [Nm.bl] using h1) = (Nm.bl ys)[i]'(by simpa [Nm.bl] using h2) := by simp only [h]
    simp only [Nm.bl, List.getElem_map] at h3
    exact ByteArray.ext (Array.toList_inj.1 h3)
theorem rsame_eq (a a' : Option Addr) (len cap len' cap' : Nat) (xs ys : List ByteArray) (w : World) (hS : Nm.StrRow w a len xs) (hT : Nm.StrRow w a' len' ys) : Calls Try.prog 8 #[.slice a len cap, .slice a' len' cap'] w (BoolP (eqB xs ys) w) := by
  rw [← sameB_eq]; exact Nm.same_any a a' len cap len' cap' xs ys w hS hT
theorem take_all {α : Type} {xs ys : List α} (hl : xs.length = ys.length) (h : xs.take xs.length = ys.take xs.length) : xs = ys := by
  rw [List.take_length, hl, List.take_length] at h; exact h
theorem take_next {α : Type} {xs ys : List α} {k : Nat} (h1 : k < xs.length) (h2 : k < ys.length) (h : xs.take k = ys.take k) (e : xs[k] = ys[k]) : xs.take (k + 1) = ys.take (k + 1) := by
  rw [List.take_succ_eq_append_getElem h1, List.take_succ_eq_append_getElem h2, h, e]
end Go.Proofs.Ytngnegnofmpgkaa
/- WALKS of slices.EqualFunc at pairs, expr's samePair and Same. -/
namespace Go.Proofs.Ytngnegnofmpgkaa
open Go.RowKit
/-- A pair as it is handed over. -/
def Hd.pair (h : Hd) (nm : ByteArray) : Value := .agg #[.string nm, .int .i64 h.op, .int .i64 h.n, .string h.s, .slice h.p h.pl h.pc, .slice h.q h.ql h.qc, .bool h.o, .slice h.k h.kl h.kc]
end Go.Proofs.Ytngnegnofmpgkaa
/- WALKS of expr's samePair and Same. -/
namespace Go.Proofs.Ytngnegnofmpgkaa
open Go.RowKit
theorem text_ne {a b : ByteArray} (h : (a.toList == b.toList) = false) : ¬ a = b := fun e => by subst e; simp at h
theorem text_eq {a b : ByteArray} (h : (a.toList == b.toList) = true) : a = b := by
  rw [Lib.toList_data, Lib.toList_data] at h
  exact ByteArray.ext (Array.toList_inj.1 (by simpa using h))
theorem mk_inj {op n : Int} {s : ByteArray} {pa : List ByteArray} {ps : List (ByteArray × Ex)} {o : Bool} {ks : List Ex} {op2 n2 : Int} {s2 : ByteArray} {pa2 : List ByteArray} {ps2 : List (ByteArray × Ex)} {o2 : Bool} {ks2 : List Ex} :
    Ex.mk op n s pa ps o ks = Ex.mk op2 n2 s2 pa2 ps2 o2 ks2 ↔ op = op2 ∧ n = n2 ∧ s = s2 ∧ pa = pa2 ∧ ps = ps2 ∧ o = o2 ∧ ks = ks2 :=
  ⟨fun e => by injection e with h1 h2 h3 h4 h5 h6 h7; exact ⟨h1, h2, h3, h4, h5, h6, h7⟩, fun ⟨h1, h2, h3, h4, h5, h6, h7⟩ => by rw [h1, h2, h3, h4, h5, h6, h7]⟩
end Go.Proofs.Ytngnegnofmpgkaa
/- WALK of the reference's Same of expressions. -/
namespace Go.Proofs.Ytngnegnofmpgkaa
open Go.RowKit
theorem region_class {P : Program} {C : World → Prop} {id : Nat} {Q : Exit → Act → World → Prop} {a : Act} {w : World} {l : List Oper} (hm : P.follows .mixedOrders = true) (hB : Region.lexB .any l.toArray = true)
    (hC : C { w with drawn := w.drawn + 1 }) (h : wpQuiet P l.toArray C (fun a' => ∀ w', C w' → Q .normal a' w') l a) : (Code.region id l.toArray true).wp P Q a w :=
  wp_region_quiet (C := C) hm hB hC (by simpa using h)
/-- Two expressions' cells, with their names, and the lists' headers in two boxes. -/
structure Two (W : World) (B1 B2 off1 off2 : Nat) (v1 v2 : Value) (b1 o1 b2 o2 : Nat) (x y : Hd) : Prop where
  h1 : W.cell? ⟨B1, off1, none⟩ = some v1
  h2 : W.cell? ⟨B2, off2, none⟩ = some v2
  x : HdAt W b1 o1 x
  y : HdAt W b2 o2 y
theorem Two.below {W W' : World} {B1 B2 off1 off2 : Nat} {v1 v2 : Value} {b1 o1 b2 o2 : Nat} {x y : Hd} (h : Two W B1 B2 off1 off2 v1 v2 b1 o1 b2 o2 x y) (hb : Below W.heap.size W W') (l1 : B1 < W.heap.size) (l2 : B2 < W.heap.size) (l3 : b1 < W.heap.size) (l4 : b2 < W.heap.size) : Two W' B1 B2 off1 off2 v1 v2 b1 o1 b2 o2 x y :=
  ⟨(hb.cell (p := ⟨B1, off1, none⟩) l1).trans h.h1, (hb.cell (p := ⟨B2, off2, none⟩) l2).trans h.h2, h.x.below hb l3, h.y.below hb l4⟩
end Go.Proofs.Ytngnegnofmpgkaa
