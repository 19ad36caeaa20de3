/- WALK of ExprWalks. -/
import Derived.Test.YtngikbimlhoigaaDoorWh
import Derived.Test.YtngikbimlhoigaaDoorWg
import Derived.Test.YtngikbimlhoigaaDoorUh
import Derived.Test.YtngikbimlhoigaaDoorWj
import Derived.Sort.CutIn
import Derived.Deep.RegionHeld3
namespace Go.Proofs.YtngikbimlhoigaaDoor
open Go.RowKit Go.Shelf
attribute [local go_sem] Oper.semAt_some
/-- Within the walk: n's box alone was written. -/
def WkQ (Wb : World) (nb : Nat) (u : Int) (pre : List HX) (X : World) : Prop := (pre.length : Int) ≤ u ∧ Wb.grownBy X (some nb) ∧ Boxed X nb 3 (.int .i64 pre.length)
theorem low_wkq {Wb : World} {nb B : Nat} {u : Int} (hB : Wb.heap.size ≤ B) (hn : nb < B) : Low B (WkQ Wb nb u) := fun pre X Y row hq hs hg hr =>
  ⟨hq.1, ⟨hg.os.trans hq.2.1.os, hg.tape.trans hq.2.1.tape, hg.output.trans hq.2.1.output, Nat.le_trans hq.2.1.size hg.size, fun i hi hne => (hg.block i (Nat.lt_of_lt_of_le hi hq.2.1.size) (fun e => by have := hr i e.symm; omega)).trans (hq.2.1.block i hi hne)⟩, hq.2.2.kept hg (fun e => by have := hr _ e.symm; omega)⟩
theorem prefix_at {pre : List HX} {z : HX} {L : List Ex} (h : (pre ++ [z]).map (·.2) <+: L) : ∃ hl : pre.length < L.length, L[pre.length] = z.2 := by
  obtain ⟨t, rfl⟩ := h
  have h1 : ((pre ++ [z]).map (·.2) ++ t)[pre.length]? = some z.2 := by simp
  exact List.getElem?_eq_some_iff.1 h1
set_option maxRecDepth 100000 in
set_option maxHeartbeats 16000000 in
theorem walks_walk (w : World) (n : Nat) (h : Hd) (x : Ex) (m : Int) (hm0 : 0 ≤ m) (hm1 : m ≤ 255) (hx : InX w n h x) (hs : Slim n x) (hE : Nm.Env w) : Calls Tryd.prog 4 #[h.agg, .int .u8 m] w (BoolP true w) := by
  have hw1 : ∀ f, Fence.wide.fn f := fun _ => trivial
  have hw2 : Fence.wide.depth.isSome = false := rfl
  obtain ⟨op, nn, s, p, pl, pc, q, ql, qc, o, k, kl, kc⟩ := h
  have CW : ∀ W, Below w.heap.size w W → Hid (Calls Tryd.prog 7 #[] W (BoolP true W)) := fun W hW => awake_any W (hE.below hW)
  have FA : ∀ W, Below w.heap.size w W → Hid (Calls Tryd.prog 6 #[.agg #[.int .i64 op, .int .i64 nn, .string s, .slice p pl pc, .slice q ql qc, .bool o, .slice k kl kc]] W (FewP (tN n x) W)) := fun W hW => few_any w W n ⟨op, nn, s, p, pl, pc, q, ql, qc, o, k, kl, kc⟩ x hx hW
  have KA : tN n x ≤ 200 → ∀ W, Below w.heap.size w W → Hid (Calls Tryd.prog 13 #[.agg #[.int .i64 op, .int .i64 nn, .string s, .slice p pl pc, .slice q ql qc, .bool o, .slice k kl kc]] W (AllP w (allN n x) W)) := fun ht W hW => all_any w n ⟨op, nn, s, p, pl, pc, q, ql, qc, o, k, kl, kc⟩ x W hx hW (by omega)
  have KW : ∀ W, Below w.heap.size w W → Hid (Calls Tryd.prog 18 #[.agg #[.int .i64 op, .int .i64 nn, .string s, .slice p pl pc, .slice q ql qc, .bool o, .slice k kl kc]] W (WalkP W n x)) := fun W hW => walk_any W n ⟨op, nn, s, p, pl, pc, q, ql, qc, o, k, kl, kc⟩ x (hx.below hW) hs
  have KR : tN n x ≤ 200 → ∀ W, Below w.heap.size w W → Hid (Calls Tryd.prog 20 #[.agg #[.int .i64 op, .int .i64 nn, .string s, .slice p pl pc, .slice q ql qc, .bool o, .slice k kl kc]] W (TxtsP (refsL (allN n x)) W)) := fun ht W hW => refs_any W n ⟨op, nn, s, p, pl, pc, q, ql, qc, o, k, kl, kc⟩ x (hx.below hW) (by have := allN_le n x; omega)
  have KRR : tN n x ≤ 200 → ∀ W, Below w.heap.size w W → Hid (Calls Tryd.prog 21 #[.agg #[.int .i64 op, .int .i64 nn, .string s, .slice p pl pc, .slice q ql qc, .bool o, .slice k kl kc]] W (TxtsP (refsL (allN n x)) W)) := fun ht W hW => rrefs_any w W n ⟨op, nn, s, p, pl, pc, q, ql, qc, o, k, kl, kc⟩ x hx hW (by omega)
  have HTZ := Lib.hid (allN_le n x)
  have HTS : Hid (∀ y ∈ refsL (allN n x), y.size ≤ 140737488355328) := refs_small hx
  have HB1 : Hid (Below w.heap.size w (((w.alloc (.cells #[.int .i64 op, .int .i64 nn, .string s, .slice p pl pc, .slice q ql qc, .bool o, .slice k kl kc] 26)).alloc (.cells #[.int .u8 m] 5)).alloc (.cells #[.bool false] 4))) := below_alloc (below_alloc (below_alloc (Below.refl _ _) _) _) _
  clear hx hs hE
  unfold Hd.agg
  dsimp only
  refine (callsIn_wide (n := 9)).1 ?_
  refine callsIn_of_wp_marks Tryd.func4 rfl trivial ?_ rfl
  simp only [Tryd.ntmps4, List.size_toArray, List.length_cons, List.length_nil, Nat.reduceAdd, Nat.reduceSub, Array.replicate_succ, Array.replicate_zero, List.push_toArray, List.append_toArray, List.nil_append, List.cons_append]
  gi_wp2_with fail
  gi_at_call 6; refine (callsIn_wide.2 (FA _ HB1.out).out).mono ?_; rintro e w1 ⟨ba, rfl, hb1, hs1⟩
  obtain ⟨hcc, hff⟩ := bcell hb1
  have HB2 := Lib.hid (below_step HB1.out hb1)
  have HBX : Hid (BoxH w1 w.heap.size ⟨op, nn, s, p, pl, pc, q, ql, qc, o, k, kl, kc⟩ ∧ Boxed w1 (w.heap.size + 1) 5 (.int .u8 m) ∧ Boxed w1 (w.heap.size + 1 + 1) 4 (.bool false)) := by
    have h3 := heap3 w (.cells #[.int .i64 op, .int .i64 nn, .string s, .slice p pl pc, .slice q ql qc, .bool o, .slice k kl kc] 26) (.cells #[.int .u8 m] 5) (.cells #[.bool false] 4)
    exact ⟨(hb1.block _ (by simp <;> omega)).trans h3.1, (hb1.block _ (by simp <;> omega)).trans h3.2.1, (hb1.block _ (by simp <;> omega)).trans h3.2.2⟩
  have HS1 := Lib.hid hs1
  have cz := HBX.out.2.2.cell
  have fz := HBX.out.2.2.frozen
  cases ba
  · clear hb1 hs1
    gi_wp2_with (gi_at_call 7; refine (callsIn_wide.2 (CW _ HB2.out).out).mono ?_; rintro e w5 ⟨rfl, hb5⟩; have HB5 := Lib.hid hb5; have hx5 : Boxed w5 (w.heap.size + 1 + 1) 4 (.bool false) := (hb5.block _ HBX.out.2.2.lt).trans HBX.out.2.2; have cz5 := hx5.cell; have fz5 := hx5.frozen; have HX5 := Lib.hid hx5; clear hb5 hx5)
    have hc := (HX5.out.set (.bool true)).cell
    exact ⟨.bool true, by simp [results, Tryd.results4, go_sem, hc], rfl, (below_step HB2.out HB5.out).setCell (p := ⟨w.heap.size + 1 + 1, 0, none⟩) (by simp <;> omega) _⟩
  · have ht : tN n x ≤ 200 := by first | exact HS1.out rfl | exact HS1.out trivial
    replace KA := KA ht
    replace KR := KR ht
    replace KRR := KRR ht
    obtain ⟨A, hA⟩ : ∃ A, allN n x = A := ⟨_, rfl⟩
    have hAl : A.length ≤ 200 := by have := HTZ.out; rw [hA] at this; omega
    rw [hA] at KA KR KRR HTS
    have HA := Lib.hid hA
    clear hs1 ht HS1 HTZ hA FA
    have hnilf : ∀ (W : World) (b : Nat), (binOp .eql 35 (.func (.func 43) #[] #[.pointer (some ⟨b, 0, none⟩)]) .nilFunc).run Tryd.prog W = .ok (.bool false) W := fun _ _ => by kernel_rfl
    gi_wp2_with (first
      | (gi_at_call 13; refine (callsIn_wide.2 (KA _ HB2.out).out).mono ?_; rintro e w2 ⟨v, L, rfl, hO, hL, hI, hb2⟩; obtain ⟨a, c, rfl, hk⟩ := row_ks (I := fun h x => ∃ m, InX w m h x) hO rfl (by have h1 := congrArg List.length hL; rw [List.length_map] at h1; omega) hI; rw [hL] at hk; have hLl : L.length = A.length := by { rw [← hL, List.length_map] }; rw [hLl] at hk ⊢; have HK := Lib.hid hk; have HB3 := Lib.hid (below_step HB2.out hb2); have HBX2 := Lib.hid (below_alloc hb2 (.cells #[.slice a A.length c] 24)); have hx2 : BoxH (w2.alloc (.cells #[.slice a A.length c] 24)) w.heap.size ⟨op, nn, s, p, pl, pc, q, ql, qc, o, k, kl, kc⟩ := (HBX2.out.block _ HBX.out.1.lt).trans HBX.out.1; obtain ⟨d0, d1, d2, d3, d4, d5, d6⟩ := hx2.cells; dsimp only at d0 d1 d2 d3 d4 d5 d6; simp only [Nat.zero_add] at d1 d2 d3 d4 d5 d6; clear hb2 hO hL hI hk hLl hx2)
      | (gi_at_call 18; refine (callsIn_wide.2 (KW _ (below_alloc HB3.out _)).out).mono ?_; rintro e w3 ⟨be, hw, rfl, hb3, hbe, hbx, hi3⟩; have HB4 := Lib.hid hb3; have HW := Lib.hid (And.intro hbe (And.intro hbx hi3)); clear hb3 hbe hbx hi3))
    have HWX : Hid (∀ W, Below w3.heap.size w3 W → BoxH W w.heap.size ⟨op, nn, s, p, pl, pc, q, ql, qc, o, k, kl, kc⟩ ∧ Boxed W (w.heap.size + 1) 5 (.int .u8 m) ∧ Boxed W (w.heap.size + 1 + 1) 4 (.bool false) ∧ Boxed W w2.heap.size 24 (.slice a A.length c)) := fun W hW => by
      have h1 := below_step (below_step HBX2.out HB4.out) hW
      have h2 := below_step HB4.out hW
      exact ⟨(h1.block _ HBX.out.1.lt).trans HBX.out.1, (h1.block _ HBX.out.2.1.lt).trans HBX.out.2.1, (h1.block _ HBX.out.2.2.lt).trans HBX.out.2.2, (h2.block _ (by simp)).trans (World.alloc_heap_new w2 _)⟩
    have HBW := Lib.hid (below_step (below_alloc HB3.out (.cells #[.slice a A.length c] 24)) HB4.out)
    have HK3 : Hid (InKs (fun h x => ∃ m, InX w3 m h x) w3 a A.length A) := InKs.below (fun _ _ h => by obtain ⟨m', hm'⟩ := h; exact ⟨m', hm'.below HBW.out⟩) (below_step ((Below.refl _ w2).alloc (Nat.le_refl _) _) HB4.out) HK.out
    have HF := Lib.hid (inOrder_fit w3 n be hw x HW.out.2.2)
    rw [HA.out] at HF
    have hlt3 : w2.heap.size < w3.heap.size := by have := HB4.out.size; simp at this; omega
    have hwl3 : w.heap.size + 3 ≤ w3.heap.size := by have := HBX.out.2.2.lt; have := HBX2.out.size; have := HB4.out.size; omega
    have hbe3 : be < w3.heap.size := HW.out.2.1.lt
    obtain ⟨W0, hW0⟩ : ∃ W0, w3.alloc (.cells #[.int .i64 0] 3) = W0 := ⟨_, rfl⟩
    have hB0 : Below w3.heap.size w3 W0 := by rw [← hW0]; exact (Below.refl _ w3).alloc (Nat.le_refl _) _
    have hT0 : Boxed W0 w3.heap.size 3 (.int .i64 0) := by rw [← hW0]; exact Boxed.new w3 3 _
    rw [hW0]
    clear hW0 d0 d1 d2 d3 d4 d5 d6 cz fz hcc hff KA KW HB1 HB2 HB3 hnilf
    have HBc := Lib.hid hB0
    have HTc := Lib.hid hT0
    clear hB0 hT0
    refine wpIn_loop_rounds 3 ?_
    rw [roundsIn_succ]
    have ct := HTc.out.cell
    gi_wp2_with fail
    obtain ⟨Wb, hWb⟩ : ∃ Wb, W0.alloc (.cells #[.int .i64 0] 3) = Wb := ⟨_, rfl⟩
    obtain ⟨nb, hnb⟩ : ∃ nb, W0.heap.size = nb := ⟨_, rfl⟩
    have hBb : Below W0.heap.size W0 Wb := by rw [← hWb]; exact (Below.refl _ W0).alloc (Nat.le_refl _) _
    have hNb : Boxed Wb nb 3 (.int .i64 0) := by rw [← hWb, ← hnb]; exact Boxed.new W0 3 _
    have hTb : Boxed Wb (w3.heap.size) 3 (.int .i64 0) := (hBb.block _ HTc.out.lt).trans HTc.out
    have hTn : w3.heap.size ≠ nb := by have := HTc.out.lt; omega
    have hn3 : w3.heap.size ≤ nb := by have := HBc.out.size; omega
    have hB3b := below_step HBc.out hBb
    rw [hWb, hnb]
    clear hWb ct
    have hlow : Low Wb.heap.size (WkQ Wb nb m) := low_wkq (Nat.le_refl _) hNb.lt
    have hlowx : ∀ c, Low Wb.heap.size (fun (pre : List HX) X => (c = Code.exit 2 ∧ (pre.length : Int) = m + 1) ∧ WkQ Wb nb (m + 1) pre X) := fun c => (low_pure _).and (low_wkq (Nat.le_refl _) hNb.lt)
    have hsub : ∀ u pre X, WkQ Wb nb u pre X → Below w3.heap.size w3 X := fun u pre X hq => hB3b.grown hq.2.1 hB3b.size (fun r e => by cases e; omega)
    refine range_fit (gf := 43) (lb := #[.pointer (some ⟨be, 0, none⟩)]) (by decide) rfl (enters_of Tryd.func43 (by kernel_rfl) rfl) HF.out (fun _ => rfl)
      (LowI Wb.heap.size (WkQ Wb nb m)) (fun c => LowI Wb.heap.size (fun (pre : List HX) X => (c = Code.exit 2 ∧ (pre.length : Int) = m + 1) ∧ WkQ Wb nb (m + 1) pre X)) (fr_low hlow) (fun c => fr_low (hlowx c)) (fun F pre X hi => ⟨hsub _ _ _ hi.held, ((hsub _ _ _ hi.held).block _ hbe3).trans HW.out.2.1⟩)
      ⟨fun _ h => h.elim, Nat.le_refl _, ⟨(by simp; try omega), ⟨rfl, rfl, rfl, Nat.le_refl _, fun _ _ _ => rfl⟩, hNb⟩⟩ ?round0 ?done0 ?stop0
    case round0 =>
      rintro l2 F2 ys ⟨yh, yx⟩ X hl2 hrec hI2 ⟨⟨mm, hfit⟩, hpre⟩
      obtain ⟨op2, nn2, s2, p2, pl2, pc2, q2, ql2, qc2, o2, k2, kl2, kc2⟩ := yh
      have hlX : l2 < X.heap.size := by obtain ⟨r, hr⟩ := hrec; exact (Array.getElem?_eq_some_iff.1 hr).1
      have HFX := Lib.hid hfit
      have HI2 := Lib.hid hI2
      obtain ⟨hyl, hyx⟩ := prefix_at hpre
      have HPRE := Lib.hid hyx
      clear hfit hI2 hrec hpre hyx
      dsimp only [encX, Hd.agg]
      gi_wp2
      refine ⟨⟨by simp, fun i _ hi => Below.heap_alloc _ _ _ hi⟩, (fr_low hlow).alloc HI2.out _, ?_⟩
      intro Y hYz hYo _ hYl hIY
      have hbx : BoxH Y X.heap.size ⟨op2, nn2, s2, p2, pl2, pc2, q2, ql2, qc2, o2, k2, kl2, kc2⟩ := (hYo _ (by omega)).trans (World.alloc_heap_new X _)
      have hneX : nb ≠ X.heap.size := by have := HI2.out.size; have := hNb.lt; omega
      obtain ⟨hju, hgr, hbn⟩ := hIY.held
      have hB3Y := hsub _ _ _ hIY.held
      obtain ⟨j, hj⟩ : ∃ j, ys.length = j := ⟨_, rfl⟩
      obtain ⟨b, off, y, rfl, lt, hy2, m3, hI3⟩ := HK3.out.at_ ys.length hyl
      obtain ⟨op3, nn3, s3, p3, pl3, pc3, q3, ql3, qc3, o3, k3, kl3, kc3⟩ := y
      have HSM : ∀ W, Below w3.heap.size w3 W → Hid (Calls Tryd.prog 17 #[.agg #[.int .i64 op2, .int .i64 nn2, .string s2, .slice p2 pl2 pc2, .slice q2 ql2 qc2, .bool o2, .slice k2 kl2 kc2], .agg #[.int .i64 op3, .int .i64 nn3, .string s3, .slice p3 pl3 pc3, .slice q3 ql3 qc3, .bool o3, .slice k3 kl3 kc3]] W (BoolP true W)) := fun W hW => by
        have h9 := rsame_any w3 mm m3 ⟨op2, nn2, s2, p2, pl2, pc2, q2, ql2, qc2, o2, k2, kl2, kc2⟩ ⟨op3, nn3, s3, p3, pl3, pc3, q3, ql3, qc3, o3, k3, kl3, kc3⟩ yx A[ys.length] W HFX.out hI3 hW
        rw [HPRE.out, eqB_yes rfl] at h9
        exact h9
      have HIY := Lib.hid hIY
      have HY3 := Lib.hid hB3Y
      have HBN := Lib.hid hbn
      have HXB := Lib.hid hbx
      have HH := Lib.hid hy2
      have HLT := Lib.hid lt
      have HJ := Lib.hid hj
      rw [hj] at hyl HH HBN hju
      have hki : (j : Int) < (A.length : Int) := by omega
      have hk0 : (0 : Int) ≤ (j : Int) := by omega
      clear hI3 hIY hB3Y hbn hbx hy2 lt hYz hYo hYl hgr hj HPRE HFX
      gi_upto_region 13 with fail
      obtain ⟨wd, hwd⟩ : ∃ wd : World, wd = { Y with drawn := Y.drawn + 1 } := ⟨_, rfl⟩
      have hbd : Below Y.heap.size Y wd := by rw [hwd]; exact (Below.refl _ Y).drew
      have hS : ∀ Z, Below Y.heap.size Y Z → (Boxed Z nb 3 (.int .i64 j) ∧ Boxed Z w2.heap.size 24 (.slice (some ⟨b, off, none⟩) A.length c) ∧ BoxH Z X.heap.size ⟨op2, nn2, s2, p2, pl2, pc2, q2, ql2, qc2, o2, k2, kl2, kc2⟩ ∧ HdAt Z b (off + j * 7) ⟨op3, nn3, s3, p3, pl3, pc3, q3, ql3, qc3, o3, k3, kl3, kc3⟩) := fun Z hZ => ⟨(hZ.block _ HBN.out.lt).trans HBN.out, (HWX.out Z (below_step HY3.out hZ)).2.2.2, (hZ.block _ HXB.out.lt).trans HXB.out, HH.out.below (below_step HY3.out hZ) HLT.out⟩
      refine region_in (S := fun X' => Boxed X' nb 3 (.int .i64 j) ∧ Boxed X' w2.heap.size 24 (.slice (some ⟨b, off, none⟩) A.length c) ∧ BoxH X' X.heap.size ⟨op2, nn2, s2, p2, pl2, pc2, q2, ql2, qc2, o2, k2, kl2, kc2⟩ ∧ HdAt X' b (off + j * 7) ⟨op3, nn3, s3, p3, pl3, pc3, q3, ql3, qc3, o3, k3, kl3, kc3⟩) (by kernel_rfl) (noDefer_spec (by kernel_rfl)) (fun ⟨_, _, h⟩ => h) ?_
      rw [← hwd]
      clear hwd
      have hS0 := hS wd hbd
      refine take_at' (i := 0) 26 (v := .int .i64 j) rfl rfl (by kernel_rfl) (by kernel_rfl) (by kernel_rfl) (fun _ _ _ h => h) (Or.inl ⟨by rfl, fun w' hS' => (by have cn := hS'.1.cell; go_simp)⟩) hS0 ?_
      simp only [List.setIfInBounds_toArray, List.set_cons_succ, List.set_cons_zero]
      refine take_at' (i := 1) 27 (v := .slice (some ⟨b, off, none⟩) A.length c) rfl rfl (by kernel_rfl) (by kernel_rfl) (by kernel_rfl) (fun _ _ _ h => h) (Or.inl ⟨by rfl, fun w' hS' => (by have cw := hS'.2.1.cell; go_simp)⟩) hS0 ?_
      simp only [List.setIfInBounds_toArray, List.set_cons_succ, List.set_cons_zero]
      refine take_at' (i := 2) 28 (v := .int .i64 A.length) rfl rfl (by kernel_rfl) (by kernel_rfl) (by kernel_rfl) (fun _ _ _ h => h) (Or.inl ⟨by rfl, fun w' hS' => (by go_simp)⟩) hS0 ?_
      simp only [List.setIfInBounds_toArray, List.set_cons_succ, List.set_cons_zero]
      refine take_at' (i := 3) 29 (v := .bool false) rfl rfl (by kernel_rfl) (by kernel_rfl) (by kernel_rfl) (fun _ _ _ h => h) (Or.inl ⟨by rfl, fun w' hS' => (by go_simp)⟩) hS0 ?_
      simp only [List.setIfInBounds_toArray, List.set_cons_succ, List.set_cons_zero]
      refine take_at' (i := 4) 30 (v := .bool false) rfl rfl (by kernel_rfl) (by kernel_rfl) (by kernel_rfl) (fun _ _ _ h => h) (Or.inl ⟨by rfl, fun w' hS' => (by go_simp)⟩) hS0 ?_
      simp only [List.setIfInBounds_toArray, List.set_cons_succ, List.set_cons_zero]
      refine take_at' (i := 5) 31 (v := .agg #[.int .i64 op2, .int .i64 nn2, .string s2, .slice p2 pl2 pc2, .slice q2 ql2 qc2, .bool o2, .slice k2 kl2 kc2]) rfl rfl (by kernel_rfl) (by kernel_rfl) (by kernel_rfl) (fun _ _ _ h => h) (Or.inl ⟨by rfl, fun w' hS' => (by obtain ⟨d0, d1, d2, d3, d4, d5, d6⟩ := hS'.2.2.1.cells; dsimp only at d0 d1 d2 d3 d4 d5 d6; simp only [Nat.zero_add] at d1 d2 d3 d4 d5 d6; go_simp)⟩) hS0 ?_
      simp only [List.setIfInBounds_toArray, List.set_cons_succ, List.set_cons_zero]
      refine take_at' (i := 6) 32 (v := .slice (some ⟨b, off, none⟩) A.length c) rfl rfl (by kernel_rfl) (by kernel_rfl) (by kernel_rfl) (fun _ _ _ h => h) (Or.inl ⟨by rfl, fun w' hS' => (by have cw := hS'.2.1.cell; go_simp)⟩) hS0 ?_
      simp only [List.setIfInBounds_toArray, List.set_cons_succ, List.set_cons_zero]
      refine take_at' (i := 7) 33 (v := .int .i64 j) rfl rfl (by kernel_rfl) (by kernel_rfl) (by kernel_rfl) (fun _ _ _ h => h) (Or.inl ⟨by rfl, fun w' hS' => (by have cn := hS'.1.cell; go_simp)⟩) hS0 ?_
      simp only [List.setIfInBounds_toArray, List.set_cons_succ, List.set_cons_zero]
      refine take_at' (i := 8) 34 (v := .pointer (some ⟨b, off + j * 7, none⟩)) rfl rfl (by kernel_rfl) (by kernel_rfl) (by kernel_rfl) (fun _ _ _ h => h) (Or.inl ⟨by rfl, fun w' hS' => (by go_simp)⟩) hS0 ?_
      simp only [List.setIfInBounds_toArray, List.set_cons_succ, List.set_cons_zero]
      refine take_at' (i := 9) 35 (v := .agg #[.int .i64 op3, .int .i64 nn3, .string s3, .slice p3 pl3 pc3, .slice q3 ql3 qc3, .bool o3, .slice k3 kl3 kc3]) rfl rfl (by kernel_rfl) (by kernel_rfl) (by kernel_rfl) (fun _ _ _ h => h) (Or.inl ⟨by rfl, fun w' hS' => (by obtain ⟨d0, d1, d2, d3, d4, d5, d6⟩ := hS'.2.2.2; dsimp only at d0 d1 d2 d3 d4 d5 d6; go_simp)⟩) hS0 ?_
      simp only [List.setIfInBounds_toArray, List.set_cons_succ, List.set_cons_zero]
      refine wpAnyH_all (rs := [10]) (by kernel_rfl) (by simp) ?_
      intro i hi
      obtain rfl : i = 10 := by simpa using hi
      refine call_at 36 (f := 17) (args := #[.agg #[.int .i64 op2, .int .i64 nn2, .string s2, .slice p2 pl2 pc2, .slice q2 ql2 qc2, .bool o2, .slice k2 kl2 kc2], .agg #[.int .i64 op3, .int .i64 nn3, .string s3, .slice p3 pl3 pc3, .slice q3 ql3 qc3, .bool o3, .slice k3 kl3 kc3]]) (w' := wd) rfl rfl rfl (by go_simp) ((HSM wd (below_step HY3.out hbd)).out.mono ?_)
      rintro e Z ⟨rfl, hZ⟩
      have HZ := Lib.hid (below_step hbd hZ)
      have hSZ := hS Z HZ.out
      clear hZ
      refine ⟨_, rfl, hSZ, ?_⟩
      simp only [List.setIfInBounds_toArray, List.set_cons_succ, List.set_cons_zero]
      refine take_at' (i := 11) 37 (v := .bool false) rfl rfl (by kernel_rfl) (by kernel_rfl) (by kernel_rfl) (fun _ _ _ h => h) (Or.inl ⟨by rfl, fun w' hS' => (by go_simp)⟩) hSZ ?_
      simp only [List.setIfInBounds_toArray, List.set_cons_succ, List.set_cons_zero]
      refine take_at' (i := 12) 38 (v := .bool false) rfl rfl (by kernel_rfl) (by kernel_rfl) (by kernel_rfl) (fun _ _ _ h => h) (Or.inl ⟨by rfl, fun w' hS' => (by go_simp)⟩) hSZ ?_
      simp only [List.setIfInBounds_toArray, List.set_cons_succ, List.set_cons_zero]
      refine wpAnyH_done (by kernel_rfl) ?_ _
      have cn := hSZ.1.cell
      have fn := hSZ.1.frozen
      have hZ3 := below_step HY3.out HZ.out
      have cm := (HWX.out Z hZ3).2.1.cell
      have hTZ : Boxed Z (w3.heap.size) 3 (.int .i64 0) := (HZ.out.block _ (Nat.lt_of_lt_of_le hTb.lt HIY.out.held.2.1.size)).trans ((HIY.out.held.2.1.block _ hTb.lt (fun e => hTn (by cases e; rfl))).trans hTb)
      have ct := hTZ.cell
      have HNZ := Lib.hid hSZ.1
      have hzz := (grownBy_setCell' Z nb (.int .i64 ((j : Int) + 1)))
      have hst : Stays F2 Y (Z.setCell ⟨nb, 0, none⟩ (.int .i64 ((j : Int) + 1))) := ((Stays.refl _ _).grown (grown_below HZ.out) (fun _ e => by cases e)).grown hzz (fun r e hr => by cases e; have := HIY.out.far _ hr; have := hNb.lt; omega)
      have hwk : ∀ u : Int, (j : Int) + 1 ≤ u → WkQ Wb nb u (ys ++ [(⟨op2, nn2, s2, p2, pl2, pc2, q2, ql2, qc2, o2, k2, kl2, kc2⟩, yx)]) (Z.setCell ⟨nb, 0, none⟩ (.int .i64 ((j : Int) + 1))) := fun u hu => by
        refine ⟨by rw [List.length_append, HJ.out]; simpa using hu, World.grownBy.trans (World.grownBy.trans HIY.out.held.2.1 ⟨HZ.out.os, HZ.out.tape, HZ.out.output, HZ.out.size, fun k hk _ => HZ.out.block k hk⟩) hzz, ?_⟩
        have h7 := HNZ.out.set (.int .i64 ((j : Int) + 1))
        rw [List.length_append, HJ.out]; exact h7
      have HWK := Lib.hid hwk
      have HST := Lib.hid hst
      have hszz := Nat.le_trans HIY.out.size (Nat.le_trans HZ.out.size hzz.size)
      clear hwk hst hzz
      clear hS hS0 hSZ hbd hTZ
      by_cases hgt : m < (j : Int) + 1
      · gi_wp2_with fail
        exact ⟨HST.out, HIY.out.far, hszz, ⟨rfl, by rw [List.length_append, HJ.out]; simp; omega⟩, HWK.out _ (by omega)⟩
      · have hgt2 : (j : Int) + 1 ≤ m := by omega
        gi_wp2_with fail
        exact ⟨HST.out, HIY.out.far, hszz, HWK.out _ hgt2⟩
    case done0 =>
      rintro D0 F2 xs X hD hxs hI2 hKD
      have hxl : xs.length = A.length := by rw [← hxs, List.length_map]
      have hq := hI2.held
      have hX3 := hsub _ _ _ hq
      have cn := hq.2.2.cell
      rw [hxl] at cn
      have cw := (HWX.out X hX3).2.2.2.cell
      have cm := (HWX.out X hX3).2.1.cell
      have hTX : Boxed X (w3.heap.size) 3 (.int .i64 0) := (hq.2.1.block _ hTb.lt (fun e => hTn (by cases e; rfl))).trans hTb
      have ct := hTX.cell
      have HKD0 := Lib.hid hKD
      have HX3 := Lib.hid hX3
      have hDXD0 : w3.heap.size ≤ D0 ∧ D0 < X.heap.size := ⟨Nat.le_trans hB3b.size (hI2.far _ hD), (Array.getElem?_eq_some_iff.1 hKD).1⟩
      clear hxs hI2 hq hX3 hKD hTX hTb hNb hBb hB3b hTn hn3 hlow hsub hnb hD hxl hlowx HTc HBc
      gi_wp2_with fail
      obtain ⟨W1, hWn⟩ : ∃ W', X.alloc (.cells #[.int .i64 1] 3) = W' := ⟨_, rfl⟩
      obtain ⟨tb1, htb⟩ : ∃ z, X.heap.size = z := ⟨_, rfl⟩
      have hXn : Below X.heap.size X W1 := by rw [← hWn]; exact (Below.refl _ X).alloc (Nat.le_refl _) _
      have HBc := Lib.hid (below_step HX3.out hXn)
      have HTc : Hid (Boxed W1 tb1 3 (.int .i64 1)) := by rw [← hWn, ← htb]; exact Boxed.new X 3 _
      have HDD0 : Hid (W1.heap[D0]? = some (.deferred (some []))) := (hXn.block _ (Array.getElem?_eq_some_iff.1 HKD0.out).1).trans HKD0.out
      rw [hWn, htb]
      clear hWn hXn cn cw cm ct HX3 HKD0 htb
      rw [roundsIn_succ]
      have ct := HTc.out.cell
      gi_wp2_with fail
      obtain ⟨Wb, hWb⟩ : ∃ Wb, W1.alloc (.cells #[.int .i64 0] 3) = Wb := ⟨_, rfl⟩
      obtain ⟨nb, hnb⟩ : ∃ nb, W1.heap.size = nb := ⟨_, rfl⟩
      have hBb : Below W1.heap.size W1 Wb := by rw [← hWb]; exact (Below.refl _ W1).alloc (Nat.le_refl _) _
      have hNb : Boxed Wb nb 3 (.int .i64 0) := by rw [← hWb, ← hnb]; exact Boxed.new W1 3 _
      have hTb : Boxed Wb (tb1) 3 (.int .i64 1) := (hBb.block _ HTc.out.lt).trans HTc.out
      have hTn : tb1 ≠ nb := by have := HTc.out.lt; omega
      have hn3 : w3.heap.size ≤ nb := by have := HBc.out.size; omega
      have hB3b := below_step HBc.out hBb
      have hDbD0 : Wb.heap[D0]? = some (.deferred (some [])) := (hBb.block _ (Array.getElem?_eq_some_iff.1 HDD0.out).1).trans HDD0.out
      have hDnD0 : D0 ≠ nb := by have := (Array.getElem?_eq_some_iff.1 HDD0.out).1; omega
      rw [hWb, hnb]
      clear hWb ct
      have hlow : Low Wb.heap.size (WkQ Wb nb A.length) := low_wkq (Nat.le_refl _) hNb.lt
      have hsub : ∀ u pre X, WkQ Wb nb u pre X → Below w3.heap.size w3 X := fun u pre X hq => hB3b.grown hq.2.1 hB3b.size (fun r e => by cases e; omega)
      refine range_fit (gf := 43) (lb := #[.pointer (some ⟨be, 0, none⟩)]) (by decide) rfl (enters_of Tryd.func43 (by kernel_rfl) rfl) HF.out (fun _ => rfl)
        (LowI Wb.heap.size (WkQ Wb nb A.length)) (fun _ _ _ _ => False) (fr_low hlow) (fun c => ⟨fun h _ => h, fun h _ _ => h, fun _ h => h⟩) (fun F pre X hi => ⟨hsub _ _ _ hi.held, ((hsub _ _ _ hi.held).block _ hbe3).trans HW.out.2.1⟩)
        ⟨fun _ h => h.elim, Nat.le_refl _, ⟨(by simp; try omega), ⟨rfl, rfl, rfl, Nat.le_refl _, fun _ _ _ => rfl⟩, hNb⟩⟩ ?round1 ?done1 ?stop1
      case round1 =>
        rintro l2 F2 ys ⟨yh, yx⟩ X hl2 hrec hI2 ⟨⟨mm, hfit⟩, hpre⟩
        obtain ⟨op2, nn2, s2, p2, pl2, pc2, q2, ql2, qc2, o2, k2, kl2, kc2⟩ := yh
        have hlX : l2 < X.heap.size := by obtain ⟨r, hr⟩ := hrec; exact (Array.getElem?_eq_some_iff.1 hr).1
        have HFX := Lib.hid hfit
        have HI2 := Lib.hid hI2
        obtain ⟨hyl, hyx⟩ := prefix_at hpre
        have HPRE := Lib.hid hyx
        clear hfit hI2 hrec hpre hyx
        dsimp only [encX, Hd.agg]
        gi_wp2
        refine ⟨⟨by simp, fun i _ hi => Below.heap_alloc _ _ _ hi⟩, (fr_low hlow).alloc HI2.out _, ?_⟩
        intro Y hYz hYo _ hYl hIY
        have hbx : BoxH Y X.heap.size ⟨op2, nn2, s2, p2, pl2, pc2, q2, ql2, qc2, o2, k2, kl2, kc2⟩ := (hYo _ (by omega)).trans (World.alloc_heap_new X _)
        have hneX : nb ≠ X.heap.size := by have := HI2.out.size; have := hNb.lt; omega
        obtain ⟨hju, hgr, hbn⟩ := hIY.held
        have hB3Y := hsub _ _ _ hIY.held
        obtain ⟨j, hj⟩ : ∃ j, ys.length = j := ⟨_, rfl⟩
        obtain ⟨b, off, y, rfl, lt, hy2, m3, hI3⟩ := HK3.out.at_ ys.length hyl
        obtain ⟨op3, nn3, s3, p3, pl3, pc3, q3, ql3, qc3, o3, k3, kl3, kc3⟩ := y
        have HSM : ∀ W, Below w3.heap.size w3 W → Hid (Calls Tryd.prog 17 #[.agg #[.int .i64 op2, .int .i64 nn2, .string s2, .slice p2 pl2 pc2, .slice q2 ql2 qc2, .bool o2, .slice k2 kl2 kc2], .agg #[.int .i64 op3, .int .i64 nn3, .string s3, .slice p3 pl3 pc3, .slice q3 ql3 qc3, .bool o3, .slice k3 kl3 kc3]] W (BoolP true W)) := fun W hW => by
          have h9 := rsame_any w3 mm m3 ⟨op2, nn2, s2, p2, pl2, pc2, q2, ql2, qc2, o2, k2, kl2, kc2⟩ ⟨op3, nn3, s3, p3, pl3, pc3, q3, ql3, qc3, o3, k3, kl3, kc3⟩ yx A[ys.length] W HFX.out hI3 hW
          rw [HPRE.out, eqB_yes rfl] at h9
          exact h9
        have HIY := Lib.hid hIY
        have HY3 := Lib.hid hB3Y
        have HBN := Lib.hid hbn
        have HXB := Lib.hid hbx
        have HH := Lib.hid hy2
        have HLT := Lib.hid lt
        have HJ := Lib.hid hj
        rw [hj] at hyl HH HBN hju
        have hki : (j : Int) < (A.length : Int) := by omega
        have hk0 : (0 : Int) ≤ (j : Int) := by omega
        clear hI3 hIY hB3Y hbn hbx hy2 lt hYz hYo hYl hgr hj HPRE HFX
        gi_upto_region 13 with fail
        obtain ⟨wd, hwd⟩ : ∃ wd : World, wd = { Y with drawn := Y.drawn + 1 } := ⟨_, rfl⟩
        have hbd : Below Y.heap.size Y wd := by rw [hwd]; exact (Below.refl _ Y).drew
        have hS : ∀ Z, Below Y.heap.size Y Z → (Boxed Z nb 3 (.int .i64 j) ∧ Boxed Z w2.heap.size 24 (.slice (some ⟨b, off, none⟩) A.length c) ∧ BoxH Z X.heap.size ⟨op2, nn2, s2, p2, pl2, pc2, q2, ql2, qc2, o2, k2, kl2, kc2⟩ ∧ HdAt Z b (off + j * 7) ⟨op3, nn3, s3, p3, pl3, pc3, q3, ql3, qc3, o3, k3, kl3, kc3⟩) := fun Z hZ => ⟨(hZ.block _ HBN.out.lt).trans HBN.out, (HWX.out Z (below_step HY3.out hZ)).2.2.2, (hZ.block _ HXB.out.lt).trans HXB.out, HH.out.below (below_step HY3.out hZ) HLT.out⟩
        refine region_in (S := fun X' => Boxed X' nb 3 (.int .i64 j) ∧ Boxed X' w2.heap.size 24 (.slice (some ⟨b, off, none⟩) A.length c) ∧ BoxH X' X.heap.size ⟨op2, nn2, s2, p2, pl2, pc2, q2, ql2, qc2, o2, k2, kl2, kc2⟩ ∧ HdAt X' b (off + j * 7) ⟨op3, nn3, s3, p3, pl3, pc3, q3, ql3, qc3, o3, k3, kl3, kc3⟩) (by kernel_rfl) (noDefer_spec (by kernel_rfl)) (fun ⟨_, _, h⟩ => h) ?_
        rw [← hwd]
        clear hwd
        have hS0 := hS wd hbd
        refine take_at' (i := 0) 26 (v := .int .i64 j) rfl rfl (by kernel_rfl) (by kernel_rfl) (by kernel_rfl) (fun _ _ _ h => h) (Or.inl ⟨by rfl, fun w' hS' => (by have cn := hS'.1.cell; go_simp)⟩) hS0 ?_
        simp only [List.setIfInBounds_toArray, List.set_cons_succ, List.set_cons_zero]
        refine take_at' (i := 1) 27 (v := .slice (some ⟨b, off, none⟩) A.length c) rfl rfl (by kernel_rfl) (by kernel_rfl) (by kernel_rfl) (fun _ _ _ h => h) (Or.inl ⟨by rfl, fun w' hS' => (by have cw := hS'.2.1.cell; go_simp)⟩) hS0 ?_
        simp only [List.setIfInBounds_toArray, List.set_cons_succ, List.set_cons_zero]
        refine take_at' (i := 2) 28 (v := .int .i64 A.length) rfl rfl (by kernel_rfl) (by kernel_rfl) (by kernel_rfl) (fun _ _ _ h => h) (Or.inl ⟨by rfl, fun w' hS' => (by go_simp)⟩) hS0 ?_
        simp only [List.setIfInBounds_toArray, List.set_cons_succ, List.set_cons_zero]
        refine take_at' (i := 3) 29 (v := .bool false) rfl rfl (by kernel_rfl) (by kernel_rfl) (by kernel_rfl) (fun _ _ _ h => h) (Or.inl ⟨by rfl, fun w' hS' => (by go_simp)⟩) hS0 ?_
        simp only [List.setIfInBounds_toArray, List.set_cons_succ, List.set_cons_zero]
        refine take_at' (i := 4) 30 (v := .bool false) rfl rfl (by kernel_rfl) (by kernel_rfl) (by kernel_rfl) (fun _ _ _ h => h) (Or.inl ⟨by rfl, fun w' hS' => (by go_simp)⟩) hS0 ?_
        simp only [List.setIfInBounds_toArray, List.set_cons_succ, List.set_cons_zero]
        refine take_at' (i := 5) 31 (v := .agg #[.int .i64 op2, .int .i64 nn2, .string s2, .slice p2 pl2 pc2, .slice q2 ql2 qc2, .bool o2, .slice k2 kl2 kc2]) rfl rfl (by kernel_rfl) (by kernel_rfl) (by kernel_rfl) (fun _ _ _ h => h) (Or.inl ⟨by rfl, fun w' hS' => (by obtain ⟨d0, d1, d2, d3, d4, d5, d6⟩ := hS'.2.2.1.cells; dsimp only at d0 d1 d2 d3 d4 d5 d6; simp only [Nat.zero_add] at d1 d2 d3 d4 d5 d6; go_simp)⟩) hS0 ?_
        simp only [List.setIfInBounds_toArray, List.set_cons_succ, List.set_cons_zero]
        refine take_at' (i := 6) 32 (v := .slice (some ⟨b, off, none⟩) A.length c) rfl rfl (by kernel_rfl) (by kernel_rfl) (by kernel_rfl) (fun _ _ _ h => h) (Or.inl ⟨by rfl, fun w' hS' => (by have cw := hS'.2.1.cell; go_simp)⟩) hS0 ?_
        simp only [List.setIfInBounds_toArray, List.set_cons_succ, List.set_cons_zero]
        refine take_at' (i := 7) 33 (v := .int .i64 j) rfl rfl (by kernel_rfl) (by kernel_rfl) (by kernel_rfl) (fun _ _ _ h => h) (Or.inl ⟨by rfl, fun w' hS' => (by have cn := hS'.1.cell; go_simp)⟩) hS0 ?_
        simp only [List.setIfInBounds_toArray, List.set_cons_succ, List.set_cons_zero]
        refine take_at' (i := 8) 34 (v := .pointer (some ⟨b, off + j * 7, none⟩)) rfl rfl (by kernel_rfl) (by kernel_rfl) (by kernel_rfl) (fun _ _ _ h => h) (Or.inl ⟨by rfl, fun w' hS' => (by go_simp)⟩) hS0 ?_
        simp only [List.setIfInBounds_toArray, List.set_cons_succ, List.set_cons_zero]
        refine take_at' (i := 9) 35 (v := .agg #[.int .i64 op3, .int .i64 nn3, .string s3, .slice p3 pl3 pc3, .slice q3 ql3 qc3, .bool o3, .slice k3 kl3 kc3]) rfl rfl (by kernel_rfl) (by kernel_rfl) (by kernel_rfl) (fun _ _ _ h => h) (Or.inl ⟨by rfl, fun w' hS' => (by obtain ⟨d0, d1, d2, d3, d4, d5, d6⟩ := hS'.2.2.2; dsimp only at d0 d1 d2 d3 d4 d5 d6; go_simp)⟩) hS0 ?_
        simp only [List.setIfInBounds_toArray, List.set_cons_succ, List.set_cons_zero]
        refine wpAnyH_all (rs := [10]) (by kernel_rfl) (by simp) ?_
        intro i hi
        obtain rfl : i = 10 := by simpa using hi
        refine call_at 36 (f := 17) (args := #[.agg #[.int .i64 op2, .int .i64 nn2, .string s2, .slice p2 pl2 pc2, .slice q2 ql2 qc2, .bool o2, .slice k2 kl2 kc2], .agg #[.int .i64 op3, .int .i64 nn3, .string s3, .slice p3 pl3 pc3, .slice q3 ql3 qc3, .bool o3, .slice k3 kl3 kc3]]) (w' := wd) rfl rfl rfl (by go_simp) ((HSM wd (below_step HY3.out hbd)).out.mono ?_)
        rintro e Z ⟨rfl, hZ⟩
        have HZ := Lib.hid (below_step hbd hZ)
        have hSZ := hS Z HZ.out
        clear hZ
        refine ⟨_, rfl, hSZ, ?_⟩
        simp only [List.setIfInBounds_toArray, List.set_cons_succ, List.set_cons_zero]
        refine take_at' (i := 11) 37 (v := .bool false) rfl rfl (by kernel_rfl) (by kernel_rfl) (by kernel_rfl) (fun _ _ _ h => h) (Or.inl ⟨by rfl, fun w' hS' => (by go_simp)⟩) hSZ ?_
        simp only [List.setIfInBounds_toArray, List.set_cons_succ, List.set_cons_zero]
        refine take_at' (i := 12) 38 (v := .bool false) rfl rfl (by kernel_rfl) (by kernel_rfl) (by kernel_rfl) (fun _ _ _ h => h) (Or.inl ⟨by rfl, fun w' hS' => (by go_simp)⟩) hSZ ?_
        simp only [List.setIfInBounds_toArray, List.set_cons_succ, List.set_cons_zero]
        refine wpAnyH_done (by kernel_rfl) ?_ _
        have cn := hSZ.1.cell
        have fn := hSZ.1.frozen
        have hZ3 := below_step HY3.out HZ.out
        have cm := (HWX.out Z hZ3).2.1.cell
        have hTZ : Boxed Z (tb1) 3 (.int .i64 1) := (HZ.out.block _ (Nat.lt_of_lt_of_le hTb.lt HIY.out.held.2.1.size)).trans ((HIY.out.held.2.1.block _ hTb.lt (fun e => hTn (by cases e; rfl))).trans hTb)
        have ct := hTZ.cell
        have HNZ := Lib.hid hSZ.1
        have hzz := (grownBy_setCell' Z nb (.int .i64 ((j : Int) + 1)))
        have hst : Stays F2 Y (Z.setCell ⟨nb, 0, none⟩ (.int .i64 ((j : Int) + 1))) := ((Stays.refl _ _).grown (grown_below HZ.out) (fun _ e => by cases e)).grown hzz (fun r e hr => by cases e; have := HIY.out.far _ hr; have := hNb.lt; omega)
        have hwk : ∀ u : Int, (j : Int) + 1 ≤ u → WkQ Wb nb u (ys ++ [(⟨op2, nn2, s2, p2, pl2, pc2, q2, ql2, qc2, o2, k2, kl2, kc2⟩, yx)]) (Z.setCell ⟨nb, 0, none⟩ (.int .i64 ((j : Int) + 1))) := fun u hu => by
          refine ⟨by rw [List.length_append, HJ.out]; simpa using hu, World.grownBy.trans (World.grownBy.trans HIY.out.held.2.1 ⟨HZ.out.os, HZ.out.tape, HZ.out.output, HZ.out.size, fun k hk _ => HZ.out.block k hk⟩) hzz, ?_⟩
          have h7 := HNZ.out.set (.int .i64 ((j : Int) + 1))
          rw [List.length_append, HJ.out]; exact h7
        have HWK := Lib.hid hwk
        have HST := Lib.hid hst
        have hszz := Nat.le_trans HIY.out.size (Nat.le_trans HZ.out.size hzz.size)
        clear hwk hst hzz
        clear hS hS0 hSZ hbd hTZ
        gi_wp2_with fail
        exact ⟨HST.out, HIY.out.far, hszz, HWK.out _ (by omega)⟩
      case done1 =>
        rintro D1 F2 xs X hD hxs hI2 hKD
        have hxl : xs.length = A.length := by rw [← hxs, List.length_map]
        have hq := hI2.held
        have hX3 := hsub _ _ _ hq
        have cn := hq.2.2.cell
        rw [hxl] at cn
        have cw := (HWX.out X hX3).2.2.2.cell
        have cm := (HWX.out X hX3).2.1.cell
        have hTX : Boxed X (tb1) 3 (.int .i64 1) := (hq.2.1.block _ hTb.lt (fun e => hTn (by cases e; rfl))).trans hTb
        have ct := hTX.cell
        have HKD1 := Lib.hid hKD
        have HX3 := Lib.hid hX3
        have HED0 : Hid (X.heap[D0]? = some (.deferred (some []))) := (hq.2.1.block _ (Array.getElem?_eq_some_iff.1 hDbD0).1 (fun e => hDnD0 (by cases e; rfl))).trans hDbD0
        have hDXD1 : w3.heap.size ≤ D1 ∧ D1 < X.heap.size := ⟨Nat.le_trans hB3b.size (hI2.far _ hD), (Array.getElem?_eq_some_iff.1 hKD).1⟩
        have hneD0 : D0 ≠ D1 := by have := (Array.getElem?_eq_some_iff.1 hDbD0).1; have := hI2.far _ hD; omega
        clear hxs hI2 hq hX3 hKD hTX hTb hNb hBb hB3b hTn hn3 hlow hsub hnb hD hxl hDbD0 hDnD0 HTc HBc
        gi_wp2_with fail
        obtain ⟨W2, hWn⟩ : ∃ W', X.alloc (.cells #[.int .i64 2] 3) = W' := ⟨_, rfl⟩
        obtain ⟨tb2, htb⟩ : ∃ z, X.heap.size = z := ⟨_, rfl⟩
        have hXn : Below X.heap.size X W2 := by rw [← hWn]; exact (Below.refl _ X).alloc (Nat.le_refl _) _
        have HBc := Lib.hid (below_step HX3.out hXn)
        have HTc : Hid (Boxed W2 tb2 3 (.int .i64 2)) := by rw [← hWn, ← htb]; exact Boxed.new X 3 _
        have HDD0 : Hid (W2.heap[D0]? = some (.deferred (some []))) := (hXn.block _ (Array.getElem?_eq_some_iff.1 HED0.out).1).trans HED0.out
        have HDD1 : Hid (W2.heap[D1]? = some (.deferred (some []))) := (hXn.block _ (Array.getElem?_eq_some_iff.1 HKD1.out).1).trans HKD1.out
        rw [hWn, htb]
        clear hWn hXn cn cw cm ct HX3 HKD1 htb HED0
        rw [roundsIn_succ]
        have ct := HTc.out.cell
        gi_upto_region 21 with fail
        obtain ⟨Z0, hZ0⟩ : ∃ wd : World, wd = { W2 with drawn := W2.drawn + 1 } := ⟨_, rfl⟩
        have h0 : Below W2.heap.size W2 Z0 := by rw [hZ0]; exact (Below.refl _ W2).drew
        have hB : ∀ Z, Below W2.heap.size W2 Z → Below w.heap.size w Z ∧ Below w3.heap.size w3 Z := fun Z hZ => ⟨below_step HBW.out (below_step HBc.out hZ), below_step HBc.out hZ⟩
        have hS : ∀ Z, Below W2.heap.size W2 Z → BoxH Z w.heap.size ⟨op, nn, s, p, pl, pc, q, ql, qc, o, k, kl, kc⟩ := fun Z hZ => (HWX.out Z (hB Z hZ).2).1
        refine wpIn_wide.2 (wp_region_noPanic (wp_region_held (S := fun X' => BoxH X' w.heap.size ⟨op, nn, s, p, pl, pc, q, ql, qc, o, k, kl, kc⟩) (by kernel_rfl) ?_))
        rw [← hZ0]
        clear hZ0 ct
        refine wpAnyH_all (rs := [0]) (by kernel_rfl) (by simp) ?_
        intro i hi
        obtain rfl : i = 0 := by simpa using hi
        refine call_at 65 (f := 7) (args := #[]) (w' := Z0) rfl rfl rfl (by go_simp) ((CW Z0 (hB _ h0).1).out.mono ?_)
        rintro e Z1 ⟨rfl, hz⟩
        have h1 := below_step h0 hz
        clear hz
        refine ⟨_, rfl, hS _ h1, ?_⟩
        simp only [List.setIfInBounds_toArray, List.set_cons_succ, List.set_cons_zero]
        refine take_at' (i := 1) 66 (v := .bool true) rfl rfl (by kernel_rfl) (by kernel_rfl) (by kernel_rfl) (fun _ _ _ h => h) (Or.inl ⟨by rfl, fun w' hS' => (by go_simp)⟩) (hS _ h1) ?_
        simp only [List.setIfInBounds_toArray, List.set_cons_succ, List.set_cons_zero]
        refine take_at' (i := 2) 67 (v := .agg #[.int .i64 op, .int .i64 nn, .string s, .slice p pl pc, .slice q ql qc, .bool o, .slice k kl kc]) rfl rfl (by kernel_rfl) (by kernel_rfl) (by kernel_rfl) (fun _ _ _ h => h) (Or.inl ⟨by rfl, fun w' hS' => (by obtain ⟨d0, d1, d2, d3, d4, d5, d6⟩ := hS'.cells; dsimp only at d0 d1 d2 d3 d4 d5 d6; simp only [Nat.zero_add] at d1 d2 d3 d4 d5 d6; go_simp)⟩) (hS _ h1) ?_
        simp only [List.setIfInBounds_toArray, List.set_cons_succ, List.set_cons_zero]
        refine take_at' (i := 4) 69 (v := .agg #[.int .i64 op, .int .i64 nn, .string s, .slice p pl pc, .slice q ql qc, .bool o, .slice k kl kc]) rfl rfl (by kernel_rfl) (by kernel_rfl) (by kernel_rfl) (fun _ _ _ h => h) (Or.inl ⟨by rfl, fun w' hS' => (by obtain ⟨d0, d1, d2, d3, d4, d5, d6⟩ := hS'.cells; dsimp only at d0 d1 d2 d3 d4 d5 d6; simp only [Nat.zero_add] at d1 d2 d3 d4 d5 d6; go_simp)⟩) (hS _ h1) ?_
        simp only [List.setIfInBounds_toArray, List.set_cons_succ, List.set_cons_zero]
        refine wpAnyH_all (rs := [3]) (by kernel_rfl) (by simp) ?_
        intro i hi
        obtain rfl : i = 3 := by simpa using hi
        refine call_at 68 (f := 20) (args := #[.agg #[.int .i64 op, .int .i64 nn, .string s, .slice p pl pc, .slice q ql qc, .bool o, .slice k kl kc]]) (w' := Z1) rfl rfl rfl (by go_simp) ((KR Z1 (hB _ h1).1).out.mono ?_)
        rintro e Z2 ⟨v2, rfl, hr2, hz⟩
        have hrl := refsL_len A
        obtain ⟨a2, c2, rfl, hs2⟩ := str_row hr2 (by omega) HTS.out
        have h2 := below_step h1 hz
        clear hz hr2
        refine ⟨_, rfl, hS _ h2, ?_⟩
        simp only [List.setIfInBounds_toArray, List.set_cons_succ, List.set_cons_zero]
        refine wpAnyH_all (rs := [5]) (by kernel_rfl) (by simp) ?_
        intro i hi
        obtain rfl : i = 5 := by simpa using hi
        refine call_at 70 (f := 21) (args := #[.agg #[.int .i64 op, .int .i64 nn, .string s, .slice p pl pc, .slice q ql qc, .bool o, .slice k kl kc]]) (w' := Z2) rfl rfl rfl (by go_simp) ((KRR Z2 (hB _ h2).1).out.mono ?_)
        rintro e Z3 ⟨v3, rfl, hr3, hz⟩
        obtain ⟨a3, c3, rfl, hs3⟩ := str_row hr3 (by omega) HTS.out
        have h3 := below_step h2 hz
        have hs2' := hs2.below hz
        clear hz hr3 hs2
        refine ⟨_, rfl, hS _ h3, ?_⟩
        simp only [List.setIfInBounds_toArray, List.set_cons_succ, List.set_cons_zero]
        obtain ⟨rl, hrl2⟩ : ∃ rl, (refsL A).length = rl := ⟨_, rfl⟩
        rw [hrl2] at hs3 hs2' ⊢
        refine wpAnyH_all (rs := [6]) (by kernel_rfl) (by simp) ?_
        intro i hi
        obtain rfl : i = 6 := by simpa using hi
        refine call_at 71 (f := 19) (args := #[.slice a2 rl c2, .slice a3 rl c3]) (w' := Z3) rfl rfl rfl (by go_simp) ((rsame_eq a2 a3 rl c2 rl c3 _ _ Z3 hs2' hs3).mono ?_)
        rintro e Z4 ⟨he, hz⟩
        rw [eqB_yes rfl] at he
        subst he
        have h4 := below_step h3 hz
        clear hz hs3 hs2'
        refine ⟨_, rfl, hS _ h4, ?_⟩
        simp only [List.setIfInBounds_toArray, List.set_cons_succ, List.set_cons_zero]
        refine take_at' (i := 7) 72 (v := .bool true) rfl rfl (by kernel_rfl) (by kernel_rfl) (by kernel_rfl) (fun _ _ _ h => h) (Or.inl ⟨by rfl, fun w' hS' => (by go_simp)⟩) (hS _ h4) ?_
        simp only [List.setIfInBounds_toArray, List.set_cons_succ, List.set_cons_zero]
        refine wpAnyH_all (rs := [8]) (by kernel_rfl) (by simp) ?_
        intro i hi
        obtain rfl : i = 8 := by simpa using hi
        have hR4 := (HWX.out Z4 (hB _ h4).2).2.2.1
        have c4 := hR4.cell
        have f4 := hR4.frozen
        refine skip_at (w' := Z4.setCell ⟨w.heap.size + 1 + 1, 0, none⟩ (.bool true)) rfl rfl rfl (by go_simp) ⟨(Below.heap_setCell Z4 ⟨w.heap.size + 1 + 1, 0, none⟩ _ _ (by simp; omega)).trans (hS _ h4), ?_⟩
        refine wpAnyH_done (by kernel_rfl) ?_ _
        unfold NoPanic
        have hk1 : (Z4.setCell ⟨w.heap.size + 1 + 1, 0, none⟩ (.bool true)).heap[D1]? = some (.deferred (some [])) := (Below.heap_setCell Z4 ⟨w.heap.size + 1 + 1, 0, none⟩ _ _ (by simp; omega)).trans ((h4.block _ (Array.getElem?_eq_some_iff.1 HDD1.out).1).trans HDD1.out)
        have hk0 : (Z4.setCell ⟨w.heap.size + 1 + 1, 0, none⟩ (.bool true)).heap[D0]? = some (.deferred (some [])) := (Below.heap_setCell Z4 ⟨w.heap.size + 1 + 1, 0, none⟩ _ _ (by simp; omega)).trans ((h4.block _ (Array.getElem?_eq_some_iff.1 HDD0.out).1).trans HDD0.out)
        have hRS := hR4.set (.bool true)
        have hBS := (hB _ h4).1.setCell (p := ⟨w.heap.size + 1 + 1, 0, none⟩) (by simp; omega) (.bool true)
        obtain ⟨Z5, hZ5⟩ : ∃ Z5, Z4.setCell ⟨w.heap.size + 1 + 1, 0, none⟩ (.bool true) = Z5 := ⟨_, rfl⟩
        rw [hZ5] at hk1 hk0 hRS hBS ⊢
        clear hZ5 c4 f4 hR4
        have HK1 := Lib.hid hk1
        have HK0 := Lib.hid hk0
        have HRS := Lib.hid hRS
        clear hk1 hk0 hRS
        gi_wp2_with fail
        have g1 := grownBy_putObj' Z5 D1 (.deferred none)
        have hk0' := (g1.block D0 (Array.getElem?_eq_some_iff.1 HK0.out).1 (fun e => hneD0 (by cases e; rfl))).trans HK0.out
        refine ⟨by simp, .inl ⟨_, _, rfl, run_takeDeferred HK1.out, ?_⟩⟩
        refine ⟨by simp, .inl ⟨_, _, rfl, run_takeDeferred hk0', ?_⟩⟩
        have g2 := grownBy_putObj' (Z5.putObj D1 (.deferred none)) D0 (.deferred none)
        have hc := ((HRS.out.kept g1 (fun e => by injection e with e; omega)).kept g2 (fun e => by injection e with e; omega)).cell
        exact ⟨.bool true, by simp [results, Tryd.results4, go_sem, hc], rfl, (hBS.grown g1 hBS.size (fun r e => by cases e; omega)).grown g2 (Nat.le_trans hBS.size g1.size) (fun r e => by cases e; omega)⟩
      case stop1 =>
        rintro D F2 c pre X hD hpre hI2 hKD
        exact hI2.elim
    case stop0 =>
      rintro D0 F2 c2 xs X hD hxs hI2 hKD
      obtain ⟨⟨rfl, hxl⟩, hq⟩ := hI2.held
      have hX3 := hsub _ _ _ hq
      have cn := hq.2.2.cell
      rw [hxl] at cn
      have cw := (HWX.out X hX3).2.2.2.cell
      have cm := (HWX.out X hX3).2.1.cell
      have hTX : Boxed X (w3.heap.size) 3 (.int .i64 0) := (hq.2.1.block _ hTb.lt (fun e => hTn (by cases e; rfl))).trans hTb
      have ct := hTX.cell
      have HKD0 := Lib.hid hKD
      have HX3 := Lib.hid hX3
      have hDXD0 : w3.heap.size ≤ D0 ∧ D0 < X.heap.size := ⟨Nat.le_trans hB3b.size (hI2.far _ hD), (Array.getElem?_eq_some_iff.1 hKD).1⟩
      clear hxs hI2 hq hX3 hKD hTX hTb hNb hBb hB3b hTn hn3 hlow hsub hnb hD hxl hlowx HTc HBc
      by_cases hma : m + 1 = (A.length : Int)
      · rw [hma] at cn
        gi_wp2_with fail
        obtain ⟨W1, hWn⟩ : ∃ W', X.alloc (.cells #[.int .i64 1] 3) = W' := ⟨_, rfl⟩
        obtain ⟨tb1, htb⟩ : ∃ z, X.heap.size = z := ⟨_, rfl⟩
        have hXn : Below X.heap.size X W1 := by rw [← hWn]; exact (Below.refl _ X).alloc (Nat.le_refl _) _
        have HBc := Lib.hid (below_step HX3.out hXn)
        have HTc : Hid (Boxed W1 tb1 3 (.int .i64 1)) := by rw [← hWn, ← htb]; exact Boxed.new X 3 _
        have HDD0 : Hid (W1.heap[D0]? = some (.deferred (some []))) := (hXn.block _ (Array.getElem?_eq_some_iff.1 HKD0.out).1).trans HKD0.out
        rw [hWn, htb]
        clear hWn hXn cn cw cm ct HX3 HKD0 htb
        rw [roundsIn_succ]
        have ct := HTc.out.cell
        gi_wp2_with fail
        obtain ⟨Wb, hWb⟩ : ∃ Wb, W1.alloc (.cells #[.int .i64 0] 3) = Wb := ⟨_, rfl⟩
        obtain ⟨nb, hnb⟩ : ∃ nb, W1.heap.size = nb := ⟨_, rfl⟩
        have hBb : Below W1.heap.size W1 Wb := by rw [← hWb]; exact (Below.refl _ W1).alloc (Nat.le_refl _) _
        have hNb : Boxed Wb nb 3 (.int .i64 0) := by rw [← hWb, ← hnb]; exact Boxed.new W1 3 _
        have hTb : Boxed Wb (tb1) 3 (.int .i64 1) := (hBb.block _ HTc.out.lt).trans HTc.out
        have hTn : tb1 ≠ nb := by have := HTc.out.lt; omega
        have hn3 : w3.heap.size ≤ nb := by have := HBc.out.size; omega
        have hB3b := below_step HBc.out hBb
        have hDbD0 : Wb.heap[D0]? = some (.deferred (some [])) := (hBb.block _ (Array.getElem?_eq_some_iff.1 HDD0.out).1).trans HDD0.out
        have hDnD0 : D0 ≠ nb := by have := (Array.getElem?_eq_some_iff.1 HDD0.out).1; omega
        rw [hWb, hnb]
        clear hWb ct
        have hlow : Low Wb.heap.size (WkQ Wb nb A.length) := low_wkq (Nat.le_refl _) hNb.lt
        have hsub : ∀ u pre X, WkQ Wb nb u pre X → Below w3.heap.size w3 X := fun u pre X hq => hB3b.grown hq.2.1 hB3b.size (fun r e => by cases e; omega)
        refine range_fit (gf := 43) (lb := #[.pointer (some ⟨be, 0, none⟩)]) (by decide) rfl (enters_of Tryd.func43 (by kernel_rfl) rfl) HF.out (fun _ => rfl)
          (LowI Wb.heap.size (WkQ Wb nb A.length)) (fun _ _ _ _ => False) (fr_low hlow) (fun c => ⟨fun h _ => h, fun h _ _ => h, fun _ h => h⟩) (fun F pre X hi => ⟨hsub _ _ _ hi.held, ((hsub _ _ _ hi.held).block _ hbe3).trans HW.out.2.1⟩)
          ⟨fun _ h => h.elim, Nat.le_refl _, ⟨(by simp; try omega), ⟨rfl, rfl, rfl, Nat.le_refl _, fun _ _ _ => rfl⟩, hNb⟩⟩ ?round1 ?done1 ?stop1
        case round1 =>
          rintro l2 F2 ys ⟨yh, yx⟩ X hl2 hrec hI2 ⟨⟨mm, hfit⟩, hpre⟩
          obtain ⟨op2, nn2, s2, p2, pl2, pc2, q2, ql2, qc2, o2, k2, kl2, kc2⟩ := yh
          have hlX : l2 < X.heap.size := by obtain ⟨r, hr⟩ := hrec; exact (Array.getElem?_eq_some_iff.1 hr).1
          have HFX := Lib.hid hfit
          have HI2 := Lib.hid hI2
          obtain ⟨hyl, hyx⟩ := prefix_at hpre
          have HPRE := Lib.hid hyx
          clear hfit hI2 hrec hpre hyx
          dsimp only [encX, Hd.agg]
          gi_wp2
          refine ⟨⟨by simp, fun i _ hi => Below.heap_alloc _ _ _ hi⟩, (fr_low hlow).alloc HI2.out _, ?_⟩
          intro Y hYz hYo _ hYl hIY
          have hbx : BoxH Y X.heap.size ⟨op2, nn2, s2, p2, pl2, pc2, q2, ql2, qc2, o2, k2, kl2, kc2⟩ := (hYo _ (by omega)).trans (World.alloc_heap_new X _)
          have hneX : nb ≠ X.heap.size := by have := HI2.out.size; have := hNb.lt; omega
          obtain ⟨hju, hgr, hbn⟩ := hIY.held
          have hB3Y := hsub _ _ _ hIY.held
          obtain ⟨j, hj⟩ : ∃ j, ys.length = j := ⟨_, rfl⟩
          obtain ⟨b, off, y, rfl, lt, hy2, m3, hI3⟩ := HK3.out.at_ ys.length hyl
          obtain ⟨op3, nn3, s3, p3, pl3, pc3, q3, ql3, qc3, o3, k3, kl3, kc3⟩ := y
          have HSM : ∀ W, Below w3.heap.size w3 W → Hid (Calls Tryd.prog 17 #[.agg #[.int .i64 op2, .int .i64 nn2, .string s2, .slice p2 pl2 pc2, .slice q2 ql2 qc2, .bool o2, .slice k2 kl2 kc2], .agg #[.int .i64 op3, .int .i64 nn3, .string s3, .slice p3 pl3 pc3, .slice q3 ql3 qc3, .bool o3, .slice k3 kl3 kc3]] W (BoolP true W)) := fun W hW => by
            have h9 := rsame_any w3 mm m3 ⟨op2, nn2, s2, p2, pl2, pc2, q2, ql2, qc2, o2, k2, kl2, kc2⟩ ⟨op3, nn3, s3, p3, pl3, pc3, q3, ql3, qc3, o3, k3, kl3, kc3⟩ yx A[ys.length] W HFX.out hI3 hW
            rw [HPRE.out, eqB_yes rfl] at h9
            exact h9
          have HIY := Lib.hid hIY
          have HY3 := Lib.hid hB3Y
          have HBN := Lib.hid hbn
          have HXB := Lib.hid hbx
          have HH := Lib.hid hy2
          have HLT := Lib.hid lt
          have HJ := Lib.hid hj
          rw [hj] at hyl HH HBN hju
          have hki : (j : Int) < (A.length : Int) := by omega
          have hk0 : (0 : Int) ≤ (j : Int) := by omega
          clear hI3 hIY hB3Y hbn hbx hy2 lt hYz hYo hYl hgr hj HPRE HFX
          gi_upto_region 13 with fail
          obtain ⟨wd, hwd⟩ : ∃ wd : World, wd = { Y with drawn := Y.drawn + 1 } := ⟨_, rfl⟩
          have hbd : Below Y.heap.size Y wd := by rw [hwd]; exact (Below.refl _ Y).drew
          have hS : ∀ Z, Below Y.heap.size Y Z → (Boxed Z nb 3 (.int .i64 j) ∧ Boxed Z w2.heap.size 24 (.slice (some ⟨b, off, none⟩) A.length c) ∧ BoxH Z X.heap.size ⟨op2, nn2, s2, p2, pl2, pc2, q2, ql2, qc2, o2, k2, kl2, kc2⟩ ∧ HdAt Z b (off + j * 7) ⟨op3, nn3, s3, p3, pl3, pc3, q3, ql3, qc3, o3, k3, kl3, kc3⟩) := fun Z hZ => ⟨(hZ.block _ HBN.out.lt).trans HBN.out, (HWX.out Z (below_step HY3.out hZ)).2.2.2, (hZ.block _ HXB.out.lt).trans HXB.out, HH.out.below (below_step HY3.out hZ) HLT.out⟩
          refine region_in (S := fun X' => Boxed X' nb 3 (.int .i64 j) ∧ Boxed X' w2.heap.size 24 (.slice (some ⟨b, off, none⟩) A.length c) ∧ BoxH X' X.heap.size ⟨op2, nn2, s2, p2, pl2, pc2, q2, ql2, qc2, o2, k2, kl2, kc2⟩ ∧ HdAt X' b (off + j * 7) ⟨op3, nn3, s3, p3, pl3, pc3, q3, ql3, qc3, o3, k3, kl3, kc3⟩) (by kernel_rfl) (noDefer_spec (by kernel_rfl)) (fun ⟨_, _, h⟩ => h) ?_
          rw [← hwd]
          clear hwd
          have hS0 := hS wd hbd
          refine take_at' (i := 0) 26 (v := .int .i64 j) rfl rfl (by kernel_rfl) (by kernel_rfl) (by kernel_rfl) (fun _ _ _ h => h) (Or.inl ⟨by rfl, fun w' hS' => (by have cn := hS'.1.cell; go_simp)⟩) hS0 ?_
          simp only [List.setIfInBounds_toArray, List.set_cons_succ, List.set_cons_zero]
          refine take_at' (i := 1) 27 (v := .slice (some ⟨b, off, none⟩) A.length c) rfl rfl (by kernel_rfl) (by kernel_rfl) (by kernel_rfl) (fun _ _ _ h => h) (Or.inl ⟨by rfl, fun w' hS' => (by have cw := hS'.2.1.cell; go_simp)⟩) hS0 ?_
          simp only [List.setIfInBounds_toArray, List.set_cons_succ, List.set_cons_zero]
          refine take_at' (i := 2) 28 (v := .int .i64 A.length) rfl rfl (by kernel_rfl) (by kernel_rfl) (by kernel_rfl) (fun _ _ _ h => h) (Or.inl ⟨by rfl, fun w' hS' => (by go_simp)⟩) hS0 ?_
          simp only [List.setIfInBounds_toArray, List.set_cons_succ, List.set_cons_zero]
          refine take_at' (i := 3) 29 (v := .bool false) rfl rfl (by kernel_rfl) (by kernel_rfl) (by kernel_rfl) (fun _ _ _ h => h) (Or.inl ⟨by rfl, fun w' hS' => (by go_simp)⟩) hS0 ?_
          simp only [List.setIfInBounds_toArray, List.set_cons_succ, List.set_cons_zero]
          refine take_at' (i := 4) 30 (v := .bool false) rfl rfl (by kernel_rfl) (by kernel_rfl) (by kernel_rfl) (fun _ _ _ h => h) (Or.inl ⟨by rfl, fun w' hS' => (by go_simp)⟩) hS0 ?_
          simp only [List.setIfInBounds_toArray, List.set_cons_succ, List.set_cons_zero]
          refine take_at' (i := 5) 31 (v := .agg #[.int .i64 op2, .int .i64 nn2, .string s2, .slice p2 pl2 pc2, .slice q2 ql2 qc2, .bool o2, .slice k2 kl2 kc2]) rfl rfl (by kernel_rfl) (by kernel_rfl) (by kernel_rfl) (fun _ _ _ h => h) (Or.inl ⟨by rfl, fun w' hS' => (by obtain ⟨d0, d1, d2, d3, d4, d5, d6⟩ := hS'.2.2.1.cells; dsimp only at d0 d1 d2 d3 d4 d5 d6; simp only [Nat.zero_add] at d1 d2 d3 d4 d5 d6; go_simp)⟩) hS0 ?_
          simp only [List.setIfInBounds_toArray, List.set_cons_succ, List.set_cons_zero]
          refine take_at' (i := 6) 32 (v := .slice (some ⟨b, off, none⟩) A.length c) rfl rfl (by kernel_rfl) (by kernel_rfl) (by kernel_rfl) (fun _ _ _ h => h) (Or.inl ⟨by rfl, fun w' hS' => (by have cw := hS'.2.1.cell; go_simp)⟩) hS0 ?_
          simp only [List.setIfInBounds_toArray, List.set_cons_succ, List.set_cons_zero]
          refine take_at' (i := 7) 33 (v := .int .i64 j) rfl rfl (by kernel_rfl) (by kernel_rfl) (by kernel_rfl) (fun _ _ _ h => h) (Or.inl ⟨by rfl, fun w' hS' => (by have cn := hS'.1.cell; go_simp)⟩) hS0 ?_
          simp only [List.setIfInBounds_toArray, List.set_cons_succ, List.set_cons_zero]
          refine take_at' (i := 8) 34 (v := .pointer (some ⟨b, off + j * 7, none⟩)) rfl rfl (by kernel_rfl) (by kernel_rfl) (by kernel_rfl) (fun _ _ _ h => h) (Or.inl ⟨by rfl, fun w' hS' => (by go_simp)⟩) hS0 ?_
          simp only [List.setIfInBounds_toArray, List.set_cons_succ, List.set_cons_zero]
          refine take_at' (i := 9) 35 (v := .agg #[.int .i64 op3, .int .i64 nn3, .string s3, .slice p3 pl3 pc3, .slice q3 ql3 qc3, .bool o3, .slice k3 kl3 kc3]) rfl rfl (by kernel_rfl) (by kernel_rfl) (by kernel_rfl) (fun _ _ _ h => h) (Or.inl ⟨by rfl, fun w' hS' => (by obtain ⟨d0, d1, d2, d3, d4, d5, d6⟩ := hS'.2.2.2; dsimp only at d0 d1 d2 d3 d4 d5 d6; go_simp)⟩) hS0 ?_
          simp only [List.setIfInBounds_toArray, List.set_cons_succ, List.set_cons_zero]
          refine wpAnyH_all (rs := [10]) (by kernel_rfl) (by simp) ?_
          intro i hi
          obtain rfl : i = 10 := by simpa using hi
          refine call_at 36 (f := 17) (args := #[.agg #[.int .i64 op2, .int .i64 nn2, .string s2, .slice p2 pl2 pc2, .slice q2 ql2 qc2, .bool o2, .slice k2 kl2 kc2], .agg #[.int .i64 op3, .int .i64 nn3, .string s3, .slice p3 pl3 pc3, .slice q3 ql3 qc3, .bool o3, .slice k3 kl3 kc3]]) (w' := wd) rfl rfl rfl (by go_simp) ((HSM wd (below_step HY3.out hbd)).out.mono ?_)
          rintro e Z ⟨rfl, hZ⟩
          have HZ := Lib.hid (below_step hbd hZ)
          have hSZ := hS Z HZ.out
          clear hZ
          refine ⟨_, rfl, hSZ, ?_⟩
          simp only [List.setIfInBounds_toArray, List.set_cons_succ, List.set_cons_zero]
          refine take_at' (i := 11) 37 (v := .bool false) rfl rfl (by kernel_rfl) (by kernel_rfl) (by kernel_rfl) (fun _ _ _ h => h) (Or.inl ⟨by rfl, fun w' hS' => (by go_simp)⟩) hSZ ?_
          simp only [List.setIfInBounds_toArray, List.set_cons_succ, List.set_cons_zero]
          refine take_at' (i := 12) 38 (v := .bool false) rfl rfl (by kernel_rfl) (by kernel_rfl) (by kernel_rfl) (fun _ _ _ h => h) (Or.inl ⟨by rfl, fun w' hS' => (by go_simp)⟩) hSZ ?_
          simp only [List.setIfInBounds_toArray, List.set_cons_succ, List.set_cons_zero]
          refine wpAnyH_done (by kernel_rfl) ?_ _
          have cn := hSZ.1.cell
          have fn := hSZ.1.frozen
          have hZ3 := below_step HY3.out HZ.out
          have cm := (HWX.out Z hZ3).2.1.cell
          have hTZ : Boxed Z (tb1) 3 (.int .i64 1) := (HZ.out.block _ (Nat.lt_of_lt_of_le hTb.lt HIY.out.held.2.1.size)).trans ((HIY.out.held.2.1.block _ hTb.lt (fun e => hTn (by cases e; rfl))).trans hTb)
          have ct := hTZ.cell
          have HNZ := Lib.hid hSZ.1
          have hzz := (grownBy_setCell' Z nb (.int .i64 ((j : Int) + 1)))
          have hst : Stays F2 Y (Z.setCell ⟨nb, 0, none⟩ (.int .i64 ((j : Int) + 1))) := ((Stays.refl _ _).grown (grown_below HZ.out) (fun _ e => by cases e)).grown hzz (fun r e hr => by cases e; have := HIY.out.far _ hr; have := hNb.lt; omega)
          have hwk : ∀ u : Int, (j : Int) + 1 ≤ u → WkQ Wb nb u (ys ++ [(⟨op2, nn2, s2, p2, pl2, pc2, q2, ql2, qc2, o2, k2, kl2, kc2⟩, yx)]) (Z.setCell ⟨nb, 0, none⟩ (.int .i64 ((j : Int) + 1))) := fun u hu => by
            refine ⟨by rw [List.length_append, HJ.out]; simpa using hu, World.grownBy.trans (World.grownBy.trans HIY.out.held.2.1 ⟨HZ.out.os, HZ.out.tape, HZ.out.output, HZ.out.size, fun k hk _ => HZ.out.block k hk⟩) hzz, ?_⟩
            have h7 := HNZ.out.set (.int .i64 ((j : Int) + 1))
            rw [List.length_append, HJ.out]; exact h7
          have HWK := Lib.hid hwk
          have HST := Lib.hid hst
          have hszz := Nat.le_trans HIY.out.size (Nat.le_trans HZ.out.size hzz.size)
          clear hwk hst hzz
          clear hS hS0 hSZ hbd hTZ
          gi_wp2_with fail
          exact ⟨HST.out, HIY.out.far, hszz, HWK.out _ (by omega)⟩
        case done1 =>
          rintro D1 F2 xs X hD hxs hI2 hKD
          have hxl : xs.length = A.length := by rw [← hxs, List.length_map]
          have hq := hI2.held
          have hX3 := hsub _ _ _ hq
          have cn := hq.2.2.cell
          rw [hxl] at cn
          have cw := (HWX.out X hX3).2.2.2.cell
          have cm := (HWX.out X hX3).2.1.cell
          have hTX : Boxed X (tb1) 3 (.int .i64 1) := (hq.2.1.block _ hTb.lt (fun e => hTn (by cases e; rfl))).trans hTb
          have ct := hTX.cell
          have HKD1 := Lib.hid hKD
          have HX3 := Lib.hid hX3
          have HED0 : Hid (X.heap[D0]? = some (.deferred (some []))) := (hq.2.1.block _ (Array.getElem?_eq_some_iff.1 hDbD0).1 (fun e => hDnD0 (by cases e; rfl))).trans hDbD0
          have hDXD1 : w3.heap.size ≤ D1 ∧ D1 < X.heap.size := ⟨Nat.le_trans hB3b.size (hI2.far _ hD), (Array.getElem?_eq_some_iff.1 hKD).1⟩
          have hneD0 : D0 ≠ D1 := by have := (Array.getElem?_eq_some_iff.1 hDbD0).1; have := hI2.far _ hD; omega
          clear hxs hI2 hq hX3 hKD hTX hTb hNb hBb hB3b hTn hn3 hlow hsub hnb hD hxl hDbD0 hDnD0 HTc HBc
          gi_wp2_with fail
          obtain ⟨W2, hWn⟩ : ∃ W', X.alloc (.cells #[.int .i64 2] 3) = W' := ⟨_, rfl⟩
          obtain ⟨tb2, htb⟩ : ∃ z, X.heap.size = z := ⟨_, rfl⟩
          have hXn : Below X.heap.size X W2 := by rw [← hWn]; exact (Below.refl _ X).alloc (Nat.le_refl _) _
          have HBc := Lib.hid (below_step HX3.out hXn)
          have HTc : Hid (Boxed W2 tb2 3 (.int .i64 2)) := by rw [← hWn, ← htb]; exact Boxed.new X 3 _
          have HDD0 : Hid (W2.heap[D0]? = some (.deferred (some []))) := (hXn.block _ (Array.getElem?_eq_some_iff.1 HED0.out).1).trans HED0.out
          have HDD1 : Hid (W2.heap[D1]? = some (.deferred (some []))) := (hXn.block _ (Array.getElem?_eq_some_iff.1 HKD1.out).1).trans HKD1.out
          rw [hWn, htb]
          clear hWn hXn cn cw cm ct HX3 HKD1 htb HED0
          rw [roundsIn_succ]
          have ct := HTc.out.cell
          gi_upto_region 21 with fail
          obtain ⟨Z0, hZ0⟩ : ∃ wd : World, wd = { W2 with drawn := W2.drawn + 1 } := ⟨_, rfl⟩
          have h0 : Below W2.heap.size W2 Z0 := by rw [hZ0]; exact (Below.refl _ W2).drew
          have hB : ∀ Z, Below W2.heap.size W2 Z → Below w.heap.size w Z ∧ Below w3.heap.size w3 Z := fun Z hZ => ⟨below_step HBW.out (below_step HBc.out hZ), below_step HBc.out hZ⟩
          have hS : ∀ Z, Below W2.heap.size W2 Z → BoxH Z w.heap.size ⟨op, nn, s, p, pl, pc, q, ql, qc, o, k, kl, kc⟩ := fun Z hZ => (HWX.out Z (hB Z hZ).2).1
          refine wpIn_wide.2 (wp_region_noPanic (wp_region_held (S := fun X' => BoxH X' w.heap.size ⟨op, nn, s, p, pl, pc, q, ql, qc, o, k, kl, kc⟩) (by kernel_rfl) ?_))
          rw [← hZ0]
          clear hZ0 ct
          refine wpAnyH_all (rs := [0]) (by kernel_rfl) (by simp) ?_
          intro i hi
          obtain rfl : i = 0 := by simpa using hi
          refine call_at 65 (f := 7) (args := #[]) (w' := Z0) rfl rfl rfl (by go_simp) ((CW Z0 (hB _ h0).1).out.mono ?_)
          rintro e Z1 ⟨rfl, hz⟩
          have h1 := below_step h0 hz
          clear hz
          refine ⟨_, rfl, hS _ h1, ?_⟩
          simp only [List.setIfInBounds_toArray, List.set_cons_succ, List.set_cons_zero]
          refine take_at' (i := 1) 66 (v := .bool true) rfl rfl (by kernel_rfl) (by kernel_rfl) (by kernel_rfl) (fun _ _ _ h => h) (Or.inl ⟨by rfl, fun w' hS' => (by go_simp)⟩) (hS _ h1) ?_
          simp only [List.setIfInBounds_toArray, List.set_cons_succ, List.set_cons_zero]
          refine take_at' (i := 2) 67 (v := .agg #[.int .i64 op, .int .i64 nn, .string s, .slice p pl pc, .slice q ql qc, .bool o, .slice k kl kc]) rfl rfl (by kernel_rfl) (by kernel_rfl) (by kernel_rfl) (fun _ _ _ h => h) (Or.inl ⟨by rfl, fun w' hS' => (by obtain ⟨d0, d1, d2, d3, d4, d5, d6⟩ := hS'.cells; dsimp only at d0 d1 d2 d3 d4 d5 d6; simp only [Nat.zero_add] at d1 d2 d3 d4 d5 d6; go_simp)⟩) (hS _ h1) ?_
          simp only [List.setIfInBounds_toArray, List.set_cons_succ, List.set_cons_zero]
          refine take_at' (i := 4) 69 (v := .agg #[.int .i64 op, .int .i64 nn, .string s, .slice p pl pc, .slice q ql qc, .bool o, .slice k kl kc]) rfl rfl (by kernel_rfl) (by kernel_rfl) (by kernel_rfl) (fun _ _ _ h => h) (Or.inl ⟨by rfl, fun w' hS' => (by obtain ⟨d0, d1, d2, d3, d4, d5, d6⟩ := hS'.cells; dsimp only at d0 d1 d2 d3 d4 d5 d6; simp only [Nat.zero_add] at d1 d2 d3 d4 d5 d6; go_simp)⟩) (hS _ h1) ?_
          simp only [List.setIfInBounds_toArray, List.set_cons_succ, List.set_cons_zero]
          refine wpAnyH_all (rs := [3]) (by kernel_rfl) (by simp) ?_
          intro i hi
          obtain rfl : i = 3 := by simpa using hi
          refine call_at 68 (f := 20) (args := #[.agg #[.int .i64 op, .int .i64 nn, .string s, .slice p pl pc, .slice q ql qc, .bool o, .slice k kl kc]]) (w' := Z1) rfl rfl rfl (by go_simp) ((KR Z1 (hB _ h1).1).out.mono ?_)
          rintro e Z2 ⟨v2, rfl, hr2, hz⟩
          have hrl := refsL_len A
          obtain ⟨a2, c2, rfl, hs2⟩ := str_row hr2 (by omega) HTS.out
          have h2 := below_step h1 hz
          clear hz hr2
          refine ⟨_, rfl, hS _ h2, ?_⟩
          simp only [List.setIfInBounds_toArray, List.set_cons_succ, List.set_cons_zero]
          refine wpAnyH_all (rs := [5]) (by kernel_rfl) (by simp) ?_
          intro i hi
          obtain rfl : i = 5 := by simpa using hi
          refine call_at 70 (f := 21) (args := #[.agg #[.int .i64 op, .int .i64 nn, .string s, .slice p pl pc, .slice q ql qc, .bool o, .slice k kl kc]]) (w' := Z2) rfl rfl rfl (by go_simp) ((KRR Z2 (hB _ h2).1).out.mono ?_)
          rintro e Z3 ⟨v3, rfl, hr3, hz⟩
          obtain ⟨a3, c3, rfl, hs3⟩ := str_row hr3 (by omega) HTS.out
          have h3 := below_step h2 hz
          have hs2' := hs2.below hz
          clear hz hr3 hs2
          refine ⟨_, rfl, hS _ h3, ?_⟩
          simp only [List.setIfInBounds_toArray, List.set_cons_succ, List.set_cons_zero]
          obtain ⟨rl, hrl2⟩ : ∃ rl, (refsL A).length = rl := ⟨_, rfl⟩
          rw [hrl2] at hs3 hs2' ⊢
          refine wpAnyH_all (rs := [6]) (by kernel_rfl) (by simp) ?_
          intro i hi
          obtain rfl : i = 6 := by simpa using hi
          refine call_at 71 (f := 19) (args := #[.slice a2 rl c2, .slice a3 rl c3]) (w' := Z3) rfl rfl rfl (by go_simp) ((rsame_eq a2 a3 rl c2 rl c3 _ _ Z3 hs2' hs3).mono ?_)
          rintro e Z4 ⟨he, hz⟩
          rw [eqB_yes rfl] at he
          subst he
          have h4 := below_step h3 hz
          clear hz hs3 hs2'
          refine ⟨_, rfl, hS _ h4, ?_⟩
          simp only [List.setIfInBounds_toArray, List.set_cons_succ, List.set_cons_zero]
          refine take_at' (i := 7) 72 (v := .bool true) rfl rfl (by kernel_rfl) (by kernel_rfl) (by kernel_rfl) (fun _ _ _ h => h) (Or.inl ⟨by rfl, fun w' hS' => (by go_simp)⟩) (hS _ h4) ?_
          simp only [List.setIfInBounds_toArray, List.set_cons_succ, List.set_cons_zero]
          refine wpAnyH_all (rs := [8]) (by kernel_rfl) (by simp) ?_
          intro i hi
          obtain rfl : i = 8 := by simpa using hi
          have hR4 := (HWX.out Z4 (hB _ h4).2).2.2.1
          have c4 := hR4.cell
          have f4 := hR4.frozen
          refine skip_at (w' := Z4.setCell ⟨w.heap.size + 1 + 1, 0, none⟩ (.bool true)) rfl rfl rfl (by go_simp) ⟨(Below.heap_setCell Z4 ⟨w.heap.size + 1 + 1, 0, none⟩ _ _ (by simp; omega)).trans (hS _ h4), ?_⟩
          refine wpAnyH_done (by kernel_rfl) ?_ _
          unfold NoPanic
          have hk1 : (Z4.setCell ⟨w.heap.size + 1 + 1, 0, none⟩ (.bool true)).heap[D1]? = some (.deferred (some [])) := (Below.heap_setCell Z4 ⟨w.heap.size + 1 + 1, 0, none⟩ _ _ (by simp; omega)).trans ((h4.block _ (Array.getElem?_eq_some_iff.1 HDD1.out).1).trans HDD1.out)
          have hk0 : (Z4.setCell ⟨w.heap.size + 1 + 1, 0, none⟩ (.bool true)).heap[D0]? = some (.deferred (some [])) := (Below.heap_setCell Z4 ⟨w.heap.size + 1 + 1, 0, none⟩ _ _ (by simp; omega)).trans ((h4.block _ (Array.getElem?_eq_some_iff.1 HDD0.out).1).trans HDD0.out)
          have hRS := hR4.set (.bool true)
          have hBS := (hB _ h4).1.setCell (p := ⟨w.heap.size + 1 + 1, 0, none⟩) (by simp; omega) (.bool true)
          obtain ⟨Z5, hZ5⟩ : ∃ Z5, Z4.setCell ⟨w.heap.size + 1 + 1, 0, none⟩ (.bool true) = Z5 := ⟨_, rfl⟩
          rw [hZ5] at hk1 hk0 hRS hBS ⊢
          clear hZ5 c4 f4 hR4
          have HK1 := Lib.hid hk1
          have HK0 := Lib.hid hk0
          have HRS := Lib.hid hRS
          clear hk1 hk0 hRS
          gi_wp2_with fail
          have g1 := grownBy_putObj' Z5 D1 (.deferred none)
          have hk0' := (g1.block D0 (Array.getElem?_eq_some_iff.1 HK0.out).1 (fun e => hneD0 (by cases e; rfl))).trans HK0.out
          refine ⟨by simp, .inl ⟨_, _, rfl, run_takeDeferred HK1.out, ?_⟩⟩
          refine ⟨by simp, .inl ⟨_, _, rfl, run_takeDeferred hk0', ?_⟩⟩
          have g2 := grownBy_putObj' (Z5.putObj D1 (.deferred none)) D0 (.deferred none)
          have hc := ((HRS.out.kept g1 (fun e => by injection e with e; omega)).kept g2 (fun e => by injection e with e; omega)).cell
          exact ⟨.bool true, by simp [results, Tryd.results4, go_sem, hc], rfl, (hBS.grown g1 hBS.size (fun r e => by cases e; omega)).grown g2 (Nat.le_trans hBS.size g1.size) (fun r e => by cases e; omega)⟩
        case stop1 =>
          rintro D F2 c pre X hD hpre hI2 hKD
          exact hI2.elim
      · have hmb : ((m + 1 : Int) != (A.length : Int)) = true := by simpa using hma
        gi_wp2_with fail
        obtain ⟨W1, hWn⟩ : ∃ W', X.alloc (.cells #[.int .i64 1] 3) = W' := ⟨_, rfl⟩
        obtain ⟨tb1, htb⟩ : ∃ z, X.heap.size = z := ⟨_, rfl⟩
        have hXn : Below X.heap.size X W1 := by rw [← hWn]; exact (Below.refl _ X).alloc (Nat.le_refl _) _
        have HBc := Lib.hid (below_step HX3.out hXn)
        have HTc : Hid (Boxed W1 tb1 3 (.int .i64 1)) := by rw [← hWn, ← htb]; exact Boxed.new X 3 _
        have HDD0 : Hid (W1.heap[D0]? = some (.deferred (some []))) := (hXn.block _ (Array.getElem?_eq_some_iff.1 HKD0.out).1).trans HKD0.out
        rw [hWn, htb]
        clear hWn hXn cn cw cm ct HX3 HKD0 htb
        rw [roundsIn_succ]
        have ct := HTc.out.cell
        gi_wp2_with fail
        obtain ⟨Wb, hWb⟩ : ∃ Wb, W1.alloc (.cells #[.int .i64 0] 3) = Wb := ⟨_, rfl⟩
        obtain ⟨nb, hnb⟩ : ∃ nb, W1.heap.size = nb := ⟨_, rfl⟩
        have hBb : Below W1.heap.size W1 Wb := by rw [← hWb]; exact (Below.refl _ W1).alloc (Nat.le_refl _) _
        have hNb : Boxed Wb nb 3 (.int .i64 0) := by rw [← hWb, ← hnb]; exact Boxed.new W1 3 _
        have hTb : Boxed Wb (tb1) 3 (.int .i64 1) := (hBb.block _ HTc.out.lt).trans HTc.out
        have hTn : tb1 ≠ nb := by have := HTc.out.lt; omega
        have hn3 : w3.heap.size ≤ nb := by have := HBc.out.size; omega
        have hB3b := below_step HBc.out hBb
        have hDbD0 : Wb.heap[D0]? = some (.deferred (some [])) := (hBb.block _ (Array.getElem?_eq_some_iff.1 HDD0.out).1).trans HDD0.out
        have hDnD0 : D0 ≠ nb := by have := (Array.getElem?_eq_some_iff.1 HDD0.out).1; omega
        rw [hWb, hnb]
        clear hWb ct
        have hlow : Low Wb.heap.size (WkQ Wb nb A.length) := low_wkq (Nat.le_refl _) hNb.lt
        have hsub : ∀ u pre X, WkQ Wb nb u pre X → Below w3.heap.size w3 X := fun u pre X hq => hB3b.grown hq.2.1 hB3b.size (fun r e => by cases e; omega)
        refine range_fit (gf := 43) (lb := #[.pointer (some ⟨be, 0, none⟩)]) (by decide) rfl (enters_of Tryd.func43 (by kernel_rfl) rfl) HF.out (fun _ => rfl)
          (LowI Wb.heap.size (WkQ Wb nb A.length)) (fun _ _ _ _ => False) (fr_low hlow) (fun c => ⟨fun h _ => h, fun h _ _ => h, fun _ h => h⟩) (fun F pre X hi => ⟨hsub _ _ _ hi.held, ((hsub _ _ _ hi.held).block _ hbe3).trans HW.out.2.1⟩)
          ⟨fun _ h => h.elim, Nat.le_refl _, ⟨(by simp; try omega), ⟨rfl, rfl, rfl, Nat.le_refl _, fun _ _ _ => rfl⟩, hNb⟩⟩ ?round1 ?done1 ?stop1
        case round1 =>
          rintro l2 F2 ys ⟨yh, yx⟩ X hl2 hrec hI2 ⟨⟨mm, hfit⟩, hpre⟩
          obtain ⟨op2, nn2, s2, p2, pl2, pc2, q2, ql2, qc2, o2, k2, kl2, kc2⟩ := yh
          have hlX : l2 < X.heap.size := by obtain ⟨r, hr⟩ := hrec; exact (Array.getElem?_eq_some_iff.1 hr).1
          have HFX := Lib.hid hfit
          have HI2 := Lib.hid hI2
          obtain ⟨hyl, hyx⟩ := prefix_at hpre
          have HPRE := Lib.hid hyx
          clear hfit hI2 hrec hpre hyx
          dsimp only [encX, Hd.agg]
          gi_wp2
          refine ⟨⟨by simp, fun i _ hi => Below.heap_alloc _ _ _ hi⟩, (fr_low hlow).alloc HI2.out _, ?_⟩
          intro Y hYz hYo _ hYl hIY
          have hbx : BoxH Y X.heap.size ⟨op2, nn2, s2, p2, pl2, pc2, q2, ql2, qc2, o2, k2, kl2, kc2⟩ := (hYo _ (by omega)).trans (World.alloc_heap_new X _)
          have hneX : nb ≠ X.heap.size := by have := HI2.out.size; have := hNb.lt; omega
          obtain ⟨hju, hgr, hbn⟩ := hIY.held
          have hB3Y := hsub _ _ _ hIY.held
          obtain ⟨j, hj⟩ : ∃ j, ys.length = j := ⟨_, rfl⟩
          obtain ⟨b, off, y, rfl, lt, hy2, m3, hI3⟩ := HK3.out.at_ ys.length hyl
          obtain ⟨op3, nn3, s3, p3, pl3, pc3, q3, ql3, qc3, o3, k3, kl3, kc3⟩ := y
          have HSM : ∀ W, Below w3.heap.size w3 W → Hid (Calls Tryd.prog 17 #[.agg #[.int .i64 op2, .int .i64 nn2, .string s2, .slice p2 pl2 pc2, .slice q2 ql2 qc2, .bool o2, .slice k2 kl2 kc2], .agg #[.int .i64 op3, .int .i64 nn3, .string s3, .slice p3 pl3 pc3, .slice q3 ql3 qc3, .bool o3, .slice k3 kl3 kc3]] W (BoolP true W)) := fun W hW => by
            have h9 := rsame_any w3 mm m3 ⟨op2, nn2, s2, p2, pl2, pc2, q2, ql2, qc2, o2, k2, kl2, kc2⟩ ⟨op3, nn3, s3, p3, pl3, pc3, q3, ql3, qc3, o3, k3, kl3, kc3⟩ yx A[ys.length] W HFX.out hI3 hW
            rw [HPRE.out, eqB_yes rfl] at h9
            exact h9
          have HIY := Lib.hid hIY
          have HY3 := Lib.hid hB3Y
          have HBN := Lib.hid hbn
          have HXB := Lib.hid hbx
          have HH := Lib.hid hy2
          have HLT := Lib.hid lt
          have HJ := Lib.hid hj
          rw [hj] at hyl HH HBN hju
          have hki : (j : Int) < (A.length : Int) := by omega
          have hk0 : (0 : Int) ≤ (j : Int) := by omega
          clear hI3 hIY hB3Y hbn hbx hy2 lt hYz hYo hYl hgr hj HPRE HFX
          gi_upto_region 13 with fail
          obtain ⟨wd, hwd⟩ : ∃ wd : World, wd = { Y with drawn := Y.drawn + 1 } := ⟨_, rfl⟩
          have hbd : Below Y.heap.size Y wd := by rw [hwd]; exact (Below.refl _ Y).drew
          have hS : ∀ Z, Below Y.heap.size Y Z → (Boxed Z nb 3 (.int .i64 j) ∧ Boxed Z w2.heap.size 24 (.slice (some ⟨b, off, none⟩) A.length c) ∧ BoxH Z X.heap.size ⟨op2, nn2, s2, p2, pl2, pc2, q2, ql2, qc2, o2, k2, kl2, kc2⟩ ∧ HdAt Z b (off + j * 7) ⟨op3, nn3, s3, p3, pl3, pc3, q3, ql3, qc3, o3, k3, kl3, kc3⟩) := fun Z hZ => ⟨(hZ.block _ HBN.out.lt).trans HBN.out, (HWX.out Z (below_step HY3.out hZ)).2.2.2, (hZ.block _ HXB.out.lt).trans HXB.out, HH.out.below (below_step HY3.out hZ) HLT.out⟩
          refine region_in (S := fun X' => Boxed X' nb 3 (.int .i64 j) ∧ Boxed X' w2.heap.size 24 (.slice (some ⟨b, off, none⟩) A.length c) ∧ BoxH X' X.heap.size ⟨op2, nn2, s2, p2, pl2, pc2, q2, ql2, qc2, o2, k2, kl2, kc2⟩ ∧ HdAt X' b (off + j * 7) ⟨op3, nn3, s3, p3, pl3, pc3, q3, ql3, qc3, o3, k3, kl3, kc3⟩) (by kernel_rfl) (noDefer_spec (by kernel_rfl)) (fun ⟨_, _, h⟩ => h) ?_
          rw [← hwd]
          clear hwd
          have hS0 := hS wd hbd
          refine take_at' (i := 0) 26 (v := .int .i64 j) rfl rfl (by kernel_rfl) (by kernel_rfl) (by kernel_rfl) (fun _ _ _ h => h) (Or.inl ⟨by rfl, fun w' hS' => (by have cn := hS'.1.cell; go_simp)⟩) hS0 ?_
          simp only [List.setIfInBounds_toArray, List.set_cons_succ, List.set_cons_zero]
          refine take_at' (i := 1) 27 (v := .slice (some ⟨b, off, none⟩) A.length c) rfl rfl (by kernel_rfl) (by kernel_rfl) (by kernel_rfl) (fun _ _ _ h => h) (Or.inl ⟨by rfl, fun w' hS' => (by have cw := hS'.2.1.cell; go_simp)⟩) hS0 ?_
          simp only [List.setIfInBounds_toArray, List.set_cons_succ, List.set_cons_zero]
          refine take_at' (i := 2) 28 (v := .int .i64 A.length) rfl rfl (by kernel_rfl) (by kernel_rfl) (by kernel_rfl) (fun _ _ _ h => h) (Or.inl ⟨by rfl, fun w' hS' => (by go_simp)⟩) hS0 ?_
          simp only [List.setIfInBounds_toArray, List.set_cons_succ, List.set_cons_zero]
          refine take_at' (i := 3) 29 (v := .bool false) rfl rfl (by kernel_rfl) (by kernel_rfl) (by kernel_rfl) (fun _ _ _ h => h) (Or.inl ⟨by rfl, fun w' hS' => (by go_simp)⟩) hS0 ?_
          simp only [List.setIfInBounds_toArray, List.set_cons_succ, List.set_cons_zero]
          refine take_at' (i := 4) 30 (v := .bool false) rfl rfl (by kernel_rfl) (by kernel_rfl) (by kernel_rfl) (fun _ _ _ h => h) (Or.inl ⟨by rfl, fun w' hS' => (by go_simp)⟩) hS0 ?_
          simp only [List.setIfInBounds_toArray, List.set_cons_succ, List.set_cons_zero]
          refine take_at' (i := 5) 31 (v := .agg #[.int .i64 op2, .int .i64 nn2, .string s2, .slice p2 pl2 pc2, .slice q2 ql2 qc2, .bool o2, .slice k2 kl2 kc2]) rfl rfl (by kernel_rfl) (by kernel_rfl) (by kernel_rfl) (fun _ _ _ h => h) (Or.inl ⟨by rfl, fun w' hS' => (by obtain ⟨d0, d1, d2, d3, d4, d5, d6⟩ := hS'.2.2.1.cells; dsimp only at d0 d1 d2 d3 d4 d5 d6; simp only [Nat.zero_add] at d1 d2 d3 d4 d5 d6; go_simp)⟩) hS0 ?_
          simp only [List.setIfInBounds_toArray, List.set_cons_succ, List.set_cons_zero]
          refine take_at' (i := 6) 32 (v := .slice (some ⟨b, off, none⟩) A.length c) rfl rfl (by kernel_rfl) (by kernel_rfl) (by kernel_rfl) (fun _ _ _ h => h) (Or.inl ⟨by rfl, fun w' hS' => (by have cw := hS'.2.1.cell; go_simp)⟩) hS0 ?_
          simp only [List.setIfInBounds_toArray, List.set_cons_succ, List.set_cons_zero]
          refine take_at' (i := 7) 33 (v := .int .i64 j) rfl rfl (by kernel_rfl) (by kernel_rfl) (by kernel_rfl) (fun _ _ _ h => h) (Or.inl ⟨by rfl, fun w' hS' => (by have cn := hS'.1.cell; go_simp)⟩) hS0 ?_
          simp only [List.setIfInBounds_toArray, List.set_cons_succ, List.set_cons_zero]
          refine take_at' (i := 8) 34 (v := .pointer (some ⟨b, off + j * 7, none⟩)) rfl rfl (by kernel_rfl) (by kernel_rfl) (by kernel_rfl) (fun _ _ _ h => h) (Or.inl ⟨by rfl, fun w' hS' => (by go_simp)⟩) hS0 ?_
          simp only [List.setIfInBounds_toArray, List.set_cons_succ, List.set_cons_zero]
          refine take_at' (i := 9) 35 (v := .agg #[.int .i64 op3, .int .i64 nn3, .string s3, .slice p3 pl3 pc3, .slice q3 ql3 qc3, .bool o3, .slice k3 kl3 kc3]) rfl rfl (by kernel_rfl) (by kernel_rfl) (by kernel_rfl) (fun _ _ _ h => h) (Or.inl ⟨by rfl, fun w' hS' => (by obtain ⟨d0, d1, d2, d3, d4, d5, d6⟩ := hS'.2.2.2; dsimp only at d0 d1 d2 d3 d4 d5 d6; go_simp)⟩) hS0 ?_
          simp only [List.setIfInBounds_toArray, List.set_cons_succ, List.set_cons_zero]
          refine wpAnyH_all (rs := [10]) (by kernel_rfl) (by simp) ?_
          intro i hi
          obtain rfl : i = 10 := by simpa using hi
          refine call_at 36 (f := 17) (args := #[.agg #[.int .i64 op2, .int .i64 nn2, .string s2, .slice p2 pl2 pc2, .slice q2 ql2 qc2, .bool o2, .slice k2 kl2 kc2], .agg #[.int .i64 op3, .int .i64 nn3, .string s3, .slice p3 pl3 pc3, .slice q3 ql3 qc3, .bool o3, .slice k3 kl3 kc3]]) (w' := wd) rfl rfl rfl (by go_simp) ((HSM wd (below_step HY3.out hbd)).out.mono ?_)
          rintro e Z ⟨rfl, hZ⟩
          have HZ := Lib.hid (below_step hbd hZ)
          have hSZ := hS Z HZ.out
          clear hZ
          refine ⟨_, rfl, hSZ, ?_⟩
          simp only [List.setIfInBounds_toArray, List.set_cons_succ, List.set_cons_zero]
          refine take_at' (i := 11) 37 (v := .bool false) rfl rfl (by kernel_rfl) (by kernel_rfl) (by kernel_rfl) (fun _ _ _ h => h) (Or.inl ⟨by rfl, fun w' hS' => (by go_simp)⟩) hSZ ?_
          simp only [List.setIfInBounds_toArray, List.set_cons_succ, List.set_cons_zero]
          refine take_at' (i := 12) 38 (v := .bool false) rfl rfl (by kernel_rfl) (by kernel_rfl) (by kernel_rfl) (fun _ _ _ h => h) (Or.inl ⟨by rfl, fun w' hS' => (by go_simp)⟩) hSZ ?_
          simp only [List.setIfInBounds_toArray, List.set_cons_succ, List.set_cons_zero]
          refine wpAnyH_done (by kernel_rfl) ?_ _
          have cn := hSZ.1.cell
          have fn := hSZ.1.frozen
          have hZ3 := below_step HY3.out HZ.out
          have cm := (HWX.out Z hZ3).2.1.cell
          have hTZ : Boxed Z (tb1) 3 (.int .i64 1) := (HZ.out.block _ (Nat.lt_of_lt_of_le hTb.lt HIY.out.held.2.1.size)).trans ((HIY.out.held.2.1.block _ hTb.lt (fun e => hTn (by cases e; rfl))).trans hTb)
          have ct := hTZ.cell
          have HNZ := Lib.hid hSZ.1
          have hzz := (grownBy_setCell' Z nb (.int .i64 ((j : Int) + 1)))
          have hst : Stays F2 Y (Z.setCell ⟨nb, 0, none⟩ (.int .i64 ((j : Int) + 1))) := ((Stays.refl _ _).grown (grown_below HZ.out) (fun _ e => by cases e)).grown hzz (fun r e hr => by cases e; have := HIY.out.far _ hr; have := hNb.lt; omega)
          have hwk : ∀ u : Int, (j : Int) + 1 ≤ u → WkQ Wb nb u (ys ++ [(⟨op2, nn2, s2, p2, pl2, pc2, q2, ql2, qc2, o2, k2, kl2, kc2⟩, yx)]) (Z.setCell ⟨nb, 0, none⟩ (.int .i64 ((j : Int) + 1))) := fun u hu => by
            refine ⟨by rw [List.length_append, HJ.out]; simpa using hu, World.grownBy.trans (World.grownBy.trans HIY.out.held.2.1 ⟨HZ.out.os, HZ.out.tape, HZ.out.output, HZ.out.size, fun k hk _ => HZ.out.block k hk⟩) hzz, ?_⟩
            have h7 := HNZ.out.set (.int .i64 ((j : Int) + 1))
            rw [List.length_append, HJ.out]; exact h7
          have HWK := Lib.hid hwk
          have HST := Lib.hid hst
          have hszz := Nat.le_trans HIY.out.size (Nat.le_trans HZ.out.size hzz.size)
          clear hwk hst hzz
          clear hS hS0 hSZ hbd hTZ
          gi_wp2_with fail
          exact ⟨HST.out, HIY.out.far, hszz, HWK.out _ (by omega)⟩
        case done1 =>
          rintro D1 F2 xs X hD hxs hI2 hKD
          have hxl : xs.length = A.length := by rw [← hxs, List.length_map]
          have hq := hI2.held
          have hX3 := hsub _ _ _ hq
          have cn := hq.2.2.cell
          rw [hxl] at cn
          have cw := (HWX.out X hX3).2.2.2.cell
          have cm := (HWX.out X hX3).2.1.cell
          have hTX : Boxed X (tb1) 3 (.int .i64 1) := (hq.2.1.block _ hTb.lt (fun e => hTn (by cases e; rfl))).trans hTb
          have ct := hTX.cell
          have HKD1 := Lib.hid hKD
          have HX3 := Lib.hid hX3
          have HED0 : Hid (X.heap[D0]? = some (.deferred (some []))) := (hq.2.1.block _ (Array.getElem?_eq_some_iff.1 hDbD0).1 (fun e => hDnD0 (by cases e; rfl))).trans hDbD0
          have hDXD1 : w3.heap.size ≤ D1 ∧ D1 < X.heap.size := ⟨Nat.le_trans hB3b.size (hI2.far _ hD), (Array.getElem?_eq_some_iff.1 hKD).1⟩
          have hneD0 : D0 ≠ D1 := by have := (Array.getElem?_eq_some_iff.1 hDbD0).1; have := hI2.far _ hD; omega
          clear hxs hI2 hq hX3 hKD hTX hTb hNb hBb hB3b hTn hn3 hlow hsub hnb hD hxl hDbD0 hDnD0 HTc HBc
          gi_wp2_with fail
          obtain ⟨W2, hWn⟩ : ∃ W', X.alloc (.cells #[.int .i64 2] 3) = W' := ⟨_, rfl⟩
          obtain ⟨tb2, htb⟩ : ∃ z, X.heap.size = z := ⟨_, rfl⟩
          have hXn : Below X.heap.size X W2 := by rw [← hWn]; exact (Below.refl _ X).alloc (Nat.le_refl _) _
          have HBc := Lib.hid (below_step HX3.out hXn)
          have HTc : Hid (Boxed W2 tb2 3 (.int .i64 2)) := by rw [← hWn, ← htb]; exact Boxed.new X 3 _
          have HDD0 : Hid (W2.heap[D0]? = some (.deferred (some []))) := (hXn.block _ (Array.getElem?_eq_some_iff.1 HED0.out).1).trans HED0.out
          have HDD1 : Hid (W2.heap[D1]? = some (.deferred (some []))) := (hXn.block _ (Array.getElem?_eq_some_iff.1 HKD1.out).1).trans HKD1.out
          rw [hWn, htb]
          clear hWn hXn cn cw cm ct HX3 HKD1 htb HED0
          rw [roundsIn_succ]
          have ct := HTc.out.cell
          gi_upto_region 21 with fail
          obtain ⟨Z0, hZ0⟩ : ∃ wd : World, wd = { W2 with drawn := W2.drawn + 1 } := ⟨_, rfl⟩
          have h0 : Below W2.heap.size W2 Z0 := by rw [hZ0]; exact (Below.refl _ W2).drew
          have hB : ∀ Z, Below W2.heap.size W2 Z → Below w.heap.size w Z ∧ Below w3.heap.size w3 Z := fun Z hZ => ⟨below_step HBW.out (below_step HBc.out hZ), below_step HBc.out hZ⟩
          have hS : ∀ Z, Below W2.heap.size W2 Z → BoxH Z w.heap.size ⟨op, nn, s, p, pl, pc, q, ql, qc, o, k, kl, kc⟩ := fun Z hZ => (HWX.out Z (hB Z hZ).2).1
          refine wpIn_wide.2 (wp_region_noPanic (wp_region_held (S := fun X' => BoxH X' w.heap.size ⟨op, nn, s, p, pl, pc, q, ql, qc, o, k, kl, kc⟩) (by kernel_rfl) ?_))
          rw [← hZ0]
          clear hZ0 ct
          refine wpAnyH_all (rs := [0]) (by kernel_rfl) (by simp) ?_
          intro i hi
          obtain rfl : i = 0 := by simpa using hi
          refine call_at 65 (f := 7) (args := #[]) (w' := Z0) rfl rfl rfl (by go_simp) ((CW Z0 (hB _ h0).1).out.mono ?_)
          rintro e Z1 ⟨rfl, hz⟩
          have h1 := below_step h0 hz
          clear hz
          refine ⟨_, rfl, hS _ h1, ?_⟩
          simp only [List.setIfInBounds_toArray, List.set_cons_succ, List.set_cons_zero]
          refine take_at' (i := 1) 66 (v := .bool true) rfl rfl (by kernel_rfl) (by kernel_rfl) (by kernel_rfl) (fun _ _ _ h => h) (Or.inl ⟨by rfl, fun w' hS' => (by go_simp)⟩) (hS _ h1) ?_
          simp only [List.setIfInBounds_toArray, List.set_cons_succ, List.set_cons_zero]
          refine take_at' (i := 2) 67 (v := .agg #[.int .i64 op, .int .i64 nn, .string s, .slice p pl pc, .slice q ql qc, .bool o, .slice k kl kc]) rfl rfl (by kernel_rfl) (by kernel_rfl) (by kernel_rfl) (fun _ _ _ h => h) (Or.inl ⟨by rfl, fun w' hS' => (by obtain ⟨d0, d1, d2, d3, d4, d5, d6⟩ := hS'.cells; dsimp only at d0 d1 d2 d3 d4 d5 d6; simp only [Nat.zero_add] at d1 d2 d3 d4 d5 d6; go_simp)⟩) (hS _ h1) ?_
          simp only [List.setIfInBounds_toArray, List.set_cons_succ, List.set_cons_zero]
          refine take_at' (i := 4) 69 (v := .agg #[.int .i64 op, .int .i64 nn, .string s, .slice p pl pc, .slice q ql qc, .bool o, .slice k kl kc]) rfl rfl (by kernel_rfl) (by kernel_rfl) (by kernel_rfl) (fun _ _ _ h => h) (Or.inl ⟨by rfl, fun w' hS' => (by obtain ⟨d0, d1, d2, d3, d4, d5, d6⟩ := hS'.cells; dsimp only at d0 d1 d2 d3 d4 d5 d6; simp only [Nat.zero_add] at d1 d2 d3 d4 d5 d6; go_simp)⟩) (hS _ h1) ?_
          simp only [List.setIfInBounds_toArray, List.set_cons_succ, List.set_cons_zero]
          refine wpAnyH_all (rs := [3]) (by kernel_rfl) (by simp) ?_
          intro i hi
          obtain rfl : i = 3 := by simpa using hi
          refine call_at 68 (f := 20) (args := #[.agg #[.int .i64 op, .int .i64 nn, .string s, .slice p pl pc, .slice q ql qc, .bool o, .slice k kl kc]]) (w' := Z1) rfl rfl rfl (by go_simp) ((KR Z1 (hB _ h1).1).out.mono ?_)
          rintro e Z2 ⟨v2, rfl, hr2, hz⟩
          have hrl := refsL_len A
          obtain ⟨a2, c2, rfl, hs2⟩ := str_row hr2 (by omega) HTS.out
          have h2 := below_step h1 hz
          clear hz hr2
          refine ⟨_, rfl, hS _ h2, ?_⟩
          simp only [List.setIfInBounds_toArray, List.set_cons_succ, List.set_cons_zero]
          refine wpAnyH_all (rs := [5]) (by kernel_rfl) (by simp) ?_
          intro i hi
          obtain rfl : i = 5 := by simpa using hi
          refine call_at 70 (f := 21) (args := #[.agg #[.int .i64 op, .int .i64 nn, .string s, .slice p pl pc, .slice q ql qc, .bool o, .slice k kl kc]]) (w' := Z2) rfl rfl rfl (by go_simp) ((KRR Z2 (hB _ h2).1).out.mono ?_)
          rintro e Z3 ⟨v3, rfl, hr3, hz⟩
          obtain ⟨a3, c3, rfl, hs3⟩ := str_row hr3 (by omega) HTS.out
          have h3 := below_step h2 hz
          have hs2' := hs2.below hz
          clear hz hr3 hs2
          refine ⟨_, rfl, hS _ h3, ?_⟩
          simp only [List.setIfInBounds_toArray, List.set_cons_succ, List.set_cons_zero]
          obtain ⟨rl, hrl2⟩ : ∃ rl, (refsL A).length = rl := ⟨_, rfl⟩
          rw [hrl2] at hs3 hs2' ⊢
          refine wpAnyH_all (rs := [6]) (by kernel_rfl) (by simp) ?_
          intro i hi
          obtain rfl : i = 6 := by simpa using hi
          refine call_at 71 (f := 19) (args := #[.slice a2 rl c2, .slice a3 rl c3]) (w' := Z3) rfl rfl rfl (by go_simp) ((rsame_eq a2 a3 rl c2 rl c3 _ _ Z3 hs2' hs3).mono ?_)
          rintro e Z4 ⟨he, hz⟩
          rw [eqB_yes rfl] at he
          subst he
          have h4 := below_step h3 hz
          clear hz hs3 hs2'
          refine ⟨_, rfl, hS _ h4, ?_⟩
          simp only [List.setIfInBounds_toArray, List.set_cons_succ, List.set_cons_zero]
          refine take_at' (i := 7) 72 (v := .bool true) rfl rfl (by kernel_rfl) (by kernel_rfl) (by kernel_rfl) (fun _ _ _ h => h) (Or.inl ⟨by rfl, fun w' hS' => (by go_simp)⟩) (hS _ h4) ?_
          simp only [List.setIfInBounds_toArray, List.set_cons_succ, List.set_cons_zero]
          refine wpAnyH_all (rs := [8]) (by kernel_rfl) (by simp) ?_
          intro i hi
          obtain rfl : i = 8 := by simpa using hi
          have hR4 := (HWX.out Z4 (hB _ h4).2).2.2.1
          have c4 := hR4.cell
          have f4 := hR4.frozen
          refine skip_at (w' := Z4.setCell ⟨w.heap.size + 1 + 1, 0, none⟩ (.bool true)) rfl rfl rfl (by go_simp) ⟨(Below.heap_setCell Z4 ⟨w.heap.size + 1 + 1, 0, none⟩ _ _ (by simp; omega)).trans (hS _ h4), ?_⟩
          refine wpAnyH_done (by kernel_rfl) ?_ _
          unfold NoPanic
          have hk1 : (Z4.setCell ⟨w.heap.size + 1 + 1, 0, none⟩ (.bool true)).heap[D1]? = some (.deferred (some [])) := (Below.heap_setCell Z4 ⟨w.heap.size + 1 + 1, 0, none⟩ _ _ (by simp; omega)).trans ((h4.block _ (Array.getElem?_eq_some_iff.1 HDD1.out).1).trans HDD1.out)
          have hk0 : (Z4.setCell ⟨w.heap.size + 1 + 1, 0, none⟩ (.bool true)).heap[D0]? = some (.deferred (some [])) := (Below.heap_setCell Z4 ⟨w.heap.size + 1 + 1, 0, none⟩ _ _ (by simp; omega)).trans ((h4.block _ (Array.getElem?_eq_some_iff.1 HDD0.out).1).trans HDD0.out)
          have hRS := hR4.set (.bool true)
          have hBS := (hB _ h4).1.setCell (p := ⟨w.heap.size + 1 + 1, 0, none⟩) (by simp; omega) (.bool true)
          obtain ⟨Z5, hZ5⟩ : ∃ Z5, Z4.setCell ⟨w.heap.size + 1 + 1, 0, none⟩ (.bool true) = Z5 := ⟨_, rfl⟩
          rw [hZ5] at hk1 hk0 hRS hBS ⊢
          clear hZ5 c4 f4 hR4
          have HK1 := Lib.hid hk1
          have HK0 := Lib.hid hk0
          have HRS := Lib.hid hRS
          clear hk1 hk0 hRS
          gi_wp2_with fail
          have g1 := grownBy_putObj' Z5 D1 (.deferred none)
          have hk0' := (g1.block D0 (Array.getElem?_eq_some_iff.1 HK0.out).1 (fun e => hneD0 (by cases e; rfl))).trans HK0.out
          refine ⟨by simp, .inl ⟨_, _, rfl, run_takeDeferred HK1.out, ?_⟩⟩
          refine ⟨by simp, .inl ⟨_, _, rfl, run_takeDeferred hk0', ?_⟩⟩
          have g2 := grownBy_putObj' (Z5.putObj D1 (.deferred none)) D0 (.deferred none)
          have hc := ((HRS.out.kept g1 (fun e => by injection e with e; omega)).kept g2 (fun e => by injection e with e; omega)).cell
          exact ⟨.bool true, by simp [results, Tryd.results4, go_sem, hc], rfl, (hBS.grown g1 hBS.size (fun r e => by cases e; omega)).grown g2 (Nat.le_trans hBS.size g1.size) (fun r e => by cases e; omega)⟩
        case stop1 =>
          rintro D F2 c pre X hD hpre hI2 hKD
          exact hI2.elim
end Go.Proofs.YtngikbimlhoigaaDoor
