/- LatMakes: for every value, every bool and every list of fields the law returns true and nothing that was there is changed; the table of words is tied to the text; no other condition. -/
import Derived.Test.YtddleeenlpigfaaGreatDoorTf
import Derived.Test.YtddleeenlpigfaaGreatDoorCards
namespace Go.Proofs.YtddleeenlpigfaaGreatDoor
open Go.Joins Go.ChangeShapes Go.WideShapes Go.ChangeAt Go.RowKit
open Go.Deep in
set_option maxRecDepth 100000 in
theorem open_fields_w {H : Type} {enc : TypeId × Value → H} {w : World} {base : Nat} {spare : Nat → Bool} {held : Bool} {fuel : Nat} {f : Option Addr} {fl fc : Nat} {x : DataW H × List MemPlace} (hf : DataW.trod enc Tryz.prog w base spare held fuel 29 [.slice f fl fc] = some x) (hwf : Wt 29 x.1) :
    ∃ fs : List Fd, InF (fun t tl tc V => InV w (fuel + 1) t tl tc V) w f fl fs ∧ (∀ m, ∀ x ∈ fs, SlimV m x.2) ∧ ∀ m, ∀ x ∈ fs, x.1.size ≤ 140737488355328 ∧ NmV m x.2 := by
  obtain ⟨f', fl', fc', hf', hfm, hfb, hfe⟩ := slice_cells_w Tryz.underlying29 cells59 (by decide) hf hwf
  rw [bytes59] at hfb
  simp only [List.cons.injEq, and_true, Value.slice.injEq] at hf'
  obtain ⟨rfl, rfl, rfl⟩ := hf'
  have fld : ∀ q, q < fl → ∃ (F : ByteArray × List Tm) (b2 off2 tl2 tc2 : Nat) (t2 : Option Addr), (f = some ⟨b2, off2, none⟩ ∧ b2 < w.heap.size ∧ w.cell? ⟨b2, off2 + q * 2, none⟩ = some (.string F.1) ∧ w.cell? ⟨b2, off2 + q * 2 + 1, none⟩ = some (.slice t2 tl2 tc2) ∧ InV w (fuel + 1) t2 tl2 tc2 F.2) ∧ ∀ m, SlimV m F.2 ∧ F.1.size ≤ 140737488355328 ∧ NmV m F.2 := fun q hq => by
    obtain ⟨b2, off2, n3, cs2, y2, hn3, e2, hb2, hl2, hc2, ht2, hw2⟩ := hfe q hq
    obtain ⟨ys, n4, hn4, hy2, _, hyl, hg⟩ := DataW.trod_struct Tryz.underlying59 ht2
    match cs2, hl2 with
    | [v0, v1], _ =>
      match ys, hyl with
      | [u0, u1], _ =>
        have g0 := hg 0 _ rfl
        have g1 := hg 1 _ rfl
        have hwn : Wt 9 u0.1 := by
          have hw3 := hw2
          rw [hy2] at hw3
          exact wt_part Tryz.underlying59 hw3 (i := 0) rfl rfl
        obtain ⟨nm, en, xn, _⟩ := DataW.trod_string Tryz.underlying9 (show DataW.trod enc Tryz.prog w base spare held n4 9 [v0] = some u0 by simpa [cells9] using g0)
        have g1' : DataW.trod enc Tryz.prog w base spare held n4 24 [v1] = some u1 := by simpa [cells24] using g1
        have hnm : nm.size ≤ 140737488355328 := by
          rw [xn] at hwn
          have h47 := hwn nm.data.toList.length (by simp [DataW.weights])
          rw [Nm.size_list, Lib.toList_data]
          have := reachBytes_lt
          omega
        have hwu : Wt 24 u1.1 := by
          rw [hy2] at hw2
          exact wt_part Tryz.underlying59 hw2 (i := 1) rfl rfl
        obtain ⟨zs, n5, hn5, hz5, _, hzl, hg5⟩ := DataW.trod_struct Tryz.underlying24 g1'
        match zs, hzl with
        | [z0], _ =>
          have g2 : DataW.trod enc Tryz.prog w base spare held n5 22 [v1] = some z0 := by simpa [cells22] using hg5 0 _ rfl
          have hwz : Wt 22 z0.1 := by
            rw [hz5] at hwu
            exact wt_part Tryz.underlying24 hwu (i := 0) rfl rfl
          obtain ⟨t3, tl3, tc3, A3, e3, i3, s3, m3⟩ := open_terms_w n5 _ _ g2 hwz
          simp only [List.cons.injEq, and_true] at en e3
          subst en e3
          exact ⟨(nm, A3), b2, off2, tl3, tc3, t3, ⟨e2, hb2, by simp, by simp, i3.le (by omega)⟩, fun m => ⟨s3 m, hnm, m3 m⟩⟩
  obtain ⟨F, hF⟩ := choose_lt (α := ByteArray × List Tm) fld
  refine ⟨(List.range fl).map F, ⟨by simp, by unfold maxLen at hfm; omega, fun q hq => ?_⟩, fun m x hx => ?_, fun m x hx => ?_⟩
  · have hq' : q < fl := by simpa using hq
    obtain ⟨b2, off2, tl2, tc2, t2, ⟨h1, h2, h3, h4, h5⟩, _⟩ := hF q hq'
    exact ⟨b2, off2, tl2, tc2, t2, h1, h2, by simpa using h3, h4, by simpa using h5⟩
  · obtain ⟨q, hq, rfl⟩ := List.mem_map.1 hx
    obtain ⟨_, _, _, _, _, _, h6⟩ := hF q (List.mem_range.1 hq)
    exact (h6 m).1
  · obtain ⟨q, hq, rfl⟩ := List.mem_map.1 hx
    obtain ⟨_, _, _, _, _, _, h6⟩ := hF q (List.mem_range.1 hq)
    exact (h6 m).2
set_option maxRecDepth 100000 in
theorem latMakes_lifted (os : Os) (started : os.Started) (H : Type) (enc : TypeId × Value → H) :
    ReturnsInHanded {} Tryz.checked os 4 .any (fun w args => (Rows.latMakesSpec.pre enc Tryz.prog Tryz.f4 Rows.latMakesRow.domain false w args ∧ laidMetH Tryz.prog Rows.latMakesRow.laid w) ∧ sizedMet enc Tryz.prog Tryz.f4 (OpenSpec.ofChange Rows.latMakesSpec) false w args)
      (Rows.latMakesSpec.post enc Tryz.prog Tryz.f4 false true false false) := by
  refine returns_shaped_and (C := Tryz.checked) (X := fun w _ => laidMetH Tryz.prog Rows.latMakesRow.laid w) (fun _ _ _ hh h => h.of_heap hh) own_knob started (by kernel_rfl) Tryz.func4
    (ChangeSpec.witness_shaped (enc := enc) (C := Tryz.checked) (os := os) (X := fun w _ => laidMetH Tryz.prog Rows.latMakesRow.laid w) false (World.laidAll Tryz.prog os Rows.latMakesRow.laid) #[.agg #[.slice none 0 0], .bool false, .slice none 0 0] 8 (World.laidAll_os _ _ _)
      (World.shaped_of_ZipB (by kernel_rfl) (by kernel_rfl)) (by kernel_rfl) (by kernel_rfl) (by kernel_rfl)
      (by rw [MakeChecks.laidMetH_plain _ _ _ (by kernel_rfl)]; exact laidMet_laidAll _ (by kernel_rfl) (by kernel_rfl))) ?_
  intro W base args ds gs before hval0 hW hsz0 hL _
  have hval : ∀ (j : Nat) t v, Tryz.f4.params[j]? = some t → args[j]? = some v → Value.okWide Tryz.prog W .any base t v := hval0
  have hsz : (DataW.weightsEach Tryz.prog (Tryz.f4.params.toList ++ Rows.latMakesSpec.plain.varTypes Tryz.prog) (ds ++ gs)).all (· ≤ reachBytes) = true := hsz0
  have hW' := hW
  obtain ⟨p, q, hA0, hV, rfl, hfz, hnd⟩ := hW
  have hA : DataW.TrodAll enc Tryz.prog W 0 (fun _ => true) true Tryz.f4.params.toList args.toList ds p := hA0
  rw [Tryz.params4] at hA hval hsz
  obtain ⟨v0, vs0, d0, ds0, p0, q0, hargs, rfl, rfl, h0, r0⟩ := trodAll_cons hA
  obtain ⟨v1, vs1, d1, ds1, p1, q1, rfl, rfl, rfl, h1, r1⟩ := trodAll_cons r0
  obtain ⟨v2, vs2, d2, ds2, p2, q2, rfl, rfl, rfl, h2, r2⟩ := trodAll_cons r1
  obtain ⟨rfl, rfl, rfl⟩ := trodAll_nil r2
  obtain rfl : args = #[v0, v1, v2] := by cases args; simp_all
  obtain ⟨rfl, rfl⟩ := trodVars_none hV
  obtain ⟨t0, tl0, tc0, n0, A0, rfl, i0, s0, m0⟩ := open_value_w (hval 0 24 v0 rfl rfl) h0 (fun n hn => by simpa using List.all_eq_true.1 hsz n (DataW.weights_mem_each (j := 0) rfl rfl n hn))
  have k1 := h1
  obtain ⟨b1, rfl, rfl, rfl⟩ := open_bool Tryz.underlying4 (hval 1 4 v1 rfl rfl) h1
  obtain ⟨a2, len2, cap2, rfl⟩ := okWide_slice Tryz.underlying29 (hval 2 29 v2 rfl rfl)
  have k2 := h2
  have lt0 : ∀ x ∈ p0, x.block < W.heap.size := by obtain ⟨m, hm⟩ := h0; exact DataW.trod_lt m _ _ _ hm
  have lt2 : ∀ x ∈ p2, x.block < W.heap.size := by obtain ⟨m, hm⟩ := k2; exact DataW.trod_lt m _ _ _ hm
  obtain ⟨fuel, hf⟩ := h2
  obtain ⟨fs, hF, sF, mF⟩ := open_fields_w hf (fun n hn => by simpa using List.all_eq_true.1 hsz n (DataW.weights_mem_each (j := 2) rfl rfl n hn))
  have hE := env_of (show laidMetH Tryz.prog Rows.latOrderRow.laid W from hL)
  clear hA0 hval0 hsz0
  simp only [List.append_nil] at hW'
  refine (lmakes_walk (n0 + fuel + 1) W t0 tl0 tc0 A0 b1 a2 len2 cap2 fs (i0.le (by omega)) (m0 _) (LnV.of (s0 _)) hE ⟨hF.1, hF.2.1, fun i hi => by
    obtain ⟨b, off, tl, tc, t, e, lt, c0, c1, h⟩ := hF.2.2 i hi
    exact ⟨b, off, tl, tc, t, e, lt, c0, c1, h.le (by omega)⟩⟩ (fun x hx => mF _ x hx) (fun x hx => LnV.of (sF _ x hx))).mono fun e W' ⟨he, hg⟩ => ?_
  subst he
  exact ⟨_, rfl, _, _, _, [], _, [], hW', trodAll_mk1 (shut_bool Tryz.underlying4 _), (trodAll_cons_mk (Below.trod laidOut (by kernel_rfl) (of_decide_eq_true (by kernel_rfl)) h0 hg lt0) (trodAll_cons_mk (shut_bool Tryz.underlying4 _) (trodAll_cons_mk (Below.trod laidOut (by kernel_rfl) (of_decide_eq_true (by kernel_rfl)) k2 hg lt2) trodAll_mk0))), rfl, hg.frame _, fun h => by cases h⟩
theorem latMakes_row : Rows.LatMakesSaid :=
  OpenClaim.holds_of_wide 4 Tryz.f4 rfl rfl rfl rfl rfl rfl rfl ⟨rfl, rfl, rfl, rfl, rfl⟩ rfl rfl rfl rfl rfl (by kernel_rfl) Tryz.func4 (by kernel_rfl)
    (of_decide_eq_true (by kernel_rfl)) (by unfold Func.isWrapper; first | (rw [if_pos (by decide +kernel)]; kernel_rfl) | (rw [if_neg (by decide +kernel)]; exact ⟨rfl, rfl⟩))
    (fun os started H enc _ => latMakes_lifted os started H enc)
theorem latMakes_holds : Rows.LatMakesCardSaid :=
  Claim7.holds_tied_plain_at .later [] [.data] true (true, "647b43f095ebb90966eac6979bb1cd5418be4ab968451d59e7e04fd9d91a6a6d") false latMakes_row (fun _ h => by cases h) (by kernel_rfl) (fun _ h => by cases h) latMakes_row_tie rfl ⟨rfl, rfl⟩ (by kernel_rfl) rfl
    (fun f fn hf hfn => by
      obtain rfl : f = 4 := Option.some.inj ((show Tryz.prog.funcNamed "treillage/treillagelaw09.LatMakes" = some 4 by kernel_rfl).symm.trans hf) |>.symm
      obtain rfl : fn = Tryz.f4 := (Option.some.inj (Tryz.func4.symm.trans hfn)).symm
      exact ⟨by kernel_rfl, fun j t ht => by
        rw [Tryz.params4] at ht
        have hm : t ∈ [24, 4, 29] := by simpa using Array.mem_of_getElem? ht
        have hall : ([24, 4, 29].all fun u => !Tryz.prog.wantsStandIn u) = true := by kernel_rfl
        exact (show Tryz.prog.wantsStandIn t = false by simpa using List.all_eq_true.1 hall t hm)⟩)
    (by kernel_rfl)
end Go.Proofs.YtddleeenlpigfaaGreatDoor
