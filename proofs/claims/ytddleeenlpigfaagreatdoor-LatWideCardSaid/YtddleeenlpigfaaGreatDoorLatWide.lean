/- LatWide: for every two numbers and every two bounds the law returns true and nothing that was there is changed; the table of words is tied to the text; no other condition. -/
import Derived.Test.YtddleeenlpigfaaGreatDoorWd
import Derived.Test.YtddleeenlpigfaaGreatDoorCards
namespace Go.Proofs.YtddleeenlpigfaaGreatDoor
open Go.Joins Go.ChangeShapes Go.WideShapes Go.ChangeAt Go.RowKit
theorem okWide_array {P : Program} {w : World} {r : Reach} {base n : Nat} {t e : TypeId} {v : Value} (ht : P.underlying t = some (.array n e)) (h : Value.okWide P w r base t v) : ∃ cs, v = .agg cs ∧ cs.size = P.cellsOf t := by
  simp only [Value.okWide, ht] at h
  obtain ⟨cs, h1, h2, _⟩ := h
  exact ⟨cs, h1, h2⟩
theorem under44 : Tryz.prog.underlying 44 = some (.array 2 43) := by kernel_rfl
theorem under43 : Tryz.prog.underlying 43 = some (.int .u16) := by kernel_rfl
set_option maxRecDepth 100000 in
theorem open_two {H : Type} {enc : TypeId × Value → H} {W : World} {base : Nat} {spare : Nat → Bool} {held : Bool} {r : Reach} {b0 : Nat} {v : Value} {d : DataW H} {p : List MemPlace} (hv : Value.okWide Tryz.prog W r b0 44 v) (h : DataW.Trod enc Tryz.prog W base spare held 44 v d p) :
    ∃ a b : Nat, a ≤ 65535 ∧ b ≤ 65535 ∧ v = .agg #[.int .u16 (a : Int), .int .u16 (b : Int)] := by
  obtain ⟨cs, rfl, hsz⟩ := okWide_array under44 hv
  obtain ⟨fuel, hf⟩ := h
  obtain ⟨l⟩ := cs
  obtain ⟨xs, m, _, _, hl, hxl, hg⟩ := DataW.trod_array under44 hf
  have c43 : Tryz.prog.cellsOf 43 = 1 := by kernel_rfl
  have c44 : Tryz.prog.cellsOf 44 = 2 := by kernel_rfl
  simp only [Value.cells, c44] at hl
  have key : ∀ i, i < 2 → ∃ k : Nat, k ≤ 65535 ∧ (l.drop (i * 1)).take 1 = [.int .u16 (k : Int)] := fun i hi => by
    have hE := hg i hi
    rw [c43, List.getElem?_eq_getElem (by omega)] at hE
    obtain ⟨k, e1, _, hwf⟩ := DataW.trod_int under43 hE
    have h2 : (decide ((0 : Int) ≤ k) && decide (k ≤ (65535 : Int))) = true := hwf
    simp only [Bool.and_eq_true, decide_eq_true_eq] at h2
    refine ⟨k.toNat, by omega, ?_⟩
    rw [Int.toNat_of_nonneg h2.1]
    simpa [Value.cells] using e1
  match l, hl with
  | [x, y], _ =>
    obtain ⟨a, ha, e1⟩ := key 0 (by omega)
    obtain ⟨b, hb, e2⟩ := key 1 (by omega)
    refine ⟨a, b, ha, hb, ?_⟩
    simp at e1 e2
    rw [e1, e2]
set_option maxRecDepth 100000 in
theorem latWide_lifted (os : Os) (started : os.Started) (H : Type) (enc : TypeId × Value → H) :
    ReturnsInHanded {} Tryz.checked os 6 .any (fun w args => (Rows.latWideSpec.pre enc Tryz.prog Tryz.f6 Rows.latWideRow.domain false w args ∧ laidMetH Tryz.prog Rows.latWideRow.laid w) ∧ sizedMet enc Tryz.prog Tryz.f6 (OpenSpec.ofChange Rows.latWideSpec) false w args)
      (Rows.latWideSpec.post enc Tryz.prog Tryz.f6 false true false false) := by
  refine returns_shaped_and (C := Tryz.checked) (X := fun w _ => laidMetH Tryz.prog Rows.latWideRow.laid w) (fun _ _ _ hh h => h.of_heap hh) own_knob started (by kernel_rfl) Tryz.func6
    (ChangeSpec.witness_shaped (enc := enc) (C := Tryz.checked) (os := os) (X := fun w _ => laidMetH Tryz.prog Rows.latWideRow.laid w) false (World.laidAll Tryz.prog os Rows.latWideRow.laid) #[.agg #[.int .u16 0, .int .u16 0], .int .i64 0, .int .i64 0] 8 (World.laidAll_os _ _ _)
      (World.shaped_of_ZipB (by kernel_rfl) (by kernel_rfl)) (by kernel_rfl) (by kernel_rfl) (by kernel_rfl)
      (by rw [MakeChecks.laidMetH_plain _ _ _ (by kernel_rfl)]; exact laidMet_laidAll _ (by kernel_rfl) (by kernel_rfl))) ?_
  intro W base args ds gs before hval0 hW hsz0 hL _
  have hval : ∀ (j : Nat) t v, Tryz.f6.params[j]? = some t → args[j]? = some v → Value.okWide Tryz.prog W .any base t v := hval0
  have hsz : (DataW.weightsEach Tryz.prog (Tryz.f6.params.toList ++ Rows.latWideSpec.plain.varTypes Tryz.prog) (ds ++ gs)).all (· ≤ reachBytes) = true := hsz0
  have hW' := hW
  obtain ⟨p, q, hA0, hV, rfl, hfz, hnd⟩ := hW
  have hA : DataW.TrodAll enc Tryz.prog W 0 (fun _ => true) true Tryz.f6.params.toList args.toList ds p := hA0
  rw [Tryz.params6] at hA hval hsz
  obtain ⟨v0, vs0, d0, ds0, p0, q0, hargs, rfl, rfl, h0, r0⟩ := trodAll_cons hA
  obtain ⟨v1, vs1, d1, ds1, p1, q1, rfl, rfl, rfl, h1, r1⟩ := trodAll_cons r0
  obtain ⟨v2, vs2, d2, ds2, p2, q2, rfl, rfl, rfl, h2, r2⟩ := trodAll_cons r1
  obtain ⟨rfl, rfl, rfl⟩ := trodAll_nil r2
  obtain rfl : args = #[v0, v1, v2] := by cases args; simp_all
  obtain ⟨rfl, rfl⟩ := trodVars_none hV
  obtain ⟨a, b, ha, hb, rfl⟩ := open_two (hval 0 44 v0 rfl rfl) h0
  obtain ⟨lo, rfl⟩ := okWide_int Tryz.underlying3 (hval 1 3 v1 rfl rfl)
  obtain ⟨hi, rfl⟩ := okWide_int Tryz.underlying3 (hval 2 3 v2 rfl rfl)
  have lt0 : ∀ x ∈ p0, x.block < W.heap.size := by obtain ⟨m, hm⟩ := h0; exact DataW.trod_lt m _ _ _ hm
  have lt1 : ∀ x ∈ p1, x.block < W.heap.size := by obtain ⟨m, hm⟩ := h1; exact DataW.trod_lt m _ _ _ hm
  have lt2 : ∀ x ∈ p2, x.block < W.heap.size := by obtain ⟨m, hm⟩ := h2; exact DataW.trod_lt m _ _ _ hm
  have hE := env_of (show laidMetH Tryz.prog Rows.latOrderRow.laid W from hL)
  clear hA0 hval0 hsz0
  simp only [List.append_nil] at hW'
  refine (Lw.wide_walk W a b lo hi ha hb hE).mono fun e W' ⟨he, hg⟩ => ?_
  subst he
  exact ⟨_, rfl, _, _, _, [], _, [], hW', trodAll_mk1 (shut_bool Tryz.underlying4 _), (trodAll_cons_mk (Below.trod laidOut (by kernel_rfl) (of_decide_eq_true (by kernel_rfl)) h0 hg lt0) (trodAll_cons_mk (Below.trod laidOut (by kernel_rfl) (of_decide_eq_true (by kernel_rfl)) h1 hg lt1) (trodAll_cons_mk (Below.trod laidOut (by kernel_rfl) (of_decide_eq_true (by kernel_rfl)) h2 hg lt2) trodAll_mk0))), rfl, hg.frame _, fun h => by cases h⟩
theorem latWide_row : Rows.LatWideSaid :=
  OpenClaim.holds_of_wide 6 Tryz.f6 rfl rfl rfl rfl rfl rfl rfl ⟨rfl, rfl, rfl, rfl, rfl⟩ rfl rfl rfl rfl rfl (by kernel_rfl) Tryz.func6 (by kernel_rfl)
    (of_decide_eq_true (by kernel_rfl)) (by unfold Func.isWrapper; first | (rw [if_pos (by decide +kernel)]; kernel_rfl) | (rw [if_neg (by decide +kernel)]; exact ⟨rfl, rfl⟩))
    (fun os started H enc _ => latWide_lifted os started H enc)
theorem latWide_holds : Rows.LatWideCardSaid :=
  Claim7.holds_tied_plain_at .later [] [.data] true (true, "647b43f095ebb90966eac6979bb1cd5418be4ab968451d59e7e04fd9d91a6a6d") false latWide_row (fun _ h => by cases h) (by kernel_rfl) (fun _ h => by cases h) latWide_row_tie rfl ⟨rfl, rfl⟩ (by kernel_rfl) rfl
    (fun f fn hf hfn => by
      obtain rfl : f = 6 := Option.some.inj ((show Tryz.prog.funcNamed "treillage/treillagelaw09.LatWide" = some 6 by kernel_rfl).symm.trans hf) |>.symm
      obtain rfl : fn = Tryz.f6 := (Option.some.inj (Tryz.func6.symm.trans hfn)).symm
      exact ⟨by kernel_rfl, fun j t ht => by
        rw [Tryz.params6] at ht
        have hm : t ∈ [44, 3, 3] := by simpa using Array.mem_of_getElem? ht
        have hall : ([44, 3, 3].all fun u => !Tryz.prog.wantsStandIn u) = true := by kernel_rfl
        exact (show Tryz.prog.wantsStandIn t = false by simpa using List.all_eq_true.1 hall t hm)⟩)
    (by kernel_rfl)
end Go.Proofs.YtddleeenlpigfaaGreatDoor
