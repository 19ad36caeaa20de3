/- DirtyFiles: for every two lists of files the law returns true, on every schedule, and nothing that was there is changed; no condition. -/
import Derived.Test.YtngnegnofmpgkaaRows
import Derived.Test.YtngnegnofmpgkaaZ19
import Derived.Test.YtngnegnofmpgkaaBe
namespace Go.Proofs.Ytngnegnofmpgkaa
open Go.Joins Go.ChangeShapes Go.WideShapes Go.ChangeAt Go.RowKit Go.Deep
theorem cells34 : Try.prog.cellsOf 34 = 2 := by kernel_rfl
theorem bytes34 : Try.prog.bytesOf 34 = 32 := by kernel_rfl
section
variable {H : Type} {enc : TypeId × Value → H} {w : World} {base : Nat} {spare : Nat → Bool} {held : Bool}
open Gr in
set_option maxRecDepth 100000 in
/-- A list of lines that came in. -/
theorem open_files {r : Reach} {b0 : Nat} {v : Value} {d : DataW H} {p : List MemPlace} (hv : Value.okWide Try.prog w r b0 22 v) (h : DataW.Trod enc Try.prog w base spare held 22 v d p) (hw : Wt 22 d) :
    ∃ (a : Option Addr) (l c : Nat) (ls : List Ln2), v = .slice a l c ∧ LineRow w a l ls := by
  obtain ⟨fuel, hf⟩ := h
  obtain ⟨a, l, c, hcs, hm, hby, hel⟩ := slice_cells_w Try.underlying22 cells34 (by decide) hf hw
  rw [bytes34] at hby
  have one : ∀ i, i < l → ∃ z : Ln2, ∃ b off, a = some ⟨b, off, none⟩ ∧ b < w.heap.size ∧ w.cell? ⟨b, off + i * 2, none⟩ = some (.string z.1) ∧ w.cell? ⟨b, off + i * 2 + 1, none⟩ = some (.string z.2) ∧ okS z.1 ∧ okS z.2 := fun i hi => by
    obtain ⟨b, off, n2, cs', y, hn, e, hb, hl, hc, ht, hwy⟩ := hel i hi
    obtain ⟨ys, n4, hn4, hy2, _, hyl, hg⟩ := DataW.trod_struct Try.underlying34 ht
    match cs', hl with
    | [u0, u1], _ =>
      match ys, hyl with
      | [z0, z1], _ =>
        have g0 : DataW.trod enc Try.prog w base spare held n4 9 [u0] = some z0 := by have := hg 0 _ rfl; simpa [cells9] using this
        have g1 : DataW.trod enc Try.prog w base spare held n4 9 [u1] = some z1 := by have := hg 1 _ rfl; simpa [cells9] using this
        rw [hy2] at hwy
        obtain ⟨nm, rfl, hz⟩ := text_w g0 (wt_part Try.underlying34 hwy (i := 0) rfl rfl)
        obtain ⟨nn, rfl, hz2⟩ := text_w g1 (wt_part Try.underlying34 hwy (i := 1) rfl rfl)
        exact ⟨(nm, nn), b, off, e, hb, hc 0 (by omega), hc 1 (by omega), hz, hz2⟩
  have : Inhabited ByteArray := ⟨⟨#[]⟩⟩
  obtain ⟨f, hfn⟩ := pick_lt one
  have hcs' : v = .slice a l c := by
    obtain ⟨a', l', c', rfl⟩ := okWide_slice Try.underlying22 hv
    simpa [Value.cells] using hcs
  refine ⟨a, l, c, (List.range l).map f, hcs', by simp, by unfold reachBytes at hby; omega, fun i x hx => ?_, fun h0 => ?_⟩
  · obtain ⟨hi, rfl⟩ := List.getElem?_eq_some_iff.1 hx
    have hi' : i < l := by simpa using hi
    obtain ⟨b2, off2, e2, _, _, _, h1, h2⟩ := hfn i hi'
    exact ⟨by simpa using h1, by simpa using h2⟩
  · obtain ⟨b, off, e, hb, _⟩ := hfn 0 h0
    refine ⟨b, off, e, hb, fun i x hx => ?_⟩
    obtain ⟨hi, rfl⟩ := List.getElem?_eq_some_iff.1 hx
    have hi' : i < l := by simpa using hi
    obtain ⟨b2, off2, e2, _, h1, h2, _, _⟩ := hfn i hi'
    rw [e] at e2
    injection e2 with e3
    injection e3 with e4 e5
    subst e4 e5
    exact ⟨by simpa using h1, by simpa using h2⟩
end
end Go.Proofs.Ytngnegnofmpgkaa
namespace Go.Proofs.Ytngnegnofmpgkaa.dirtyFiles
open Go.Joins Go.ChangeShapes Go.WideShapes Go.ChangeAt Go.RowKit
set_option maxRecDepth 100000 in
theorem lifted (os : Os) (started : os.Started) (H : Type) (enc : TypeId × Value → H) :
    ReturnsInHanded {} Try.checked os 3 .any (Rows.dirtyFilesSpec.pre6 enc Try.prog Try.f3 Rows.dirtyFilesRow.domain false) (Rows.dirtyFilesSpec.post enc Try.prog Try.f3 false true false false) := by
  refine returnsInHanded_of_change_sized (C := Try.checked) own_knob started (by kernel_rfl) Try.func3
    (ChangeSpec.witness6 (enc := enc) (C := Try.checked) false ⟨#[], #[.slice none 0 0, .slice none 0 0], []⟩ 8 (by kernel_rfl) (by kernel_rfl) (by kernel_rfl) (by kernel_rfl)) ?_
  intro W base args ds gs before hval0 hW _ hsz0 _
  have hval : ∀ (j : Nat) t v, Try.f3.params[j]? = some t → args[j]? = some v → Value.okWide Try.prog W .any base t v := hval0
  have hW' := hW
  obtain ⟨p, q, hA0, hV, rfl, hfz, hnd⟩ := hW
  have hA : DataW.TrodAll enc Try.prog W 0 (fun _ => true) true Try.f3.params.toList args.toList ds p := hA0
  have hsz : (DataW.weightsEach Try.prog (Try.f3.params.toList ++ Rows.dirtyFilesSpec.plain.varTypes Try.prog) (ds ++ gs)).all (· ≤ reachBytes) = true := hsz0
  rw [Try.params3] at hA hval hsz
  obtain ⟨v0, vs0, d0, ds0, p0, q0, hargs, rfl, rfl, h0, r0⟩ := trodAll_cons hA
  obtain ⟨v1, vs1, d1, ds1, p1, q1, rfl, rfl, rfl, h1, r1⟩ := trodAll_cons r0
  obtain ⟨rfl, rfl, rfl⟩ := trodAll_nil r1
  obtain rfl : args = #[v0, v1] := by cases args; simp_all
  obtain ⟨rfl, rfl⟩ := trodVars_none hV
  obtain ⟨t0, tl0, tc0, A0, rfl, i0⟩ := open_files (hval 0 22 v0 rfl rfl) h0 (fun n hn => by simpa using List.all_eq_true.1 hsz n (DataW.weights_mem_each (j := 0) rfl rfl n hn))
  obtain ⟨t1, tl1, tc1, A1, rfl, i1⟩ := open_files (hval 1 22 v1 rfl rfl) h1 (fun n hn => by simpa using List.all_eq_true.1 hsz n (DataW.weights_mem_each (j := 1) rfl rfl n hn))
  have lt0 : ∀ x ∈ p0, x.block < W.heap.size := by obtain ⟨m, hm⟩ := h0; exact DataW.trod_lt m _ _ _ hm
  have lt1 : ∀ x ∈ p1, x.block < W.heap.size := by obtain ⟨m, hm⟩ := h1; exact DataW.trod_lt m _ _ _ hm
  clear hA0 hval0 hsz0
  simp only [List.append_nil] at hW'
  refine (Gr.dirtyF_walk t0 tl0 tc0 t1 tl1 tc1 A0 A1 _ i0 i1).mono fun e W' ⟨he, hg⟩ => ?_
  subst he
  exact ⟨_, rfl, _, _, _, [], _, [], hW', trodAll_mk1 (shut_bool Try.underlying4 _), (trodAll_cons_mk (Below.trod laidOut (by kernel_rfl) (of_decide_eq_true (by kernel_rfl)) h0 hg lt0) (trodAll_cons_mk (Below.trod laidOut (by kernel_rfl) (of_decide_eq_true (by kernel_rfl)) h1 hg lt1) trodAll_mk0)), rfl, hg.frame _, fun h => by cases h⟩
theorem over : Rows.dirtyFilesRow.holds Try.pinned (OpenSpec.ofChange Rows.dirtyFilesSpec) :=
  OpenClaim.holds_of_wide 3 Try.f3 rfl rfl rfl rfl rfl rfl rfl ⟨rfl, rfl, rfl, rfl, rfl⟩ rfl rfl rfl rfl rfl (by kernel_rfl) Try.func3 (by kernel_rfl)
    (of_decide_eq_true (by kernel_rfl)) (by unfold Func.isWrapper; first | (rw [if_pos (by decide +kernel)]; kernel_rfl) | (rw [if_neg (by decide +kernel)]; exact ⟨rfl, rfl⟩))
    (fun os started H enc _ => lifted os started H enc)
/-- The statement. -/
theorem proved : Rows.DirtyFilesSaid := over
end Go.Proofs.Ytngnegnofmpgkaa.dirtyFiles
namespace Go.Proofs.Ytngnegnofmpgkaa
theorem dirtyFiles_holds : Rows.DirtyFilesSaid := dirtyFiles.proved
end Go.Proofs.Ytngnegnofmpgkaa
