/- DirtyNames: for every two lists of nodes the law returns true, on every schedule, and nothing that was there is changed; no condition. -/
import Derived.Test.YtngnegnofmpgkaaRows
import Derived.Test.YtngnegnofmpgkaaZ19
import Derived.Test.YtngnegnofmpgkaaAj
namespace Go.Proofs.Ytngnegnofmpgkaa.Gr
open Go.RowKit
theorem NodeRow.le {w : World} {n m : Nat} {a : Option Addr} {len : Nat} {xs : List Nd} (h : NodeRow w n a len xs) (hle : n ≤ m) : NodeRow w m a len xs :=
  ⟨h.count, h.max, fun h0 => by
    obtain ⟨b, off, e, hb, hc⟩ := h.at_ h0
    exact ⟨b, off, e, hb, fun i x hx => by
      obtain ⟨a', dl, dc, hN⟩ := hc i x hx
      exact ⟨a', dl, dc, ⟨hN.c0, hN.c1, hN.c2, hN.ok, InKs.le hN.ds hle⟩⟩⟩⟩
end Go.Proofs.Ytngnegnofmpgkaa.Gr
namespace Go.Proofs.Ytngnegnofmpgkaa.dirtyNames
open Go.Joins Go.ChangeShapes Go.WideShapes Go.ChangeAt Go.RowKit
set_option maxRecDepth 100000 in
theorem lifted (os : Os) (started : os.Started) (H : Type) (enc : TypeId × Value → H) :
    ReturnsInHanded {} Try.checked os 4 .any (Rows.dirtyNamesSpec.pre6 enc Try.prog Try.f4 Rows.dirtyNamesRow.domain false) (Rows.dirtyNamesSpec.post enc Try.prog Try.f4 false true false false) := by
  refine returnsInHanded_of_change_sized (C := Try.checked) own_knob started (by kernel_rfl) Try.func4
    (ChangeSpec.witness6 (enc := enc) (C := Try.checked) false ⟨#[], #[.slice none 0 0, .slice none 0 0], []⟩ 8 (by kernel_rfl) (by kernel_rfl) (by kernel_rfl) (by kernel_rfl)) ?_
  intro W base args ds gs before hval0 hW _ hsz0 _
  have hval : ∀ (j : Nat) t v, Try.f4.params[j]? = some t → args[j]? = some v → Value.okWide Try.prog W .any base t v := hval0
  have hW' := hW
  obtain ⟨p, q, hA0, hV, rfl, hfz, hnd⟩ := hW
  have hA : DataW.TrodAll enc Try.prog W 0 (fun _ => true) true Try.f4.params.toList args.toList ds p := hA0
  have hsz : (DataW.weightsEach Try.prog (Try.f4.params.toList ++ Rows.dirtyNamesSpec.plain.varTypes Try.prog) (ds ++ gs)).all (· ≤ reachBytes) = true := hsz0
  rw [Try.params4] at hA hval hsz
  obtain ⟨v0, vs0, d0, ds0, p0, q0, hargs, rfl, rfl, h0, r0⟩ := trodAll_cons hA
  obtain ⟨v1, vs1, d1, ds1, p1, q1, rfl, rfl, rfl, h1, r1⟩ := trodAll_cons r0
  obtain ⟨rfl, rfl, rfl⟩ := trodAll_nil r1
  obtain rfl : args = #[v0, v1] := by cases args; simp_all
  obtain ⟨rfl, rfl⟩ := trodVars_none hV
  obtain ⟨t0, tl0, tc0, n0, A0, rfl, i0⟩ := open_nodes (hval 0 29 v0 rfl rfl) h0 (fun n hn => by simpa using List.all_eq_true.1 hsz n (DataW.weights_mem_each (j := 0) rfl rfl n hn))
  obtain ⟨t1, tl1, tc1, n1, A1, rfl, i1⟩ := open_nodes (hval 1 29 v1 rfl rfl) h1 (fun n hn => by simpa using List.all_eq_true.1 hsz n (DataW.weights_mem_each (j := 1) rfl rfl n hn))
  have lt0 : ∀ x ∈ p0, x.block < W.heap.size := by obtain ⟨m, hm⟩ := h0; exact DataW.trod_lt m _ _ _ hm
  have lt1 : ∀ x ∈ p1, x.block < W.heap.size := by obtain ⟨m, hm⟩ := h1; exact DataW.trod_lt m _ _ _ hm
  clear hA0 hval0 hsz0
  simp only [List.append_nil] at hW'
  refine (Gr.dirtyN_walk t0 tl0 tc0 t1 tl1 tc1 (n0 + n1) A0 A1 _ (i0.le (by omega)) (i1.le (by omega))).mono fun e W' ⟨he, hg⟩ => ?_
  subst he
  exact ⟨_, rfl, _, _, _, [], _, [], hW', trodAll_mk1 (shut_bool Try.underlying4 _), (trodAll_cons_mk (Below.trod laidOut (by kernel_rfl) (of_decide_eq_true (by kernel_rfl)) h0 hg lt0) (trodAll_cons_mk (Below.trod laidOut (by kernel_rfl) (of_decide_eq_true (by kernel_rfl)) h1 hg lt1) trodAll_mk0)), rfl, hg.frame _, fun h => by cases h⟩
theorem over : Rows.dirtyNamesRow.holds Try.pinned (OpenSpec.ofChange Rows.dirtyNamesSpec) :=
  OpenClaim.holds_of_wide 4 Try.f4 rfl rfl rfl rfl rfl rfl rfl ⟨rfl, rfl, rfl, rfl, rfl⟩ rfl rfl rfl rfl rfl (by kernel_rfl) Try.func4 (by kernel_rfl)
    (of_decide_eq_true (by kernel_rfl)) (by unfold Func.isWrapper; first | (rw [if_pos (by decide +kernel)]; kernel_rfl) | (rw [if_neg (by decide +kernel)]; exact ⟨rfl, rfl⟩))
    (fun os started H enc _ => lifted os started H enc)
/-- The statement. -/
theorem proved : Rows.DirtyNamesSaid := over
end Go.Proofs.Ytngnegnofmpgkaa.dirtyNames
namespace Go.Proofs.Ytngnegnofmpgkaa
theorem dirtyNames_holds : Rows.DirtyNamesSaid := dirtyNames.proved
end Go.Proofs.Ytngnegnofmpgkaa
