/- FrameBack: for every list of texts, every text behind and every number the law returns true, on every schedule, and nothing that was there is changed; no condition. -/
import Derived.Test.YtnejahfeafllkaaRows
import Derived.Test.YtnejahfeafllkaaFq
import Derived.ProofKit
import Derived.OpenShut
import Derived.ShutString
import Derived.ChangeOld
import Derived.Deep.Strs
namespace Go.Proofs.Ytnejahfeafllkaa
open Go.ChangeShapes Go.WideShapes Go.ChangeAt Go.RowKit
open Go.ChangeMaps (open_string shut_string)
theorem size_list (s : ByteArray) : s.size = s.toList.length := by rw [Lib.toList_data]; simp
theorem weights_elem {H : Type} {P : Program} {e : TypeId} {n : Nat} : ∀ {l : List (DataW H)} {i : Nat} {d : DataW H}, l[i]? = some d → n ∈ d.weights P e → n ∈ DataW.weightsAll P e l
  | _ :: _, 0, _, h, hn => by simp at h; subst h; simp [DataW.weightsAll, hn]
  | _ :: l, i + 1, d, h, hn => by
    simp only [List.getElem?_cons_succ] at h
    simp only [DataW.weightsAll, List.mem_append]
    exact .inr (weights_elem h hn)
  | [], _, _, h, _ => by simp at h
theorem reach47 {n : Nat} (h : n ≤ reachBytes) : n ≤ 140737488355328 := by
  have := reachBytes_lt; omega
/-- A slice of texts that came in, as the walks ask for it. -/
theorem strRow_of {H : Type} {enc : TypeId × Value → H} {W : World} {base fuel : Nat} {held : Bool} {ts : List TypeId} {ds : List (DataW H)} {j : Nat} {a : Option Addr} {len cap : Nat} {x : DataW H × List MemPlace}
    (h : DataW.trod enc Try.prog W base (fun _ => true) held fuel 55 [.slice a len cap] = some x) (ht : ts[j]? = some 55) (hd : ds[j]? = some x.1)
    (hw : (DataW.weightsEach Try.prog ts ds).all (· ≤ reachBytes) = true) : ∃ xs, StrRow W a len xs := by
  rcases open_strings Try.underlying55 Try.underlying9 (by kernel_rfl) h with ⟨hcs, _⟩ | ⟨ad, l, c, ss, hcs, _, hl, _, hz, hx, hcell, _⟩
  · simp at hcs
    obtain ⟨rfl, rfl, rfl⟩ := hcs
    exact ⟨[], rfl, by omega, fun i x h => by simp at h, fun h => absurd h (by omega)⟩
  · simp only [List.cons.injEq, Value.slice.injEq, and_true] at hcs
    obtain ⟨rfl, rfl, rfl⟩ := hcs
    simp only [if_true] at hz
    subst hx
    have hb : Try.prog.bytesOf 9 = 16 := by kernel_rfl
    have hlen := sized_slice hw ht hd Try.underlying55
    rw [hb] at hlen
    have hl2 : (strs (H := H) (ss.take len)).length = len := by simp [strs]; omega
    refine ⟨ss.take len, by simp; omega, reach47 (by omega), fun i y hy => ?_, fun h0 => ?_⟩
    · have hm : (strs (H := H) (ss.take len))[i]? = some (.lit (.string y.data.toList)) := by
        unfold strs; rw [List.getElem?_map, hy]; rfl
      have := List.all_eq_true.1 hw _ (DataW.weights_mem_each ht hd y.data.toList.length (by
        simp only [DataW.weights, Try.underlying55, List.mem_cons, List.mem_append]
        exact .inr (.inl (weights_elem hm (by simp [DataW.weights])))))
      rw [size_list, Lib.toList_data]
      exact reach47 (by simpa using this)
    · have hpos : 0 < ss.length := by omega
      obtain ⟨b, off, sp⟩ := ad
      have h00 := hcell 0 hpos
      have hsp : sp = none := by simpa [Addr.add] using World.cell?_spot h00
      subst hsp
      refine ⟨b, off, rfl, World.block_lt_of_cell? _ _ h00, fun i y hy => ?_⟩
      obtain ⟨hi, e⟩ := List.getElem?_eq_some_iff.1 hy
      have hi2 : i < ss.length := by simp at hi; omega
      have := hcell i hi2
      rw [Go.WideShapes.add_plain] at this
      rw [this]
      have : ss.getD i ByteArray.empty = y := by
        rw [← e]; simp [hi2]
      rw [this]
theorem cap_of {H : Type} {enc : TypeId × Value → H} {W : World} {base fuel : Nat} {held : Bool} {a : Option Addr} {len cap : Nat} {x : DataW H × List MemPlace}
    (h : DataW.trod enc Try.prog W base (fun _ => true) held fuel 55 [.slice a len cap] = some x) : len ≤ cap := by
  rcases open_strings Try.underlying55 Try.underlying9 (by kernel_rfl) h with ⟨hcs, _⟩ | ⟨ad, l, c, ss, hcs, _, hl, _⟩
  · simp at hcs
    obtain ⟨rfl, rfl, rfl⟩ := hcs
    exact Nat.le_refl _
  · simp only [List.cons.injEq, Value.slice.injEq, and_true] at hcs
    obtain ⟨rfl, rfl, rfl⟩ := hcs
    exact hl
theorem back_own : ownKnob Try.prog.godebug = none := by kernel_rfl
theorem back_laidOut : laidOutB Try.prog = true := by kernel_rfl
set_option maxRecDepth 100000 in
theorem back_lifted (os : Os) (started : os.Started) (H : Type) (enc : TypeId × Value → H) :
    ReturnsInHanded {} Try.checked os 7 .any (Rows.frameBackSpec.pre6 enc Try.prog Try.f7 Rows.frameBackRow.domain false) (Rows.frameBackSpec.post enc Try.prog Try.f7 false true false false) := by
  refine returnsInHanded_of_change_sized (C := Try.checked) back_own started (by kernel_rfl) Try.func7
    (ChangeSpec.witness6 (enc := enc) (C := Try.checked) false ⟨#[], #[.slice none 0 0, .string ByteArray.empty, .int .i64 0], []⟩ 8 (by kernel_rfl) (by kernel_rfl) (by kernel_rfl) (by kernel_rfl)) ?_
  intro W base args ds gs before hval0 hW hcnd hsz0 _
  have hval : ∀ (j : Nat) t v, Try.f7.params[j]? = some t → args[j]? = some v → Value.okWide Try.prog W .any base t v := hval0
  have hsz : (DataW.weightsEach Try.prog (Try.f7.params.toList ++ Rows.frameBackSpec.plain.varTypes Try.prog) (ds ++ gs)).all (· ≤ reachBytes) = true := hsz0
  have hW' := hW
  obtain ⟨p, q, hA0, hV, rfl, hfz, hnd⟩ := hW
  have hA : DataW.TrodAll enc Try.prog W 0 (fun _ => true) true Try.f7.params.toList args.toList ds p := hA0
  rw [Try.params7] at hA hval hsz
  obtain ⟨v0, vs0, d0, ds0, p0, q0, hargs, rfl, rfl, h0, r0⟩ := trodAll_cons hA
  obtain ⟨v1, vs1, d1, ds1, p1, q1, rfl, rfl, rfl, h1, r1⟩ := trodAll_cons r0
  obtain ⟨v2, vs2, d2, ds2, p2, q2, rfl, rfl, rfl, h2, r2⟩ := trodAll_cons r1
  obtain ⟨rfl, rfl, rfl⟩ := trodAll_nil r2
  obtain rfl : args = #[v0, v1, v2] := by cases args; simp_all
  obtain ⟨rfl, rfl⟩ := trodVars_none hV
  obtain ⟨a0, len0, cap0, rfl⟩ := okWide_slice Try.underlying55 (hval 0 55 v0 rfl rfl)
  obtain ⟨s1, rfl, rfl, rfl, w1⟩ := open_string Try.underlying9 (hval 1 9 v1 rfl rfl) h1
  obtain ⟨n2, rfl, rfl, rfl, w2⟩ := open_int Try.underlying3 (hval 2 3 v2 rfl rfl) h2
  have k0 := h0
  have lt0 : ∀ x ∈ p0, x.block < W.heap.size := by obtain ⟨m, hm⟩ := k0; exact DataW.trod_lt m _ _ _ hm
  obtain ⟨fuel, hf⟩ := h0
  obtain ⟨xs, hS⟩ := strRow_of (j := 0) hf rfl rfl hsz
  clear hA0 hval0
  simp only [List.append_nil] at hW'
  refine (back_walk a0 len0 cap0 xs s1 n2 W hS (cap_of hf)).mono fun e W' ⟨he, bel⟩ => ?_
  subst he
  exact ⟨_, rfl, _, _, _, [], _, [], hW', trodAll_mk1 (shut_bool Try.underlying4 _), (trodAll_cons_mk (Below.trod back_laidOut (by kernel_rfl) (of_decide_eq_true (by kernel_rfl)) k0 bel lt0) (trodAll_cons_mk (shut_string Try.underlying9 w1) (trodAll_cons_mk (shut_int Try.underlying3 w2) trodAll_mk0))), rfl, bel.frame _, fun h => by cases h⟩
theorem frameBack_holds : Rows.FrameBackSaid :=
  OpenClaim.holds_of_wide_leaving 7 Try.f7 rfl rfl rfl rfl rfl rfl rfl ⟨rfl, rfl, rfl, rfl, rfl⟩ rfl rfl rfl rfl rfl (by kernel_rfl) Try.func7 (by kernel_rfl)
    (of_decide_eq_true (by kernel_rfl)) (by unfold Func.isWrapper; first | (rw [if_pos (by decide +kernel)]; kernel_rfl) | (rw [if_neg (by decide +kernel)]; exact ⟨rfl, rfl⟩))
    (fun os started H enc _ => leaving_of_handed (back_lifted os started H enc))
end Go.Proofs.Ytnejahfeafllkaa
