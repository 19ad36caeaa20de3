/- THE FRAME: from the row's premises to what the walks ask. -/
import Derived.Test.YtikhhkhkfaadlaaDoorTie
import Derived.Test.YtikhhkhkfaadlaaDoorD
import Derived.ProofKit
import Derived.OpenShut
import Derived.ShutString
import Derived.LaidMore
import Derived.Lay
import Derived.SevenTiedAt
import Derived.Stop.Joined
import Derived.SliceStrings
import Derived.SizedLaws
import Derived.HandedShaped
import Derived.Shelf.Vars
import Derived.ChangeOld
namespace Go.Proofs.YtikhhkhkfaadlaaDoor
open Go.ChangeShapes Go.WideShapes Go.ChangeAt Go.RowKit
open Go.ChangeMaps (open_string shut_string)

theorem own : ownKnob Tryd.prog.godebug = none := by kernel_rfl
theorem laidOut : laidOutB Tryd.prog = true := by kernel_rfl

/-- The library's two wraps at once: a premise on memory beside the row's, and the world's shape handed on. -/
theorem returns_shaped_and {H : Type} {enc : TypeId × Value → H} {a : Assume} {C : Checked} {os : Os} {f : FuncId} {fn : Func} {s : ChangeSpec} {conds : List PathCond} {apart fresh handsOn again : Bool} {X : World → Array Value → Prop}
    (hX : ∀ (w w' : World) (args : Array Value), w.heap = w'.heap → X w args → X w' args)
    (hown : ownKnob C.prog.godebug = none) (started : os.Started) (noInit : C.prog.inits.idxOf? f = none) (hfn : C.prog.funcs[f]? = some fn)
    (witness : ∃ (w : World) (tape : Tape) (i : Input), w.os = os ∧ (w.forCall tape i).Shaped C.prog ∧ i.vars = [] ∧ Input.okWide C.prog (w.forCall tape i) .any w.heap.size f i ∧
      ((s.pre enc C.prog fn conds apart (w.forCall tape i).memory i.args ∧ X (w.forCall tape i).memory i.args) ∧ sizedMet enc C.prog fn (OpenSpec.ofChange s) apart (w.forCall tape i).memory i.args) ∧ a.holds C.prog (lone (Frame.enter C.prog f i.args .normal) [] (w.forCall tape i)))
    (contract : ∀ (W : World) (base : Nat) (args : Array Value) (ds gs : List (DataW H)) (before : List MemPlace),
      (∀ (j : Nat) t v, fn.params[j]? = some t → args[j]? = some v → Value.okWide C.prog W .any base t v) →
      DataW.Whole enc C.prog fn.params.toList s.vars apart W args.toList ds gs before →
      (DataW.weightsEach C.prog (fn.params.toList ++ s.plain.varTypes C.prog) (ds ++ gs)).all (· ≤ reachBytes) = true → X W args → W.ShapedOpen C.prog →
      Calls C.prog f args W fun e W' => ∃ v, e = .returned v ∧ s.post enc C.prog fn apart fresh handsOn again W args v W') :
    ReturnsInHanded a C os f .any (fun w args => (s.pre enc C.prog fn conds apart w args ∧ X w args) ∧ sizedMet enc C.prog fn (OpenSpec.ofChange s) apart w args) (s.post enc C.prog fn apart fresh handsOn again) := by
  refine returnsInHanded_of_calls hown started noInit witness fun w tape i _ hsh _ hok hpre _ => ?_
  obtain ⟨_, _, _, fn2, hfn2, _, _, _, _, hval⟩ := hok
  obtain rfl : fn2 = fn := Option.some.inj (hfn2.symm.trans hfn)
  obtain ⟨⟨⟨ds, gs, before, hw, _⟩, hx⟩, hz⟩ := hpre
  refine (contract (w.forCall tape i) w.heap.size i.args ds gs before hval (DataW.Whole.of_heap (w' := w.forCall tape i) (by rfl) hw) (hz.weights hw) (hX _ _ _ (by rfl) hx) hsh).mono fun e W' ⟨v, he, hp⟩ => ?_
  subst he
  exact ChangeSpec.post_blind hp

theorem words_cells {W : World} (h : laidMetH Tryd.prog Rows.nameRightsRow.laid W) : ∀ r, r < 9 → W.cell? ⟨0, r, none⟩ = some (.string (wordAt r)) := by
  intro r hr
  rw [MakeChecks.laidMetH_plain _ _ _ (by kernel_rfl)] at h
  obtain ⟨ps, hL, _, _⟩ := h
  simp only [Rows.nameRightsRow, DataW.LaidVars] at hL
  obtain ⟨_, _, _, _, _, _, _, _, _, _, ⟨g, t, cs, fuel, p, q, hg, ht, hv, hd, _, _⟩, _⟩ := hL
  obtain rfl := Option.some.inj ((show Tryd.prog.globalNamed "treillage/name.words" = some 0 by kernel_rfl).symm.trans hg)
  obtain rfl := Option.some.inj ((show (Tryd.prog.globals[0]?).map (·.type) = some 36 by kernel_rfl).symm.trans ht)
  obtain ⟨xs, m, _, ex, _, hl, hel⟩ := DataW.trod_array Tryd.underlying36 hd
  have c9 : Tryd.prog.cellsOf 9 = 1 := by kernel_rfl
  have hE := hel r hr
  rw [c9, Nat.mul_one, List.getElem?_eq_getElem (by omega)] at hE
  obtain ⟨s, e1, e2, _⟩ := DataW.trod_string Tryd.underlying9 hE
  have e3 : (xs.map (·.1)) = wordsL.map fun l => (DataW.lit (.string l) : DataW Unit) := (DataW.agg.inj (Prod.mk.inj ex).1).symm
  have e4 : (xs.map (·.1))[r]? = (wordsL.map fun l => (DataW.lit (.string l) : DataW Unit))[r]? := by rw [e3]
  have hlen : wordsL.length = 9 := rfl
  rw [List.getElem?_map, List.getElem?_map, List.getElem?_eq_getElem (by omega : r < xs.length), List.getElem?_eq_getElem (by omega : r < wordsL.length), e2] at e4
  have hs : s = wordAt r := by
    simp only [Option.map_some, Option.some.injEq, DataW.lit.injEq, Lit.string.injEq] at e4
    unfold wordAt
    rw [List.getD, List.getElem?_eq_getElem (by omega : r < wordsL.length), Option.getD_some, ← e4]
  rw [World.var?_cell hg hv r, ← hs]
  have h0 : ((cs.toList.drop r).take 1)[0]? = some (.string s) := by rw [e1]; rfl
  simpa using h0
theorem env_of {W : World} (h : laidMetH Tryd.prog Rows.nameRightsRow.laid W) (hs : W.ShapedOpen Tryd.prog) : Env W := by
  have hm := cell_of_shapedOpen_int (P := Tryd.prog) (g := 1) (t := 3) (zero := #[.int .i64 0]) hs (of_decide_eq_true (by kernel_rfl)) (by kernel_rfl) rfl (by kernel_rfl) (by kernel_rfl) Tryd.underlying3
  refine ⟨words_cells h, hm, ?_⟩
  obtain ⟨m, hm⟩ := hm
  have := World.block_lt_of_cell? _ _ hm
  exact this

theorem weights_elem {H : Type} {P : Program} {e : TypeId} {n : Nat} : ∀ {l : List (DataW H)} {i : Nat} {d : DataW H}, l[i]? = some d → n ∈ d.weights P e → n ∈ DataW.weightsAll P e l
  | _ :: _, 0, _, h, hn => by simp at h; subst h; simp [DataW.weightsAll, hn]
  | _ :: l, i + 1, d, h, hn => by
    simp only [List.getElem?_cons_succ] at h
    simp only [DataW.weightsAll, List.mem_append]
    exact .inr (weights_elem h hn)
  | [], _, _, h, _ => by simp at h
theorem reach47 {n : Nat} (h : n ≤ reachBytes) : n ≤ 140737488355328 := by
  have := reachBytes_lt; omega
/-- A slice of texts that came in, as the walks ask for it. -/
theorem strRow_of {H : Type} {enc : TypeId × Value → H} {W : World} {base fuel : Nat} {held : Bool} {ts : List TypeId} {ds : List (DataW H)} {j : Nat} {a : Option Addr} {len cap : Nat} {x : DataW H × List MemPlace}
    (h : DataW.trod enc Tryd.prog W base (fun _ => true) held fuel 22 [.slice a len cap] = some x) (ht : ts[j]? = some 22) (hd : ds[j]? = some x.1)
    (hw : (DataW.weightsEach Tryd.prog ts ds).all (· ≤ reachBytes) = true) : ∃ xs, StrRow W a len xs := by
  rcases open_strings Tryd.underlying22 Tryd.underlying9 (by kernel_rfl) h with ⟨hcs, _⟩ | ⟨ad, l, c, ss, hcs, _, hl, _, hz, hx, hcell, _⟩
  · simp at hcs
    obtain ⟨rfl, rfl, rfl⟩ := hcs
    exact ⟨[], rfl, by omega, fun i x h => by simp at h, fun h => absurd h (by omega)⟩
  · simp only [List.cons.injEq, Value.slice.injEq, and_true] at hcs
    obtain ⟨rfl, rfl, rfl⟩ := hcs
    simp only [if_true] at hz
    subst hx
    have hb : Tryd.prog.bytesOf 9 = 16 := by kernel_rfl
    have hlen := sized_slice hw ht hd Tryd.underlying22
    rw [hb] at hlen
    have hl2 : (strs (H := H) (ss.take len)).length = len := by simp [strs]; omega
    refine ⟨ss.take len, by simp; omega, reach47 (by omega), fun i y hy => ?_, fun h0 => ?_⟩
    · have hm : (strs (H := H) (ss.take len))[i]? = some (.lit (.string y.data.toList)) := by
        unfold strs; rw [List.getElem?_map, hy]; rfl
      have := List.all_eq_true.1 hw _ (DataW.weights_mem_each ht hd y.data.toList.length (by
        simp only [DataW.weights, Tryd.underlying22, List.mem_cons, List.mem_append]
        exact .inr (.inl (weights_elem hm (by simp [DataW.weights])))))
      rw [size_list, Lib.toList_data]
      exact reach47 (by simpa using this)
    · have hpos : 0 < ss.length := by omega
      obtain ⟨b, off, sp⟩ := ad
      have h00 := hcell 0 hpos
      have hsp : sp = none := by simpa [Addr.add] using World.cell?_spot h00
      subst hsp
      refine ⟨b, off, rfl, World.block_lt_of_cell? _ _ h00, fun i y hy => ?_⟩
      obtain ⟨hi, e⟩ := List.getElem?_eq_some_iff.1 hy
      have hi2 : i < ss.length := by simp at hi; omega
      have := hcell i hi2
      rw [Go.WideShapes.add_plain] at this
      rw [this]
      have : ss.getD i ByteArray.empty = y := by
        rw [← e]; simp [hi2]
      rw [this]
end Go.Proofs.YtikhhkhkfaadlaaDoor
