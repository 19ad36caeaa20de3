/- Kg -/
import Derived.Test.YtlpilbghblbpbaaDoorTie
import Derived.Test.YtlpilbghblbpbaaDoorCards
import Derived.OpenShut
import Derived.ShutString
import Derived.LaidMore
import Derived.Lay
import Derived.SevenTiedAt
import Derived.Stop.Joined
import Derived.SliceStrings
import Derived.HandedShaped
import Derived.Shelf.Vars
import Derived.Test.YtlpilbghblbpbaaDoorY19
/- THE FRAME: the tables, and what the walk asks. -/
namespace Go.Proofs.YtlpilbghblbpbaaDoor.Fm
open Go.ChangeShapes Go.WideShapes Go.ChangeAt Go.RowKit
open Sw (SE bnd sgn kindT boolT)
open Lx (bs)
def bindsL : List Int := [0, 5, 5, 5, 5, 5, 5, 5, 5, 5, 5, 2, 1, 3, 3, 4]
def signsL : List (List UInt8) := [[], [], [], [], [], [], [], [], [], [], [], [38], [124], [43], [45], [42]]
def boolsL : List (List UInt8) := [[102, 97, 108, 115, 101], [116, 114, 117, 101]]
def kindsL : List (List UInt8) := [[], [98, 111, 111, 108], [105, 110, 116], [115, 116, 114, 105, 110, 103], [], [97, 110, 121]]
theorem words_cells {W : World} (h : laidMetH Tryd.prog Rows.keyTextsRow.laid W) : ∀ r, r < 9 → W.cell? ⟨0, r, none⟩ = some (.string ⟨(Nm.wordsL.getD r []).toArray⟩) := by
  intro r hr
  rw [MakeChecks.laidMetH_plain _ _ _ (by kernel_rfl)] at h
  obtain ⟨ps, hL, _, _⟩ := h
  simp only [Rows.keyTextsRow, DataW.LaidVars] at hL
  obtain ⟨g, t, cs, fuel, p, q, hg, ht, hv, hd, _, _⟩ := hL
  obtain rfl := Option.some.inj ((show Tryd.prog.globalNamed "treillage/name.words" = some 0 by kernel_rfl).symm.trans hg)
  obtain rfl := Option.some.inj ((show (Tryd.prog.globals[0]?).map (·.type) = some 71 by kernel_rfl).symm.trans ht)
  obtain ⟨xs, m, _, ex, _, hl, hel⟩ := DataW.trod_array Tryd.underlying71 hd
  have c9 : Tryd.prog.cellsOf 9 = 1 := by kernel_rfl
  have hE := hel r hr
  rw [c9, Nat.mul_one, List.getElem?_eq_getElem (by omega)] at hE
  obtain ⟨s, e1, e2, _⟩ := DataW.trod_string Tryd.underlying9 hE
  have e3 : (xs.map (·.1)) = Nm.wordsL.map fun l => (DataW.lit (.string l) : DataW Unit) := (DataW.agg.inj (Prod.mk.inj ex).1).symm
  have e4 : (xs.map (·.1))[r]? = (Nm.wordsL.map fun l => (DataW.lit (.string l) : DataW Unit))[r]? := by rw [e3]
  have hlen : Nm.wordsL.length = 9 := rfl
  rw [List.getElem?_map, List.getElem?_map, List.getElem?_eq_getElem (by omega : r < xs.length), List.getElem?_eq_getElem (by omega : r < Nm.wordsL.length), e2] at e4
  have hs : s = ⟨(Nm.wordsL.getD r []).toArray⟩ := by
    simp only [Option.map_some, Option.some.injEq, DataW.lit.injEq, Lit.string.injEq] at e4
    rw [List.getD, List.getElem?_eq_getElem (by omega : r < Nm.wordsL.length), Option.getD_some, ← e4]
  rw [World.var?_cell hg hv r, ← hs]
  have h0 : ((cs.toList.drop r).take 1)[0]? = some (.string s) := by rw [e1]; rfl
  simpa using h0
theorem signs_cells {W : World} (h : laidMetH Tryd.prog Rows.keyTextsRow.laid W) : ∀ r, r < 16 → W.cell? ⟨4, r, none⟩ = some (.string ⟨(signsL.getD r []).toArray⟩) := by
  intro r hr
  rw [MakeChecks.laidMetH_plain _ _ _ (by kernel_rfl)] at h
  obtain ⟨ps, hL, _, _⟩ := h
  simp only [Rows.keyTextsRow, DataW.LaidVars] at hL
  obtain ⟨_, _, _, _, _, _, _, _, _, _, ⟨_, _, _, _, _, _, _, _, _, _, ⟨g, t, cs, fuel, p, q, hg, ht, hv, hd, _, _⟩, _⟩, _⟩ := hL
  obtain rfl := Option.some.inj ((show Tryd.prog.globalNamed "treillage/show.signs" = some 4 by kernel_rfl).symm.trans hg)
  obtain rfl := Option.some.inj ((show (Tryd.prog.globals[4]?).map (·.type) = some 84 by kernel_rfl).symm.trans ht)
  obtain ⟨xs, m, _, ex, _, hl, hel⟩ := DataW.trod_array Tryd.underlying84 hd
  have c9 : Tryd.prog.cellsOf 9 = 1 := by kernel_rfl
  have hE := hel r hr
  rw [c9, Nat.mul_one, List.getElem?_eq_getElem (by omega)] at hE
  obtain ⟨s, e1, e2, _⟩ := DataW.trod_string Tryd.underlying9 hE
  have e3 : (xs.map (·.1)) = signsL.map fun l => (DataW.lit (.string l) : DataW Unit) := (DataW.agg.inj (Prod.mk.inj ex).1).symm
  have e4 : (xs.map (·.1))[r]? = (signsL.map fun l => (DataW.lit (.string l) : DataW Unit))[r]? := by rw [e3]
  have hlen : signsL.length = 16 := rfl
  rw [List.getElem?_map, List.getElem?_map, List.getElem?_eq_getElem (by omega : r < xs.length), List.getElem?_eq_getElem (by omega : r < signsL.length), e2] at e4
  have hs : s = ⟨(signsL.getD r []).toArray⟩ := by
    simp only [Option.map_some, Option.some.injEq, DataW.lit.injEq, Lit.string.injEq] at e4
    rw [List.getD, List.getElem?_eq_getElem (by omega : r < signsL.length), Option.getD_some, ← e4]
  rw [World.var?_cell hg hv r, ← hs]
  have h0 : ((cs.toList.drop r).take 1)[0]? = some (.string s) := by rw [e1]; rfl
  simpa using h0
theorem bools_cells {W : World} (h : laidMetH Tryd.prog Rows.keyTextsRow.laid W) : ∀ r, r < 2 → W.cell? ⟨2, r, none⟩ = some (.string ⟨(boolsL.getD r []).toArray⟩) := by
  intro r hr
  rw [MakeChecks.laidMetH_plain _ _ _ (by kernel_rfl)] at h
  obtain ⟨ps, hL, _, _⟩ := h
  simp only [Rows.keyTextsRow, DataW.LaidVars] at hL
  obtain ⟨_, _, _, _, _, _, _, _, _, _, ⟨_, _, _, _, _, _, _, _, _, _, ⟨_, _, _, _, _, _, _, _, _, _, ⟨g, t, cs, fuel, p, q, hg, ht, hv, hd, _, _⟩, _⟩, _⟩, _⟩ := hL
  obtain rfl := Option.some.inj ((show Tryd.prog.globalNamed "treillage/show.bools" = some 2 by kernel_rfl).symm.trans hg)
  obtain rfl := Option.some.inj ((show (Tryd.prog.globals[2]?).map (·.type) = some 80 by kernel_rfl).symm.trans ht)
  obtain ⟨xs, m, _, ex, _, hl, hel⟩ := DataW.trod_array Tryd.underlying80 hd
  have c9 : Tryd.prog.cellsOf 9 = 1 := by kernel_rfl
  have hE := hel r hr
  rw [c9, Nat.mul_one, List.getElem?_eq_getElem (by omega)] at hE
  obtain ⟨s, e1, e2, _⟩ := DataW.trod_string Tryd.underlying9 hE
  have e3 : (xs.map (·.1)) = boolsL.map fun l => (DataW.lit (.string l) : DataW Unit) := (DataW.agg.inj (Prod.mk.inj ex).1).symm
  have e4 : (xs.map (·.1))[r]? = (boolsL.map fun l => (DataW.lit (.string l) : DataW Unit))[r]? := by rw [e3]
  have hlen : boolsL.length = 2 := rfl
  rw [List.getElem?_map, List.getElem?_map, List.getElem?_eq_getElem (by omega : r < xs.length), List.getElem?_eq_getElem (by omega : r < boolsL.length), e2] at e4
  have hs : s = ⟨(boolsL.getD r []).toArray⟩ := by
    simp only [Option.map_some, Option.some.injEq, DataW.lit.injEq, Lit.string.injEq] at e4
    rw [List.getD, List.getElem?_eq_getElem (by omega : r < boolsL.length), Option.getD_some, ← e4]
  rw [World.var?_cell hg hv r, ← hs]
  have h0 : ((cs.toList.drop r).take 1)[0]? = some (.string s) := by rw [e1]; rfl
  simpa using h0
theorem kinds_cells {W : World} (h : laidMetH Tryd.prog Rows.keyTextsRow.laid W) : ∀ r, r < 6 → W.cell? ⟨3, r, none⟩ = some (.string ⟨(kindsL.getD r []).toArray⟩) := by
  intro r hr
  rw [MakeChecks.laidMetH_plain _ _ _ (by kernel_rfl)] at h
  obtain ⟨ps, hL, _, _⟩ := h
  simp only [Rows.keyTextsRow, DataW.LaidVars] at hL
  obtain ⟨_, _, _, _, _, _, _, _, _, _, ⟨_, _, _, _, _, _, _, _, _, _, ⟨_, _, _, _, _, _, _, _, _, _, ⟨_, _, _, _, _, _, _, _, _, _, ⟨g, t, cs, fuel, p, q, hg, ht, hv, hd, _, _⟩, _⟩, _⟩, _⟩, _⟩ := hL
  obtain rfl := Option.some.inj ((show Tryd.prog.globalNamed "treillage/show.kinds" = some 3 by kernel_rfl).symm.trans hg)
  obtain rfl := Option.some.inj ((show (Tryd.prog.globals[3]?).map (·.type) = some 81 by kernel_rfl).symm.trans ht)
  obtain ⟨xs, m, _, ex, _, hl, hel⟩ := DataW.trod_array Tryd.underlying81 hd
  have c9 : Tryd.prog.cellsOf 9 = 1 := by kernel_rfl
  have hE := hel r hr
  rw [c9, Nat.mul_one, List.getElem?_eq_getElem (by omega)] at hE
  obtain ⟨s, e1, e2, _⟩ := DataW.trod_string Tryd.underlying9 hE
  have e3 : (xs.map (·.1)) = kindsL.map fun l => (DataW.lit (.string l) : DataW Unit) := (DataW.agg.inj (Prod.mk.inj ex).1).symm
  have e4 : (xs.map (·.1))[r]? = (kindsL.map fun l => (DataW.lit (.string l) : DataW Unit))[r]? := by rw [e3]
  have hlen : kindsL.length = 6 := rfl
  rw [List.getElem?_map, List.getElem?_map, List.getElem?_eq_getElem (by omega : r < xs.length), List.getElem?_eq_getElem (by omega : r < kindsL.length), e2] at e4
  have hs : s = ⟨(kindsL.getD r []).toArray⟩ := by
    simp only [Option.map_some, Option.some.injEq, DataW.lit.injEq, Lit.string.injEq] at e4
    rw [List.getD, List.getElem?_eq_getElem (by omega : r < kindsL.length), Option.getD_some, ← e4]
  rw [World.var?_cell hg hv r, ← hs]
  have h0 : ((cs.toList.drop r).take 1)[0]? = some (.string s) := by rw [e1]; rfl
  simpa using h0
theorem binds_cells {W : World} (h : laidMetH Tryd.prog Rows.keyTextsRow.laid W) : ∀ r, r < 16 → W.cell? ⟨1, r, none⟩ = some (.int .i64 (bindsL.getD r 0)) := by
  intro r hr
  rw [MakeChecks.laidMetH_plain _ _ _ (by kernel_rfl)] at h
  obtain ⟨ps, hL, _, _⟩ := h
  simp only [Rows.keyTextsRow, DataW.LaidVars] at hL
  obtain ⟨_, _, _, _, _, _, _, _, _, _, ⟨g, t, cs, fuel, p, q, hg, ht, hv, hd, _, _⟩, _⟩ := hL
  obtain rfl := Option.some.inj ((show Tryd.prog.globalNamed "treillage/show.binds" = some 1 by kernel_rfl).symm.trans hg)
  obtain rfl := Option.some.inj ((show (Tryd.prog.globals[1]?).map (·.type) = some 72 by kernel_rfl).symm.trans ht)
  obtain ⟨xs, m, _, ex, _, hl, hel⟩ := DataW.trod_array Tryd.underlying72 hd
  have c3 : Tryd.prog.cellsOf 3 = 1 := by kernel_rfl
  have hE := hel r hr
  rw [c3, Nat.mul_one, List.getElem?_eq_getElem (by omega)] at hE
  obtain ⟨s, e1, e2, _⟩ := DataW.trod_int Tryd.underlying3 hE
  have e3 : (xs.map (·.1)) = bindsL.map fun l => (DataW.lit (.int .i64 l) : DataW Unit) := (DataW.agg.inj (Prod.mk.inj ex).1).symm
  have e4 : (xs.map (·.1))[r]? = (bindsL.map fun l => (DataW.lit (.int .i64 l) : DataW Unit))[r]? := by rw [e3]
  have hlen : bindsL.length = 16 := rfl
  rw [List.getElem?_map, List.getElem?_map, List.getElem?_eq_getElem (by omega : r < xs.length), List.getElem?_eq_getElem (by omega : r < bindsL.length), e2] at e4
  have hs : s = bindsL.getD r 0 := by
    simp only [Option.map_some, Option.some.injEq, DataW.lit.injEq, Lit.int.injEq, true_and] at e4
    rw [List.getD, List.getElem?_eq_getElem (by omega : r < bindsL.length), Option.getD_some, ← e4]
  rw [World.var?_cell hg hv r, ← hs]
  have h0 : ((cs.toList.drop r).take 1)[0]? = some (.int .i64 s) := by rw [e1]; rfl
  simpa using h0
theorem binds_all : ∀ r : Nat, r < 16 → 1 ≤ r → bindsL.getD r 0 = bnd r := by decide
theorem signs_all : ∀ r : Nat, r < 16 → 11 ≤ r → signsL.getD r [] = [sgn r] := by decide
theorem kinds_all : ∀ r : Nat, r < 6 → (r = 1 ∨ r = 2 ∨ r = 3 ∨ r = 5) → kindsL.getD r [] = kindT r := by decide
theorem se_of {W : World} (h : laidMetH Tryd.prog Rows.keyTextsRow.laid W) : SE W := by
  refine ⟨⟨words_cells h, by have := World.block_lt_of_cell? _ _ (signs_cells h 0 (by decide)); exact this⟩, fun r h1 h2 => ?_, fun r h1 h2 => ?_, ?_, ?_, fun r h1 => ?_⟩
  · rw [binds_cells h r (by omega), binds_all r (by omega) h1]
  · rw [signs_cells h r (by omega), signs_all r (by omega) h1]; rfl
  · exact bools_cells h 0 (by decide)
  · exact bools_cells h 1 (by decide)
  · rw [kinds_cells h r (by omega), kinds_all r (by omega) h1]; rfl
end Go.Proofs.YtlpilbghblbpbaaDoor.Fm
