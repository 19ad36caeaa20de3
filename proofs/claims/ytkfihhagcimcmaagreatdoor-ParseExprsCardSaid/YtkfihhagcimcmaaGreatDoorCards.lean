/-
  DERIVED. GIVEN WITH THE SEED: THE CARDS: each row of YtkfihhagcimcmaaGreatDoorRows.lean that lists a variable, with what it lists TIED to the program's text (the seventh form; the later family's looks); each row that meets fmt, with fmt's text TOLD by the authors' own Lean function (tested against real Go, not proved from fmt's source: count such statements apart). THE CARD IS WHAT COUNTS. Prove the row's statement (the work); the ties are given (YtkfihhagcimcmaaGreatDoorTie.lean); close each card by the builder's one call (the guide's Derived/Test/ToyasCard.lean, 'card_holds'). Laid BY PROGRAM, IN A SANDBOX (cutbox-door.mjs). By AI agents, Wed Nov 11 2026. No macro, syntax, notation, axiom, sorry.
-/
import Derived.Test.YtkfihhagcimcmaaGreatDoorRows
import GoSem.ClaimSeven
namespace Go.Proofs.YtkfihhagcimcmaaGreatDoor
namespace Rows

/-- THE TIED CARD OF 'treillagelaw14.ParseReads'. -/
def parseReadsCard : Claim7 := { stood := { row := parseReadsRow, standIns := [], harness := (true, "24fd53f39094160e2bdec91d0377039883aceb89cf5b06f6d1929b0deec91b61"), looks := true }, kinds := [], alts := [], laidByText := true, laidKinds := [.data, .data], laidTests := true, laidLooks := .later }
def ParseReadsCardSaid : Prop := Claim7.holds Tryz.pinned (.plain (OpenSpec.ofChange parseReadsSpec)) parseReadsCard

/-- THE TIED CARD OF 'treillagelaw14.ParseExprs'. -/
def parseExprsCard : Claim7 := { stood := { row := parseExprsRow, standIns := [], harness := (true, "24fd53f39094160e2bdec91d0377039883aceb89cf5b06f6d1929b0deec91b61"), looks := true }, kinds := [], alts := [], laidByText := true, laidKinds := [.data, .data], laidTests := true, laidLooks := .later }
def ParseExprsCardSaid : Prop := Claim7.holds Tryz.pinned (.plain (OpenSpec.ofChange parseExprsSpec)) parseExprsCard

/-- THE TIED CARD OF 'treillagelaw14.ParseLimits'. -/
def parseLimitsCard : Claim7 := { stood := { row := parseLimitsRow, standIns := [], harness := (true, "24fd53f39094160e2bdec91d0377039883aceb89cf5b06f6d1929b0deec91b61"), looks := true }, kinds := [], alts := [], laidByText := true, laidKinds := [.data, .data], laidTests := true, laidLooks := .later }
def ParseLimitsCardSaid : Prop := Claim7.holds Tryz.pinned (.plain (OpenSpec.ofChange parseLimitsSpec)) parseLimitsCard

/-- THE TIED CARD OF 'treillagelaw15.ShowTexts'. -/
def showTextsCard : Claim7 := { stood := { row := showTextsRow, standIns := [], harness := (true, "24fd53f39094160e2bdec91d0377039883aceb89cf5b06f6d1929b0deec91b61"), looks := true }, kinds := [], alts := [], laidByText := true, laidKinds := [.data, .data, .data, .data, .data, .data], laidTests := true, laidLooks := .later }
def ShowTextsCardSaid : Prop := Claim7.holds Tryz.pinned (.plain (OpenSpec.ofChange showTextsSpec)) showTextsCard

/-- THE TIED CARD OF 'treillagelaw15.ShowBack'. -/
def showBackCard : Claim7 := { stood := { row := showBackRow, standIns := [], harness := (true, "24fd53f39094160e2bdec91d0377039883aceb89cf5b06f6d1929b0deec91b61"), looks := true }, kinds := [], alts := [], laidByText := true, laidKinds := [.data, .data, .data, .data, .data, .data], laidTests := true, laidLooks := .later }
def ShowBackCardSaid : Prop := Claim7.holds Tryz.pinned (.plain (OpenSpec.ofChange showBackSpec)) showBackCard

/-- THE TIED CARD OF 'treillagelaw15.ShowAgain'. -/
def showAgainCard : Claim7 := { stood := { row := showAgainRow, standIns := [], harness := (true, "24fd53f39094160e2bdec91d0377039883aceb89cf5b06f6d1929b0deec91b61"), looks := true }, kinds := [], alts := [], laidByText := true, laidKinds := [.data, .data, .data, .data, .data, .data], laidTests := true, laidLooks := .later }
def ShowAgainCardSaid : Prop := Claim7.holds Tryz.pinned (.plain (OpenSpec.ofChange showAgainSpec)) showAgainCard

/-- THE TIED CARD OF 'treillagelaw16.GatherNodes'. -/
def gatherNodesCard : Claim7 := { stood := { row := gatherNodesRow, standIns := [], harness := (true, "24fd53f39094160e2bdec91d0377039883aceb89cf5b06f6d1929b0deec91b61"), looks := true }, kinds := [], alts := [], laidByText := true, laidKinds := [.data, .data], laidTests := true, laidLooks := .later }
def GatherNodesCardSaid : Prop := Claim7.holds Tryz.pinned (.plain (OpenSpec.ofChange gatherNodesSpec)) gatherNodesCard

/-- THE TIED CARD OF 'treillagelaw16.GatherRights'. -/
def gatherRightsCard : Claim7 := { stood := { row := gatherRightsRow, standIns := [], harness := (true, "24fd53f39094160e2bdec91d0377039883aceb89cf5b06f6d1929b0deec91b61"), looks := true }, kinds := [], alts := [], laidByText := true, laidKinds := [.data, .data], laidTests := true, laidLooks := .later }
def GatherRightsCardSaid : Prop := Claim7.holds Tryz.pinned (.plain (OpenSpec.ofChange gatherRightsSpec)) gatherRightsCard

/-- THE TIED CARD OF 'treillagelaw16.GatherMany'. -/
def gatherManyCard : Claim7 := { stood := { row := gatherManyRow, standIns := [], harness := (true, "24fd53f39094160e2bdec91d0377039883aceb89cf5b06f6d1929b0deec91b61"), looks := true }, kinds := [], alts := [], laidByText := true, laidKinds := [.data, .data], laidTests := true, laidLooks := .later }
def GatherManyCardSaid : Prop := Claim7.holds Tryz.pinned (.plain (OpenSpec.ofChange gatherManySpec)) gatherManyCard

/-- THE TIED CARD OF 'treillagelaw22.KeyReads'. -/
def keyReadsCard : Claim7 := { stood := { row := keyReadsRow, standIns := [], harness := (true, "24fd53f39094160e2bdec91d0377039883aceb89cf5b06f6d1929b0deec91b61"), looks := true }, kinds := [], alts := [], laidByText := true, laidKinds := [.data, .data, .data, .data, .data, .data], laidTests := true, laidLooks := .later }
def KeyReadsCardSaid : Prop := Claim7.holds Tryz.pinned (.plain (OpenSpec.ofChange keyReadsSpec)) keyReadsCard

/-- THE TIED CARD OF 'treillagelaw22.KeyOnce'. -/
def keyOnceCard : Claim7 := { stood := { row := keyOnceRow, standIns := [], harness := (true, "24fd53f39094160e2bdec91d0377039883aceb89cf5b06f6d1929b0deec91b61"), looks := true }, kinds := [], alts := [], laidByText := true, laidKinds := [.data, .data, .data, .data, .data, .data], laidTests := true, laidLooks := .later }
def KeyOnceCardSaid : Prop := Claim7.holds Tryz.pinned (.plain (OpenSpec.ofChange keyOnceSpec)) keyOnceCard

/-- THE SECOND FORM's CARD OF 'treillagelaw14.ParseReads'. -/
def parseReadsUptoCard : Claim7 := { stood := { row := parseReadsUptoRow, standIns := [], harness := (true, "24fd53f39094160e2bdec91d0377039883aceb89cf5b06f6d1929b0deec91b61"), looks := true }, kinds := [], alts := [], laidByText := true, laidKinds := [.data, .data], laidTests := true, laidLooks := .later }
def ParseReadsUptoCardSaid : Prop := Claim7.holds Tryz.pinned (.plain (OpenSpec.upto parseReadsSpec)) parseReadsUptoCard

/-- THE SECOND FORM's CARD OF 'treillagelaw14.ParseExprs'. -/
def parseExprsUptoCard : Claim7 := { stood := { row := parseExprsUptoRow, standIns := [], harness := (true, "24fd53f39094160e2bdec91d0377039883aceb89cf5b06f6d1929b0deec91b61"), looks := true }, kinds := [], alts := [], laidByText := true, laidKinds := [.data, .data], laidTests := true, laidLooks := .later }
def ParseExprsUptoCardSaid : Prop := Claim7.holds Tryz.pinned (.plain (OpenSpec.upto parseExprsSpec)) parseExprsUptoCard

/-- THE SECOND FORM's CARD OF 'treillagelaw14.ParseLimits'. -/
def parseLimitsUptoCard : Claim7 := { stood := { row := parseLimitsUptoRow, standIns := [], harness := (true, "24fd53f39094160e2bdec91d0377039883aceb89cf5b06f6d1929b0deec91b61"), looks := true }, kinds := [], alts := [], laidByText := true, laidKinds := [.data, .data], laidTests := true, laidLooks := .later }
def ParseLimitsUptoCardSaid : Prop := Claim7.holds Tryz.pinned (.plain (OpenSpec.upto parseLimitsSpec)) parseLimitsUptoCard

/-- THE SECOND FORM's CARD OF 'treillagelaw15.ShowTexts'. -/
def showTextsUptoCard : Claim7 := { stood := { row := showTextsUptoRow, standIns := [], harness := (true, "24fd53f39094160e2bdec91d0377039883aceb89cf5b06f6d1929b0deec91b61"), looks := true }, kinds := [], alts := [], laidByText := true, laidKinds := [.data, .data, .data, .data, .data, .data], laidTests := true, laidLooks := .later }
def ShowTextsUptoCardSaid : Prop := Claim7.holds Tryz.pinned (.plain (OpenSpec.upto showTextsSpec)) showTextsUptoCard

/-- THE SECOND FORM's CARD OF 'treillagelaw15.ShowBack'. -/
def showBackUptoCard : Claim7 := { stood := { row := showBackUptoRow, standIns := [], harness := (true, "24fd53f39094160e2bdec91d0377039883aceb89cf5b06f6d1929b0deec91b61"), looks := true }, kinds := [], alts := [], laidByText := true, laidKinds := [.data, .data, .data, .data, .data, .data], laidTests := true, laidLooks := .later }
def ShowBackUptoCardSaid : Prop := Claim7.holds Tryz.pinned (.plain (OpenSpec.upto showBackSpec)) showBackUptoCard

/-- THE SECOND FORM's CARD OF 'treillagelaw15.ShowAgain'. -/
def showAgainUptoCard : Claim7 := { stood := { row := showAgainUptoRow, standIns := [], harness := (true, "24fd53f39094160e2bdec91d0377039883aceb89cf5b06f6d1929b0deec91b61"), looks := true }, kinds := [], alts := [], laidByText := true, laidKinds := [.data, .data, .data, .data, .data, .data], laidTests := true, laidLooks := .later }
def ShowAgainUptoCardSaid : Prop := Claim7.holds Tryz.pinned (.plain (OpenSpec.upto showAgainSpec)) showAgainUptoCard

/-- THE SECOND FORM's CARD OF 'treillagelaw16.GatherNodes'. -/
def gatherNodesUptoCard : Claim7 := { stood := { row := gatherNodesUptoRow, standIns := [], harness := (true, "24fd53f39094160e2bdec91d0377039883aceb89cf5b06f6d1929b0deec91b61"), looks := true }, kinds := [], alts := [], laidByText := true, laidKinds := [.data, .data], laidTests := true, laidLooks := .later }
def GatherNodesUptoCardSaid : Prop := Claim7.holds Tryz.pinned (.plain (OpenSpec.upto gatherNodesSpec)) gatherNodesUptoCard

/-- THE SECOND FORM's CARD OF 'treillagelaw16.GatherRights'. -/
def gatherRightsUptoCard : Claim7 := { stood := { row := gatherRightsUptoRow, standIns := [], harness := (true, "24fd53f39094160e2bdec91d0377039883aceb89cf5b06f6d1929b0deec91b61"), looks := true }, kinds := [], alts := [], laidByText := true, laidKinds := [.data, .data], laidTests := true, laidLooks := .later }
def GatherRightsUptoCardSaid : Prop := Claim7.holds Tryz.pinned (.plain (OpenSpec.upto gatherRightsSpec)) gatherRightsUptoCard

/-- THE SECOND FORM's CARD OF 'treillagelaw16.GatherMany'. -/
def gatherManyUptoCard : Claim7 := { stood := { row := gatherManyUptoRow, standIns := [], harness := (true, "24fd53f39094160e2bdec91d0377039883aceb89cf5b06f6d1929b0deec91b61"), looks := true }, kinds := [], alts := [], laidByText := true, laidKinds := [.data, .data], laidTests := true, laidLooks := .later }
def GatherManyUptoCardSaid : Prop := Claim7.holds Tryz.pinned (.plain (OpenSpec.upto gatherManySpec)) gatherManyUptoCard

/-- THE SECOND FORM's CARD OF 'treillagelaw22.KeyReads'. -/
def keyReadsUptoCard : Claim7 := { stood := { row := keyReadsUptoRow, standIns := [], harness := (true, "24fd53f39094160e2bdec91d0377039883aceb89cf5b06f6d1929b0deec91b61"), looks := true }, kinds := [], alts := [], laidByText := true, laidKinds := [.data, .data, .data, .data, .data, .data], laidTests := true, laidLooks := .later }
def KeyReadsUptoCardSaid : Prop := Claim7.holds Tryz.pinned (.plain (OpenSpec.upto keyReadsSpec)) keyReadsUptoCard

/-- THE SECOND FORM's CARD OF 'treillagelaw22.KeyOnce'. -/
def keyOnceUptoCard : Claim7 := { stood := { row := keyOnceUptoRow, standIns := [], harness := (true, "24fd53f39094160e2bdec91d0377039883aceb89cf5b06f6d1929b0deec91b61"), looks := true }, kinds := [], alts := [], laidByText := true, laidKinds := [.data, .data, .data, .data, .data, .data], laidTests := true, laidLooks := .later }
def KeyOnceUptoCardSaid : Prop := Claim7.holds Tryz.pinned (.plain (OpenSpec.upto keyOnceSpec)) keyOnceUptoCard
end Rows
end Go.Proofs.YtkfihhagcimcmaaGreatDoor
