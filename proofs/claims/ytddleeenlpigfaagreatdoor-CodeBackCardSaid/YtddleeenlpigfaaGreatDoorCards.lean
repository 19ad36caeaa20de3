/-
  DERIVED. GIVEN WITH THE SEED: THE CARDS: each row of YtddleeenlpigfaaGreatDoorRows.lean that lists a variable, with what it lists TIED to the program's text (the seventh form; the later family's looks); each row that meets fmt, with fmt's text TOLD by the authors' own Lean function (tested against real Go, not proved from fmt's source: count such statements apart). THE CARD IS WHAT COUNTS. Prove the row's statement (the work); the ties are given (YtddleeenlpigfaaGreatDoorTie.lean); close each card by the builder's one call (the guide's Derived/Test/ToyasCard.lean, 'card_holds'). Laid BY PROGRAM, IN A SANDBOX (cutbox-door.mjs). By AI agents, Wed Nov 11 2026. No macro, syntax, notation, axiom, sorry.
-/
import Derived.Test.YtddleeenlpigfaaGreatDoorRows
import GoSem.ClaimSeven
namespace Go.Proofs.YtddleeenlpigfaaGreatDoor
namespace Rows

/-- THE TIED CARD OF 'treillagelaw09.LatRights'. -/
def latRightsCard : Claim7 := { stood := { row := latRightsRow, standIns := [], harness := (true, "647b43f095ebb90966eac6979bb1cd5418be4ab968451d59e7e04fd9d91a6a6d"), looks := false }, kinds := [], alts := [], laidByText := true, laidKinds := [.data], laidTests := true, laidLooks := .later }
def LatRightsCardSaid : Prop := Claim7.holds Tryz.pinned (.plain (OpenSpec.ofChange latRightsSpec)) latRightsCard

/-- THE TIED CARD OF 'treillagelaw09.LatMakes'. -/
def latMakesCard : Claim7 := { stood := { row := latMakesRow, standIns := [], harness := (true, "647b43f095ebb90966eac6979bb1cd5418be4ab968451d59e7e04fd9d91a6a6d"), looks := false }, kinds := [], alts := [], laidByText := true, laidKinds := [.data], laidTests := true, laidLooks := .later }
def LatMakesCardSaid : Prop := Claim7.holds Tryz.pinned (.plain (OpenSpec.ofChange latMakesSpec)) latMakesCard

/-- THE TIED CARD OF 'treillagelaw09.LatMeets'. -/
def latMeetsCard : Claim7 := { stood := { row := latMeetsRow, standIns := [], harness := (true, "647b43f095ebb90966eac6979bb1cd5418be4ab968451d59e7e04fd9d91a6a6d"), looks := false }, kinds := [], alts := [], laidByText := true, laidKinds := [.data], laidTests := true, laidLooks := .later }
def LatMeetsCardSaid : Prop := Claim7.holds Tryz.pinned (.plain (OpenSpec.ofChange latMeetsSpec)) latMeetsCard

/-- THE TIED CARD OF 'treillagelaw09.LatWide'. -/
def latWideCard : Claim7 := { stood := { row := latWideRow, standIns := [], harness := (true, "647b43f095ebb90966eac6979bb1cd5418be4ab968451d59e7e04fd9d91a6a6d"), looks := false }, kinds := [], alts := [], laidByText := true, laidKinds := [.data], laidTests := true, laidLooks := .later }
def LatWideCardSaid : Prop := Claim7.holds Tryz.pinned (.plain (OpenSpec.ofChange latWideSpec)) latWideCard

/-- THE TIED CARD OF 'treillagelaw09.LatOrder'. -/
def latOrderCard : Claim7 := { stood := { row := latOrderRow, standIns := [], harness := (true, "647b43f095ebb90966eac6979bb1cd5418be4ab968451d59e7e04fd9d91a6a6d"), looks := false }, kinds := [], alts := [], laidByText := true, laidKinds := [.data], laidTests := true, laidLooks := .later }
def LatOrderCardSaid : Prop := Claim7.holds Tryz.pinned (.plain (OpenSpec.ofChange latOrderSpec)) latOrderCard

/-- THE TIED CARD OF 'treillagelaw09.LatRing'. -/
def latRingCard : Claim7 := { stood := { row := latRingRow, standIns := [], harness := (true, "647b43f095ebb90966eac6979bb1cd5418be4ab968451d59e7e04fd9d91a6a6d"), looks := false }, kinds := [], alts := [], laidByText := true, laidKinds := [.data], laidTests := true, laidLooks := .later }
def LatRingCardSaid : Prop := Claim7.holds Tryz.pinned (.plain (OpenSpec.ofChange latRingSpec)) latRingCard

/-- THE TIED CARD OF 'treillagelaw10.CodePuts'. -/
def codePutsCard : Claim7 := { stood := { row := codePutsRow, standIns := [], harness := (true, "647b43f095ebb90966eac6979bb1cd5418be4ab968451d59e7e04fd9d91a6a6d"), looks := false }, kinds := [], alts := [], laidByText := true, laidKinds := [.data], laidTests := true, laidLooks := .later }
def CodePutsCardSaid : Prop := Claim7.holds Tryz.pinned (.plain (OpenSpec.ofChange codePutsSpec)) codePutsCard

/-- THE TIED CARD OF 'treillagelaw10.CodeReads'. -/
def codeReadsCard : Claim7 := { stood := { row := codeReadsRow, standIns := [], harness := (true, "647b43f095ebb90966eac6979bb1cd5418be4ab968451d59e7e04fd9d91a6a6d"), looks := false }, kinds := [], alts := [], laidByText := true, laidKinds := [.data], laidTests := true, laidLooks := .later }
def CodeReadsCardSaid : Prop := Claim7.holds Tryz.pinned (.plain (OpenSpec.ofChange codeReadsSpec)) codeReadsCard

/-- THE TIED CARD OF 'treillagelaw10.CodeBack'. -/
def codeBackCard : Claim7 := { stood := { row := codeBackRow, standIns := [], harness := (true, "647b43f095ebb90966eac6979bb1cd5418be4ab968451d59e7e04fd9d91a6a6d"), looks := false }, kinds := [], alts := [], laidByText := true, laidKinds := [.data], laidTests := true, laidLooks := .later }
def CodeBackCardSaid : Prop := Claim7.holds Tryz.pinned (.plain (OpenSpec.ofChange codeBackSpec)) codeBackCard

/-- THE SECOND FORM's CARD OF 'treillagelaw09.LatRights'. -/
def latRightsUptoCard : Claim7 := { stood := { row := latRightsUptoRow, standIns := [], harness := (true, "647b43f095ebb90966eac6979bb1cd5418be4ab968451d59e7e04fd9d91a6a6d"), looks := false }, kinds := [], alts := [], laidByText := true, laidKinds := [.data], laidTests := true, laidLooks := .later }
def LatRightsUptoCardSaid : Prop := Claim7.holds Tryz.pinned (.plain (OpenSpec.upto latRightsSpec)) latRightsUptoCard

/-- THE SECOND FORM's CARD OF 'treillagelaw09.LatMakes'. -/
def latMakesUptoCard : Claim7 := { stood := { row := latMakesUptoRow, standIns := [], harness := (true, "647b43f095ebb90966eac6979bb1cd5418be4ab968451d59e7e04fd9d91a6a6d"), looks := false }, kinds := [], alts := [], laidByText := true, laidKinds := [.data], laidTests := true, laidLooks := .later }
def LatMakesUptoCardSaid : Prop := Claim7.holds Tryz.pinned (.plain (OpenSpec.upto latMakesSpec)) latMakesUptoCard

/-- THE SECOND FORM's CARD OF 'treillagelaw09.LatMeets'. -/
def latMeetsUptoCard : Claim7 := { stood := { row := latMeetsUptoRow, standIns := [], harness := (true, "647b43f095ebb90966eac6979bb1cd5418be4ab968451d59e7e04fd9d91a6a6d"), looks := false }, kinds := [], alts := [], laidByText := true, laidKinds := [.data], laidTests := true, laidLooks := .later }
def LatMeetsUptoCardSaid : Prop := Claim7.holds Tryz.pinned (.plain (OpenSpec.upto latMeetsSpec)) latMeetsUptoCard

/-- THE SECOND FORM's CARD OF 'treillagelaw09.LatWide'. -/
def latWideUptoCard : Claim7 := { stood := { row := latWideUptoRow, standIns := [], harness := (true, "647b43f095ebb90966eac6979bb1cd5418be4ab968451d59e7e04fd9d91a6a6d"), looks := false }, kinds := [], alts := [], laidByText := true, laidKinds := [.data], laidTests := true, laidLooks := .later }
def LatWideUptoCardSaid : Prop := Claim7.holds Tryz.pinned (.plain (OpenSpec.upto latWideSpec)) latWideUptoCard

/-- THE SECOND FORM's CARD OF 'treillagelaw09.LatOrder'. -/
def latOrderUptoCard : Claim7 := { stood := { row := latOrderUptoRow, standIns := [], harness := (true, "647b43f095ebb90966eac6979bb1cd5418be4ab968451d59e7e04fd9d91a6a6d"), looks := false }, kinds := [], alts := [], laidByText := true, laidKinds := [.data], laidTests := true, laidLooks := .later }
def LatOrderUptoCardSaid : Prop := Claim7.holds Tryz.pinned (.plain (OpenSpec.upto latOrderSpec)) latOrderUptoCard

/-- THE SECOND FORM's CARD OF 'treillagelaw09.LatRing'. -/
def latRingUptoCard : Claim7 := { stood := { row := latRingUptoRow, standIns := [], harness := (true, "647b43f095ebb90966eac6979bb1cd5418be4ab968451d59e7e04fd9d91a6a6d"), looks := false }, kinds := [], alts := [], laidByText := true, laidKinds := [.data], laidTests := true, laidLooks := .later }
def LatRingUptoCardSaid : Prop := Claim7.holds Tryz.pinned (.plain (OpenSpec.upto latRingSpec)) latRingUptoCard

/-- THE SECOND FORM's CARD OF 'treillagelaw10.CodePuts'. -/
def codePutsUptoCard : Claim7 := { stood := { row := codePutsUptoRow, standIns := [], harness := (true, "647b43f095ebb90966eac6979bb1cd5418be4ab968451d59e7e04fd9d91a6a6d"), looks := false }, kinds := [], alts := [], laidByText := true, laidKinds := [.data], laidTests := true, laidLooks := .later }
def CodePutsUptoCardSaid : Prop := Claim7.holds Tryz.pinned (.plain (OpenSpec.upto codePutsSpec)) codePutsUptoCard

/-- THE SECOND FORM's CARD OF 'treillagelaw10.CodeReads'. -/
def codeReadsUptoCard : Claim7 := { stood := { row := codeReadsUptoRow, standIns := [], harness := (true, "647b43f095ebb90966eac6979bb1cd5418be4ab968451d59e7e04fd9d91a6a6d"), looks := false }, kinds := [], alts := [], laidByText := true, laidKinds := [.data], laidTests := true, laidLooks := .later }
def CodeReadsUptoCardSaid : Prop := Claim7.holds Tryz.pinned (.plain (OpenSpec.upto codeReadsSpec)) codeReadsUptoCard

/-- THE SECOND FORM's CARD OF 'treillagelaw10.CodeBack'. -/
def codeBackUptoCard : Claim7 := { stood := { row := codeBackUptoRow, standIns := [], harness := (true, "647b43f095ebb90966eac6979bb1cd5418be4ab968451d59e7e04fd9d91a6a6d"), looks := false }, kinds := [], alts := [], laidByText := true, laidKinds := [.data], laidTests := true, laidLooks := .later }
def CodeBackUptoCardSaid : Prop := Claim7.holds Tryz.pinned (.plain (OpenSpec.upto codeBackSpec)) codeBackUptoCard
end Rows
end Go.Proofs.YtddleeenlpigfaaGreatDoor
