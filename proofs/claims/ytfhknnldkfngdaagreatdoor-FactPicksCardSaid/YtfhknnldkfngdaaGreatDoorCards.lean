/-
  DERIVED. GIVEN WITH THE SEED: THE CARDS: each row of YtfhknnldkfngdaaGreatDoorRows.lean that lists a variable, with what it lists TIED to the program's text (the seventh form; the later family's looks); each row that meets fmt, with fmt's text TOLD by the authors' own Lean function (tested against real Go, not proved from fmt's source: count such statements apart). THE CARD IS WHAT COUNTS. Prove the row's statement (the work); the ties are given (YtfhknnldkfngdaaGreatDoorTie.lean); close each card by the builder's one call (the guide's Derived/Test/ToyasCard.lean, 'card_holds'). Laid BY PROGRAM, IN A SANDBOX (cutbox-door.mjs). By AI agents, Wed Nov 11 2026. No macro, syntax, notation, axiom, sorry.
-/
import Derived.Test.YtfhknnldkfngdaaGreatDoorRows
import GoSem.ClaimSeven
namespace Go.Proofs.YtfhknnldkfngdaaGreatDoor
namespace Rows

/-- THE TIED CARD OF 'treillagelaw11.FactTells'. -/
def factTellsCard : Claim7 := { stood := { row := factTellsRow, standIns := [], harness := (true, "2c1283e7b13e47cb4bc084732a3704d17a5675ead26cd9b54a61f0e007c88fb3"), looks := false }, kinds := [], alts := [], laidByText := true, laidKinds := [.data], laidTests := true, laidLooks := .later }
def FactTellsCardSaid : Prop := Claim7.holds Tryz.pinned (.plain (OpenSpec.ofChange factTellsSpec)) factTellsCard

/-- THE TIED CARD OF 'treillagelaw11.FactPicks'. -/
def factPicksCard : Claim7 := { stood := { row := factPicksRow, standIns := [], harness := (true, "2c1283e7b13e47cb4bc084732a3704d17a5675ead26cd9b54a61f0e007c88fb3"), looks := false }, kinds := [], alts := [], laidByText := true, laidKinds := [.data], laidTests := true, laidLooks := .later }
def FactPicksCardSaid : Prop := Claim7.holds Tryz.pinned (.plain (OpenSpec.ofChange factPicksSpec)) factPicksCard

/-- THE TIED CARD OF 'treillagelaw11.FactRefines'. -/
def factRefinesCard : Claim7 := { stood := { row := factRefinesRow, standIns := [], harness := (true, "2c1283e7b13e47cb4bc084732a3704d17a5675ead26cd9b54a61f0e007c88fb3"), looks := false }, kinds := [], alts := [], laidByText := true, laidKinds := [.data], laidTests := true, laidLooks := .later }
def FactRefinesCardSaid : Prop := Claim7.holds Tryz.pinned (.plain (OpenSpec.ofChange factRefinesSpec)) factRefinesCard

/-- THE SECOND FORM's CARD OF 'treillagelaw11.FactTells'. -/
def factTellsUptoCard : Claim7 := { stood := { row := factTellsUptoRow, standIns := [], harness := (true, "2c1283e7b13e47cb4bc084732a3704d17a5675ead26cd9b54a61f0e007c88fb3"), looks := false }, kinds := [], alts := [], laidByText := true, laidKinds := [.data], laidTests := true, laidLooks := .later }
def FactTellsUptoCardSaid : Prop := Claim7.holds Tryz.pinned (.plain (OpenSpec.upto factTellsSpec)) factTellsUptoCard

/-- THE SECOND FORM's CARD OF 'treillagelaw11.FactPicks'. -/
def factPicksUptoCard : Claim7 := { stood := { row := factPicksUptoRow, standIns := [], harness := (true, "2c1283e7b13e47cb4bc084732a3704d17a5675ead26cd9b54a61f0e007c88fb3"), looks := false }, kinds := [], alts := [], laidByText := true, laidKinds := [.data], laidTests := true, laidLooks := .later }
def FactPicksUptoCardSaid : Prop := Claim7.holds Tryz.pinned (.plain (OpenSpec.upto factPicksSpec)) factPicksUptoCard

/-- THE SECOND FORM's CARD OF 'treillagelaw11.FactRefines'. -/
def factRefinesUptoCard : Claim7 := { stood := { row := factRefinesUptoRow, standIns := [], harness := (true, "2c1283e7b13e47cb4bc084732a3704d17a5675ead26cd9b54a61f0e007c88fb3"), looks := false }, kinds := [], alts := [], laidByText := true, laidKinds := [.data], laidTests := true, laidLooks := .later }
def FactRefinesUptoCardSaid : Prop := Claim7.holds Tryz.pinned (.plain (OpenSpec.upto factRefinesSpec)) factRefinesUptoCard
end Rows
end Go.Proofs.YtfhknnldkfngdaaGreatDoor
