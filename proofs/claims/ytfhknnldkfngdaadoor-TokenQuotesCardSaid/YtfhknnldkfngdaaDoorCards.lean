/-
  DERIVED. GIVEN WITH THE SEED: THE CARDS: each row of YtfhknnldkfngdaaDoorRows.lean that lists a variable, with what it lists TIED to the program's text (the seventh form; the later family's looks); each row that meets fmt, with fmt's text TOLD by the authors' own Lean function (tested against real Go, not proved from fmt's source: count such statements apart). THE CARD IS WHAT COUNTS. Prove the row's statement (the work); the ties are given (YtfhknnldkfngdaaDoorTie.lean); close each card by the builder's one call (the guide's Derived/Test/ToyasCard.lean, 'card_holds'). Laid BY PROGRAM, IN A SANDBOX (cutbox-door.mjs). By AI agents, Wed Nov 11 2026. No macro, syntax, notation, axiom, sorry.
-/
import Derived.Test.YtfhknnldkfngdaaDoorRows
import GoSem.ClaimSeven
namespace Go.Proofs.YtfhknnldkfngdaaDoor
namespace Rows

/-- THE TIED CARD OF 'treillagelaw12.TokenNext'. -/
def tokenNextCard : Claim7 := { stood := { row := tokenNextRow, standIns := [], harness := (true, "927d093fc1533e691a5373cc85e87287b5684cca1173663a08a9fef5ff538abd"), looks := false }, kinds := [], alts := [], laidByText := true, laidKinds := [.data, .data], laidTests := true, laidLooks := .later }
def TokenNextCardSaid : Prop := Claim7.holds Tryd.pinned (.plain (OpenSpec.ofChange tokenNextSpec)) tokenNextCard

/-- THE TIED CARD OF 'treillagelaw12.TokenLex'. -/
def tokenLexCard : Claim7 := { stood := { row := tokenLexRow, standIns := [], harness := (true, "927d093fc1533e691a5373cc85e87287b5684cca1173663a08a9fef5ff538abd"), looks := false }, kinds := [], alts := [], laidByText := true, laidKinds := [.data, .data], laidTests := true, laidLooks := .later }
def TokenLexCardSaid : Prop := Claim7.holds Tryd.pinned (.plain (OpenSpec.ofChange tokenLexSpec)) tokenLexCard

/-- THE TIED CARD OF 'treillagelaw12.TokenQuotes'. -/
def tokenQuotesCard : Claim7 := { stood := { row := tokenQuotesRow, standIns := [], harness := (true, "927d093fc1533e691a5373cc85e87287b5684cca1173663a08a9fef5ff538abd"), looks := false }, kinds := [], alts := [], laidByText := true, laidKinds := [.data, .data], laidTests := true, laidLooks := .later }
def TokenQuotesCardSaid : Prop := Claim7.holds Tryd.pinned (.plain (OpenSpec.ofChange tokenQuotesSpec)) tokenQuotesCard

/-- THE SECOND FORM's CARD OF 'treillagelaw12.TokenNext'. -/
def tokenNextUptoCard : Claim7 := { stood := { row := tokenNextUptoRow, standIns := [], harness := (true, "927d093fc1533e691a5373cc85e87287b5684cca1173663a08a9fef5ff538abd"), looks := false }, kinds := [], alts := [], laidByText := true, laidKinds := [.data, .data], laidTests := true, laidLooks := .later }
def TokenNextUptoCardSaid : Prop := Claim7.holds Tryd.pinned (.plain (OpenSpec.upto tokenNextSpec)) tokenNextUptoCard

/-- THE SECOND FORM's CARD OF 'treillagelaw12.TokenLex'. -/
def tokenLexUptoCard : Claim7 := { stood := { row := tokenLexUptoRow, standIns := [], harness := (true, "927d093fc1533e691a5373cc85e87287b5684cca1173663a08a9fef5ff538abd"), looks := false }, kinds := [], alts := [], laidByText := true, laidKinds := [.data, .data], laidTests := true, laidLooks := .later }
def TokenLexUptoCardSaid : Prop := Claim7.holds Tryd.pinned (.plain (OpenSpec.upto tokenLexSpec)) tokenLexUptoCard

/-- THE SECOND FORM's CARD OF 'treillagelaw12.TokenQuotes'. -/
def tokenQuotesUptoCard : Claim7 := { stood := { row := tokenQuotesUptoRow, standIns := [], harness := (true, "927d093fc1533e691a5373cc85e87287b5684cca1173663a08a9fef5ff538abd"), looks := false }, kinds := [], alts := [], laidByText := true, laidKinds := [.data, .data], laidTests := true, laidLooks := .later }
def TokenQuotesUptoCardSaid : Prop := Claim7.holds Tryd.pinned (.plain (OpenSpec.upto tokenQuotesSpec)) tokenQuotesUptoCard
end Rows
end Go.Proofs.YtfhknnldkfngdaaDoor
