/-
  DERIVED. GIVEN WITH THE SEED: THE PROGRAM's TIES (one call each: nine closed facts by the kernel) AND EACH ROW's TIE, after the 31st guide's Derived/Test/Toyas{Tie, Card}.lean. No idea stands in it: it is a product of the set-up. Laid BY PROGRAM, IN A SANDBOX (cutbox-door.mjs). By AI agents, Wed Nov 11 2026. No macro, syntax, notation, axiom, sorry.
-/
import Derived.Test.YtlpilbghblbpbaaDoorRows
import Derived.LaidByTextLater
import Derived.SevenTiedAt
import Derived.LaidSub
import Derived.LaidOnce
namespace Go.Proofs.YtlpilbghblbpbaaDoor
open Go
set_option maxRecDepth 100000
theorem seatTie1 : Tryd.prog.laidByTextLater [("treillage/name.words", Rows.laid_treillage_name_words), ("treillage/show.binds", Rows.laid_treillage_show_binds), ("treillage/show.signs", Rows.laid_treillage_show_signs), ("treillage/show.bools", Rows.laid_treillage_show_bools), ("treillage/show.kinds", Rows.laid_treillage_show_kinds)] [.data, .data, .data, .data, .data] true :=
  Program.laidByTextLater_by_one 34 8 17 (by kernel_rfl) (by kernel_rfl) (by kernel_rfl) (by kernel_rfl) (by kernel_rfl) (by kernel_rfl) (fun _ _ => by kernel_rfl)
theorem noOwnUnsafe : Tryd.pinned.checked.prog.headLifts.contains "ownunsafe" = false := by kernel_rfl
theorem tie : Tryd.prog.laidByTextLater [("treillage/name.words", Rows.laid_treillage_name_words), ("treillage/show.binds", Rows.laid_treillage_show_binds), ("treillage/show.signs", Rows.laid_treillage_show_signs), ("treillage/show.bools", Rows.laid_treillage_show_bools), ("treillage/show.kinds", Rows.laid_treillage_show_kinds)] [.data, .data, .data, .data, .data] true :=
  Program.laidByTextLater.sub seatTie1 ["treillage/name.words", "treillage/show.binds", "treillage/show.signs", "treillage/show.bools", "treillage/show.kinds"] (by kernel_rfl) (by kernel_rfl)
theorem keyTexts_row_tie : Rows.keyTextsRow.laidByTextAt .later Tryd.pinned [.data, .data, .data, .data, .data] true :=
  OpenClaim.laidByTextAt_later rfl rfl tie noOwnUnsafe
theorem keyTextsUpto_row_tie : Rows.keyTextsUptoRow.laidByTextAt .later Tryd.pinned [.data, .data, .data, .data, .data] true :=
  OpenClaim.laidByTextAt_later rfl rfl tie noOwnUnsafe
end Go.Proofs.YtlpilbghblbpbaaDoor
