/-
  NARROWER THAN 'FOR EVERY INPUT', by the rows' own cells (each row's printed sentence says how): FactTells: loops, laid · FactPicks: loops, laid · FactRefines: loops, laid.
  DERIVED. THE GIVEN ROWS OF THIS SEAT. 3 by the template 'for every input the law returns true; each argument reads behind the call as it read before'; 0 by the template 'total and deterministic' (their statements: YtfhknnldkfngdaaGreatDoorTotals.lean).
  GIVEN WITH THE SEED: the statements are not yours to turn. If you find one false, say at which input.
  Laid BY PROGRAM, IN A SANDBOX (cutbox-rows.mjs): the forced cells as the released guide's own fill.sh prints them over the translation e7f7b02e86b73e92… (all of the seat's roots in one cut). By AI agents, Wed Nov 11 2026. No macro, syntax, notation, axiom, sorry.
-/
import Derived.Test.YtfhknnldkfngdaaGreatDoorChecked
import GoSem.Claim
import GoSem.ClaimJoined
import GoSem.ClaimMapViews
import Derived.JoinedTies
import Derived.KernelRfl
namespace Go.Proofs.YtfhknnldkfngdaaGreatDoor
/- THE CELL 'sum', in the pinned program and in every row, IS THE sha256 OF THE DUMP (.gsa) THAT YtfhknnldkfngdaaGreatDoorProg.lean LOADS. Nothing in Lean hashes anything: it is a label: what it is worth is what the hold of that sum in a sandbox is worth. -/
noncomputable def Tryz.pinned : Pinned := { name := "ytfhknnldkfngdaagreatdoor", sum := "e7f7b02e86b73e92f391272272ef8460501d7498379adafda2d70b38a4b5f3d4", checked := Tryz.checked }
namespace Rows
def none {H : Type} : Left H := { results := [], args := [] }

/- WHAT THE LISTED PACKAGE-LEVEL VARIABLES READ AS WHEN THE CALL BEGINS. Each datum BY PROGRAM (the guide's laid-datum.mjs) off the statement by which the dump's own 'gosem.cut.vars' lays the variable. In a bare row this is a premise. The card (YtfhknnldkfngdaaGreatDoorCards.lean) ties it to the program's text. -/
def laid_treillage_name_words {H : Type} : DataW H := .agg [.lit (.string [97, 110, 121]), .lit (.string [98, 111, 111, 108]), .lit (.string [99, 111, 109, 112, 117, 116, 101, 100]), .lit (.string [102, 97, 108, 115, 101]), .lit (.string [105, 110, 116]), .lit (.string [110, 111, 110, 101]), .lit (.string [114, 101, 115, 111, 117, 114, 99, 101]), .lit (.string [115, 116, 114, 105, 110, 103]), .lit (.string [116, 114, 117, 101])]

/-- 'treillagelaw11.FactTells': WHATEVER THE INPUT: true; the input reads as it did. -/
def factTellsSpec : ChangeSpec := { name := "factTells", fn := fun _ => fun
  | [d] => { results := [.lit (.bool true)], args := [d] }
  | _ => none }
def factTellsRow : OpenClaim := { program := "ytfhknnldkfngdaagreatdoor", sum := "e7f7b02e86b73e92f391272272ef8460501d7498379adafda2d70b38a4b5f3d4", func := "treillage/treillagelaw11.FactTells", spec := "factTells", unfollowed := true, recurses := true, named := ["treillage/name.words"], loops := true, apart := false, laid := [("treillage/name.words", laid_treillage_name_words)] }
def FactTellsSaid : Prop := factTellsRow.holds Tryz.pinned (OpenSpec.ofChange factTellsSpec)

/-- ITS FALSE NEIGHBOUR: 'it returns false'. Refute it at one input. -/
def factTellsWrong : ChangeSpec := { name := "factTells", fn := fun _ => fun
  | [d] => { results := [.lit (.bool false)], args := [d] }
  | _ => none }
def FactTellsWrongFalsely : Prop := factTellsRow.holds Tryz.pinned (OpenSpec.ofChange factTellsWrong)

/-- 'treillagelaw11.FactPicks': WHATEVER THE INPUT: true; the input reads as it did. -/
def factPicksSpec : ChangeSpec := { name := "factPicks", fn := fun _ => fun
  | [d1, d2] => { results := [.lit (.bool true)], args := [d1, d2] }
  | _ => none }
def factPicksRow : OpenClaim := { program := "ytfhknnldkfngdaagreatdoor", sum := "e7f7b02e86b73e92f391272272ef8460501d7498379adafda2d70b38a4b5f3d4", func := "treillage/treillagelaw11.FactPicks", spec := "factPicks", unfollowed := true, recurses := true, named := ["treillage/name.words"], loops := true, apart := false, laid := [("treillage/name.words", laid_treillage_name_words)] }
def FactPicksSaid : Prop := factPicksRow.holds Tryz.pinned (OpenSpec.ofChange factPicksSpec)

/-- ITS FALSE NEIGHBOUR: 'it returns false'. Refute it at one input. -/
def factPicksWrong : ChangeSpec := { name := "factPicks", fn := fun _ => fun
  | [d1, d2] => { results := [.lit (.bool false)], args := [d1, d2] }
  | _ => none }
def FactPicksWrongFalsely : Prop := factPicksRow.holds Tryz.pinned (OpenSpec.ofChange factPicksWrong)

/-- 'treillagelaw11.FactRefines': WHATEVER THE INPUT: true; the input reads as it did. -/
def factRefinesSpec : ChangeSpec := { name := "factRefines", fn := fun _ => fun
  | [d1, d2, d3] => { results := [.lit (.bool true)], args := [d1, d2, d3] }
  | _ => none }
def factRefinesRow : OpenClaim := { program := "ytfhknnldkfngdaagreatdoor", sum := "e7f7b02e86b73e92f391272272ef8460501d7498379adafda2d70b38a4b5f3d4", func := "treillage/treillagelaw11.FactRefines", spec := "factRefines", unfollowed := true, recurses := true, named := ["treillage/name.words"], loops := true, apart := false, laid := [("treillage/name.words", laid_treillage_name_words)] }
def FactRefinesSaid : Prop := factRefinesRow.holds Tryz.pinned (OpenSpec.ofChange factRefinesSpec)

/-- ITS FALSE NEIGHBOUR: 'it returns false'. Refute it at one input. -/
def factRefinesWrong : ChangeSpec := { name := "factRefines", fn := fun _ => fun
  | [d1, d2, d3] => { results := [.lit (.bool false)], args := [d1, d2, d3] }
  | _ => none }
def FactRefinesWrongFalsely : Prop := factRefinesRow.holds Tryz.pinned (OpenSpec.ofChange factRefinesWrong)

/- THE SECOND FORM. 'bulk': how many values and letters a reading holds, each counted each time it is reached (what is shared counts as often as it is met; a slice's spare places count too). A statement '..UptoSaid' is the law's where the arguments, and the package variables that the reading takes, are together of bulk at most 1048576: NARROWER than '..Said'. Prove '..Said' where nothing that the law and all that it calls make is longer than what came in: it says more and counts as full. Else prove '..UptoSaid'. A law counts once. -/
mutual
def uptoBulk {H : Type} : DataW H → Nat
  | .lit (.string bytes) => bytes.length + 1
  | .lit _ => 1
  | .nil => 1
  | .ptr d => uptoBulk d + 1
  | .slice elems spare => uptoBulkAll elems + uptoBulkAll spare + 1
  | .agg parts => uptoBulkAll parts + 1
  | .iface _ d => uptoBulk d + 1
  | .map entries => uptoBulkEntries entries + 1
  | .held _ => 1
def uptoBulkAll {H : Type} : List (DataW H) → Nat
  | [] => 0
  | d :: r => uptoBulk d + uptoBulkAll r
def uptoBulkEntries {H : Type} : List (Lit × DataW H) → Nat
  | [] => 0
  | x :: r => uptoBulkEntry x + uptoBulkEntries r
def uptoBulkEntry {H : Type} : Lit × DataW H → Nat
  | (.string bytes, d) => bytes.length + uptoBulk d + 1
  | (_, d) => uptoBulk d + 1
 end
def uptoSmall : (H : Type) → List (DataW H) → Bool := fun _ ds => decide (uptoBulkAll ds ≤ 1048576)
def OpenSpec.upto (s : _root_.Go.ChangeSpec) : _root_.Go.OpenSpec := { _root_.Go.OpenSpec.ofChange s with cond := some uptoSmall }

/-- 'treillagelaw11.FactTells', WHERE WHAT IT READS IS OF BULK AT MOST 1048576: true; the input reads as it did. -/
def factTellsUptoRow : OpenClaim := { program := "ytfhknnldkfngdaagreatdoor", sum := "e7f7b02e86b73e92f391272272ef8460501d7498379adafda2d70b38a4b5f3d4", func := "treillage/treillagelaw11.FactTells", spec := "factTells", unfollowed := true, recurses := true, named := ["treillage/name.words"], loops := true, apart := false, laid := [("treillage/name.words", laid_treillage_name_words)], narrowed := true }
def FactTellsUptoSaid : Prop := factTellsUptoRow.holds Tryz.pinned (OpenSpec.upto factTellsSpec)

/-- 'treillagelaw11.FactPicks', WHERE WHAT IT READS IS OF BULK AT MOST 1048576: true; the input reads as it did. -/
def factPicksUptoRow : OpenClaim := { program := "ytfhknnldkfngdaagreatdoor", sum := "e7f7b02e86b73e92f391272272ef8460501d7498379adafda2d70b38a4b5f3d4", func := "treillage/treillagelaw11.FactPicks", spec := "factPicks", unfollowed := true, recurses := true, named := ["treillage/name.words"], loops := true, apart := false, laid := [("treillage/name.words", laid_treillage_name_words)], narrowed := true }
def FactPicksUptoSaid : Prop := factPicksUptoRow.holds Tryz.pinned (OpenSpec.upto factPicksSpec)

/-- 'treillagelaw11.FactRefines', WHERE WHAT IT READS IS OF BULK AT MOST 1048576: true; the input reads as it did. -/
def factRefinesUptoRow : OpenClaim := { program := "ytfhknnldkfngdaagreatdoor", sum := "e7f7b02e86b73e92f391272272ef8460501d7498379adafda2d70b38a4b5f3d4", func := "treillage/treillagelaw11.FactRefines", spec := "factRefines", unfollowed := true, recurses := true, named := ["treillage/name.words"], loops := true, apart := false, laid := [("treillage/name.words", laid_treillage_name_words)], narrowed := true }
def FactRefinesUptoSaid : Prop := factRefinesUptoRow.holds Tryz.pinned (OpenSpec.upto factRefinesSpec)

end Rows
end Go.Proofs.YtfhknnldkfngdaaGreatDoor
