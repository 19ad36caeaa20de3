/-
  NARROWER THAN 'FOR EVERY INPUT', by the rows' own cells (each row's printed sentence says how): LatRights: loops, laid · LatMakes: loops, laid · LatMeets: loops, laid · LatWide: laid · LatOrder: loops, laid · LatRing: loops, laid · CodePuts: loops, laid · CodeReads: laid · CodeBack: loops, laid.
  DERIVED. THE GIVEN ROWS OF THIS SEAT. 9 by the template 'for every input the law returns true; each argument reads behind the call as it read before'; 0 by the template 'total and deterministic' (their statements: YtddleeenlpigfaaGreatDoorTotals.lean).
  GIVEN WITH THE SEED: the statements are not yours to turn. If you find one false, say at which input.
  Laid BY PROGRAM, IN A SANDBOX (cutbox-rows.mjs): the forced cells as the released guide's own fill.sh prints them over the translation 0650382469f0b3c1… (all of the seat's roots in one cut). By AI agents, Wed Nov 11 2026. No macro, syntax, notation, axiom, sorry.
-/
import Derived.Test.YtddleeenlpigfaaGreatDoorChecked
import GoSem.Claim
import GoSem.ClaimJoined
import GoSem.ClaimMapViews
import Derived.JoinedTies
import Derived.KernelRfl
namespace Go.Proofs.YtddleeenlpigfaaGreatDoor
/- THE CELL 'sum', in the pinned program and in every row, IS THE sha256 OF THE DUMP (.gsa) THAT YtddleeenlpigfaaGreatDoorProg.lean LOADS. Nothing in Lean hashes anything: it is a label: what it is worth is what the hold of that sum in a sandbox is worth. -/
noncomputable def Tryz.pinned : Pinned := { name := "ytddleeenlpigfaagreatdoor", sum := "0650382469f0b3c1a2ae1316e6278533806695c3c2d5c06210e9a9c0795cca03", checked := Tryz.checked }
namespace Rows
def none {H : Type} : Left H := { results := [], args := [] }

/- WHAT THE LISTED PACKAGE-LEVEL VARIABLES READ AS WHEN THE CALL BEGINS. Each datum BY PROGRAM (the guide's laid-datum.mjs) off the statement by which the dump's own 'gosem.cut.vars' lays the variable. In a bare row this is a premise. The card (YtddleeenlpigfaaGreatDoorCards.lean) ties it to the program's text. -/
def laid_treillage_name_words {H : Type} : DataW H := .agg [.lit (.string [97, 110, 121]), .lit (.string [98, 111, 111, 108]), .lit (.string [99, 111, 109, 112, 117, 116, 101, 100]), .lit (.string [102, 97, 108, 115, 101]), .lit (.string [105, 110, 116]), .lit (.string [110, 111, 110, 101]), .lit (.string [114, 101, 115, 111, 117, 114, 99, 101]), .lit (.string [115, 116, 114, 105, 110, 103]), .lit (.string [116, 114, 117, 101])]

/-- 'treillagelaw09.LatRights': WHATEVER THE INPUT: true; the input reads as it did. -/
def latRightsSpec : ChangeSpec := { name := "latRights", fn := fun _ => fun
  | [d1, d2] => { results := [.lit (.bool true)], args := [d1, d2] }
  | _ => none }
def latRightsRow : OpenClaim := { program := "ytddleeenlpigfaagreatdoor", sum := "0650382469f0b3c1a2ae1316e6278533806695c3c2d5c06210e9a9c0795cca03", func := "treillage/treillagelaw09.LatRights", spec := "latRights", inPlace := ["internal/bytealg.abigen_runtime_cmpstring"], unfollowed := true, recurses := true, named := ["treillage/name.words"], loops := true, apart := false, laid := [("treillage/name.words", laid_treillage_name_words)] }
def LatRightsSaid : Prop := latRightsRow.holds Tryz.pinned (OpenSpec.ofChange latRightsSpec)

/-- ITS FALSE NEIGHBOUR: 'it returns false'. Refute it at one input. -/
def latRightsWrong : ChangeSpec := { name := "latRights", fn := fun _ => fun
  | [d1, d2] => { results := [.lit (.bool false)], args := [d1, d2] }
  | _ => none }
def LatRightsWrongFalsely : Prop := latRightsRow.holds Tryz.pinned (OpenSpec.ofChange latRightsWrong)

/-- 'treillagelaw09.LatMakes': WHATEVER THE INPUT: true; the input reads as it did. -/
def latMakesSpec : ChangeSpec := { name := "latMakes", fn := fun _ => fun
  | [d1, d2, d3] => { results := [.lit (.bool true)], args := [d1, d2, d3] }
  | _ => none }
def latMakesRow : OpenClaim := { program := "ytddleeenlpigfaagreatdoor", sum := "0650382469f0b3c1a2ae1316e6278533806695c3c2d5c06210e9a9c0795cca03", func := "treillage/treillagelaw09.LatMakes", spec := "latMakes", inPlace := ["internal/bytealg.abigen_runtime_cmpstring"], unfollowed := true, recurses := true, named := ["treillage/name.words"], loops := true, apart := false, laid := [("treillage/name.words", laid_treillage_name_words)] }
def LatMakesSaid : Prop := latMakesRow.holds Tryz.pinned (OpenSpec.ofChange latMakesSpec)

/-- ITS FALSE NEIGHBOUR: 'it returns false'. Refute it at one input. -/
def latMakesWrong : ChangeSpec := { name := "latMakes", fn := fun _ => fun
  | [d1, d2, d3] => { results := [.lit (.bool false)], args := [d1, d2, d3] }
  | _ => none }
def LatMakesWrongFalsely : Prop := latMakesRow.holds Tryz.pinned (OpenSpec.ofChange latMakesWrong)

/-- 'treillagelaw09.LatMeets': WHATEVER THE INPUT: true; the input reads as it did. -/
def latMeetsSpec : ChangeSpec := { name := "latMeets", fn := fun _ => fun
  | [d1, d2] => { results := [.lit (.bool true)], args := [d1, d2] }
  | _ => none }
def latMeetsRow : OpenClaim := { program := "ytddleeenlpigfaagreatdoor", sum := "0650382469f0b3c1a2ae1316e6278533806695c3c2d5c06210e9a9c0795cca03", func := "treillage/treillagelaw09.LatMeets", spec := "latMeets", inPlace := ["internal/bytealg.abigen_runtime_cmpstring"], unfollowed := true, recurses := true, named := ["treillage/name.words"], loops := true, apart := false, laid := [("treillage/name.words", laid_treillage_name_words)] }
def LatMeetsSaid : Prop := latMeetsRow.holds Tryz.pinned (OpenSpec.ofChange latMeetsSpec)

/-- ITS FALSE NEIGHBOUR: 'it returns false'. Refute it at one input. -/
def latMeetsWrong : ChangeSpec := { name := "latMeets", fn := fun _ => fun
  | [d1, d2] => { results := [.lit (.bool false)], args := [d1, d2] }
  | _ => none }
def LatMeetsWrongFalsely : Prop := latMeetsRow.holds Tryz.pinned (OpenSpec.ofChange latMeetsWrong)

/-- 'treillagelaw09.LatWide': WHATEVER THE INPUT: true; the input reads as it did. -/
def latWideSpec : ChangeSpec := { name := "latWide", fn := fun _ => fun
  | [d1, d2, d3] => { results := [.lit (.bool true)], args := [d1, d2, d3] }
  | _ => none }
def latWideRow : OpenClaim := { program := "ytddleeenlpigfaagreatdoor", sum := "0650382469f0b3c1a2ae1316e6278533806695c3c2d5c06210e9a9c0795cca03", func := "treillage/treillagelaw09.LatWide", spec := "latWide", inPlace := ["internal/bytealg.abigen_runtime_cmpstring"], unfollowed := true, recurses := true, named := ["treillage/name.words"], apart := false, laid := [("treillage/name.words", laid_treillage_name_words)] }
def LatWideSaid : Prop := latWideRow.holds Tryz.pinned (OpenSpec.ofChange latWideSpec)

/-- ITS FALSE NEIGHBOUR: 'it returns false'. Refute it at one input. -/
def latWideWrong : ChangeSpec := { name := "latWide", fn := fun _ => fun
  | [d1, d2, d3] => { results := [.lit (.bool false)], args := [d1, d2, d3] }
  | _ => none }
def LatWideWrongFalsely : Prop := latWideRow.holds Tryz.pinned (OpenSpec.ofChange latWideWrong)

/-- 'treillagelaw09.LatOrder': WHATEVER THE INPUT: true; the input reads as it did. -/
def latOrderSpec : ChangeSpec := { name := "latOrder", fn := fun _ => fun
  | [d1, d2, d3] => { results := [.lit (.bool true)], args := [d1, d2, d3] }
  | _ => none }
def latOrderRow : OpenClaim := { program := "ytddleeenlpigfaagreatdoor", sum := "0650382469f0b3c1a2ae1316e6278533806695c3c2d5c06210e9a9c0795cca03", func := "treillage/treillagelaw09.LatOrder", spec := "latOrder", inPlace := ["internal/bytealg.abigen_runtime_cmpstring"], unfollowed := true, recurses := true, named := ["treillage/name.words"], loops := true, apart := false, laid := [("treillage/name.words", laid_treillage_name_words)] }
def LatOrderSaid : Prop := latOrderRow.holds Tryz.pinned (OpenSpec.ofChange latOrderSpec)

/-- ITS FALSE NEIGHBOUR: 'it returns false'. Refute it at one input. -/
def latOrderWrong : ChangeSpec := { name := "latOrder", fn := fun _ => fun
  | [d1, d2, d3] => { results := [.lit (.bool false)], args := [d1, d2, d3] }
  | _ => none }
def LatOrderWrongFalsely : Prop := latOrderRow.holds Tryz.pinned (OpenSpec.ofChange latOrderWrong)

/-- 'treillagelaw09.LatRing': WHATEVER THE INPUT: true; the input reads as it did. -/
def latRingSpec : ChangeSpec := { name := "latRing", fn := fun _ => fun
  | [d1, d2, d3] => { results := [.lit (.bool true)], args := [d1, d2, d3] }
  | _ => none }
def latRingRow : OpenClaim := { program := "ytddleeenlpigfaagreatdoor", sum := "0650382469f0b3c1a2ae1316e6278533806695c3c2d5c06210e9a9c0795cca03", func := "treillage/treillagelaw09.LatRing", spec := "latRing", inPlace := ["internal/bytealg.abigen_runtime_cmpstring"], unfollowed := true, recurses := true, named := ["treillage/name.words"], loops := true, apart := false, laid := [("treillage/name.words", laid_treillage_name_words)] }
def LatRingSaid : Prop := latRingRow.holds Tryz.pinned (OpenSpec.ofChange latRingSpec)

/-- ITS FALSE NEIGHBOUR: 'it returns false'. Refute it at one input. -/
def latRingWrong : ChangeSpec := { name := "latRing", fn := fun _ => fun
  | [d1, d2, d3] => { results := [.lit (.bool false)], args := [d1, d2, d3] }
  | _ => none }
def LatRingWrongFalsely : Prop := latRingRow.holds Tryz.pinned (OpenSpec.ofChange latRingWrong)

/-- 'treillagelaw10.CodePuts': WHATEVER THE INPUT: true; the input reads as it did. -/
def codePutsSpec : ChangeSpec := { name := "codePuts", fn := fun _ => fun
  | [d] => { results := [.lit (.bool true)], args := [d] }
  | _ => none }
def codePutsRow : OpenClaim := { program := "ytddleeenlpigfaagreatdoor", sum := "0650382469f0b3c1a2ae1316e6278533806695c3c2d5c06210e9a9c0795cca03", func := "treillage/treillagelaw10.CodePuts", spec := "codePuts", unfollowed := true, recurses := true, named := ["treillage/name.words"], loops := true, apart := false, laid := [("treillage/name.words", laid_treillage_name_words)] }
def CodePutsSaid : Prop := codePutsRow.holds Tryz.pinned (OpenSpec.ofChange codePutsSpec)

/-- ITS FALSE NEIGHBOUR: 'it returns false'. Refute it at one input. -/
def codePutsWrong : ChangeSpec := { name := "codePuts", fn := fun _ => fun
  | [d] => { results := [.lit (.bool false)], args := [d] }
  | _ => none }
def CodePutsWrongFalsely : Prop := codePutsRow.holds Tryz.pinned (OpenSpec.ofChange codePutsWrong)

/-- 'treillagelaw10.CodeReads': WHATEVER THE INPUT: true; the input reads as it did. -/
def codeReadsSpec : ChangeSpec := { name := "codeReads", fn := fun _ => fun
  | [d] => { results := [.lit (.bool true)], args := [d] }
  | _ => none }
def codeReadsRow : OpenClaim := { program := "ytddleeenlpigfaagreatdoor", sum := "0650382469f0b3c1a2ae1316e6278533806695c3c2d5c06210e9a9c0795cca03", func := "treillage/treillagelaw10.CodeReads", spec := "codeReads", unfollowed := true, recurses := true, named := ["treillage/name.words"], apart := false, laid := [("treillage/name.words", laid_treillage_name_words)] }
def CodeReadsSaid : Prop := codeReadsRow.holds Tryz.pinned (OpenSpec.ofChange codeReadsSpec)

/-- ITS FALSE NEIGHBOUR: 'it returns false'. Refute it at one input. -/
def codeReadsWrong : ChangeSpec := { name := "codeReads", fn := fun _ => fun
  | [d] => { results := [.lit (.bool false)], args := [d] }
  | _ => none }
def CodeReadsWrongFalsely : Prop := codeReadsRow.holds Tryz.pinned (OpenSpec.ofChange codeReadsWrong)

/-- 'treillagelaw10.CodeBack': WHATEVER THE INPUT: true; the input reads as it did. -/
def codeBackSpec : ChangeSpec := { name := "codeBack", fn := fun _ => fun
  | [d1, d2, d3] => { results := [.lit (.bool true)], args := [d1, d2, d3] }
  | _ => none }
def codeBackRow : OpenClaim := { program := "ytddleeenlpigfaagreatdoor", sum := "0650382469f0b3c1a2ae1316e6278533806695c3c2d5c06210e9a9c0795cca03", func := "treillage/treillagelaw10.CodeBack", spec := "codeBack", unfollowed := true, recurses := true, named := ["treillage/name.words"], loops := true, apart := false, laid := [("treillage/name.words", laid_treillage_name_words)] }
def CodeBackSaid : Prop := codeBackRow.holds Tryz.pinned (OpenSpec.ofChange codeBackSpec)

/-- ITS FALSE NEIGHBOUR: 'it returns false'. Refute it at one input. -/
def codeBackWrong : ChangeSpec := { name := "codeBack", fn := fun _ => fun
  | [d1, d2, d3] => { results := [.lit (.bool false)], args := [d1, d2, d3] }
  | _ => none }
def CodeBackWrongFalsely : Prop := codeBackRow.holds Tryz.pinned (OpenSpec.ofChange codeBackWrong)

/- THE SECOND FORM. 'bulk': how many values and letters a reading holds, each counted each time it is reached (what is shared counts as often as it is met; a slice's spare places count too). A statement '..UptoSaid' is the law's where the arguments, and the package variables that the reading takes, are together of bulk at most 1048576: NARROWER than '..Said'. Prove '..Said' where nothing that the law and all that it calls make is longer than what came in: it says more and counts as full. Else prove '..UptoSaid'. A law counts once. -/
mutual
def uptoBulk {H : Type} : DataW H → Nat
  | .lit (.string bytes) => bytes.length + 1
  | .lit _ => 1
  | .nil => 1
  | .ptr d => uptoBulk d + 1
  | .slice elems spare => uptoBulkAll elems + uptoBulkAll spare + 1
  | .agg parts => uptoBulkAll parts + 1
  | .iface _ d => uptoBulk d + 1
  | .map entries => uptoBulkEntries entries + 1
  | .held _ => 1
def uptoBulkAll {H : Type} : List (DataW H) → Nat
  | [] => 0
  | d :: r => uptoBulk d + uptoBulkAll r
def uptoBulkEntries {H : Type} : List (Lit × DataW H) → Nat
  | [] => 0
  | x :: r => uptoBulkEntry x + uptoBulkEntries r
def uptoBulkEntry {H : Type} : Lit × DataW H → Nat
  | (.string bytes, d) => bytes.length + uptoBulk d + 1
  | (_, d) => uptoBulk d + 1
 end
def uptoSmall : (H : Type) → List (DataW H) → Bool := fun _ ds => decide (uptoBulkAll ds ≤ 1048576)
def OpenSpec.upto (s : _root_.Go.ChangeSpec) : _root_.Go.OpenSpec := { _root_.Go.OpenSpec.ofChange s with cond := some uptoSmall }

/-- 'treillagelaw09.LatRights', WHERE WHAT IT READS IS OF BULK AT MOST 1048576: true; the input reads as it did. -/
def latRightsUptoRow : OpenClaim := { program := "ytddleeenlpigfaagreatdoor", sum := "0650382469f0b3c1a2ae1316e6278533806695c3c2d5c06210e9a9c0795cca03", func := "treillage/treillagelaw09.LatRights", spec := "latRights", inPlace := ["internal/bytealg.abigen_runtime_cmpstring"], unfollowed := true, recurses := true, named := ["treillage/name.words"], loops := true, apart := false, laid := [("treillage/name.words", laid_treillage_name_words)], narrowed := true }
def LatRightsUptoSaid : Prop := latRightsUptoRow.holds Tryz.pinned (OpenSpec.upto latRightsSpec)

/-- 'treillagelaw09.LatMakes', WHERE WHAT IT READS IS OF BULK AT MOST 1048576: true; the input reads as it did. -/
def latMakesUptoRow : OpenClaim := { program := "ytddleeenlpigfaagreatdoor", sum := "0650382469f0b3c1a2ae1316e6278533806695c3c2d5c06210e9a9c0795cca03", func := "treillage/treillagelaw09.LatMakes", spec := "latMakes", inPlace := ["internal/bytealg.abigen_runtime_cmpstring"], unfollowed := true, recurses := true, named := ["treillage/name.words"], loops := true, apart := false, laid := [("treillage/name.words", laid_treillage_name_words)], narrowed := true }
def LatMakesUptoSaid : Prop := latMakesUptoRow.holds Tryz.pinned (OpenSpec.upto latMakesSpec)

/-- 'treillagelaw09.LatMeets', WHERE WHAT IT READS IS OF BULK AT MOST 1048576: true; the input reads as it did. -/
def latMeetsUptoRow : OpenClaim := { program := "ytddleeenlpigfaagreatdoor", sum := "0650382469f0b3c1a2ae1316e6278533806695c3c2d5c06210e9a9c0795cca03", func := "treillage/treillagelaw09.LatMeets", spec := "latMeets", inPlace := ["internal/bytealg.abigen_runtime_cmpstring"], unfollowed := true, recurses := true, named := ["treillage/name.words"], loops := true, apart := false, laid := [("treillage/name.words", laid_treillage_name_words)], narrowed := true }
def LatMeetsUptoSaid : Prop := latMeetsUptoRow.holds Tryz.pinned (OpenSpec.upto latMeetsSpec)

/-- 'treillagelaw09.LatWide', WHERE WHAT IT READS IS OF BULK AT MOST 1048576: true; the input reads as it did. -/
def latWideUptoRow : OpenClaim := { program := "ytddleeenlpigfaagreatdoor", sum := "0650382469f0b3c1a2ae1316e6278533806695c3c2d5c06210e9a9c0795cca03", func := "treillage/treillagelaw09.LatWide", spec := "latWide", inPlace := ["internal/bytealg.abigen_runtime_cmpstring"], unfollowed := true, recurses := true, named := ["treillage/name.words"], apart := false, laid := [("treillage/name.words", laid_treillage_name_words)], narrowed := true }
def LatWideUptoSaid : Prop := latWideUptoRow.holds Tryz.pinned (OpenSpec.upto latWideSpec)

/-- 'treillagelaw09.LatOrder', WHERE WHAT IT READS IS OF BULK AT MOST 1048576: true; the input reads as it did. -/
def latOrderUptoRow : OpenClaim := { program := "ytddleeenlpigfaagreatdoor", sum := "0650382469f0b3c1a2ae1316e6278533806695c3c2d5c06210e9a9c0795cca03", func := "treillage/treillagelaw09.LatOrder", spec := "latOrder", inPlace := ["internal/bytealg.abigen_runtime_cmpstring"], unfollowed := true, recurses := true, named := ["treillage/name.words"], loops := true, apart := false, laid := [("treillage/name.words", laid_treillage_name_words)], narrowed := true }
def LatOrderUptoSaid : Prop := latOrderUptoRow.holds Tryz.pinned (OpenSpec.upto latOrderSpec)

/-- 'treillagelaw09.LatRing', WHERE WHAT IT READS IS OF BULK AT MOST 1048576: true; the input reads as it did. -/
def latRingUptoRow : OpenClaim := { program := "ytddleeenlpigfaagreatdoor", sum := "0650382469f0b3c1a2ae1316e6278533806695c3c2d5c06210e9a9c0795cca03", func := "treillage/treillagelaw09.LatRing", spec := "latRing", inPlace := ["internal/bytealg.abigen_runtime_cmpstring"], unfollowed := true, recurses := true, named := ["treillage/name.words"], loops := true, apart := false, laid := [("treillage/name.words", laid_treillage_name_words)], narrowed := true }
def LatRingUptoSaid : Prop := latRingUptoRow.holds Tryz.pinned (OpenSpec.upto latRingSpec)

/-- 'treillagelaw10.CodePuts', WHERE WHAT IT READS IS OF BULK AT MOST 1048576: true; the input reads as it did. -/
def codePutsUptoRow : OpenClaim := { program := "ytddleeenlpigfaagreatdoor", sum := "0650382469f0b3c1a2ae1316e6278533806695c3c2d5c06210e9a9c0795cca03", func := "treillage/treillagelaw10.CodePuts", spec := "codePuts", unfollowed := true, recurses := true, named := ["treillage/name.words"], loops := true, apart := false, laid := [("treillage/name.words", laid_treillage_name_words)], narrowed := true }
def CodePutsUptoSaid : Prop := codePutsUptoRow.holds Tryz.pinned (OpenSpec.upto codePutsSpec)

/-- 'treillagelaw10.CodeReads', WHERE WHAT IT READS IS OF BULK AT MOST 1048576: true; the input reads as it did. -/
def codeReadsUptoRow : OpenClaim := { program := "ytddleeenlpigfaagreatdoor", sum := "0650382469f0b3c1a2ae1316e6278533806695c3c2d5c06210e9a9c0795cca03", func := "treillage/treillagelaw10.CodeReads", spec := "codeReads", unfollowed := true, recurses := true, named := ["treillage/name.words"], apart := false, laid := [("treillage/name.words", laid_treillage_name_words)], narrowed := true }
def CodeReadsUptoSaid : Prop := codeReadsUptoRow.holds Tryz.pinned (OpenSpec.upto codeReadsSpec)

/-- 'treillagelaw10.CodeBack', WHERE WHAT IT READS IS OF BULK AT MOST 1048576: true; the input reads as it did. -/
def codeBackUptoRow : OpenClaim := { program := "ytddleeenlpigfaagreatdoor", sum := "0650382469f0b3c1a2ae1316e6278533806695c3c2d5c06210e9a9c0795cca03", func := "treillage/treillagelaw10.CodeBack", spec := "codeBack", unfollowed := true, recurses := true, named := ["treillage/name.words"], loops := true, apart := false, laid := [("treillage/name.words", laid_treillage_name_words)], narrowed := true }
def CodeBackUptoSaid : Prop := codeBackUptoRow.holds Tryz.pinned (OpenSpec.upto codeBackSpec)

end Rows
end Go.Proofs.YtddleeenlpigfaaGreatDoor
