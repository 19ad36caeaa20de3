/-
  NARROWER THAN 'FOR EVERY INPUT', by the rows' own cells (each row's printed sentence says how): ParseReads: laid · ParseExprs: laid · ParseLimits: laid · ShowTexts: loops, laid · ShowBack: loops, laid · ShowAgain: laid · GatherNodes: laid · GatherRights: loops, laid · GatherMany: laid · KeyReads: laid · KeyOnce: loops, laid.
  DERIVED. THE GIVEN ROWS OF THIS SEAT. 11 by the template 'for every input the law returns true; each argument reads behind the call as it read before'; 0 by the template 'total and deterministic' (their statements: YtkfihhagcimcmaaGreatDoorTotals.lean).
  GIVEN WITH THE SEED: the statements are not yours to turn. If you find one false, say at which input.
  Laid BY PROGRAM, IN A SANDBOX (cutbox-rows.mjs): the forced cells as the released guide's own fill.sh prints them over the translation 9f91f3cd7982da10… (all of the seat's roots in one cut). By AI agents, Wed Nov 11 2026. No macro, syntax, notation, axiom, sorry.
-/
import Derived.Test.YtkfihhagcimcmaaGreatDoorChecked
import GoSem.Claim
import GoSem.ClaimJoined
import GoSem.ClaimMapViews
import Derived.JoinedTies
import Derived.KernelRfl
namespace Go.Proofs.YtkfihhagcimcmaaGreatDoor
/- THE CELL 'sum', in the pinned program and in every row, IS THE sha256 OF THE DUMP (.gsa) THAT YtkfihhagcimcmaaGreatDoorProg.lean LOADS. Nothing in Lean hashes anything: it is a label: what it is worth is what the hold of that sum in a sandbox is worth. -/
noncomputable def Tryz.pinned : Pinned := { name := "ytkfihhagcimcmaagreatdoor", sum := "9f91f3cd7982da10dd07e9eb6f363d1cedf36912addebece5a134f98eca5b96d", checked := Tryz.checked }
namespace Rows
def none {H : Type} : Left H := { results := [], args := [] }

/- WHAT THE LISTED PACKAGE-LEVEL VARIABLES READ AS WHEN THE CALL BEGINS. Each datum BY PROGRAM (the guide's laid-datum.mjs) off the statement by which the dump's own 'gosem.cut.vars' lays the variable. In a bare row this is a premise. The card (YtkfihhagcimcmaaGreatDoorCards.lean) ties it to the program's text. -/
def laid_treillage_name_words {H : Type} : DataW H := .agg [.lit (.string [97, 110, 121]), .lit (.string [98, 111, 111, 108]), .lit (.string [99, 111, 109, 112, 117, 116, 101, 100]), .lit (.string [102, 97, 108, 115, 101]), .lit (.string [105, 110, 116]), .lit (.string [110, 111, 110, 101]), .lit (.string [114, 101, 115, 111, 117, 114, 99, 101]), .lit (.string [115, 116, 114, 105, 110, 103]), .lit (.string [116, 114, 117, 101])]
def laid_treillage_token_signs {H : Type} : DataW H := .agg [.lit (.string [46, 46, 46]), .lit (.string [62, 61]), .lit (.string [60, 61]), .lit (.string [58]), .lit (.string [59]), .lit (.string [123]), .lit (.string [125]), .lit (.string [40]), .lit (.string [41]), .lit (.string [38]), .lit (.string [124]), .lit (.string [43]), .lit (.string [45]), .lit (.string [42]), .lit (.string [46])]
def laid_treillage_show_binds {H : Type} : DataW H := .agg [.lit (.int .i64 0), .lit (.int .i64 5), .lit (.int .i64 5), .lit (.int .i64 5), .lit (.int .i64 5), .lit (.int .i64 5), .lit (.int .i64 5), .lit (.int .i64 5), .lit (.int .i64 5), .lit (.int .i64 5), .lit (.int .i64 5), .lit (.int .i64 2), .lit (.int .i64 1), .lit (.int .i64 3), .lit (.int .i64 3), .lit (.int .i64 4)]
def laid_treillage_show_signs {H : Type} : DataW H := .agg [.lit (.string []), .lit (.string []), .lit (.string []), .lit (.string []), .lit (.string []), .lit (.string []), .lit (.string []), .lit (.string []), .lit (.string []), .lit (.string []), .lit (.string []), .lit (.string [38]), .lit (.string [124]), .lit (.string [43]), .lit (.string [45]), .lit (.string [42])]
def laid_treillage_show_bools {H : Type} : DataW H := .agg [.lit (.string [102, 97, 108, 115, 101]), .lit (.string [116, 114, 117, 101])]
def laid_treillage_show_kinds {H : Type} : DataW H := .agg [.lit (.string []), .lit (.string [98, 111, 111, 108]), .lit (.string [105, 110, 116]), .lit (.string [115, 116, 114, 105, 110, 103]), .lit (.string []), .lit (.string [97, 110, 121])]

/-- 'treillagelaw14.ParseReads': WHATEVER THE INPUT: true; the input reads as it did. -/
def parseReadsSpec : ChangeSpec := { name := "parseReads", fn := fun _ => fun
  | [d] => { results := [.lit (.bool true)], args := [d] }
  | _ => none }
def parseReadsRow : OpenClaim := { program := "ytkfihhagcimcmaagreatdoor", sum := "9f91f3cd7982da10dd07e9eb6f363d1cedf36912addebece5a134f98eca5b96d", func := "treillage/treillagelaw14.ParseReads", spec := "parseReads", inPlace := ["internal/bytealg.IndexByteString"], unfollowed := true, recurses := true, named := ["treillage/name.words", "treillage/token.signs"], apart := false, laid := [("treillage/name.words", laid_treillage_name_words), ("treillage/token.signs", laid_treillage_token_signs)] }
def ParseReadsSaid : Prop := parseReadsRow.holds Tryz.pinned (OpenSpec.ofChange parseReadsSpec)

/-- ITS FALSE NEIGHBOUR: 'it returns false'. Refute it at one input. -/
def parseReadsWrong : ChangeSpec := { name := "parseReads", fn := fun _ => fun
  | [d] => { results := [.lit (.bool false)], args := [d] }
  | _ => none }
def ParseReadsWrongFalsely : Prop := parseReadsRow.holds Tryz.pinned (OpenSpec.ofChange parseReadsWrong)

/-- 'treillagelaw14.ParseExprs': WHATEVER THE INPUT: true; the input reads as it did. -/
def parseExprsSpec : ChangeSpec := { name := "parseExprs", fn := fun _ => fun
  | [d] => { results := [.lit (.bool true)], args := [d] }
  | _ => none }
def parseExprsRow : OpenClaim := { program := "ytkfihhagcimcmaagreatdoor", sum := "9f91f3cd7982da10dd07e9eb6f363d1cedf36912addebece5a134f98eca5b96d", func := "treillage/treillagelaw14.ParseExprs", spec := "parseExprs", inPlace := ["internal/bytealg.IndexByteString"], unfollowed := true, recurses := true, named := ["treillage/name.words", "treillage/token.signs"], apart := false, laid := [("treillage/name.words", laid_treillage_name_words), ("treillage/token.signs", laid_treillage_token_signs)] }
def ParseExprsSaid : Prop := parseExprsRow.holds Tryz.pinned (OpenSpec.ofChange parseExprsSpec)

/-- ITS FALSE NEIGHBOUR: 'it returns false'. Refute it at one input. -/
def parseExprsWrong : ChangeSpec := { name := "parseExprs", fn := fun _ => fun
  | [d] => { results := [.lit (.bool false)], args := [d] }
  | _ => none }
def ParseExprsWrongFalsely : Prop := parseExprsRow.holds Tryz.pinned (OpenSpec.ofChange parseExprsWrong)

/-- 'treillagelaw14.ParseLimits': WHATEVER THE INPUT: true; the input reads as it did. -/
def parseLimitsSpec : ChangeSpec := { name := "parseLimits", fn := fun _ => fun
  | [d1, d2] => { results := [.lit (.bool true)], args := [d1, d2] }
  | _ => none }
def parseLimitsRow : OpenClaim := { program := "ytkfihhagcimcmaagreatdoor", sum := "9f91f3cd7982da10dd07e9eb6f363d1cedf36912addebece5a134f98eca5b96d", func := "treillage/treillagelaw14.ParseLimits", spec := "parseLimits", inPlace := ["internal/bytealg.IndexByteString"], unfollowed := true, recurses := true, named := ["treillage/name.words", "treillage/token.signs"], apart := false, laid := [("treillage/name.words", laid_treillage_name_words), ("treillage/token.signs", laid_treillage_token_signs)] }
def ParseLimitsSaid : Prop := parseLimitsRow.holds Tryz.pinned (OpenSpec.ofChange parseLimitsSpec)

/-- ITS FALSE NEIGHBOUR: 'it returns false'. Refute it at one input. -/
def parseLimitsWrong : ChangeSpec := { name := "parseLimits", fn := fun _ => fun
  | [d1, d2] => { results := [.lit (.bool false)], args := [d1, d2] }
  | _ => none }
def ParseLimitsWrongFalsely : Prop := parseLimitsRow.holds Tryz.pinned (OpenSpec.ofChange parseLimitsWrong)

/-- 'treillagelaw15.ShowTexts': WHATEVER THE INPUT: true; the input reads as it did. -/
def showTextsSpec : ChangeSpec := { name := "showTexts", fn := fun _ => fun
  | [d1, d2] => { results := [.lit (.bool true)], args := [d1, d2] }
  | _ => none }
def showTextsRow : OpenClaim := { program := "ytkfihhagcimcmaagreatdoor", sum := "9f91f3cd7982da10dd07e9eb6f363d1cedf36912addebece5a134f98eca5b96d", func := "treillage/treillagelaw15.ShowTexts", spec := "showTexts", inPlace := ["internal/bytealg.IndexByteString", "internal/abi.NoEscape", "internal/bytealg.MakeNoZero"], unfollowed := true, recurses := true, named := ["treillage/name.words", "treillage/token.signs", "treillage/show.binds", "treillage/show.bools", "treillage/show.kinds", "treillage/show.signs"], loops := true, apart := false, laid := [("treillage/name.words", laid_treillage_name_words), ("treillage/token.signs", laid_treillage_token_signs), ("treillage/show.binds", laid_treillage_show_binds), ("treillage/show.signs", laid_treillage_show_signs), ("treillage/show.bools", laid_treillage_show_bools), ("treillage/show.kinds", laid_treillage_show_kinds)] }
def ShowTextsSaid : Prop := showTextsRow.holds Tryz.pinned (OpenSpec.ofChange showTextsSpec)

/-- ITS FALSE NEIGHBOUR: 'it returns false'. Refute it at one input. -/
def showTextsWrong : ChangeSpec := { name := "showTexts", fn := fun _ => fun
  | [d1, d2] => { results := [.lit (.bool false)], args := [d1, d2] }
  | _ => none }
def ShowTextsWrongFalsely : Prop := showTextsRow.holds Tryz.pinned (OpenSpec.ofChange showTextsWrong)

/-- 'treillagelaw15.ShowBack': WHATEVER THE INPUT: true; the input reads as it did. -/
def showBackSpec : ChangeSpec := { name := "showBack", fn := fun _ => fun
  | [d] => { results := [.lit (.bool true)], args := [d] }
  | _ => none }
def showBackRow : OpenClaim := { program := "ytkfihhagcimcmaagreatdoor", sum := "9f91f3cd7982da10dd07e9eb6f363d1cedf36912addebece5a134f98eca5b96d", func := "treillage/treillagelaw15.ShowBack", spec := "showBack", inPlace := ["internal/bytealg.IndexByteString", "internal/abi.NoEscape", "internal/bytealg.MakeNoZero"], unfollowed := true, recurses := true, named := ["treillage/name.words", "treillage/token.signs", "treillage/show.binds", "treillage/show.bools", "treillage/show.kinds", "treillage/show.signs"], loops := true, apart := false, laid := [("treillage/name.words", laid_treillage_name_words), ("treillage/token.signs", laid_treillage_token_signs), ("treillage/show.binds", laid_treillage_show_binds), ("treillage/show.signs", laid_treillage_show_signs), ("treillage/show.bools", laid_treillage_show_bools), ("treillage/show.kinds", laid_treillage_show_kinds)] }
def ShowBackSaid : Prop := showBackRow.holds Tryz.pinned (OpenSpec.ofChange showBackSpec)

/-- ITS FALSE NEIGHBOUR: 'it returns false'. Refute it at one input. -/
def showBackWrong : ChangeSpec := { name := "showBack", fn := fun _ => fun
  | [d] => { results := [.lit (.bool false)], args := [d] }
  | _ => none }
def ShowBackWrongFalsely : Prop := showBackRow.holds Tryz.pinned (OpenSpec.ofChange showBackWrong)

/-- 'treillagelaw15.ShowAgain': WHATEVER THE INPUT: true; the input reads as it did. -/
def showAgainSpec : ChangeSpec := { name := "showAgain", fn := fun _ => fun
  | [d] => { results := [.lit (.bool true)], args := [d] }
  | _ => none }
def showAgainRow : OpenClaim := { program := "ytkfihhagcimcmaagreatdoor", sum := "9f91f3cd7982da10dd07e9eb6f363d1cedf36912addebece5a134f98eca5b96d", func := "treillage/treillagelaw15.ShowAgain", spec := "showAgain", inPlace := ["internal/bytealg.IndexByteString", "internal/abi.NoEscape", "internal/bytealg.MakeNoZero"], unfollowed := true, recurses := true, named := ["treillage/name.words", "treillage/token.signs", "treillage/show.binds", "treillage/show.bools", "treillage/show.kinds", "treillage/show.signs"], apart := false, laid := [("treillage/name.words", laid_treillage_name_words), ("treillage/token.signs", laid_treillage_token_signs), ("treillage/show.binds", laid_treillage_show_binds), ("treillage/show.signs", laid_treillage_show_signs), ("treillage/show.bools", laid_treillage_show_bools), ("treillage/show.kinds", laid_treillage_show_kinds)] }
def ShowAgainSaid : Prop := showAgainRow.holds Tryz.pinned (OpenSpec.ofChange showAgainSpec)

/-- ITS FALSE NEIGHBOUR: 'it returns false'. Refute it at one input. -/
def showAgainWrong : ChangeSpec := { name := "showAgain", fn := fun _ => fun
  | [d] => { results := [.lit (.bool false)], args := [d] }
  | _ => none }
def ShowAgainWrongFalsely : Prop := showAgainRow.holds Tryz.pinned (OpenSpec.ofChange showAgainWrong)

/-- 'treillagelaw16.GatherNodes': WHATEVER THE INPUT: true; the input reads as it did. -/
def gatherNodesSpec : ChangeSpec := { name := "gatherNodes", fn := fun _ => fun
  | [d] => { results := [.lit (.bool true)], args := [d] }
  | _ => none }
def gatherNodesRow : OpenClaim := { program := "ytkfihhagcimcmaagreatdoor", sum := "9f91f3cd7982da10dd07e9eb6f363d1cedf36912addebece5a134f98eca5b96d", func := "treillage/treillagelaw16.GatherNodes", spec := "gatherNodes", inPlace := ["internal/bytealg.IndexByteString"], unfollowed := true, recurses := true, named := ["treillage/name.words", "treillage/token.signs"], apart := false, laid := [("treillage/name.words", laid_treillage_name_words), ("treillage/token.signs", laid_treillage_token_signs)] }
def GatherNodesSaid : Prop := gatherNodesRow.holds Tryz.pinned (OpenSpec.ofChange gatherNodesSpec)

/-- ITS FALSE NEIGHBOUR: 'it returns false'. Refute it at one input. -/
def gatherNodesWrong : ChangeSpec := { name := "gatherNodes", fn := fun _ => fun
  | [d] => { results := [.lit (.bool false)], args := [d] }
  | _ => none }
def GatherNodesWrongFalsely : Prop := gatherNodesRow.holds Tryz.pinned (OpenSpec.ofChange gatherNodesWrong)

/-- 'treillagelaw16.GatherRights': WHATEVER THE INPUT: true; the input reads as it did. -/
def gatherRightsSpec : ChangeSpec := { name := "gatherRights", fn := fun _ => fun
  | [d1, d2] => { results := [.lit (.bool true)], args := [d1, d2] }
  | _ => none }
def gatherRightsRow : OpenClaim := { program := "ytkfihhagcimcmaagreatdoor", sum := "9f91f3cd7982da10dd07e9eb6f363d1cedf36912addebece5a134f98eca5b96d", func := "treillage/treillagelaw16.GatherRights", spec := "gatherRights", inPlace := ["internal/bytealg.IndexByteString"], unfollowed := true, recurses := true, named := ["treillage/name.words", "treillage/token.signs"], loops := true, apart := false, laid := [("treillage/name.words", laid_treillage_name_words), ("treillage/token.signs", laid_treillage_token_signs)] }
def GatherRightsSaid : Prop := gatherRightsRow.holds Tryz.pinned (OpenSpec.ofChange gatherRightsSpec)

/-- ITS FALSE NEIGHBOUR: 'it returns false'. Refute it at one input. -/
def gatherRightsWrong : ChangeSpec := { name := "gatherRights", fn := fun _ => fun
  | [d1, d2] => { results := [.lit (.bool false)], args := [d1, d2] }
  | _ => none }
def GatherRightsWrongFalsely : Prop := gatherRightsRow.holds Tryz.pinned (OpenSpec.ofChange gatherRightsWrong)

/-- 'treillagelaw16.GatherMany': WHATEVER THE INPUT: true; the input reads as it did. -/
def gatherManySpec : ChangeSpec := { name := "gatherMany", fn := fun _ => fun
  | [d] => { results := [.lit (.bool true)], args := [d] }
  | _ => none }
def gatherManyRow : OpenClaim := { program := "ytkfihhagcimcmaagreatdoor", sum := "9f91f3cd7982da10dd07e9eb6f363d1cedf36912addebece5a134f98eca5b96d", func := "treillage/treillagelaw16.GatherMany", spec := "gatherMany", inPlace := ["internal/bytealg.IndexByteString"], unfollowed := true, recurses := true, named := ["treillage/name.words", "treillage/token.signs"], apart := false, laid := [("treillage/name.words", laid_treillage_name_words), ("treillage/token.signs", laid_treillage_token_signs)] }
def GatherManySaid : Prop := gatherManyRow.holds Tryz.pinned (OpenSpec.ofChange gatherManySpec)

/-- ITS FALSE NEIGHBOUR: 'it returns false'. Refute it at one input. -/
def gatherManyWrong : ChangeSpec := { name := "gatherMany", fn := fun _ => fun
  | [d] => { results := [.lit (.bool false)], args := [d] }
  | _ => none }
def GatherManyWrongFalsely : Prop := gatherManyRow.holds Tryz.pinned (OpenSpec.ofChange gatherManyWrong)

/-- 'treillagelaw22.KeyReads': WHATEVER THE INPUT: true; the input reads as it did. -/
def keyReadsSpec : ChangeSpec := { name := "keyReads", fn := fun _ => fun
  | [d] => { results := [.lit (.bool true)], args := [d] }
  | _ => none }
def keyReadsRow : OpenClaim := { program := "ytkfihhagcimcmaagreatdoor", sum := "9f91f3cd7982da10dd07e9eb6f363d1cedf36912addebece5a134f98eca5b96d", func := "treillage/treillagelaw22.KeyReads", spec := "keyReads", inPlace := ["internal/abi.NoEscape", "internal/bytealg.MakeNoZero", "internal/bytealg.IndexByteString", "internal/bytealg.IndexString"], unfollowed := true, recurses := true, named := ["treillage/name.words", "treillage/show.binds", "treillage/show.bools", "treillage/show.kinds", "treillage/show.signs", "internal/bytealg.MaxLen", "treillage/token.signs"], apart := false, laid := [("treillage/name.words", laid_treillage_name_words), ("treillage/token.signs", laid_treillage_token_signs), ("treillage/show.binds", laid_treillage_show_binds), ("treillage/show.signs", laid_treillage_show_signs), ("treillage/show.bools", laid_treillage_show_bools), ("treillage/show.kinds", laid_treillage_show_kinds)] }
def KeyReadsSaid : Prop := keyReadsRow.holds Tryz.pinned (OpenSpec.ofChange keyReadsSpec)

/-- ITS FALSE NEIGHBOUR: 'it returns false'. Refute it at one input. -/
def keyReadsWrong : ChangeSpec := { name := "keyReads", fn := fun _ => fun
  | [d] => { results := [.lit (.bool false)], args := [d] }
  | _ => none }
def KeyReadsWrongFalsely : Prop := keyReadsRow.holds Tryz.pinned (OpenSpec.ofChange keyReadsWrong)

/-- 'treillagelaw22.KeyOnce': WHATEVER THE INPUT: true; the input reads as it did. -/
def keyOnceSpec : ChangeSpec := { name := "keyOnce", fn := fun _ => fun
  | [d1, d2, d3] => { results := [.lit (.bool true)], args := [d1, d2, d3] }
  | _ => none }
def keyOnceRow : OpenClaim := { program := "ytkfihhagcimcmaagreatdoor", sum := "9f91f3cd7982da10dd07e9eb6f363d1cedf36912addebece5a134f98eca5b96d", func := "treillage/treillagelaw22.KeyOnce", spec := "keyOnce", inPlace := ["internal/abi.NoEscape", "internal/bytealg.MakeNoZero", "internal/bytealg.IndexByteString", "internal/bytealg.IndexString"], unfollowed := true, recurses := true, named := ["treillage/name.words", "treillage/show.binds", "treillage/show.bools", "treillage/show.kinds", "treillage/show.signs", "internal/bytealg.MaxLen", "treillage/token.signs"], loops := true, apart := false, laid := [("treillage/name.words", laid_treillage_name_words), ("treillage/token.signs", laid_treillage_token_signs), ("treillage/show.binds", laid_treillage_show_binds), ("treillage/show.signs", laid_treillage_show_signs), ("treillage/show.bools", laid_treillage_show_bools), ("treillage/show.kinds", laid_treillage_show_kinds)] }
def KeyOnceSaid : Prop := keyOnceRow.holds Tryz.pinned (OpenSpec.ofChange keyOnceSpec)

/-- ITS FALSE NEIGHBOUR: 'it returns false'. Refute it at one input. -/
def keyOnceWrong : ChangeSpec := { name := "keyOnce", fn := fun _ => fun
  | [d1, d2, d3] => { results := [.lit (.bool false)], args := [d1, d2, d3] }
  | _ => none }
def KeyOnceWrongFalsely : Prop := keyOnceRow.holds Tryz.pinned (OpenSpec.ofChange keyOnceWrong)

/- THE SECOND FORM. 'bulk': how many values and letters a reading holds, each counted each time it is reached (what is shared counts as often as it is met; a slice's spare places count too). A statement '..UptoSaid' is the law's where the arguments, and the package variables that the reading takes, are together of bulk at most 1048576: NARROWER than '..Said'. Prove '..Said' where nothing that the law and all that it calls make is longer than what came in: it says more and counts as full. Else prove '..UptoSaid'. A law counts once. -/
mutual
def uptoBulk {H : Type} : DataW H → Nat
  | .lit (.string bytes) => bytes.length + 1
  | .lit _ => 1
  | .nil => 1
  | .ptr d => uptoBulk d + 1
  | .slice elems spare => uptoBulkAll elems + uptoBulkAll spare + 1
  | .agg parts => uptoBulkAll parts + 1
  | .iface _ d => uptoBulk d + 1
  | .map entries => uptoBulkEntries entries + 1
  | .held _ => 1
def uptoBulkAll {H : Type} : List (DataW H) → Nat
  | [] => 0
  | d :: r => uptoBulk d + uptoBulkAll r
def uptoBulkEntries {H : Type} : List (Lit × DataW H) → Nat
  | [] => 0
  | x :: r => uptoBulkEntry x + uptoBulkEntries r
def uptoBulkEntry {H : Type} : Lit × DataW H → Nat
  | (.string bytes, d) => bytes.length + uptoBulk d + 1
  | (_, d) => uptoBulk d + 1
 end
def uptoSmall : (H : Type) → List (DataW H) → Bool := fun _ ds => decide (uptoBulkAll ds ≤ 1048576)
def OpenSpec.upto (s : _root_.Go.ChangeSpec) : _root_.Go.OpenSpec := { _root_.Go.OpenSpec.ofChange s with cond := some uptoSmall }

/-- 'treillagelaw14.ParseReads', WHERE WHAT IT READS IS OF BULK AT MOST 1048576: true; the input reads as it did. -/
def parseReadsUptoRow : OpenClaim := { program := "ytkfihhagcimcmaagreatdoor", sum := "9f91f3cd7982da10dd07e9eb6f363d1cedf36912addebece5a134f98eca5b96d", func := "treillage/treillagelaw14.ParseReads", spec := "parseReads", inPlace := ["internal/bytealg.IndexByteString"], unfollowed := true, recurses := true, named := ["treillage/name.words", "treillage/token.signs"], apart := false, laid := [("treillage/name.words", laid_treillage_name_words), ("treillage/token.signs", laid_treillage_token_signs)], narrowed := true }
def ParseReadsUptoSaid : Prop := parseReadsUptoRow.holds Tryz.pinned (OpenSpec.upto parseReadsSpec)

/-- 'treillagelaw14.ParseExprs', WHERE WHAT IT READS IS OF BULK AT MOST 1048576: true; the input reads as it did. -/
def parseExprsUptoRow : OpenClaim := { program := "ytkfihhagcimcmaagreatdoor", sum := "9f91f3cd7982da10dd07e9eb6f363d1cedf36912addebece5a134f98eca5b96d", func := "treillage/treillagelaw14.ParseExprs", spec := "parseExprs", inPlace := ["internal/bytealg.IndexByteString"], unfollowed := true, recurses := true, named := ["treillage/name.words", "treillage/token.signs"], apart := false, laid := [("treillage/name.words", laid_treillage_name_words), ("treillage/token.signs", laid_treillage_token_signs)], narrowed := true }
def ParseExprsUptoSaid : Prop := parseExprsUptoRow.holds Tryz.pinned (OpenSpec.upto parseExprsSpec)

/-- 'treillagelaw14.ParseLimits', WHERE WHAT IT READS IS OF BULK AT MOST 1048576: true; the input reads as it did. -/
def parseLimitsUptoRow : OpenClaim := { program := "ytkfihhagcimcmaagreatdoor", sum := "9f91f3cd7982da10dd07e9eb6f363d1cedf36912addebece5a134f98eca5b96d", func := "treillage/treillagelaw14.ParseLimits", spec := "parseLimits", inPlace := ["internal/bytealg.IndexByteString"], unfollowed := true, recurses := true, named := ["treillage/name.words", "treillage/token.signs"], apart := false, laid := [("treillage/name.words", laid_treillage_name_words), ("treillage/token.signs", laid_treillage_token_signs)], narrowed := true }
def ParseLimitsUptoSaid : Prop := parseLimitsUptoRow.holds Tryz.pinned (OpenSpec.upto parseLimitsSpec)

/-- 'treillagelaw15.ShowTexts', WHERE WHAT IT READS IS OF BULK AT MOST 1048576: true; the input reads as it did. -/
def showTextsUptoRow : OpenClaim := { program := "ytkfihhagcimcmaagreatdoor", sum := "9f91f3cd7982da10dd07e9eb6f363d1cedf36912addebece5a134f98eca5b96d", func := "treillage/treillagelaw15.ShowTexts", spec := "showTexts", inPlace := ["internal/bytealg.IndexByteString", "internal/abi.NoEscape", "internal/bytealg.MakeNoZero"], unfollowed := true, recurses := true, named := ["treillage/name.words", "treillage/token.signs", "treillage/show.binds", "treillage/show.bools", "treillage/show.kinds", "treillage/show.signs"], loops := true, apart := false, laid := [("treillage/name.words", laid_treillage_name_words), ("treillage/token.signs", laid_treillage_token_signs), ("treillage/show.binds", laid_treillage_show_binds), ("treillage/show.signs", laid_treillage_show_signs), ("treillage/show.bools", laid_treillage_show_bools), ("treillage/show.kinds", laid_treillage_show_kinds)], narrowed := true }
def ShowTextsUptoSaid : Prop := showTextsUptoRow.holds Tryz.pinned (OpenSpec.upto showTextsSpec)

/-- 'treillagelaw15.ShowBack', WHERE WHAT IT READS IS OF BULK AT MOST 1048576: true; the input reads as it did. -/
def showBackUptoRow : OpenClaim := { program := "ytkfihhagcimcmaagreatdoor", sum := "9f91f3cd7982da10dd07e9eb6f363d1cedf36912addebece5a134f98eca5b96d", func := "treillage/treillagelaw15.ShowBack", spec := "showBack", inPlace := ["internal/bytealg.IndexByteString", "internal/abi.NoEscape", "internal/bytealg.MakeNoZero"], unfollowed := true, recurses := true, named := ["treillage/name.words", "treillage/token.signs", "treillage/show.binds", "treillage/show.bools", "treillage/show.kinds", "treillage/show.signs"], loops := true, apart := false, laid := [("treillage/name.words", laid_treillage_name_words), ("treillage/token.signs", laid_treillage_token_signs), ("treillage/show.binds", laid_treillage_show_binds), ("treillage/show.signs", laid_treillage_show_signs), ("treillage/show.bools", laid_treillage_show_bools), ("treillage/show.kinds", laid_treillage_show_kinds)], narrowed := true }
def ShowBackUptoSaid : Prop := showBackUptoRow.holds Tryz.pinned (OpenSpec.upto showBackSpec)

/-- 'treillagelaw15.ShowAgain', WHERE WHAT IT READS IS OF BULK AT MOST 1048576: true; the input reads as it did. -/
def showAgainUptoRow : OpenClaim := { program := "ytkfihhagcimcmaagreatdoor", sum := "9f91f3cd7982da10dd07e9eb6f363d1cedf36912addebece5a134f98eca5b96d", func := "treillage/treillagelaw15.ShowAgain", spec := "showAgain", inPlace := ["internal/bytealg.IndexByteString", "internal/abi.NoEscape", "internal/bytealg.MakeNoZero"], unfollowed := true, recurses := true, named := ["treillage/name.words", "treillage/token.signs", "treillage/show.binds", "treillage/show.bools", "treillage/show.kinds", "treillage/show.signs"], apart := false, laid := [("treillage/name.words", laid_treillage_name_words), ("treillage/token.signs", laid_treillage_token_signs), ("treillage/show.binds", laid_treillage_show_binds), ("treillage/show.signs", laid_treillage_show_signs), ("treillage/show.bools", laid_treillage_show_bools), ("treillage/show.kinds", laid_treillage_show_kinds)], narrowed := true }
def ShowAgainUptoSaid : Prop := showAgainUptoRow.holds Tryz.pinned (OpenSpec.upto showAgainSpec)

/-- 'treillagelaw16.GatherNodes', WHERE WHAT IT READS IS OF BULK AT MOST 1048576: true; the input reads as it did. -/
def gatherNodesUptoRow : OpenClaim := { program := "ytkfihhagcimcmaagreatdoor", sum := "9f91f3cd7982da10dd07e9eb6f363d1cedf36912addebece5a134f98eca5b96d", func := "treillage/treillagelaw16.GatherNodes", spec := "gatherNodes", inPlace := ["internal/bytealg.IndexByteString"], unfollowed := true, recurses := true, named := ["treillage/name.words", "treillage/token.signs"], apart := false, laid := [("treillage/name.words", laid_treillage_name_words), ("treillage/token.signs", laid_treillage_token_signs)], narrowed := true }
def GatherNodesUptoSaid : Prop := gatherNodesUptoRow.holds Tryz.pinned (OpenSpec.upto gatherNodesSpec)

/-- 'treillagelaw16.GatherRights', WHERE WHAT IT READS IS OF BULK AT MOST 1048576: true; the input reads as it did. -/
def gatherRightsUptoRow : OpenClaim := { program := "ytkfihhagcimcmaagreatdoor", sum := "9f91f3cd7982da10dd07e9eb6f363d1cedf36912addebece5a134f98eca5b96d", func := "treillage/treillagelaw16.GatherRights", spec := "gatherRights", inPlace := ["internal/bytealg.IndexByteString"], unfollowed := true, recurses := true, named := ["treillage/name.words", "treillage/token.signs"], loops := true, apart := false, laid := [("treillage/name.words", laid_treillage_name_words), ("treillage/token.signs", laid_treillage_token_signs)], narrowed := true }
def GatherRightsUptoSaid : Prop := gatherRightsUptoRow.holds Tryz.pinned (OpenSpec.upto gatherRightsSpec)

/-- 'treillagelaw16.GatherMany', WHERE WHAT IT READS IS OF BULK AT MOST 1048576: true; the input reads as it did. -/
def gatherManyUptoRow : OpenClaim := { program := "ytkfihhagcimcmaagreatdoor", sum := "9f91f3cd7982da10dd07e9eb6f363d1cedf36912addebece5a134f98eca5b96d", func := "treillage/treillagelaw16.GatherMany", spec := "gatherMany", inPlace := ["internal/bytealg.IndexByteString"], unfollowed := true, recurses := true, named := ["treillage/name.words", "treillage/token.signs"], apart := false, laid := [("treillage/name.words", laid_treillage_name_words), ("treillage/token.signs", laid_treillage_token_signs)], narrowed := true }
def GatherManyUptoSaid : Prop := gatherManyUptoRow.holds Tryz.pinned (OpenSpec.upto gatherManySpec)

/-- 'treillagelaw22.KeyReads', WHERE WHAT IT READS IS OF BULK AT MOST 1048576: true; the input reads as it did. -/
def keyReadsUptoRow : OpenClaim := { program := "ytkfihhagcimcmaagreatdoor", sum := "9f91f3cd7982da10dd07e9eb6f363d1cedf36912addebece5a134f98eca5b96d", func := "treillage/treillagelaw22.KeyReads", spec := "keyReads", inPlace := ["internal/abi.NoEscape", "internal/bytealg.MakeNoZero", "internal/bytealg.IndexByteString", "internal/bytealg.IndexString"], unfollowed := true, recurses := true, named := ["treillage/name.words", "treillage/show.binds", "treillage/show.bools", "treillage/show.kinds", "treillage/show.signs", "internal/bytealg.MaxLen", "treillage/token.signs"], apart := false, laid := [("treillage/name.words", laid_treillage_name_words), ("treillage/token.signs", laid_treillage_token_signs), ("treillage/show.binds", laid_treillage_show_binds), ("treillage/show.signs", laid_treillage_show_signs), ("treillage/show.bools", laid_treillage_show_bools), ("treillage/show.kinds", laid_treillage_show_kinds)], narrowed := true }
def KeyReadsUptoSaid : Prop := keyReadsUptoRow.holds Tryz.pinned (OpenSpec.upto keyReadsSpec)

/-- 'treillagelaw22.KeyOnce', WHERE WHAT IT READS IS OF BULK AT MOST 1048576: true; the input reads as it did. -/
def keyOnceUptoRow : OpenClaim := { program := "ytkfihhagcimcmaagreatdoor", sum := "9f91f3cd7982da10dd07e9eb6f363d1cedf36912addebece5a134f98eca5b96d", func := "treillage/treillagelaw22.KeyOnce", spec := "keyOnce", inPlace := ["internal/abi.NoEscape", "internal/bytealg.MakeNoZero", "internal/bytealg.IndexByteString", "internal/bytealg.IndexString"], unfollowed := true, recurses := true, named := ["treillage/name.words", "treillage/show.binds", "treillage/show.bools", "treillage/show.kinds", "treillage/show.signs", "internal/bytealg.MaxLen", "treillage/token.signs"], loops := true, apart := false, laid := [("treillage/name.words", laid_treillage_name_words), ("treillage/token.signs", laid_treillage_token_signs), ("treillage/show.binds", laid_treillage_show_binds), ("treillage/show.signs", laid_treillage_show_signs), ("treillage/show.bools", laid_treillage_show_bools), ("treillage/show.kinds", laid_treillage_show_kinds)], narrowed := true }
def KeyOnceUptoSaid : Prop := keyOnceUptoRow.holds Tryz.pinned (OpenSpec.upto keyOnceSpec)

end Rows
end Go.Proofs.YtkfihhagcimcmaaGreatDoor
