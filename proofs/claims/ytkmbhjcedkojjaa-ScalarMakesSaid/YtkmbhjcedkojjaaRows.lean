/-
  NARROWER THAN 'FOR EVERY INPUT', by the rows' own cells (each row's printed sentence says how): ScalarRights: loops · ScalarMakes: loops · ScalarMeets: loops · ScalarOrder: loops · RankOrders: loops · RankTotal: loops · RankCopies: loops.
  DERIVED. THE GIVEN ROWS OF THIS SEAT. 7 by the template 'for every input the law returns true; each argument reads behind the call as it read before'; 0 by the template 'total and deterministic' (their statements: YtkmbhjcedkojjaaTotals.lean).
  GIVEN WITH THE SEED: the statements are not yours to turn. If you find one false, say at which input.
  Laid BY PROGRAM, IN A SANDBOX (cutbox-rows.mjs): the forced cells as the released guide's own fill.sh prints them over the translation b35d69c324fe4a1a… (all of the seat's roots in one cut). By AI agents, Wed Nov 11 2026. No macro, syntax, notation, axiom, sorry.
-/
import Derived.Test.YtkmbhjcedkojjaaChecked
import GoSem.Claim
import GoSem.ClaimJoined
import GoSem.ClaimMapViews
import Derived.JoinedTies
import Derived.KernelRfl
namespace Go.Proofs.Ytkmbhjcedkojjaa
/- THE CELL 'sum', in the pinned program and in every row, IS THE sha256 OF THE DUMP (.gsa) THAT YtkmbhjcedkojjaaProg.lean LOADS. Nothing in Lean hashes anything: it is a label: what it is worth is what the hold of that sum in a sandbox is worth. -/
noncomputable def Try.pinned : Pinned := { name := "ytkmbhjcedkojjaa", sum := "b35d69c324fe4a1aacd1f3b1ac4d203ca69ddeab577eeec01147ffe5cde889e9", checked := Try.checked }
namespace Rows
def none {H : Type} : Left H := { results := [], args := [] }

/-- 'treillagelaw07.ScalarRights': WHATEVER THE INPUT: true; the input reads as it did. -/
def scalarRightsSpec : ChangeSpec := { name := "scalarRights", fn := fun _ => fun
  | [d1, d2] => { results := [.lit (.bool true)], args := [d1, d2] }
  | _ => none }
def scalarRightsRow : OpenClaim := { program := "ytkmbhjcedkojjaa", sum := "b35d69c324fe4a1aacd1f3b1ac4d203ca69ddeab577eeec01147ffe5cde889e9", func := "treillage/treillagelaw07.ScalarRights", spec := "scalarRights", recurses := true, loops := true, apart := false }
def ScalarRightsSaid : Prop := scalarRightsRow.holds Try.pinned (OpenSpec.ofChange scalarRightsSpec)

/-- ITS FALSE NEIGHBOUR: 'it returns false'. Refute it at one input. -/
def scalarRightsWrong : ChangeSpec := { name := "scalarRights", fn := fun _ => fun
  | [d1, d2] => { results := [.lit (.bool false)], args := [d1, d2] }
  | _ => none }
def ScalarRightsWrongFalsely : Prop := scalarRightsRow.holds Try.pinned (OpenSpec.ofChange scalarRightsWrong)

/-- 'treillagelaw07.ScalarMakes': WHATEVER THE INPUT: true; the input reads as it did. -/
def scalarMakesSpec : ChangeSpec := { name := "scalarMakes", fn := fun _ => fun
  | [d1, d2, d3] => { results := [.lit (.bool true)], args := [d1, d2, d3] }
  | _ => none }
def scalarMakesRow : OpenClaim := { program := "ytkmbhjcedkojjaa", sum := "b35d69c324fe4a1aacd1f3b1ac4d203ca69ddeab577eeec01147ffe5cde889e9", func := "treillage/treillagelaw07.ScalarMakes", spec := "scalarMakes", recurses := true, loops := true, apart := false }
def ScalarMakesSaid : Prop := scalarMakesRow.holds Try.pinned (OpenSpec.ofChange scalarMakesSpec)

/-- ITS FALSE NEIGHBOUR: 'it returns false'. Refute it at one input. -/
def scalarMakesWrong : ChangeSpec := { name := "scalarMakes", fn := fun _ => fun
  | [d1, d2, d3] => { results := [.lit (.bool false)], args := [d1, d2, d3] }
  | _ => none }
def ScalarMakesWrongFalsely : Prop := scalarMakesRow.holds Try.pinned (OpenSpec.ofChange scalarMakesWrong)

/-- 'treillagelaw07.ScalarMeets': WHATEVER THE INPUT: true; the input reads as it did. -/
def scalarMeetsSpec : ChangeSpec := { name := "scalarMeets", fn := fun _ => fun
  | [d1, d2] => { results := [.lit (.bool true)], args := [d1, d2] }
  | _ => none }
def scalarMeetsRow : OpenClaim := { program := "ytkmbhjcedkojjaa", sum := "b35d69c324fe4a1aacd1f3b1ac4d203ca69ddeab577eeec01147ffe5cde889e9", func := "treillage/treillagelaw07.ScalarMeets", spec := "scalarMeets", recurses := true, loops := true, apart := false }
def ScalarMeetsSaid : Prop := scalarMeetsRow.holds Try.pinned (OpenSpec.ofChange scalarMeetsSpec)

/-- ITS FALSE NEIGHBOUR: 'it returns false'. Refute it at one input. -/
def scalarMeetsWrong : ChangeSpec := { name := "scalarMeets", fn := fun _ => fun
  | [d1, d2] => { results := [.lit (.bool false)], args := [d1, d2] }
  | _ => none }
def ScalarMeetsWrongFalsely : Prop := scalarMeetsRow.holds Try.pinned (OpenSpec.ofChange scalarMeetsWrong)

/-- 'treillagelaw07.ScalarOrder': WHATEVER THE INPUT: true; the input reads as it did. -/
def scalarOrderSpec : ChangeSpec := { name := "scalarOrder", fn := fun _ => fun
  | [d1, d2, d3] => { results := [.lit (.bool true)], args := [d1, d2, d3] }
  | _ => none }
def scalarOrderRow : OpenClaim := { program := "ytkmbhjcedkojjaa", sum := "b35d69c324fe4a1aacd1f3b1ac4d203ca69ddeab577eeec01147ffe5cde889e9", func := "treillage/treillagelaw07.ScalarOrder", spec := "scalarOrder", recurses := true, loops := true, apart := false }
def ScalarOrderSaid : Prop := scalarOrderRow.holds Try.pinned (OpenSpec.ofChange scalarOrderSpec)

/-- ITS FALSE NEIGHBOUR: 'it returns false'. Refute it at one input. -/
def scalarOrderWrong : ChangeSpec := { name := "scalarOrder", fn := fun _ => fun
  | [d1, d2, d3] => { results := [.lit (.bool false)], args := [d1, d2, d3] }
  | _ => none }
def ScalarOrderWrongFalsely : Prop := scalarOrderRow.holds Try.pinned (OpenSpec.ofChange scalarOrderWrong)

/-- 'treillagelaw08.RankOrders': WHATEVER THE INPUT: true; the input reads as it did. -/
def rankOrdersSpec : ChangeSpec := { name := "rankOrders", fn := fun _ => fun
  | [d1, d2] => { results := [.lit (.bool true)], args := [d1, d2] }
  | _ => none }
def rankOrdersRow : OpenClaim := { program := "ytkmbhjcedkojjaa", sum := "b35d69c324fe4a1aacd1f3b1ac4d203ca69ddeab577eeec01147ffe5cde889e9", func := "treillage/treillagelaw08.RankOrders", spec := "rankOrders", unfollowed := true, recurses := true, loops := true, apart := false }
def RankOrdersSaid : Prop := rankOrdersRow.holds Try.pinned (OpenSpec.ofChange rankOrdersSpec)

/-- ITS FALSE NEIGHBOUR: 'it returns false'. Refute it at one input. -/
def rankOrdersWrong : ChangeSpec := { name := "rankOrders", fn := fun _ => fun
  | [d1, d2] => { results := [.lit (.bool false)], args := [d1, d2] }
  | _ => none }
def RankOrdersWrongFalsely : Prop := rankOrdersRow.holds Try.pinned (OpenSpec.ofChange rankOrdersWrong)

/-- 'treillagelaw08.RankTotal': WHATEVER THE INPUT: true; the input reads as it did. -/
def rankTotalSpec : ChangeSpec := { name := "rankTotal", fn := fun _ => fun
  | [d1, d2, d3] => { results := [.lit (.bool true)], args := [d1, d2, d3] }
  | _ => none }
def rankTotalRow : OpenClaim := { program := "ytkmbhjcedkojjaa", sum := "b35d69c324fe4a1aacd1f3b1ac4d203ca69ddeab577eeec01147ffe5cde889e9", func := "treillage/treillagelaw08.RankTotal", spec := "rankTotal", unfollowed := true, recurses := true, loops := true, apart := false }
def RankTotalSaid : Prop := rankTotalRow.holds Try.pinned (OpenSpec.ofChange rankTotalSpec)

/-- ITS FALSE NEIGHBOUR: 'it returns false'. Refute it at one input. -/
def rankTotalWrong : ChangeSpec := { name := "rankTotal", fn := fun _ => fun
  | [d1, d2, d3] => { results := [.lit (.bool false)], args := [d1, d2, d3] }
  | _ => none }
def RankTotalWrongFalsely : Prop := rankTotalRow.holds Try.pinned (OpenSpec.ofChange rankTotalWrong)

/-- 'treillagelaw08.RankCopies': WHATEVER THE INPUT: true; the input reads as it did. -/
def rankCopiesSpec : ChangeSpec := { name := "rankCopies", fn := fun _ => fun
  | [d] => { results := [.lit (.bool true)], args := [d] }
  | _ => none }
def rankCopiesRow : OpenClaim := { program := "ytkmbhjcedkojjaa", sum := "b35d69c324fe4a1aacd1f3b1ac4d203ca69ddeab577eeec01147ffe5cde889e9", func := "treillage/treillagelaw08.RankCopies", spec := "rankCopies", unfollowed := true, recurses := true, loops := true, apart := false }
def RankCopiesSaid : Prop := rankCopiesRow.holds Try.pinned (OpenSpec.ofChange rankCopiesSpec)

/-- ITS FALSE NEIGHBOUR: 'it returns false'. Refute it at one input. -/
def rankCopiesWrong : ChangeSpec := { name := "rankCopies", fn := fun _ => fun
  | [d] => { results := [.lit (.bool false)], args := [d] }
  | _ => none }
def RankCopiesWrongFalsely : Prop := rankCopiesRow.holds Try.pinned (OpenSpec.ofChange rankCopiesWrong)

/- THE SECOND FORM. 'bulk': how many values and letters a reading holds, each counted each time it is reached (what is shared counts as often as it is met; a slice's spare places count too). A statement '..UptoSaid' is the law's where the arguments, and the package variables that the reading takes, are together of bulk at most 1048576: NARROWER than '..Said'. Prove '..Said' where nothing that the law and all that it calls make is longer than what came in: it says more and counts as full. Else prove '..UptoSaid'. A law counts once. -/
mutual
def uptoBulk {H : Type} : DataW H → Nat
  | .lit (.string bytes) => bytes.length + 1
  | .lit _ => 1
  | .nil => 1
  | .ptr d => uptoBulk d + 1
  | .slice elems spare => uptoBulkAll elems + uptoBulkAll spare + 1
  | .agg parts => uptoBulkAll parts + 1
  | .iface _ d => uptoBulk d + 1
  | .map entries => uptoBulkEntries entries + 1
  | .held _ => 1
def uptoBulkAll {H : Type} : List (DataW H) → Nat
  | [] => 0
  | d :: r => uptoBulk d + uptoBulkAll r
def uptoBulkEntries {H : Type} : List (Lit × DataW H) → Nat
  | [] => 0
  | x :: r => uptoBulkEntry x + uptoBulkEntries r
def uptoBulkEntry {H : Type} : Lit × DataW H → Nat
  | (.string bytes, d) => bytes.length + uptoBulk d + 1
  | (_, d) => uptoBulk d + 1
 end
def uptoSmall : (H : Type) → List (DataW H) → Bool := fun _ ds => decide (uptoBulkAll ds ≤ 1048576)
def OpenSpec.upto (s : _root_.Go.ChangeSpec) : _root_.Go.OpenSpec := { _root_.Go.OpenSpec.ofChange s with cond := some uptoSmall }

/-- 'treillagelaw07.ScalarRights', WHERE WHAT IT READS IS OF BULK AT MOST 1048576: true; the input reads as it did. -/
def scalarRightsUptoRow : OpenClaim := { program := "ytkmbhjcedkojjaa", sum := "b35d69c324fe4a1aacd1f3b1ac4d203ca69ddeab577eeec01147ffe5cde889e9", func := "treillage/treillagelaw07.ScalarRights", spec := "scalarRights", recurses := true, loops := true, apart := false, narrowed := true }
def ScalarRightsUptoSaid : Prop := scalarRightsUptoRow.holds Try.pinned (OpenSpec.upto scalarRightsSpec)

/-- 'treillagelaw07.ScalarMakes', WHERE WHAT IT READS IS OF BULK AT MOST 1048576: true; the input reads as it did. -/
def scalarMakesUptoRow : OpenClaim := { program := "ytkmbhjcedkojjaa", sum := "b35d69c324fe4a1aacd1f3b1ac4d203ca69ddeab577eeec01147ffe5cde889e9", func := "treillage/treillagelaw07.ScalarMakes", spec := "scalarMakes", recurses := true, loops := true, apart := false, narrowed := true }
def ScalarMakesUptoSaid : Prop := scalarMakesUptoRow.holds Try.pinned (OpenSpec.upto scalarMakesSpec)

/-- 'treillagelaw07.ScalarMeets', WHERE WHAT IT READS IS OF BULK AT MOST 1048576: true; the input reads as it did. -/
def scalarMeetsUptoRow : OpenClaim := { program := "ytkmbhjcedkojjaa", sum := "b35d69c324fe4a1aacd1f3b1ac4d203ca69ddeab577eeec01147ffe5cde889e9", func := "treillage/treillagelaw07.ScalarMeets", spec := "scalarMeets", recurses := true, loops := true, apart := false, narrowed := true }
def ScalarMeetsUptoSaid : Prop := scalarMeetsUptoRow.holds Try.pinned (OpenSpec.upto scalarMeetsSpec)

/-- 'treillagelaw07.ScalarOrder', WHERE WHAT IT READS IS OF BULK AT MOST 1048576: true; the input reads as it did. -/
def scalarOrderUptoRow : OpenClaim := { program := "ytkmbhjcedkojjaa", sum := "b35d69c324fe4a1aacd1f3b1ac4d203ca69ddeab577eeec01147ffe5cde889e9", func := "treillage/treillagelaw07.ScalarOrder", spec := "scalarOrder", recurses := true, loops := true, apart := false, narrowed := true }
def ScalarOrderUptoSaid : Prop := scalarOrderUptoRow.holds Try.pinned (OpenSpec.upto scalarOrderSpec)

/-- 'treillagelaw08.RankOrders', WHERE WHAT IT READS IS OF BULK AT MOST 1048576: true; the input reads as it did. -/
def rankOrdersUptoRow : OpenClaim := { program := "ytkmbhjcedkojjaa", sum := "b35d69c324fe4a1aacd1f3b1ac4d203ca69ddeab577eeec01147ffe5cde889e9", func := "treillage/treillagelaw08.RankOrders", spec := "rankOrders", unfollowed := true, recurses := true, loops := true, apart := false, narrowed := true }
def RankOrdersUptoSaid : Prop := rankOrdersUptoRow.holds Try.pinned (OpenSpec.upto rankOrdersSpec)

/-- 'treillagelaw08.RankTotal', WHERE WHAT IT READS IS OF BULK AT MOST 1048576: true; the input reads as it did. -/
def rankTotalUptoRow : OpenClaim := { program := "ytkmbhjcedkojjaa", sum := "b35d69c324fe4a1aacd1f3b1ac4d203ca69ddeab577eeec01147ffe5cde889e9", func := "treillage/treillagelaw08.RankTotal", spec := "rankTotal", unfollowed := true, recurses := true, loops := true, apart := false, narrowed := true }
def RankTotalUptoSaid : Prop := rankTotalUptoRow.holds Try.pinned (OpenSpec.upto rankTotalSpec)

/-- 'treillagelaw08.RankCopies', WHERE WHAT IT READS IS OF BULK AT MOST 1048576: true; the input reads as it did. -/
def rankCopiesUptoRow : OpenClaim := { program := "ytkmbhjcedkojjaa", sum := "b35d69c324fe4a1aacd1f3b1ac4d203ca69ddeab577eeec01147ffe5cde889e9", func := "treillage/treillagelaw08.RankCopies", spec := "rankCopies", unfollowed := true, recurses := true, loops := true, apart := false, narrowed := true }
def RankCopiesUptoSaid : Prop := rankCopiesUptoRow.holds Try.pinned (OpenSpec.upto rankCopiesSpec)

end Rows
end Go.Proofs.Ytkmbhjcedkojjaa
