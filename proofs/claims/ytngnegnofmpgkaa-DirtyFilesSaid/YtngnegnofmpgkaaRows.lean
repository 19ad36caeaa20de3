/-
  NARROWER THAN 'FOR EVERY INPUT', by the rows' own cells (each row's printed sentence says how): DirtyNames: loops.
  DERIVED. THE GIVEN ROWS OF THIS SEAT. 2 by the template 'for every input the law returns true; each argument reads behind the call as it read before'; 0 by the template 'total and deterministic' (their statements: YtngnegnofmpgkaaTotals.lean).
  GIVEN WITH THE SEED: the statements are not yours to turn. If you find one false, say at which input.
  Laid BY PROGRAM, IN A SANDBOX (cutbox-rows.mjs): the forced cells as the released guide's own fill.sh prints them over the translation 753c4773d26c30a2… (all of the seat's roots in one cut). By AI agents, Wed Nov 11 2026. No macro, syntax, notation, axiom, sorry.
-/
import Derived.Test.YtngnegnofmpgkaaChecked
import GoSem.Claim
import GoSem.ClaimJoined
import GoSem.ClaimMapViews
import Derived.JoinedTies
import Derived.KernelRfl
namespace Go.Proofs.Ytngnegnofmpgkaa
/- THE CELL 'sum', in the pinned program and in every row, IS THE sha256 OF THE DUMP (.gsa) THAT YtngnegnofmpgkaaProg.lean LOADS. Nothing in Lean hashes anything: it is a label: what it is worth is what the hold of that sum in a sandbox is worth. -/
noncomputable def Try.pinned : Pinned := { name := "ytngnegnofmpgkaa", sum := "753c4773d26c30a22f41f4e90050526abb38388b837d7be7ce532ba49765d823", checked := Try.checked }
namespace Rows
def none {H : Type} : Left H := { results := [], args := [] }

/-- 'treillagelaw27.DirtyFiles': WHATEVER THE INPUT: true; the input reads as it did. -/
def dirtyFilesSpec : ChangeSpec := { name := "dirtyFiles", fn := fun _ => fun
  | [d1, d2] => { results := [.lit (.bool true)], args := [d1, d2] }
  | _ => none }
def dirtyFilesRow : OpenClaim := { program := "ytngnegnofmpgkaa", sum := "753c4773d26c30a22f41f4e90050526abb38388b837d7be7ce532ba49765d823", func := "treillage/treillagelaw27.DirtyFiles", spec := "dirtyFiles", unfollowed := true, recurses := true, apart := false }
def DirtyFilesSaid : Prop := dirtyFilesRow.holds Try.pinned (OpenSpec.ofChange dirtyFilesSpec)

/-- ITS FALSE NEIGHBOUR: 'it returns false'. Refute it at one input. -/
def dirtyFilesWrong : ChangeSpec := { name := "dirtyFiles", fn := fun _ => fun
  | [d1, d2] => { results := [.lit (.bool false)], args := [d1, d2] }
  | _ => none }
def DirtyFilesWrongFalsely : Prop := dirtyFilesRow.holds Try.pinned (OpenSpec.ofChange dirtyFilesWrong)

/-- 'treillagelaw27.DirtyNames': WHATEVER THE INPUT: true; the input reads as it did. -/
def dirtyNamesSpec : ChangeSpec := { name := "dirtyNames", fn := fun _ => fun
  | [d1, d2] => { results := [.lit (.bool true)], args := [d1, d2] }
  | _ => none }
def dirtyNamesRow : OpenClaim := { program := "ytngnegnofmpgkaa", sum := "753c4773d26c30a22f41f4e90050526abb38388b837d7be7ce532ba49765d823", func := "treillage/treillagelaw27.DirtyNames", spec := "dirtyNames", unfollowed := true, recurses := true, loops := true, apart := false }
def DirtyNamesSaid : Prop := dirtyNamesRow.holds Try.pinned (OpenSpec.ofChange dirtyNamesSpec)

/-- ITS FALSE NEIGHBOUR: 'it returns false'. Refute it at one input. -/
def dirtyNamesWrong : ChangeSpec := { name := "dirtyNames", fn := fun _ => fun
  | [d1, d2] => { results := [.lit (.bool false)], args := [d1, d2] }
  | _ => none }
def DirtyNamesWrongFalsely : Prop := dirtyNamesRow.holds Try.pinned (OpenSpec.ofChange dirtyNamesWrong)

/- THE SECOND FORM. 'bulk': how many values and letters a reading holds, each counted each time it is reached (what is shared counts as often as it is met; a slice's spare places count too). A statement '..UptoSaid' is the law's where the arguments, and the package variables that the reading takes, are together of bulk at most 1048576: NARROWER than '..Said'. Prove '..Said' where nothing that the law and all that it calls make is longer than what came in: it says more and counts as full. Else prove '..UptoSaid'. A law counts once. -/
mutual
def uptoBulk {H : Type} : DataW H → Nat
  | .lit (.string bytes) => bytes.length + 1
  | .lit _ => 1
  | .nil => 1
  | .ptr d => uptoBulk d + 1
  | .slice elems spare => uptoBulkAll elems + uptoBulkAll spare + 1
  | .agg parts => uptoBulkAll parts + 1
  | .iface _ d => uptoBulk d + 1
  | .map entries => uptoBulkEntries entries + 1
  | .held _ => 1
def uptoBulkAll {H : Type} : List (DataW H) → Nat
  | [] => 0
  | d :: r => uptoBulk d + uptoBulkAll r
def uptoBulkEntries {H : Type} : List (Lit × DataW H) → Nat
  | [] => 0
  | x :: r => uptoBulkEntry x + uptoBulkEntries r
def uptoBulkEntry {H : Type} : Lit × DataW H → Nat
  | (.string bytes, d) => bytes.length + uptoBulk d + 1
  | (_, d) => uptoBulk d + 1
 end
def uptoSmall : (H : Type) → List (DataW H) → Bool := fun _ ds => decide (uptoBulkAll ds ≤ 1048576)
def OpenSpec.upto (s : _root_.Go.ChangeSpec) : _root_.Go.OpenSpec := { _root_.Go.OpenSpec.ofChange s with cond := some uptoSmall }

/-- 'treillagelaw27.DirtyFiles', WHERE WHAT IT READS IS OF BULK AT MOST 1048576: true; the input reads as it did. -/
def dirtyFilesUptoRow : OpenClaim := { program := "ytngnegnofmpgkaa", sum := "753c4773d26c30a22f41f4e90050526abb38388b837d7be7ce532ba49765d823", func := "treillage/treillagelaw27.DirtyFiles", spec := "dirtyFiles", unfollowed := true, recurses := true, apart := false, narrowed := true }
def DirtyFilesUptoSaid : Prop := dirtyFilesUptoRow.holds Try.pinned (OpenSpec.upto dirtyFilesSpec)

/-- 'treillagelaw27.DirtyNames', WHERE WHAT IT READS IS OF BULK AT MOST 1048576: true; the input reads as it did. -/
def dirtyNamesUptoRow : OpenClaim := { program := "ytngnegnofmpgkaa", sum := "753c4773d26c30a22f41f4e90050526abb38388b837d7be7ce532ba49765d823", func := "treillage/treillagelaw27.DirtyNames", spec := "dirtyNames", unfollowed := true, recurses := true, loops := true, apart := false, narrowed := true }
def DirtyNamesUptoSaid : Prop := dirtyNamesUptoRow.holds Try.pinned (OpenSpec.upto dirtyNamesSpec)

end Rows
end Go.Proofs.Ytngnegnofmpgkaa
