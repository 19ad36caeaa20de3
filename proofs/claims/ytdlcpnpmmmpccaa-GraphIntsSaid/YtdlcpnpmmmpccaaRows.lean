/-
  NARROWER THAN 'FOR EVERY INPUT', by the rows' own cells (each row's printed sentence says how): RefsTell: loops · RefsHang: loops · RefsApart: loops.
  DERIVED. THE GIVEN ROWS OF THIS SEAT. 7 by the template 'for every input the law returns true; each argument reads behind the call as it read before'; 0 by the template 'total and deterministic' (their statements: YtdlcpnpmmmpccaaTotals.lean).
  GIVEN WITH THE SEED: the statements are not yours to turn. If you find one false, say at which input.
  Laid BY PROGRAM, IN A SANDBOX (cutbox-rows.mjs): the forced cells as the released guide's own fill.sh prints them over the translation 3a04a4089e0e581e… (all of the seat's roots in one cut). By AI agents, Wed Nov 11 2026. No macro, syntax, notation, axiom, sorry.
-/
import Derived.Test.YtdlcpnpmmmpccaaChecked
import GoSem.Claim
import GoSem.ClaimJoined
import GoSem.ClaimMapViews
import Derived.JoinedTies
import Derived.KernelRfl
namespace Go.Proofs.Ytdlcpnpmmmpccaa
/- THE CELL 'sum', in the pinned program and in every row, IS THE sha256 OF THE DUMP (.gsa) THAT YtdlcpnpmmmpccaaProg.lean LOADS. Nothing in Lean hashes anything: it is a label: what it is worth is what the hold of that sum in a sandbox is worth. -/
noncomputable def Try.pinned : Pinned := { name := "ytdlcpnpmmmpccaa", sum := "3a04a4089e0e581e0abfea33c679a9715346304f7730fce643311c5b1e339e92", checked := Try.checked }
namespace Rows
def none {H : Type} : Left H := { results := [], args := [] }

/-- 'treillagelaw17.GraphTells': WHATEVER THE INPUT: true; the input reads as it did. -/
def graphTellsSpec : ChangeSpec := { name := "graphTells", fn := fun _ => fun
  | [d1, d2, d3] => { results := [.lit (.bool true)], args := [d1, d2, d3] }
  | _ => none }
def graphTellsRow : OpenClaim := { program := "ytdlcpnpmmmpccaa", sum := "3a04a4089e0e581e0abfea33c679a9715346304f7730fce643311c5b1e339e92", func := "treillage/treillagelaw17.GraphTells", spec := "graphTells", unfollowed := true, recurses := true, apart := false }
def GraphTellsSaid : Prop := graphTellsRow.holds Try.pinned (OpenSpec.ofChange graphTellsSpec)

/-- ITS FALSE NEIGHBOUR: 'it returns false'. Refute it at one input. -/
def graphTellsWrong : ChangeSpec := { name := "graphTells", fn := fun _ => fun
  | [d1, d2, d3] => { results := [.lit (.bool false)], args := [d1, d2, d3] }
  | _ => none }
def GraphTellsWrongFalsely : Prop := graphTellsRow.holds Try.pinned (OpenSpec.ofChange graphTellsWrong)

/-- 'treillagelaw17.GraphReaches': WHATEVER THE INPUT: true; the input reads as it did. -/
def graphReachesSpec : ChangeSpec := { name := "graphReaches", fn := fun _ => fun
  | [d1, d2, d3] => { results := [.lit (.bool true)], args := [d1, d2, d3] }
  | _ => none }
def graphReachesRow : OpenClaim := { program := "ytdlcpnpmmmpccaa", sum := "3a04a4089e0e581e0abfea33c679a9715346304f7730fce643311c5b1e339e92", func := "treillage/treillagelaw17.GraphReaches", spec := "graphReaches", unfollowed := true, recurses := true, apart := false }
def GraphReachesSaid : Prop := graphReachesRow.holds Try.pinned (OpenSpec.ofChange graphReachesSpec)

/-- ITS FALSE NEIGHBOUR: 'it returns false'. Refute it at one input. -/
def graphReachesWrong : ChangeSpec := { name := "graphReaches", fn := fun _ => fun
  | [d1, d2, d3] => { results := [.lit (.bool false)], args := [d1, d2, d3] }
  | _ => none }
def GraphReachesWrongFalsely : Prop := graphReachesRow.holds Try.pinned (OpenSpec.ofChange graphReachesWrong)

/-- 'treillagelaw17.GraphOrders': WHATEVER THE INPUT: true; the input reads as it did. -/
def graphOrdersSpec : ChangeSpec := { name := "graphOrders", fn := fun _ => fun
  | [d1, d2] => { results := [.lit (.bool true)], args := [d1, d2] }
  | _ => none }
def graphOrdersRow : OpenClaim := { program := "ytdlcpnpmmmpccaa", sum := "3a04a4089e0e581e0abfea33c679a9715346304f7730fce643311c5b1e339e92", func := "treillage/treillagelaw17.GraphOrders", spec := "graphOrders", unfollowed := true, recurses := true, apart := false }
def GraphOrdersSaid : Prop := graphOrdersRow.holds Try.pinned (OpenSpec.ofChange graphOrdersSpec)

/-- ITS FALSE NEIGHBOUR: 'it returns false'. Refute it at one input. -/
def graphOrdersWrong : ChangeSpec := { name := "graphOrders", fn := fun _ => fun
  | [d1, d2] => { results := [.lit (.bool false)], args := [d1, d2] }
  | _ => none }
def GraphOrdersWrongFalsely : Prop := graphOrdersRow.holds Try.pinned (OpenSpec.ofChange graphOrdersWrong)

/-- 'treillagelaw17.GraphInts': WHATEVER THE INPUT: true; the input reads as it did. -/
def graphIntsSpec : ChangeSpec := { name := "graphInts", fn := fun _ => fun
  | [d] => { results := [.lit (.bool true)], args := [d] }
  | _ => none }
def graphIntsRow : OpenClaim := { program := "ytdlcpnpmmmpccaa", sum := "3a04a4089e0e581e0abfea33c679a9715346304f7730fce643311c5b1e339e92", func := "treillage/treillagelaw17.GraphInts", spec := "graphInts", unfollowed := true, recurses := true, apart := false }
def GraphIntsSaid : Prop := graphIntsRow.holds Try.pinned (OpenSpec.ofChange graphIntsSpec)

/-- ITS FALSE NEIGHBOUR: 'it returns false'. Refute it at one input. -/
def graphIntsWrong : ChangeSpec := { name := "graphInts", fn := fun _ => fun
  | [d] => { results := [.lit (.bool false)], args := [d] }
  | _ => none }
def GraphIntsWrongFalsely : Prop := graphIntsRow.holds Try.pinned (OpenSpec.ofChange graphIntsWrong)

/-- 'treillagelaw18.RefsTell': WHATEVER THE INPUT: true; the input reads as it did. -/
def refsTellSpec : ChangeSpec := { name := "refsTell", fn := fun _ => fun
  | [d] => { results := [.lit (.bool true)], args := [d] }
  | _ => none }
def refsTellRow : OpenClaim := { program := "ytdlcpnpmmmpccaa", sum := "3a04a4089e0e581e0abfea33c679a9715346304f7730fce643311c5b1e339e92", func := "treillage/treillagelaw18.RefsTell", spec := "refsTell", unfollowed := true, recurses := true, loops := true, apart := false }
def RefsTellSaid : Prop := refsTellRow.holds Try.pinned (OpenSpec.ofChange refsTellSpec)

/-- ITS FALSE NEIGHBOUR: 'it returns false'. Refute it at one input. -/
def refsTellWrong : ChangeSpec := { name := "refsTell", fn := fun _ => fun
  | [d] => { results := [.lit (.bool false)], args := [d] }
  | _ => none }
def RefsTellWrongFalsely : Prop := refsTellRow.holds Try.pinned (OpenSpec.ofChange refsTellWrong)

/-- 'treillagelaw18.RefsHang': WHATEVER THE INPUT: true; the input reads as it did. -/
def refsHangSpec : ChangeSpec := { name := "refsHang", fn := fun _ => fun
  | [d1, d2, d3] => { results := [.lit (.bool true)], args := [d1, d2, d3] }
  | _ => none }
def refsHangRow : OpenClaim := { program := "ytdlcpnpmmmpccaa", sum := "3a04a4089e0e581e0abfea33c679a9715346304f7730fce643311c5b1e339e92", func := "treillage/treillagelaw18.RefsHang", spec := "refsHang", unfollowed := true, recurses := true, loops := true, apart := false }
def RefsHangSaid : Prop := refsHangRow.holds Try.pinned (OpenSpec.ofChange refsHangSpec)

/-- ITS FALSE NEIGHBOUR: 'it returns false'. Refute it at one input. -/
def refsHangWrong : ChangeSpec := { name := "refsHang", fn := fun _ => fun
  | [d1, d2, d3] => { results := [.lit (.bool false)], args := [d1, d2, d3] }
  | _ => none }
def RefsHangWrongFalsely : Prop := refsHangRow.holds Try.pinned (OpenSpec.ofChange refsHangWrong)

/-- 'treillagelaw18.RefsApart': WHATEVER THE INPUT: true; the input reads as it did. -/
def refsApartSpec : ChangeSpec := { name := "refsApart", fn := fun _ => fun
  | [d] => { results := [.lit (.bool true)], args := [d] }
  | _ => none }
def refsApartRow : OpenClaim := { program := "ytdlcpnpmmmpccaa", sum := "3a04a4089e0e581e0abfea33c679a9715346304f7730fce643311c5b1e339e92", func := "treillage/treillagelaw18.RefsApart", spec := "refsApart", unfollowed := true, recurses := true, loops := true, apart := false }
def RefsApartSaid : Prop := refsApartRow.holds Try.pinned (OpenSpec.ofChange refsApartSpec)

/-- ITS FALSE NEIGHBOUR: 'it returns false'. Refute it at one input. -/
def refsApartWrong : ChangeSpec := { name := "refsApart", fn := fun _ => fun
  | [d] => { results := [.lit (.bool false)], args := [d] }
  | _ => none }
def RefsApartWrongFalsely : Prop := refsApartRow.holds Try.pinned (OpenSpec.ofChange refsApartWrong)

/- THE SECOND FORM. 'bulk': how many values and letters a reading holds, each counted each time it is reached (what is shared counts as often as it is met; a slice's spare places count too). A statement '..UptoSaid' is the law's where the arguments, and the package variables that the reading takes, are together of bulk at most 1048576: NARROWER than '..Said'. Prove '..Said' where nothing that the law and all that it calls make is longer than what came in: it says more and counts as full. Else prove '..UptoSaid'. A law counts once. -/
mutual
def uptoBulk {H : Type} : DataW H → Nat
  | .lit (.string bytes) => bytes.length + 1
  | .lit _ => 1
  | .nil => 1
  | .ptr d => uptoBulk d + 1
  | .slice elems spare => uptoBulkAll elems + uptoBulkAll spare + 1
  | .agg parts => uptoBulkAll parts + 1
  | .iface _ d => uptoBulk d + 1
  | .map entries => uptoBulkEntries entries + 1
  | .held _ => 1
def uptoBulkAll {H : Type} : List (DataW H) → Nat
  | [] => 0
  | d :: r => uptoBulk d + uptoBulkAll r
def uptoBulkEntries {H : Type} : List (Lit × DataW H) → Nat
  | [] => 0
  | x :: r => uptoBulkEntry x + uptoBulkEntries r
def uptoBulkEntry {H : Type} : Lit × DataW H → Nat
  | (.string bytes, d) => bytes.length + uptoBulk d + 1
  | (_, d) => uptoBulk d + 1
 end
def uptoSmall : (H : Type) → List (DataW H) → Bool := fun _ ds => decide (uptoBulkAll ds ≤ 1048576)
def OpenSpec.upto (s : _root_.Go.ChangeSpec) : _root_.Go.OpenSpec := { _root_.Go.OpenSpec.ofChange s with cond := some uptoSmall }

/-- 'treillagelaw17.GraphTells', WHERE WHAT IT READS IS OF BULK AT MOST 1048576: true; the input reads as it did. -/
def graphTellsUptoRow : OpenClaim := { program := "ytdlcpnpmmmpccaa", sum := "3a04a4089e0e581e0abfea33c679a9715346304f7730fce643311c5b1e339e92", func := "treillage/treillagelaw17.GraphTells", spec := "graphTells", unfollowed := true, recurses := true, apart := false, narrowed := true }
def GraphTellsUptoSaid : Prop := graphTellsUptoRow.holds Try.pinned (OpenSpec.upto graphTellsSpec)

/-- 'treillagelaw17.GraphReaches', WHERE WHAT IT READS IS OF BULK AT MOST 1048576: true; the input reads as it did. -/
def graphReachesUptoRow : OpenClaim := { program := "ytdlcpnpmmmpccaa", sum := "3a04a4089e0e581e0abfea33c679a9715346304f7730fce643311c5b1e339e92", func := "treillage/treillagelaw17.GraphReaches", spec := "graphReaches", unfollowed := true, recurses := true, apart := false, narrowed := true }
def GraphReachesUptoSaid : Prop := graphReachesUptoRow.holds Try.pinned (OpenSpec.upto graphReachesSpec)

/-- 'treillagelaw17.GraphOrders', WHERE WHAT IT READS IS OF BULK AT MOST 1048576: true; the input reads as it did. -/
def graphOrdersUptoRow : OpenClaim := { program := "ytdlcpnpmmmpccaa", sum := "3a04a4089e0e581e0abfea33c679a9715346304f7730fce643311c5b1e339e92", func := "treillage/treillagelaw17.GraphOrders", spec := "graphOrders", unfollowed := true, recurses := true, apart := false, narrowed := true }
def GraphOrdersUptoSaid : Prop := graphOrdersUptoRow.holds Try.pinned (OpenSpec.upto graphOrdersSpec)

/-- 'treillagelaw17.GraphInts', WHERE WHAT IT READS IS OF BULK AT MOST 1048576: true; the input reads as it did. -/
def graphIntsUptoRow : OpenClaim := { program := "ytdlcpnpmmmpccaa", sum := "3a04a4089e0e581e0abfea33c679a9715346304f7730fce643311c5b1e339e92", func := "treillage/treillagelaw17.GraphInts", spec := "graphInts", unfollowed := true, recurses := true, apart := false, narrowed := true }
def GraphIntsUptoSaid : Prop := graphIntsUptoRow.holds Try.pinned (OpenSpec.upto graphIntsSpec)

/-- 'treillagelaw18.RefsTell', WHERE WHAT IT READS IS OF BULK AT MOST 1048576: true; the input reads as it did. -/
def refsTellUptoRow : OpenClaim := { program := "ytdlcpnpmmmpccaa", sum := "3a04a4089e0e581e0abfea33c679a9715346304f7730fce643311c5b1e339e92", func := "treillage/treillagelaw18.RefsTell", spec := "refsTell", unfollowed := true, recurses := true, loops := true, apart := false, narrowed := true }
def RefsTellUptoSaid : Prop := refsTellUptoRow.holds Try.pinned (OpenSpec.upto refsTellSpec)

/-- 'treillagelaw18.RefsHang', WHERE WHAT IT READS IS OF BULK AT MOST 1048576: true; the input reads as it did. -/
def refsHangUptoRow : OpenClaim := { program := "ytdlcpnpmmmpccaa", sum := "3a04a4089e0e581e0abfea33c679a9715346304f7730fce643311c5b1e339e92", func := "treillage/treillagelaw18.RefsHang", spec := "refsHang", unfollowed := true, recurses := true, loops := true, apart := false, narrowed := true }
def RefsHangUptoSaid : Prop := refsHangUptoRow.holds Try.pinned (OpenSpec.upto refsHangSpec)

/-- 'treillagelaw18.RefsApart', WHERE WHAT IT READS IS OF BULK AT MOST 1048576: true; the input reads as it did. -/
def refsApartUptoRow : OpenClaim := { program := "ytdlcpnpmmmpccaa", sum := "3a04a4089e0e581e0abfea33c679a9715346304f7730fce643311c5b1e339e92", func := "treillage/treillagelaw18.RefsApart", spec := "refsApart", unfollowed := true, recurses := true, loops := true, apart := false, narrowed := true }
def RefsApartUptoSaid : Prop := refsApartUptoRow.holds Try.pinned (OpenSpec.upto refsApartSpec)

end Rows
end Go.Proofs.Ytdlcpnpmmmpccaa
