/- PLAIN MATHEMATICS of records: the record of a text, what stands at a place of a text. And: what a call alone leaves, a call that may leave others leaves too. -/
import Derived.Test.YtnejahfeafllkaaE
import Derived.Test.YtnejahfeafllkaaL
import Derived.Test.YtnejahfeafllkaaT
import Derived.Test.YtnejahfeafllkaaCa
import Derived.Conc.LeavingOf
import Derived.Leaving
namespace Go.Proofs.Ytnejahfeafllkaa
open Go.RowKit
theorem leaving_of_handed {a : Assume} {C : Checked} {os : Os} {f : FuncId} {r : Reach} {Pre : World → Array Value → Prop} {Post : World → Array Value → Value → World → Prop}
    (h : ReturnsInHanded a C os f r Pre Post) : ReturnsInLeavingWide a C os f r Pre Post := fun enter =>
  ReturnsInOpen.mono (fun _ _ _ x => ⟨x.2.1, onlyLeaving_of_quiet x.1, x.2.2⟩) (fun _ x => x) (h enter)
/-- The front of a record: 165, the length, the text. -/
def rfr (s : ByteArray) : ByteArray := ⟨#[165]⟩ ++ txtS s
/-- The record of a text. -/
def rec (s : ByteArray) : ByteArray := rfr s ++ markS (rfr s)
/-- What stands at a place, behind the mark: by what the length is. -/
def nxB (s : ByteArray) (p : Nat) (g : Nat × Nat × Nat) : ByteArray × Nat × Nat :=
  if g.1 ≠ 0 then (⟨#[]⟩, 0, g.1)
  else if 65536 < g.2.1 then (⟨#[]⟩, 0, 4)
  else if s.size < p + 1 + g.2.2 + g.2.1 + 4 then (⟨#[]⟩, 0, 3)
  else if markS (s.extract p (p + 1 + g.2.2 + g.2.1)) ≠ s.extract (p + 1 + g.2.2 + g.2.1) (p + 1 + g.2.2 + g.2.1 + 4) then (⟨#[]⟩, 0, 7)
  else (s.extract (p + 1 + g.2.2) (p + 1 + g.2.2 + g.2.1), p + 1 + g.2.2 + g.2.1 + 4, 0)
/-- What stands at a place: the text, the place behind it, which error. -/
def nx (s : ByteArray) (p : Nat) : ByteArray × Nat × Nat :=
  if p = s.size then (⟨#[]⟩, 0, 5)
  else if s.data.toList.getD p 0 ≠ 165 then (⟨#[]⟩, 0, 2)
  else nxB s p (gets (s.data.toList.drop (p + 1)))
theorem rest_is (s : ByteArray) (p : Nat) : (s.extract p s.size).data.toList = s.data.toList.drop p := by
  rw [Lib.extract_data]; exact List.take_of_length_le (by simp)
theorem gets_len {L : List UInt8} {n c : Nat} (h : gets L = (0, n, c)) : c ≤ L.length := (gets_back h).2.2
/-- A part of a part. -/
theorem part_part (s : ByteArray) (a b c d : Nat) (h : a + d ≤ b) : (s.extract a b).extract c d = s.extract (a + c) (a + d) := by
  apply ByteArray.ext
  apply Array.toList_inj.1
  rw [Lib.extract_data, Lib.extract_data, Lib.extract_data]
  rw [List.drop_take, List.drop_drop, List.take_take]
  congr 1
  omega
end Go.Proofs.Ytnejahfeafllkaa
