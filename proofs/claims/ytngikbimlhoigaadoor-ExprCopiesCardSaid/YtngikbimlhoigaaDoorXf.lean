/- THE INVARIANT of plain. -/
import Derived.Test.YtngikbimlhoigaaDoorXe
import Derived.Test.YtngikbimlhoigaaDoorWd
import Derived.Test.YtngikbimlhoigaaDoorUa
import Derived.Maps.AppendAt
namespace Go.Proofs.YtngikbimlhoigaaDoor
open Go.RowKit
abbrev PX := ByteArray × Hd × Ex
def pcells (L : List PX) : List Value := L.flatMap fun y => .string y.1 :: y.2.1.vals.toList
theorem pcells_len (L : List PX) : (pcells L).length = L.length * 8 := by
  induction L with
  | nil => rfl
  | cons y L ih => simp only [pcells, List.flatMap_cons, List.length_append, List.length_cons] at ih ⊢; rw [ih]; simp [Hd.vals]; omega
theorem pcells_append (L M : List PX) : pcells (L ++ M) = pcells L ++ pcells M := by simp [pcells]
/-- Between two rounds of plain: out's box, two rows of its own, what their heads tell. -/
structure PI (w : World) (n : Nat) (h : Hd) (pa : List ByteArray) (t1 : Option Addr) (k1 : Nat) (av : Option Addr) (cv : Nat) (au : Option Addr) (cu : Nat) (LP : List PX) (LK : List HX) (X : World) : Prop where
  low : Below w.heap.size w X
  box : BoxH X w.heap.size h
  res : BoxH X (w.heap.size + 1) hd0
  size : w.heap.size + 3 ≤ X.heap.size
  out : BoxH X (w.heap.size + 2) { h with p := t1, pl := pa.length, pc := k1, q := av, ql := LP.length, qc := cv, k := au, kl := LK.length, kc := cu }
  pa : PwS X (PP (w.heap.size + 3) (.slice av LP.length cv) (.slice au LK.length cu)) t1 pa.length pa
  rp : X.ownsRow (w.heap.size + 3) 51 8 (.slice av LP.length cv) LP.length (pcells LP)
  rk : X.ownsRow (w.heap.size + 3) 26 7 (.slice au LK.length cu) LK.length (hcells LK)
  hp : ∀ y ∈ LP, y.1.size ≤ 140737488355328 ∧ PwX X (PP (w.heap.size + 3) (.slice av LP.length cv) (.slice au LK.length cu)) n y.2.1 y.2.2
  hk : ∀ y ∈ LK, PwX X (PP (w.heap.size + 3) (.slice av LP.length cv) (.slice au LK.length cu)) n y.1 y.2
  ne : ∀ g, (Value.slice av LP.length cv).ownBlock = some g → (Value.slice au LK.length cu).ownBlock ≠ some g
variable {w : World} {n : Nat} {h : Hd} {pa : List ByteArray} {t1 : Option Addr} {k1 : Nat} {av : Option Addr} {cv : Nat} {au : Option Addr} {cu : Nat} {LP : List PX} {LK : List HX} {X Y : World}
theorem apart_of {P : Nat → Prop} {W W' : World} (h : Below W.heap.size W W') : Apart P W W' := ⟨h.size, fun i _ hi => h.block i hi⟩
theorem PI.step (hi : PI w n h pa t1 k1 av cv au cu LP LK X) (hb : Below X.heap.size X Y) : PI w n h pa t1 k1 av cv au cu LP LK Y :=
  ⟨below_step hi.low hb, (hb.block _ hi.box.lt).trans hi.box, (hb.block _ hi.res.lt).trans hi.res, Nat.le_trans hi.size hb.size, (hb.block _ hi.out.lt).trans hi.out, hi.pa.keep (apart_of hb),
    hi.rp.kept (grown_below hb) (by cases (Value.slice av LP.length cv).ownBlock <;> simp), hi.rk.kept (grown_below hb) (by cases (Value.slice au LK.length cu).ownBlock <;> simp),
    fun y hy => ⟨(hi.hp y hy).1, (hi.hp y hy).2.keep (apart_of hb)⟩, fun y hy => (hi.hk y hy).keep (apart_of hb), hi.ne⟩
end Go.Proofs.YtngikbimlhoigaaDoor
