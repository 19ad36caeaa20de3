/- AN EXPRESSION IN MEMORY, told; its parts; all of them in order. -/
import Derived.Test.YtngikbimlhoigaaDoorRa
import Derived.Test.YtngikbimlhoigaaDoorNe
namespace Go.Proofs.YtngikbimlhoigaaDoor
open Go.RowKit Go.Shelf
inductive Ex where
  | mk (op n : Int) (s : ByteArray) (path : List ByteArray) (ps : List (ByteArray × Ex)) (o : Bool) (ks : List Ex) : Ex
def Ex.op : Ex → Int | .mk op _ _ _ _ _ _ => op
def Ex.path : Ex → List ByteArray | .mk _ _ _ p _ _ _ => p
def Ex.ps : Ex → List (ByteArray × Ex) | .mk _ _ _ _ ps _ _ => ps
def Ex.ks : Ex → List Ex | .mk _ _ _ _ _ _ ks => ks
/-- An expression's seven fields as they lie. -/
structure Hd where
  op : Int
  n : Int
  s : ByteArray
  p : Option Addr
  pl : Nat
  pc : Nat
  q : Option Addr
  ql : Nat
  qc : Nat
  o : Bool
  k : Option Addr
  kl : Nat
  kc : Nat
def Hd.vals (h : Hd) : Array Value := #[.int .i64 h.op, .int .i64 h.n, .string h.s, .slice h.p h.pl h.pc, .slice h.q h.ql h.qc, .bool h.o, .slice h.k h.kl h.kc]
def Hd.agg (h : Hd) : Value := .agg #[.int .i64 h.op, .int .i64 h.n, .string h.s, .slice h.p h.pl h.pc, .slice h.q h.ql h.qc, .bool h.o, .slice h.k h.kl h.kc]
/-- They lie at a place. -/
structure HdAt (w : World) (b off : Nat) (h : Hd) : Prop where
  c0 : w.cell? ⟨b, off, none⟩ = some (.int .i64 h.op)
  c1 : w.cell? ⟨b, off + 1, none⟩ = some (.int .i64 h.n)
  c2 : w.cell? ⟨b, off + 2, none⟩ = some (.string h.s)
  c3 : w.cell? ⟨b, off + 3, none⟩ = some (.slice h.p h.pl h.pc)
  c4 : w.cell? ⟨b, off + 4, none⟩ = some (.slice h.q h.ql h.qc)
  c5 : w.cell? ⟨b, off + 5, none⟩ = some (.bool h.o)
  c6 : w.cell? ⟨b, off + 6, none⟩ = some (.slice h.k h.kl h.kc)
/-- A list of expressions in memory. -/
structure InKs (I : Hd → Ex → Prop) (w : World) (a : Option Addr) (l : Nat) (ks : List Ex) : Prop where
  count : ks.length = l
  max : l ≤ 140737488355328
  at_ : ∀ i (h : i < ks.length), ∃ (b off : Nat) (x : Hd), a = some ⟨b, off, none⟩ ∧ b < w.heap.size ∧ HdAt w b (off + i * 7) x ∧ I x ks[i]
/-- A list of pairs. -/
structure InPs (I : Hd → Ex → Prop) (w : World) (a : Option Addr) (l : Nat) (ps : List (ByteArray × Ex)) : Prop where
  count : ps.length = l
  max : l ≤ 140737488355328
  at_ : ∀ i (h : i < ps.length), ∃ (b off : Nat) (x : Hd), a = some ⟨b, off, none⟩ ∧ b < w.heap.size ∧ ps[i].1.size ≤ 140737488355328 ∧ w.cell? ⟨b, off + i * 8, none⟩ = some (.string ps[i].1) ∧ HdAt w b (off + i * 8 + 1) x ∧ I x ps[i].2
/-- An expression lies in a world, so deep at most. -/
def InX (w : World) : Nat → Hd → Ex → Prop
  | 0, _, _ => False
  | n + 1, h, .mk op m s path ps o ks => h.op = op ∧ h.n = m ∧ h.s = s ∧ h.o = o ∧ s.size ≤ 140737488355328 ∧ Nm.StrRow w h.p h.pl path ∧ InPs (InX w n) w h.q h.ql ps ∧ InKs (InX w n) w h.k h.kl ks
theorem HdAt.below {w w' : World} {b off : Nat} {h : Hd} (hh : HdAt w b off h) (hb : Below w.heap.size w w') (lt : b < w.heap.size) : HdAt w' b off h := by
  have e : ∀ i, w'.cell? ⟨b, i, none⟩ = w.cell? ⟨b, i, none⟩ := fun i => hb.cell (p := ⟨b, i, none⟩) lt
  exact ⟨(e _).trans hh.c0, (e _).trans hh.c1, (e _).trans hh.c2, (e _).trans hh.c3, (e _).trans hh.c4, (e _).trans hh.c5, (e _).trans hh.c6⟩
theorem InKs.below {I J : Hd → Ex → Prop} (hIJ : ∀ h e, I h e → J h e) {w w' : World} (hb : Below w.heap.size w w') {a : Option Addr} {l : Nat} {ks : List Ex} (h : InKs I w a l ks) : InKs J w' a l ks :=
  ⟨h.count, h.max, fun i hi => by
    obtain ⟨b, off, x, e, lt, hx, hI⟩ := h.at_ i hi
    exact ⟨b, off, x, e, Nat.lt_of_lt_of_le lt hb.size, hx.below hb lt, hIJ _ _ hI⟩⟩
theorem InPs.below {I J : Hd → Ex → Prop} (hIJ : ∀ h e, I h e → J h e) {w w' : World} (hb : Below w.heap.size w w') {a : Option Addr} {l : Nat} {ps : List (ByteArray × Ex)} (h : InPs I w a l ps) : InPs J w' a l ps :=
  ⟨h.count, h.max, fun i hi => by
    obtain ⟨b, off, x, e, lt, hz, hc, hx, hI⟩ := h.at_ i hi
    exact ⟨b, off, x, e, Nat.lt_of_lt_of_le lt hb.size, hz, (hb.cell (p := ⟨b, off + i * 8, none⟩) lt).trans hc, hx.below hb lt, hIJ _ _ hI⟩⟩
theorem InX.below {w w' : World} (hb : Below w.heap.size w w') : ∀ {n : Nat} {h : Hd} {e : Ex}, InX w n h e → InX w' n h e
  | 0, _, _, h => h.elim
  | _ + 1, _, .mk _ _ _ _ _ _ _, ⟨h1, h2, h3, h4, hz, h5, h6, h7⟩ => ⟨h1, h2, h3, h4, hz, h5.below hb, h6.below (fun _ _ h => InX.below hb h) hb, h7.below (fun _ _ h => InX.below hb h) hb⟩
theorem InX.pos {w : World} : ∀ {n : Nat} {h : Hd} {e : Ex}, InX w n h e → ∃ m, n = m + 1
  | 0, _, _, h => h.elim
  | n + 1, _, _, _ => ⟨n, rfl⟩
/-- The words' parts. -/
def Ex.parts (e : Ex) : List Ex := if e.op = 10 then e.ps.map (·.2) else e.ks
/-- All expressions in order, so deep at most. -/
def allN : Nat → Ex → List Ex
  | 0, _ => []
  | n + 1, e => e :: e.parts.flatMap (allN n)
abbrev HX := Hd × Ex
def encX (x : HX) : Array Value := #[x.1.agg]
def FitX (w : World) (n : Nat) (x : HX) : Prop := InX w n x.1 x.2
/-- It lies there, and comes next. -/
def FitP (w : World) (n : Nat) (L : List Ex) (pre : List HX) (x : HX) : Prop := FitX w n x ∧ (pre ++ [x]).map (·.2) <+: L
def FitA (w : World) (L : List Ex) (pre : List HX) (x : HX) : Prop := (∃ n, FitX w n x) ∧ (pre ++ [x]).map (·.2) <+: L
end Go.Proofs.YtngikbimlhoigaaDoor
