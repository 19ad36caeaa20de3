/- What a term's box holds; a region whose operations read what a class of worlds tells. -/
import Derived.Test.YtkmbhjcedkojjaaC
import Derived.Deep.QuietTactic
import Derived.BigQuiet
namespace Go.Proofs.Ytkmbhjcedkojjaa
open Go.RowKit
/-- A term's cells. -/
def Tc (w : World) (N : Nat) (k lo hi : Int) (s : ByteArray) (y m o : Bool) (f : Option Addr) (fl fc : Nat) : Prop :=
  w.cell? ⟨N, 0, none⟩ = some (.int .i64 k) ∧ w.cell? ⟨N, 1, none⟩ = some (.int .i64 lo) ∧ w.cell? ⟨N, 2, none⟩ = some (.int .i64 hi) ∧ w.cell? ⟨N, 3, none⟩ = some (.string s) ∧
  w.cell? ⟨N, 4, none⟩ = some (.bool y) ∧ w.cell? ⟨N, 5, none⟩ = some (.bool m) ∧ w.cell? ⟨N, 6, none⟩ = some (.bool o) ∧ w.cell? ⟨N, 7, none⟩ = some (.slice f fl fc)
theorem Tc.later {w w1 : World} {N : Nat} {k lo hi : Int} {s : ByteArray} {y m o : Bool} {f : Option Addr} {fl fc : Nat} (h : Tc w N k lo hi s y m o f fl fc) (hb : Below w.heap.size w w1) (hn : N < w.heap.size) : Tc w1 N k lo hi s y m o f fl fc := by
  have e : ∀ i, w1.cell? ⟨N, i, none⟩ = w.cell? ⟨N, i, none⟩ := fun i => hb.cell (p := ⟨N, i, none⟩) hn
  unfold Tc
  rw [e, e, e, e, e, e, e, e]
  exact h
theorem Tc.new (w : World) (k lo hi : Int) (s : ByteArray) (y m o : Bool) (f : Option Addr) (fl fc : Nat) :
    Tc (w.alloc (.cells #[.int .i64 k, .int .i64 lo, .int .i64 hi, .string s, .bool y, .bool m, .bool o, .slice f fl fc] 24)) w.heap.size k lo hi s y m o f fl fc := by simp [Tc]
theorem Tc.alloc {w : World} {N : Nat} {k lo hi : Int} {s : ByteArray} {y m o : Bool} {f : Option Addr} {fl fc : Nat} (h : Tc w N k lo hi s y m o f fl fc) (hn : N < w.heap.size) (O : Obj) : Tc (w.alloc O) N k lo hi s y m o f fl fc :=
  h.later ((Below.refl _ _).alloc (Nat.le_refl _) _) hn
theorem lt_alloc {w : World} {n : Nat} {o : Obj} (h : n < w.heap.size) : n < (w.alloc o).heap.size := by simp; omega
theorem new_lt {w : World} {o : Obj} : w.heap.size < (w.alloc o).heap.size := by simp
/-- A contract, within the class of worlds that lie behind one. -/
theorem inC {X : World} {f : FuncId} {args : Array Value} {v : Value} (h : ∀ W, Hid (Calls Try.prog f args W fun e w' => e = .returned v ∧ Below W.heap.size W w')) :
    Hid (∀ W, Below X.heap.size X W → Calls Try.prog f args W fun e w' => e = .returned v ∧ Below X.heap.size X w') :=
  fun W hW => (h W).out.mono fun _ _ ⟨a, b⟩ => ⟨a, bl_step hW b⟩
/-- Two boxes, one behind the other. -/
theorem Tc.box2 (w : World) (k lo hi : Int) (s : ByteArray) (y m o : Bool) (f : Option Addr) (fl fc : Nat) (k2 lo2 hi2 : Int) (s2 : ByteArray) (y2 m2 o2 : Bool) (f2 : Option Addr) (fl2 fc2 : Nat) {w1 : World}
    (h : Below ((w.alloc (.cells #[.int .i64 k, .int .i64 lo, .int .i64 hi, .string s, .bool y, .bool m, .bool o, .slice f fl fc] 24)).alloc (.cells #[.int .i64 k2, .int .i64 lo2, .int .i64 hi2, .string s2, .bool y2, .bool m2, .bool o2, .slice f2 fl2 fc2] 24)).heap.size
      ((w.alloc (.cells #[.int .i64 k, .int .i64 lo, .int .i64 hi, .string s, .bool y, .bool m, .bool o, .slice f fl fc] 24)).alloc (.cells #[.int .i64 k2, .int .i64 lo2, .int .i64 hi2, .string s2, .bool y2, .bool m2, .bool o2, .slice f2 fl2 fc2] 24)) w1) :
    (Tc w1 w.heap.size k lo hi s y m o f fl fc ∧ w.heap.size < w1.heap.size) ∧ (Tc w1 (w.heap.size + 1) k2 lo2 hi2 s2 y2 m2 o2 f2 fl2 fc2 ∧ w.heap.size + 1 < w1.heap.size) ∧ Below w.heap.size w w1 := by
  have e : (w.alloc (.cells #[.int .i64 k, .int .i64 lo, .int .i64 hi, .string s, .bool y, .bool m, .bool o, .slice f fl fc] 24)).heap.size = w.heap.size + 1 := by simp
  have hz := h.size
  simp at hz
  refine ⟨⟨((Tc.new w k lo hi s y m o f fl fc).alloc new_lt _).later h (lt_alloc new_lt), by omega⟩, ⟨?_, by omega⟩, bl_step (bl_alloc (bl_alloc (Below.refl _ _))) h⟩
  have := (Tc.new (w.alloc (.cells #[.int .i64 k, .int .i64 lo, .int .i64 hi, .string s, .bool y, .bool m, .bool o, .slice f fl fc] 24)) k2 lo2 hi2 s2 y2 m2 o2 f2 fl2 fc2).later h new_lt
  rw [e] at this
  exact this
theorem region_class {P : Program} {C : World → Prop} {id : Nat} {Q : Exit → Act → World → Prop} {a : Act} {w : World} {l : List Oper} (hm : P.follows .mixedOrders = true) (hB : Region.lexB .any l.toArray = true)
    (hC : C { w with drawn := w.drawn + 1 }) (h : wpQuiet P l.toArray C (fun a' => ∀ w', C w' → Q .normal a' w') l a) : (Code.region id l.toArray true).wp P Q a w :=
  wp_region_quiet (C := C) hm hB hC (by simpa using h)

end Go.Proofs.Ytkmbhjcedkojjaa
