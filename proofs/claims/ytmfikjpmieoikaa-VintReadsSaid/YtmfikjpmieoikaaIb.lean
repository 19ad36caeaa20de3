/- A REGION whose operations read what a class of worlds tells, and whose callees lead from a world of the class to another: one walk, in the text's order. -/
import Derived.Test.YtmfikjpmieoikaaHa
import Derived.Deep.DeepCutAuto
import Derived.Deep.CutBlock
import Derived.BigQuiet
namespace Go.Proofs.Ytmfikjpmieoikaa
open Go.RowKit
theorem region_class {P : Program} {C : World → Prop} {id : Nat} {Q : Exit → Act → World → Prop} {a : Act} {w : World} {l : List Oper} (hm : P.follows .mixedOrders = true) (hB : Region.lexB .any l.toArray = true)
    (hC : C { w with drawn := w.drawn + 1 }) (h : wpQuiet P l.toArray C (fun a' => ∀ w', C w' → Q .normal a' w') l a) : (Code.region id l.toArray true).wp P Q a w :=
  wp_region_quiet (C := C) hm hB hC (by simpa using h)
/-- An operation that reads the same in each world of the class. -/
theorem quiet_value {P : Program} {C : World → Prop} {o : Oper} {a : Act} {K : Act → Prop} (v : Value) (h : ∀ w, C w → (execOp a.eval o).run P w = .ok (.value v) w) (hk : K (a.put o.dst v)) : o.quiet P a C K :=
  ⟨v, fun w hw => by unfold Oper.quietAt; rw [h w hw]; exact ⟨rfl, rfl⟩, hk⟩
/-- A call that leads from each world of the class to one of the class. -/
theorem quiet_enter {P : Program} {C : World → Prop} {o : Oper} {a : Act} {K : Act → Prop} (f : FuncId) (args : Array Value) (v : Value) (h : ∀ w, C w → (execOp a.eval o).run P w = .ok (.enter f args) w)
    (hc : ∀ w, C w → Calls P f args w fun e w' => e = .returned v ∧ C w') (hk : K (a.put o.dst v)) : o.quiet P a C K :=
  ⟨v, fun w hw => by unfold Oper.quietAt; rw [h w hw]; exact ⟨rfl, hc w hw⟩, hk⟩
/-- The readers stand at a place, with an error. -/
def Cls (s : ByteArray) (w : World) (A q r : Nat) (wc : World) : Prop := Rd wc w.heap.size s q r ∧ Cs wc A s q r ∧ Below w.heap.size w wc
/-- Behind the reference's answer: it lies in a new block; the readers stand as they stood. -/
def Pk (s : ByteArray) (w : World) (A p e q r : Nat) (val v1 v2 : Value) (wc : World) : Prop :=
  v2 = val ∧ ∃ N, v1 = .pointer (some ⟨N, 0, none⟩) ∧ Cs wc N s q r ∧ Rd wc w.heap.size s p e ∧ Cs wc A s p e ∧ Below w.heap.size w wc
theorem Below.step {w0 a b : World} (h : Below w0.heap.size w0 a) (k : Below a.heap.size a b) : Below w0.heap.size w0 b := h.trans (k.mono h.size)
/-- The call, then the block. -/
theorem Pk.late {s : ByteArray} {w wr W w2 : World} {A p e q r : Nat} {val : Value} (hR : Rd wr w.heap.size s p e) (hA : Cs wr A s p e) (hB : Below w.heap.size w wr) (hW : Below wr.heap.size wr W) (h2 : Below W.heap.size W w2) :
    Pk s w A p e q r val (.pointer (some ⟨w2.heap.size, 0, none⟩)) val (w2.alloc (.cells #[.string s, .int .i64 (q : Int), .int .i64 (r : Int)] 36)) := by
  have hk : Below w2.heap.size w2 (w2.alloc (.cells #[.string s, .int .i64 (q : Int), .int .i64 (r : Int)] 36)) := (Below.refl _ _).alloc (Nat.le_refl _) _
  have hx := Below.step hW h2
  exact ⟨rfl, _, rfl, ⟨36, heap_alloc_new w2 _⟩, (hR.below hx).below hk, (hA.below hx).below hk, Below.step (Below.step hB hx) hk⟩
/-- The block, then the call. -/
theorem Pk.soon {s : ByteArray} {w wr w2 : World} {A p e q r N : Nat} {val : Value} (hR : Rd wr w.heap.size s p e) (hA : Cs wr A s p e) (hB : Below w.heap.size w wr) (hN : N = wr.heap.size)
    (h2 : Below (wr.drew.alloc (.cells #[.string ⟨#[]⟩, .int .i64 0, .int .i64 0] 36)).heap.size (wr.drew.alloc (.cells #[.string ⟨#[]⟩, .int .i64 0, .int .i64 0] 36)) w2) :
    Pk s w A p e q r val (.pointer (some ⟨N, 0, none⟩)) val (((w2.setCell ⟨N, 0, none⟩ (.string s)).setCell ⟨N, 1, none⟩ (.int .i64 (q : Int))).setCell ⟨N, 2, none⟩ (.int .i64 (r : Int))) := by
  subst hN
  have hW : Below wr.heap.size wr (wr.drew.alloc (.cells #[.string ⟨#[]⟩, .int .i64 0, .int .i64 0] 36)) := ((Below.refl _ _).drew).alloc (Nat.le_refl _) _
  have hx := Below.step hW h2
  have hb : w2.heap[wr.heap.size]? = some (.cells #[.string ⟨#[]⟩, .int .i64 0, .int .i64 0] 36 (0, 0)) := (h2.block _ (by show _ < (wr.heap.push _).size; simp)).trans (heap_alloc_new wr.drew _)
  have l1 : w.heap.size ≠ wr.heap.size := Nat.ne_of_lt hR.lt
  have l2 : A ≠ wr.heap.size := Nat.ne_of_lt hA.lt
  have s0 := Below.step hB hx
  refine ⟨rfl, _, rfl, ⟨36, set_heap (set_heap (set_heap hb))⟩, ?_, ?_, ?_⟩
  · exact Rd.ne (Rd.ne (Rd.ne (hR.below hx) l1) l1) l1
  · exact Cs.ne (Cs.ne (Cs.ne (hA.below hx) l2) l2) l2
  · exact ((s0.setCell (p := ⟨wr.heap.size, 0, none⟩) hB.size _).setCell (p := ⟨wr.heap.size, 1, none⟩) hB.size _).setCell (p := ⟨wr.heap.size, 2, none⟩) hB.size _
theorem new_cells {wr w2 : World} (h2 : Below (wr.drew.alloc (.cells #[.string ⟨#[]⟩, .int .i64 0, .int .i64 0] 36)).heap.size (wr.drew.alloc (.cells #[.string ⟨#[]⟩, .int .i64 0, .int .i64 0] 36)) w2) :
    Cs w2 wr.heap.size ⟨#[]⟩ 0 0 := ⟨36, (h2.block _ (by show _ < (wr.heap.push _).size; simp)).trans (heap_alloc_new wr.drew _)⟩
theorem step30 {w w2 : World} {A p e p' e' q r : Nat} {s : ByteArray} (hne : w.heap.size < A) (BL : Below w.heap.size w w2) (R : Rd w2 w.heap.size s p e) (C : Cs w2 A s p' e') :
    Rd (((w2.setCell ⟨A, 0, none⟩ (.string s)).setCell ⟨A, 1, none⟩ (.int .i64 (q : Int))).setCell ⟨A, 2, none⟩ (.int .i64 (r : Int))) w.heap.size s p e ∧
    Cs (((w2.setCell ⟨A, 0, none⟩ (.string s)).setCell ⟨A, 1, none⟩ (.int .i64 (q : Int))).setCell ⟨A, 2, none⟩ (.int .i64 (r : Int))) A s q r ∧
    Below w.heap.size w (((w2.setCell ⟨A, 0, none⟩ (.string s)).setCell ⟨A, 1, none⟩ (.int .i64 (q : Int))).setCell ⟨A, 2, none⟩ (.int .i64 (r : Int))) := by
  have hl : w.heap.size ≠ A := by omega
  refine ⟨Rd.ne (Rd.ne (Rd.ne R hl) hl) hl, Cs.put C, ?_⟩
  exact ((BL.setCell (p := ⟨A, 0, none⟩) (by show w.heap.size ≤ A; omega) (.string s)).setCell (p := ⟨A, 1, none⟩) (by show w.heap.size ≤ A; omega) (.int .i64 (q : Int))).setCell (p := ⟨A, 2, none⟩) (by show w.heap.size ≤ A; omega) (.int .i64 (r : Int))
end Go.Proofs.Ytmfikjpmieoikaa
