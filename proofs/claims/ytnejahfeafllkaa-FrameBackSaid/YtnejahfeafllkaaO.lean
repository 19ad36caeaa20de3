/- WALKS of the reader: Err, Left, End, number. -/
import Derived.Test.YtnejahfeafllkaaB
import Derived.Test.YtnejahfeafllkaaH
import Derived.Deep.QuietTactic
import Derived.BigQuiet
import Derived.Outline
namespace Go.Proofs.Ytnejahfeafllkaa
open Go.RowKit
/-- A reader in block B: at this place of the text, with this error. -/
def Rd (w : World) (B : Nat) (s : ByteArray) (p e : Nat) : Prop := w.heap[B]? = some (.cells #[.string s, .int .i64 (p : Int), .int .i64 (e : Int)] 118 (0, 0))
/-- Whatever block there was stands as it was, but block B. -/
structure Keep (B : Nat) (w w' : World) : Prop where
  os : w'.os = w.os
  tape : w'.tape = w.tape
  output : w'.output = w.output
  size : w.heap.size ≤ w'.heap.size
  block : ∀ k, k < w.heap.size → k ≠ B → w'.heap[k]? = w.heap[k]?
theorem Keep.refl (B : Nat) (w : World) : Keep B w w := ⟨rfl, rfl, rfl, Nat.le_refl _, fun _ _ _ => rfl⟩
theorem Keep.trans {B : Nat} {a b c : World} (h : Keep B a b) (k : Keep B b c) : Keep B a c :=
  ⟨k.os.trans h.os, k.tape.trans h.tape, k.output.trans h.output, Nat.le_trans h.size k.size, fun i hi hB => (k.block i (Nat.lt_of_lt_of_le hi h.size) hB).trans (h.block i hi hB)⟩
theorem Keep.drew {B : Nat} {a w : World} (h : Keep B a w) : Keep B a w.drew := ⟨h.os, h.tape, h.output, h.size, h.block⟩
theorem Keep.of_below {B : Nat} {w w' : World} (h : Below w.heap.size w w') : Keep B w w' := ⟨h.os, h.tape, h.output, h.size, fun k hk _ => h.block k hk⟩
theorem Keep.set {B : Nat} {a w : World} (h : Keep B a w) (i : Nat) (v : Value) : Keep B a (w.setCell ⟨B, i, none⟩ v) :=
  ⟨h.os, h.tape, h.output, by rw [show (w.setCell ⟨B, i, none⟩ v).heap.size = w.heap.size by simp [World.setCell]]; exact h.size, fun k hk hB => by
    rw [Below.heap_setCell w ⟨B, i, none⟩ v k hB]; exact h.block k hk hB⟩
theorem Keep.below {B N : Nat} {w0 w w' : World} (h : Below N w0 w) (k : Keep B w w') (hB : N ≤ B) (hN : N ≤ w.heap.size) : Below N w0 w' :=
  h.trans ⟨k.os, k.tape, k.output, k.size, fun i hi => k.block i (by omega) (by omega)⟩
theorem Rd.cells {w : World} {B : Nat} {s : ByteArray} {p e : Nat} (h : Rd w B s p e) :
    w.cell? ⟨B, 0, none⟩ = some (.string s) ∧ w.cell? ⟨B, 1, none⟩ = some (.int .i64 (p : Int)) ∧ w.cell? ⟨B, 2, none⟩ = some (.int .i64 (e : Int)) ∧ w.frozen? ⟨B, 1, none⟩ = false ∧ w.frozen? ⟨B, 2, none⟩ = false := by
  unfold Rd at h
  refine ⟨?_, ?_, ?_, ?_, ?_⟩ <;> simp [World.cell?, World.frozen?, h]
theorem set_heap {w : World} {B i : Nat} {cs : Array Value} {t : TypeId} {v : Value} (h : w.heap[B]? = some (.cells cs t (0, 0))) : (w.setCell ⟨B, i, none⟩ v).heap[B]? = some (.cells (cs.setIfInBounds i v) t (0, 0)) := by
  have := setCell_eq_setRow w B i cs t (0, 0) v h
  rw [this]
  exact setRow_heap w B cs _ t _ h
theorem Rd.setAt {w : World} {B : Nat} {s : ByteArray} {p e p' : Nat} {v : Int} (h : Rd w B s p e) (hv : v = (p' : Int)) : Rd (w.setCell ⟨B, 1, none⟩ (.int .i64 v)) B s p' e := by
  subst hv; exact set_heap h
theorem Rd.setErr {w : World} {B : Nat} {s : ByteArray} {p e e' : Nat} {v : Int} (h : Rd w B s p e) (hv : v = (e' : Int)) : Rd (w.setCell ⟨B, 2, none⟩ (.int .i64 v)) B s p e' := by
  subst hv; exact set_heap h
theorem Rd.lt {w : World} {B : Nat} {s : ByteArray} {p e : Nat} (h : Rd w B s p e) : B < w.heap.size := (Array.getElem?_eq_some_iff.1 h).1
/-- What a call of the reader answers, and where the reader stands then. -/
def RdPost (B : Nat) (s : ByteArray) (v : Value) (p e : Nat) (w : World) (en : Ending) (w' : World) : Prop := en = .returned v ∧ Rd w' B s p e ∧ Keep B w w'
set_option maxHeartbeats 400000 in
theorem err_any (B : Nat) (s : ByteArray) (p e : Nat) (w : World) (h : Rd w B s p e) : Calls Try.prog 42 #[.pointer (some ⟨B, 0, none⟩)] w fun en w' => en = .returned (.int .i64 (e : Int)) ∧ w = w' := by
  obtain ⟨h0, h1, h2, _, _⟩ := h.cells
  go_enter Try.func42, Try.ntmps42
  go_wp2
  go_ret
  exact ⟨rfl, rfl⟩
set_option maxHeartbeats 400000 in
theorem err_nil (w : World) : Calls Try.prog 42 #[.pointer none] w fun en w' => en = .returned (.int .i64 1) ∧ w = w' := by
  go_enter Try.func42, Try.ntmps42
  go_wp2
  go_ret
  exact ⟨rfl, rfl⟩
theorem Keep.drewN (B : Nat) (w : World) (n : Nat) : Keep B w (w.drewN n) := ⟨rfl, rfl, rfl, Nat.le_refl _, fun _ _ _ => rfl⟩
set_option maxHeartbeats 400000 in
theorem left_any (B : Nat) (s : ByteArray) (p e : Nat) (w : World) (h : Rd w B s p e) (hp : p ≤ s.size) (hs : s.size ≤ 140737488355328) : Calls Try.prog 43 #[.pointer (some ⟨B, 0, none⟩)] w (RdPost B s (.int .i64 ((s.size - p : Nat) : Int)) p e w) := by
  obtain ⟨h0, h1, h2, _, _⟩ := h.cells
  have hw : IntKind.i64.wrap ((s.size : Int) - (p : Int)) = ((s.size - p : Nat) : Int) := by rw [IntKind.wrap_i64]; omega
  have H := Lib.hid h
  clear h
  go_enter Try.func43, Try.ntmps43
  go_wp2
  go_quiet (fail)
  go_wp2
  go_ret
  exact ⟨rfl, H.out, Keep.drewN _ _ _⟩
set_option maxHeartbeats 400000 in
theorem left_nil (w : World) : Calls Try.prog 43 #[.pointer none] w fun en w' => en = .returned (.int .i64 0) ∧ w = w' := by
  go_enter Try.func43, Try.ntmps43
  go_wp2
  go_ret
  exact ⟨rfl, rfl⟩
end Go.Proofs.Ytnejahfeafllkaa
