/- The law VintReads: the loop. -/
import Derived.Test.YtmfikjpmieoikaaEa
import Derived.Test.YtmfikjpmieoikaaL
import Derived.Test.YtmfikjpmieoikaaW
import Derived.Test.YtmfikjpmieoikaaFa
import Derived.Deep.RegionHeld3
namespace Go.Proofs.Ytmfikjpmieoikaa
open Go.RowKit
/-- A text, a place, an error lie in block A. -/
def Cs (w : World) (A : Nat) (s : ByteArray) (p e : Nat) : Prop := ∃ t, w.heap[A]? = some (.cells #[.string s, .int .i64 (p : Int), .int .i64 (e : Int)] t (0, 0))
theorem Cs.lt {w : World} {A : Nat} {s : ByteArray} {p e : Nat} (h : Cs w A s p e) : A < w.heap.size := by
  obtain ⟨t, h⟩ := h; exact (Array.getElem?_eq_some_iff.1 h).1
theorem Cs.cells {w : World} {B : Nat} {s : ByteArray} {p e : Nat} (h : Cs w B s p e) :
    w.cell? ⟨B, 0, none⟩ = some (.string s) ∧ w.cell? ⟨B, 1, none⟩ = some (.int .i64 (p : Int)) ∧ w.cell? ⟨B, 2, none⟩ = some (.int .i64 (e : Int)) ∧ w.frozen? ⟨B, 0, none⟩ = false ∧ w.frozen? ⟨B, 1, none⟩ = false ∧ w.frozen? ⟨B, 2, none⟩ = false := by
  obtain ⟨t, h⟩ := h
  refine ⟨?_, ?_, ?_, ?_, ?_, ?_⟩ <;> simp [World.cell?, World.frozen?, h]
theorem Cs.below {w w' : World} {A : Nat} {s : ByteArray} {p e : Nat} (h : Cs w A s p e) (hb : Below w.heap.size w w') : Cs w' A s p e := by
  have hl := h.lt; obtain ⟨t, h⟩ := h; exact ⟨t, (hb.block A hl).trans h⟩
theorem Cs.keep {w w' : World} {A B : Nat} {s : ByteArray} {p e : Nat} (h : Cs w A s p e) (hk : Keep B w w') (hne : A ≠ B) : Cs w' A s p e := by
  have hl := h.lt; obtain ⟨t, h⟩ := h; exact ⟨t, (hk.block A hl hne).trans h⟩
theorem Cs.ne {w : World} {A b i : Nat} {s : ByteArray} {p e : Nat} {v : Value} (h : Cs w A s p e) (hne : A ≠ b) : Cs (w.setCell ⟨b, i, none⟩ v) A s p e := by
  obtain ⟨t, h⟩ := h; exact ⟨t, (Below.heap_setCell w ⟨b, i, none⟩ v A hne).trans h⟩
theorem Cs.put {w : World} {A : Nat} {s : ByteArray} {p e q e' : Nat} (h : Cs w A s p e) : Cs (((w.setCell ⟨A, 0, none⟩ (.string s)).setCell ⟨A, 1, none⟩ (.int .i64 (q : Int))).setCell ⟨A, 2, none⟩ (.int .i64 (e' : Int))) A s q e' := by
  obtain ⟨t, h⟩ := h; exact ⟨t, set_heap (set_heap (set_heap h))⟩
theorem Cs.drewN {w : World} {A : Nat} {s : ByteArray} {p e : Nat} (n : Nat) (h : Cs w A s p e) : Cs (w.drewN n) A s p e := h
theorem Rd.ne {w : World} {A b i : Nat} {s : ByteArray} {p e : Nat} {v : Value} (h : Rd w A s p e) (hne : A ≠ b) : Rd (w.setCell ⟨b, i, none⟩ v) A s p e :=
  (Below.heap_setCell w ⟨b, i, none⟩ v A hne).trans h
theorem Rd.from_ {w0 w w' : World} {A : Nat} {s : ByteArray} {p e : Nat} (h : Rd w0 A s p e) (hh : w.heap = w0.heap) (hb : Below w.heap.size w w') : Rd w' A s p e :=
  Rd.below (w := w) (by unfold Rd; rw [hh]; exact h) hb
theorem Cs.from_ {w0 w w' : World} {A : Nat} {s : ByteArray} {p e : Nat} (h : Cs w0 A s p e) (hh : w.heap = w0.heap) (hb : Below w.heap.size w w') : Cs w' A s p e :=
  Cs.below (w := w) (by unfold Cs; rw [hh]; exact h) hb
theorem step3 {w w2 : World} {A p e p' e' q r : Nat} {s : ByteArray} (hne : w.heap.size < A) (BL : Below w.heap.size w w2) (R : Rd w2 w.heap.size s p e) (C : Cs w2 A s p' e') (o : Obj) :
    Rd ((((w2.setCell ⟨A, 0, none⟩ (.string s)).setCell ⟨A, 1, none⟩ (.int .i64 (q : Int))).setCell ⟨A, 2, none⟩ (.int .i64 (r : Int))).alloc o) w.heap.size s p e ∧
    Cs ((((w2.setCell ⟨A, 0, none⟩ (.string s)).setCell ⟨A, 1, none⟩ (.int .i64 (q : Int))).setCell ⟨A, 2, none⟩ (.int .i64 (r : Int))).alloc o) A s q r ∧
    Below w.heap.size w ((((w2.setCell ⟨A, 0, none⟩ (.string s)).setCell ⟨A, 1, none⟩ (.int .i64 (q : Int))).setCell ⟨A, 2, none⟩ (.int .i64 (r : Int))).alloc o) := by
  have hl : w.heap.size ≠ A := by omega
  refine ⟨(Rd.ne (Rd.ne (Rd.ne R hl) hl) hl).below ((Below.refl _ _).alloc (Nat.le_refl _) _), (Cs.put C).below ((Below.refl _ _).alloc (Nat.le_refl _) _), ?_⟩
  have h3 := ((BL.setCell (p := ⟨A, 0, none⟩) (by show w.heap.size ≤ A; omega) (.string s)).setCell (p := ⟨A, 1, none⟩) (by show w.heap.size ≤ A; omega) (.int .i64 (q : Int))).setCell (p := ⟨A, 2, none⟩) (by show w.heap.size ≤ A; omega) (.int .i64 (r : Int))
  exact h3.alloc h3.size o
theorem nxtT_le {s : ByteArray} {p e most : Nat} {L : List UInt8} (hp : p ≤ s.size) (hl : L.length = s.size - p) : (nxtT p e (textR s p (mostR most L))).2.1 ≤ s.size := by
  have h := (nxt_le (e := e) (most := most) hp hl).1
  rw [nxtT_by]
  split
  · exact h
  · split
    · exact hp
    · show _ + _ ≤ s.size; omega
theorem gets_le {s : ByteArray} {p e : Nat} {L : List UInt8} (hp : p ≤ s.size) (hl : L.length = s.size - p) : (nxt p e (gets L)).2.1 ≤ s.size := by
  have h := (nxt_le (e := e) (most := 18446744073709551615) hp hl).1
  rw [mostR_top] at h
  exact h
theorem start_rd {w w1 : World} {s : ByteArray} (h : Rd w1 w.heap.size s 0 0) (o : Obj) : Rd (w1.alloc o) w.heap.size s 0 0 := h.below ((Below.refl _ _).alloc (Nat.le_refl _) _)
theorem start_cs (w1 : World) (s : ByteArray) : Cs (w1.alloc (.cells #[.string s, .int .i64 0, .int .i64 0] 36)) w1.heap.size s 0 0 := ⟨36, by show (w1.heap.push _)[w1.heap.size]? = _; simp⟩
end Go.Proofs.Ytmfikjpmieoikaa
