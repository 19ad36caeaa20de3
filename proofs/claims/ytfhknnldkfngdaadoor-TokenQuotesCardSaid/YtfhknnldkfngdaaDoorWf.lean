/- A LIST OF BYTES OF THE CALL's OWN; WALKS of text. -/
import Derived.Test.YtfhknnldkfngdaaDoorWe
import Derived.Lib.AppendZeros
import Derived.Lib.ConvBytes
import Derived.OwnWalk
import Derived.Laws.AppendOwnNone
import Derived.Laws.OwnMore
import Derived.Outline
namespace Go.Proofs.YtfhknnldkfngdaaDoor
open Go.RowKit
theorem Tryd.info5 : (Tryd.prog.info? 5).map (fun i => (i.zero, i.size, i.bytes)) = some (some (.int .u8 0), 1, 1) := by kernel_rfl
theorem bl_alloc {w a : World} {o : Obj} (h : Below w.heap.size w a) : Below w.heap.size w (a.alloc o) := h.alloc h.size o
theorem bl_set {w a : World} {p : Addr} {v : Value} (h : Below w.heap.size w a) (hp : w.heap.size ≤ p.block) : Below w.heap.size w (a.setCell p v) := h.setCell hp v
theorem bl_step {w a b : World} (h : Below w.heap.size w a) (k : Below a.heap.size a b) : Below w.heap.size w b := h.trans (k.mono h.size)
def SRow (w : World) (a : Option Addr) (L : List UInt8) : Prop :=
  (a = none ∧ L = []) ∨ ∃ ad, a = some ad ∧ (L ≠ [] → ad.block < w.heap.size) ∧ ∀ j (h : j < L.length), w.cell? (ad.add j) = some (.int .u8 (L[j].toNat : Int))
theorem block_add (a : Addr) (n : Nat) : (a.add n).block = a.block := by unfold Addr.add; split <;> rfl
theorem SRow.below {w w' : World} {a : Option Addr} {L : List UInt8} (h : SRow w a L) (hb : Below w.heap.size w w') : SRow w' a L := by
  rcases h with h | ⟨ad, rfl, h1, h2⟩
  · exact .inl h
  · refine .inr ⟨ad, rfl, fun e => Nat.lt_of_lt_of_le (h1 e) hb.size, fun j hj => ?_⟩
    have : L ≠ [] := fun e => by subst e; simp at hj
    rw [hb.cell (by rw [block_add]; exact h1 this)]
    exact h2 j hj
def u8s (L : List UInt8) : List Value := L.map fun c => Value.int .u8 (c.toNat : Int)
theorem own_base {w : World} {base e size n : Nat} {v : Value} {xs : List Value} (h : w.ownsRow base e size v n xs) : ∀ k, v.ownBlock = some k → base ≤ k := by
  intro k hk
  rcases h.2 with ⟨rfl, _⟩ | ⟨g, cap, cur, rfl, hb, _⟩
  · simp [Value.ownBlock] at hk
  · simp [Value.ownBlock] at hk; omega
theorem row_own {w : World} {base n : Nat} {v : Value} {L : List UInt8} (h : w.ownsRow base 5 1 v n (u8s L)) : ∃ a cap, v = .slice a L.length cap ∧ SRow w a L := by
  have hl := h.1
  rw [u8s, List.length_map, Nat.mul_one] at hl
  rcases h.2 with ⟨rfl, hn0⟩ | ⟨g, cap, cur, rfl, hb, hg, hcap, hm, hsz, htake⟩
  · rw [hl, hn0]
    exact ⟨none, 0, rfl, .inl ⟨rfl, List.eq_nil_of_length_eq_zero (by omega)⟩⟩
  · rw [← hl]
    refine ⟨_, cap, rfl, .inr ⟨_, rfl, fun _ => (Array.getElem?_eq_some_iff.1 hg).1, fun j hj => ?_⟩⟩
    have h1 : (u8s L)[j]? = some (.int .u8 (L[j].toNat : Int)) := by simp [u8s, List.getElem?_eq_getElem hj]
    rw [← htake, Nat.mul_one, List.getElem?_take_of_lt (by omega)] at h1
    have ha : (⟨g, 0, none⟩ : Addr).add j = ⟨g, j, none⟩ := by unfold Addr.add; split <;> simp_all
    rw [ha, cell_of_row _ _ _ _ 5 (0, 0) hg]
    simpa using h1
theorem conv_row {w : World} {a : Option Addr} {L : List UInt8} (c : Nat) (h : SRow w a L) : (convert 49 9 (.slice a L.length c)).run Tryd.prog w = .ok (.string ⟨L.toArray⟩) w := by
  rcases h with ⟨rfl, rfl⟩ | ⟨ad, rfl, _, h2⟩
  · exact run_convert_bytes_nil w 49 5 Tryd.underlying49 Tryd.underlying5 0 c 9 Tryd.underlying9
  · exact run_convert_bytes_back w 49 9 5 ad c L Tryd.underlying49 Tryd.underlying5 Tryd.underlying9 h2
/-- What a function answers that looks for a token: the error, the token but for its place, how many bytes. -/
def TkP (r : Int × Tk × Nat) (w : World) (e : Ending) (w' : World) : Prop := e = .returned (.tuple #[.agg #[.int .i64 r.2.1.k, .int .i64 r.2.1.n, .string (bs r.2.1.t), .int .i64 0], .int .i64 (r.2.2 : Int), .int .i64 r.1]) ∧ Below w.heap.size w w'
def TxAt (s : ByteArray) (R : Option (List UInt8 × Nat)) (k : Nat) (acc : List UInt8) : Prop := ∃ f, s.size - k < f ∧ txF f (s.toList.drop k) acc k = R
theorem TxAt.quote {s : ByteArray} {R : Option (List UInt8 × Nat)} {k : Nat} {acc : List UInt8} (h : TxAt s R k acc) (hk : k < s.size) (hq : (s[k].toNat : Int) = 34) : R = some (acc, k) := by
  obtain ⟨f, hf, h⟩ := h
  rw [drop_at s k hk, txF_quote (by omega) hq] at h; exact h.symm
theorem TxAt.end_ {s : ByteArray} {R : Option (List UInt8 × Nat)} {k : Nat} {acc : List UInt8} (h : TxAt s R k acc) (hk : ¬ k < s.size) : R = none := by
  obtain ⟨f, hf, h⟩ := h
  rw [drop_end s k hk, txF_nil] at h; exact h.symm
theorem TxAt.bad {s : ByteArray} {R : Option (List UInt8 × Nat)} {k : Nat} {acc : List UInt8} (h : TxAt s R k acc) (hk : k < s.size) (hq : ¬ (s[k].toNat : Int) = 34) (hp : (partL (s.toList.drop k)).2 = 0) : R = none := by
  obtain ⟨f, hf, h⟩ := h
  rw [drop_at s k hk] at h hp
  rw [txF_bad hq hp] at h; exact h.symm
theorem TxAt.step {s : ByteArray} {R : Option (List UInt8 × Nat)} {k n : Nat} {c : Int} {acc : List UInt8} (h : TxAt s R k acc) (hk : k < s.size) (hq : ¬ (s[k].toNat : Int) = 34) (hp : partL (s.toList.drop k) = (c, n)) (hn : n ≠ 0) : TxAt s R (k + n) (acc ++ [UInt8.ofNat c.toNat]) := by
  obtain ⟨f, hf, h⟩ := h
  cases f
  · omega
  · rename_i f
    rw [drop_at s k hk] at h hp
    rw [txF_step hq (by rw [hp]; exact hn), hp] at h
    refine ⟨f, by omega, ?_⟩
    rw [← h, ← drop_at s k hk, List.drop_drop]
theorem u8_of (c : Int) (h0 : 0 ≤ c) (h1 : c ≤ 255) : ((UInt8.ofNat c.toNat).toNat : Int) = c := by rw [UInt8.toNat_ofNat']; omega
theorem part_bd {L : List UInt8} {c : Int} {n : Nat} (h : partL L = (c, n)) : n ≤ L.length ∧ 0 ≤ c ∧ c ≤ 255 := by have := partL_ok L; rw [h] at this; exact this
theorem part_at (s : ByteArray) (k : Nat) (r : Int × Nat) (w : World) (hs : s.size ≤ 140737488355328) (hr : Hid (partL (s.toList.drop k) = r)) : Calls Tryd.prog 41 #[.string (s.extract k s.size)] w (PartP r w) := by
  have h := part_any (s.extract k s.size) w (by simp; omega)
  rw [ext_drop, hr.out] at h; exact h
theorem eq_comm_b (a b : UInt8) : (a == b) = decide (b = a) := by rw [Bool.eq_iff_iff]; simp; exact eq_comm
theorem hasq_at (s : ByteArray) (k : Nat) (b : Bool) (w : World) (hb : Hid ((decide (k < s.size) && decide ((s.toList.drop k).head? = some 34)) = b)) : Calls Tryd.prog 40 #[.string (s.extract k s.size), .string { data := #[34] }] w fun e w' => e = .returned (.bool b) ∧ w = w' := by
  refine (Tryd.strings_HasPrefix _ _ w).mono ?_
  rintro e w' ⟨rfl, rfl⟩
  refine ⟨ret_bool ?_, rfl⟩
  rw [← hb.out]
  rw [← Lib.toList_data, ext_drop]
  by_cases hk : k < s.size
  · rw [drop_at s k hk]
    simp [hk, Lib.hasPrefix, List.isPrefixOf]
    exact eq_comm_b _ _
  · rw [drop_end s k hk]; simp [hk, Lib.hasPrefix, List.isPrefixOf]
end Go.Proofs.YtfhknnldkfngdaaDoor
