/- WALK of the law CrcFinds. -/
import Derived.Test.YtnejahfeafllkaaE
import Derived.Lib.ConvBytes
import Derived.Laws.ShiftsVarLaws
import Derived.OpenShut
namespace Go.Proofs.Ytnejahfeafllkaa
open Go.RowKit
theorem shl_xor (a b k : Nat) : (a ^^^ b) * 2 ^ k = a * 2 ^ k ^^^ b * 2 ^ k := by
  rw [← Nat.shiftLeft_eq, ← Nat.shiftLeft_eq, ← Nat.shiftLeft_eq, Nat.shiftLeft_xor_distrib]
theorem leN_cons (c : UInt8) (T : List UInt8) : leN (c :: T) = c.toNat ^^^ leN T * 2 ^ 8 := by
  rw [leN, Nat.mul_comm (leN T)]; exact add_xor (k := 8) c.toNat_lt
theorem leN_set : ∀ (L : List UInt8) (k : Nat) (h : k < L.length) (v : Nat) (c : UInt8), c.toNat = L[k].toNat ^^^ v → leN (L.set k c) = leN L ^^^ v * 2 ^ (8 * k)
  | [], k, h, _, _, _ => absurd h (by simp)
  | d :: T, 0, _, v, c, e => by
    rw [List.set_cons_zero, leN_cons, leN_cons, e]
    simp only [List.getElem_cons_zero, Nat.mul_zero, Nat.pow_zero, Nat.mul_one]
    rw [Nat.xor_assoc, Nat.xor_assoc, Nat.xor_comm v]
  | d :: T, k + 1, h, v, c, e => by
    rw [List.set_cons_succ, leN_cons, leN_cons, leN_set T k (by simpa using h) v c (by simpa using e), shl_xor, Nat.xor_assoc,
      show 8 * (k + 1) = 8 * k + 8 by omega, Nat.pow_add, Nat.mul_assoc]
/-- The block that the law turns: which bytes stand there. -/
structure Blk (w : World) (B : Nat) (L : List UInt8) : Prop where
  cell : ∀ i (h : i < L.length), w.cell? ⟨B, i, none⟩ = some (.int .u8 (L[i].toNat : Int))
  fro : ∀ i, i < L.length → w.frozen? ⟨B, i, none⟩ = false
theorem Blk.first (w : World) (b : ByteArray) : Blk (Lib.bytesWorld w 5 b) w.heap.size b.data.toList := by
  refine ⟨fun i h => ?_, fun i h => ?_⟩
  · rw [Lib.bytesWorld_cell w 5 b i (by simpa using h)]
    simp [List.getD, List.getElem?_eq_getElem h]
  · have h1 := Lib.bytesWorld_at_new w 5 b
    have h2 : i < (Lib.bytesCells w 5 b).size := by
      simp at h
      simp [Lib.bytesCells]; omega
    simp [World.frozen?, h1]; omega
theorem below_bytes {w0 w : World} (h : Hid (Below w0.heap.size w0 w)) (b : ByteArray) : Below w0.heap.size w0 (Lib.bytesWorld w 5 b) :=
  h.out.trans ⟨rfl, rfl, rfl, by rw [Lib.bytesWorld_size]; omega, fun k hk => Lib.bytesWorld_at_old w 5 b k (by have := h.out.size; omega)⟩
/-- Bit t of a text turned. -/
structure Turned (L0 L : List UInt8) (f k m : Nat) : Prop where
  len : L.length = L0.length
  num : leN L = leN L0 ^^^ m * 2 ^ f
  lt : m < 2 ^ k
theorem Turned.stay {L0 L : List UInt8} {f k m : Nat} (h : Turned L0 L f k m) : Turned L0 L f (k + 1) m :=
  ⟨h.len, h.num, Nat.lt_trans h.lt (Nat.pow_lt_pow_right (by decide) (Nat.lt_succ_self k))⟩
theorem Turned.turn {L0 L : List UInt8} {f k m q r : Nat} {c : UInt8} (h : Turned L0 L f k m) (ht : f + k = 8 * q + r) (hq : q < L.length) (hc : c.toNat = L[q].toNat ^^^ 2 ^ r) : Turned L0 (L.set q c) f (k + 1) (m + 2 ^ k) := by
  have hx : m + 2 ^ k = m ^^^ 2 ^ k := by
    have := add_xor (b := 1) h.lt
    simpa using this
  refine ⟨by rw [List.length_set, h.len], ?_, by rw [Nat.pow_succ]; have := h.lt; omega⟩
  rw [leN_set L q hq (2 ^ r) c hc, h.num, hx, shl_xor, Nat.xor_assoc, ← Nat.pow_add, ← Nat.pow_add, show r + 8 * q = k + f by omega]
theorem Blk.turn {w : World} {B q : Nat} {L : List UInt8} {c : UInt8} {v : Int} (h : Blk w B L) (hq : q < L.length) (hv : v = (c.toNat : Int)) : Blk (w.setCell ⟨B, q, none⟩ (.int .u8 v)).drew B (L.set q c) := by
  subst hv
  refine ⟨fun i hi => ?_, fun i hi => ?_⟩
  · show (w.setCell ⟨B, q, none⟩ _).cell? ⟨B, i, none⟩ = _
    rw [List.length_set] at hi
    by_cases e : q = i
    · subst e
      rw [World.cell?_setCell_same (h := h.cell q hq)]; simp
    · rw [World.cell?_setCell_other (h := by intro x; injection x with _ x; exact e x), h.cell i hi]
      simp [e]
  · show (w.setCell ⟨B, q, none⟩ _).frozen? ⟨B, i, none⟩ = _
    rw [World.frozen?_setCell]
    exact h.fro i (by simpa using hi)
theorem turn_val (c r : Nat) (hc : c < 256) (hr : r < 8) : ∃ d : UInt8, bits .xor .u8 (c : Int) (2 ^ r % 256) = (d.toNat : Int) ∧ d.toNat = c ^^^ 2 ^ r := by
  have h2 : ∀ r : Nat, r < 8 → 2 ^ r < 256 ∧ (2 : Int) ^ r % 256 = ((2 ^ r : Nat) : Int) := by decide +kernel
  obtain ⟨a1, a2⟩ := h2 r hr
  have hx : c ^^^ 2 ^ r < 256 := Nat.xor_lt_two_pow (n := 8) hc a1
  refine ⟨UInt8.ofNat (c ^^^ 2 ^ r), ?_, ?_⟩
  · rw [a2, u8_xor_nat c _ hc a1, UInt8.toNat_ofNat']
    omega
  · rw [UInt8.toNat_ofNat']; omega
theorem opn_turned {s b : ByteArray} {L : List UInt8} {f m : Nat} (hb : b = s ++ markS s) (h : Turned b.data.toList L f 32 m) (hm : 0 < m) : opn ⟨L.toArray⟩ = (⟨#[]⟩, 7) := by
  subst hb
  have hlb : (s ++ markS s).data.toList = s.data.toList ++ markL (sm s.data.toList) := by simp [markS]
  have hlen : L.length = s.data.toList.length + 4 := by rw [h.len, hlb, List.length_append]; rfl
  have hsz : (⟨L.toArray⟩ : ByteArray).size = L.length := by simp [ByteArray.size]
  have hls : s.data.toList.length = s.size := by simp
  unfold opn
  rw [if_neg (by omega)]
  rw [if_neg]
  intro e
  have e2 : (markS (frontS ⟨L.toArray⟩)).data.toList = (tailS ⟨L.toArray⟩).data.toList := by rw [e]
  have hF : (frontS ⟨L.toArray⟩).data.toList = L.take s.data.toList.length := by
    unfold frontS
    rw [Lib.extract_data, hsz, hlen]
    simp
  have hT : (tailS ⟨L.toArray⟩).data.toList = L.drop s.data.toList.length := by
    unfold tailS
    rw [Lib.extract_data, hsz, hlen, Nat.add_sub_cancel]
    exact List.take_of_length_le (by simp; omega)
  have e3 : markL (sm (L.take s.data.toList.length)) = L.drop s.data.toList.length := by rw [← hT, ← e2, ← hF]; simp [markS]
  have := burst (A := s.data.toList) (A' := L.take s.data.toList.length) (S := markL (sm s.data.toList)) (S' := L.drop s.data.toList.length) (m := m) (f := f)
    (by simp; omega) (leN_mark (sm_lt _)) (by rw [← e3, leN_mark (sm_lt _)]) h.lt (by rw [List.take_append_drop, h.num, hlb])
  omega
theorem Turned.first (L : List UInt8) (f : Nat) : Turned L L f 0 0 := ⟨rfl, by simp, by simp⟩
theorem from_is (a : Int) (n : Nat) (hn : n ≤ 400) : ∃ f : Nat, f < 8 * (n + 4) ∧ wrap64 ((IntKind.u64.wrap a).tmod (8 * ((n : Int) + 4))) = (f : Int) := by
  rw [IntKind.wrap_u64]
  generalize hx : a % 18446744073709551616 = x
  have hx0 : 0 ≤ x := by omega
  have h1 := Int.emod_nonneg x (b := 8 * ((n : Int) + 4)) (by omega)
  have h2 := Int.emod_lt_of_pos x (b := 8 * ((n : Int) + 4)) (by omega)
  rw [Int.tmod_eq_emod_of_nonneg hx0]
  generalize x % (8 * ((n : Int) + 4)) = y at *
  refine ⟨y.toNat, by omega, ?_⟩
  have : wrap64 y = y := by unfold wrap64; omega
  rw [this]; omega
end Go.Proofs.Ytnejahfeafllkaa
