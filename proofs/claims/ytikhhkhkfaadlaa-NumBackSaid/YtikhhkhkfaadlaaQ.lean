/- PLAIN MATHEMATICS of a number's text. -/
import Derived.Below
import Derived.Lib.Strings
namespace Go.Proofs.Ytikhhkhkfaadlaa

def digC (n : Nat) : UInt8 := UInt8.ofNat (48 + n % 10)
theorem digC_nat (n : Nat) : (digC n).toNat = 48 + n % 10 := by
  unfold digC; rw [UInt8.toNat_ofNat']; omega
/-- The digits of n; of 0 none. With fuel, so that it is reckoned. -/
def dzF : Nat → Nat → List UInt8
  | 0, _ => []
  | f + 1, n => if n = 0 then [] else dzF f (n / 10) ++ [digC n]
def dz (n : Nat) : List UInt8 := dzF n n
theorem dzF_eq (f g n : Nat) (hf : n ≤ f) (hg : n ≤ g) : dzF f n = dzF g n := by
  induction f generalizing g n with
  | zero =>
    obtain rfl : n = 0 := by omega
    cases g <;> simp [dzF]
  | succ f ih =>
    cases g with
    | zero => obtain rfl : n = 0 := by omega
              simp [dzF]
    | succ g =>
      simp only [dzF]
      by_cases h : n = 0
      · simp [h]
      · rw [if_neg h, if_neg h, ih g (n / 10) (by omega) (by omega)]
theorem dz_pos (n : Nat) (h : n ≠ 0) : dz n = dz (n / 10) ++ [digC n] := by
  unfold dz
  cases n with
  | zero => exact absurd rfl h
  | succ m =>
    rw [show dzF (m + 1) (m + 1) = dzF m ((m + 1) / 10) ++ [digC (m + 1)] from by simp [dzF]]
    rw [dzF_eq m ((m + 1) / 10) ((m + 1) / 10) (by omega) (by omega)]
theorem dz_zero : dz 0 = [] := rfl
def dg (n : Nat) : List UInt8 := dz (n / 10) ++ [digC n]
theorem dg_dz (n : Nat) (h : n ≠ 0) : dg n = dz n := by rw [dz_pos n h]; rfl
theorem dg_ten (n : Nat) (h : 10 ≤ n) : dg n = dg (n / 10) ++ [digC n] := by
  rw [dg_dz (n / 10) (by omega)]; rfl
theorem dg_small (n : Nat) (h : n < 10) : dg n = [digC n] := by
  unfold dg; rw [show n / 10 = 0 by omega]; rfl
theorem dz_len (k n : Nat) (h : n < 10 ^ k) : (dz n).length ≤ k := by
  induction k generalizing n with
  | zero => obtain rfl : n = 0 := by simpa using h
            simp [dz_zero]
  | succ k ih =>
    by_cases h0 : n = 0
    · subst h0; simp [dz_zero]
    · rw [dz_pos n h0, List.length_append]
      have := ih (n / 10) (by rw [Nat.pow_succ] at h; omega)
      simp; omega
theorem dg_len (n : Nat) (h : n < 10000000000000000000) : (dg n).length ≤ 19 := by
  have := dz_len 18 (n / 10) (by omega)
  unfold dg; simp; omega
def textL (n : Int) : List UInt8 := if n < 0 then 45 :: dg n.natAbs else dg n.natAbs
def textS (n : Int) : ByteArray := ⟨(textL n).toArray⟩
theorem textL_pos {n : Int} (h : ¬ n < 0) : textL n = dg n.natAbs := by simp [textL, h]
theorem textL_neg {n : Int} (h : n < 0) : textL n = 45 :: dg n.natAbs := by simp [textL, h]
theorem textL_len (n : Int) (h : n.natAbs ≤ 9223372036854775808) : (textL n).length ≤ 20 := by
  have := dg_len n.natAbs (by omega)
  unfold textL; split <;> simp <;> omega
theorem textS_list (n : Int) : (textS n).data.toList = textL n := by simp [textS]

/-- What holds at the head of the round that writes the place k from the end: left is to be written still, L stands there. -/
structure Wrote (N k left : Nat) (L : List UInt8) : Prop where
  len : L.length = k
  says : (k = 0 ∧ left = N) ∨ (left ≠ 0 ∧ dg N = dz left ++ L)
  low : left < 10 ^ (19 - k)
  kle : k ≤ 19
theorem Wrote.first (N : Nat) (h : N < 10000000000000000000) : Wrote N 0 N [] := ⟨rfl, .inl ⟨rfl, rfl⟩, by simpa using h, by omega⟩
theorem Wrote.k18 {N k left : Nat} {L : List UInt8} (h : Wrote N k left L) : k ≤ 18 := by
  obtain ⟨_, h2, h3, h4⟩ := h
  rcases h2 with h2 | h2
  · omega
  · by_cases e : k = 19
    · subst e; simp at h3; omega
    · omega
theorem Wrote.next {N k left : Nat} {L : List UInt8} (h : Wrote N k left L) : dg N = dz (left / 10) ++ (digC left :: L) := by
  obtain ⟨h1, h2, h3, h4⟩ := h
  rcases h2 with ⟨rfl, rfl⟩ | ⟨hl, hd⟩
  · have : L = [] := List.eq_nil_of_length_eq_zero h1
    subst this; rfl
  · rw [hd, dz_pos left hl, List.append_assoc]; rfl
theorem Wrote.step {N k left : Nat} {L : List UInt8} (h : Wrote N k left L) (h0 : left / 10 ≠ 0) : Wrote N (k + 1) (left / 10) (digC left :: L) := by
  have h18 := h.k18
  refine ⟨by simp [h.len], .inr ⟨h0, h.next⟩, ?_, by omega⟩
  have := h.low
  rw [show 19 - k = (19 - (k + 1)) + 1 by omega, Nat.pow_succ] at this
  omega
theorem Wrote.last {N k left : Nat} {L : List UInt8} (h : Wrote N k left L) (h0 : left / 10 = 0) : dg N = digC left :: L := by
  rw [h.next, h0]; rfl

/-- An array of 20 whose end holds the bytes L. -/
structure TailIs (cs : Array Value) (L : List UInt8) : Prop where
  size : cs.size = 20
  len : L.length ≤ 20
  at_ : ∀ j (h : j < L.length), cs[20 - L.length + j]? = some (.int .u8 (L[j].toNat : Int))
theorem TailIs.first (cs : Array Value) (h : cs.size = 20) : TailIs cs [] := ⟨h, by simp, fun j h => by simp at h⟩
theorem TailIs.step {cs : Array Value} {L : List UInt8} (h : TailIs cs L) (c : UInt8) (v : Int) (i : Nat) (hv : v = (c.toNat : Int)) (hi : i + L.length = 19) : TailIs (cs.setIfInBounds i (.int .u8 v)) (c :: L) := by
  subst hv
  obtain ⟨h1, h2, h3⟩ := h
  refine ⟨by simp [h1], by simp; omega, fun j hj => ?_⟩
  have e : 20 - (c :: L).length = i := by simp; omega
  rw [e]
  cases j with
  | zero => simp [h1, show i < 20 by omega]
  | succ j =>
    have := h3 j (by simpa using hj)
    rw [Array.getElem?_setIfInBounds_ne (by omega)]
    rw [show i + (j + 1) = 20 - L.length + j by omega, this]
    rfl
end Go.Proofs.Ytikhhkhkfaadlaa
