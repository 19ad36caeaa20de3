/- PLAIN MATHEMATICS of the sum: a step, the sum of a list of bytes, and that what was turned within 32 bits that follow one another has another sum. -/
import Derived.Lib.Strings
namespace Go.Proofs.Ytnejahfeafllkaa

def st (n : Nat) : Nat := if n % 2 = 1 then n / 2 ^^^ 2197175160 else n / 2
def stK : Nat → Nat → Nat
  | 0, n => n
  | k + 1, n => stK k (st n)
/-- What eight steps make of a number: what the table holds. -/
def tb (n : Nat) : Nat := stK 8 n
def leN : List UInt8 → Nat
  | [] => 0
  | c :: T => c.toNat + 256 * leN T
def cr (x : Nat) (L : List UInt8) : Nat := L.foldl (fun x c => tb (x ^^^ c.toNat)) x
theorem cr_nil (x : Nat) : cr x [] = x := rfl
theorem cr_cons (x : Nat) (c : UInt8) (T : List UInt8) : cr x (c :: T) = cr (tb (x ^^^ c.toNat)) T := rfl
def sm (L : List UInt8) : Nat := cr 4294967295 L ^^^ 4294967295

theorem xor_mod2 (a b : Nat) : (a ^^^ b) % 2 = a % 2 ^^^ b % 2 := Nat.xor_mod_two_pow (n := 1)
theorem xor_lc (a b c : Nat) : a ^^^ (b ^^^ c) = b ^^^ (a ^^^ c) := by rw [← Nat.xor_assoc, Nat.xor_comm a b, Nat.xor_assoc]
theorem xor_can (a b : Nat) : a ^^^ (a ^^^ b) = b := by rw [← Nat.xor_assoc, Nat.xor_self, Nat.zero_xor]
theorem xor_eq0 {a b : Nat} (h : a ^^^ b = 0) : a = b := by
  have := xor_can a b; rw [h, Nat.xor_zero] at this; exact this
theorem st_xor (a b : Nat) : st (a ^^^ b) = st a ^^^ st b := by
  unfold st
  rw [xor_mod2, Nat.xor_div_two]
  rcases Nat.mod_two_eq_zero_or_one a with ha | ha <;> rcases Nat.mod_two_eq_zero_or_one b with hb | hb <;> rw [ha, hb] <;> simp
  · rw [Nat.xor_assoc]
  · rw [Nat.xor_assoc, Nat.xor_assoc, Nat.xor_comm (b / 2)]
  · rw [Nat.xor_assoc, xor_lc 2197175160, Nat.xor_self, Nat.xor_zero]
theorem stK_xor : ∀ k a b, stK k (a ^^^ b) = stK k a ^^^ stK k b
  | 0, _, _ => rfl
  | k + 1, a, b => by simp only [stK]; rw [st_xor, stK_xor k]
theorem stK_add : ∀ j k a, stK (j + k) a = stK k (stK j a)
  | 0, k, a => by rw [Nat.zero_add]; rfl
  | j + 1, k, a => by rw [show j + 1 + k = (j + k) + 1 by omega]; simp only [stK]; exact stK_add j k _
theorem st_two (n : Nat) : st (2 * n) = n := by
  unfold st; rw [if_neg (by omega)]; omega
theorem stK_pow : ∀ k n, stK k (n * 2 ^ k) = n
  | 0, n => by simp [stK]
  | k + 1, n => by
    simp only [stK]
    rw [show n * 2 ^ (k + 1) = 2 * (n * 2 ^ k) by rw [Nat.pow_succ]; rw [← Nat.mul_assoc, Nat.mul_comm _ 2], st_two, stK_pow k]
theorem add_xor {a b k : Nat} (h : a < 2 ^ k) : a + 2 ^ k * b = a ^^^ 2 ^ k * b := by
  apply Nat.eq_of_testBit_eq
  intro i
  rw [Nat.add_comm, Nat.testBit_two_pow_mul_add _ h, Nat.testBit_xor, Nat.mul_comm, Nat.testBit_mul_two_pow]
  by_cases hi : i < k
  · simp [hi, Nat.not_le.2 hi]
  · have : a.testBit i = false := Nat.testBit_lt_two_pow (Nat.lt_of_lt_of_le h (Nat.pow_le_pow_right (by decide) (by omega)))
    simp [hi, Nat.le_of_not_lt hi, this]
theorem st_lt {n : Nat} (h : n < 4294967296) : st n < 4294967296 := by
  unfold st
  split
  · exact Nat.xor_lt_two_pow (n := 32) (by omega) (by decide)
  · omega
theorem stK_lt : ∀ k {n}, n < 4294967296 → stK k n < 4294967296
  | 0, _, h => h
  | k + 1, _, h => by simp only [stK]; exact stK_lt k (st_lt h)
theorem tb_lt {n : Nat} (h : n < 4294967296) : tb n < 4294967296 := stK_lt 8 h
theorem tb_xor (a b : Nat) : tb (a ^^^ b) = tb a ^^^ tb b := stK_xor 8 a b
theorem tb_pow (n : Nat) : tb (n * 2 ^ 8) = n := stK_pow 8 n
theorem stK_tb (k n : Nat) : stK (8 + k) n = stK k (tb n) := stK_add 8 k n
theorem st_zero {n : Nat} (h : n < 4294967296) (h0 : st n = 0) : n = 0 := by
  unfold st at h0
  split at h0
  · have := xor_eq0 h0; omega
  · omega
theorem stK_zero : ∀ k {n}, n < 4294967296 → stK k n = 0 → n = 0
  | 0, _, _, h => h
  | k + 1, _, h, h0 => by simp only [stK] at h0; exact st_zero h (stK_zero k (st_lt h) h0)
theorem leN_lt : ∀ L : List UInt8, leN L < 2 ^ (8 * L.length)
  | [] => by simp [leN]
  | c :: T => by
    have := leN_lt T
    have hc := c.toNat_lt
    simp only [leN, List.length_cons]
    rw [show 8 * (T.length + 1) = 8 * T.length + 8 by omega, Nat.pow_add]
    omega
theorem cr_lt (L : List UInt8) : ∀ x : Nat, x < 4294967296 → cr x L < 4294967296 := by
  induction L with
  | nil => intro x h; rw [cr_nil]; exact h
  | cons c T ih =>
    intro x h
    have hc := c.toNat_lt
    have h2 : x ^^^ c.toNat < 4294967296 := Nat.xor_lt_two_pow (n := 32) (by omega) (by omega)
    rw [cr_cons]
    have h3 : tb (x ^^^ c.toNat) < 4294967296 := by
      generalize x ^^^ c.toNat = z at *
      exact tb_lt (n := z) h2
    generalize tb (x ^^^ c.toNat) = y at *
    exact ih y h3
/-- All of a text at once: as one great number. -/
theorem cr_le : ∀ L x, cr x L = stK (8 * L.length) (x ^^^ leN L)
  | [], x => by rw [cr_nil]; simp [leN, stK]
  | c :: T, x => by
    simp only [cr_cons, leN, List.length_cons]
    have e : c.toNat + 256 * leN T = c.toNat ^^^ leN T * 2 ^ 8 := by rw [Nat.mul_comm (leN T)]; exact add_xor (k := 8) c.toNat_lt
    have key : tb (x ^^^ (c.toNat + 256 * leN T)) = tb (x ^^^ c.toNat) ^^^ leN T := by
      rw [e, ← Nat.xor_assoc, tb_xor (x ^^^ c.toNat), tb_pow]
    rw [cr_le T, show 8 * (T.length + 1) = 8 + 8 * T.length by omega, stK_tb, key]
theorem cr_app (A B : List UInt8) (x : Nat) : cr x (A ++ B) = cr (cr x A) B := by
  unfold cr; exact List.foldl_append
theorem leN_app : ∀ A B, leN (A ++ B) = leN A ^^^ leN B * 2 ^ (8 * A.length)
  | A, B => by
    have h : ∀ A B, leN (A ++ B) = leN A + 2 ^ (8 * A.length) * leN B := by
      intro A B
      induction A with
      | nil => simp [leN]
      | cons c T ih =>
        simp only [List.cons_append, leN, List.length_cons]
        rw [ih, show 8 * (T.length + 1) = 8 + 8 * T.length by omega, Nat.pow_add, Nat.mul_add, ← Nat.add_assoc, Nat.mul_assoc]
    rw [h, add_xor (leN_lt A), Nat.mul_comm]
/-- What stands in front of a seal, and the seal as a number. -/
theorem cr_dif {A A' : List UInt8} (hl : A'.length = A.length) (x : Nat) : cr x A' ^^^ cr x A = stK (8 * A.length) (leN A' ^^^ leN A) := by
  rw [cr_le, cr_le, hl, ← stK_xor]
  congr 1
  rw [Nat.xor_assoc, xor_lc (leN A'), ← Nat.xor_assoc, Nat.xor_self, Nat.zero_xor]
/-- Of two texts with right seals, as long as one another, the difference is not m < 2^32, moved. -/
theorem burst {A A' S S' : List UInt8} (hl : A'.length = A.length) (hs : leN S = sm A) (hs' : leN S' = sm A') {m f : Nat} (hm : m < 4294967296)
    (h : leN (A' ++ S') = leN (A ++ S) ^^^ m * 2 ^ f) : m = 0 := by
  have h1 : leN (A' ++ S') ^^^ leN (A ++ S) = m * 2 ^ f := by rw [h, Nat.xor_comm, xor_can]
  have h2 : stK (8 * A.length) (m * 2 ^ f) = 0 := by
    rw [← h1, leN_app, leN_app, hl]
    rw [show leN A' ^^^ leN S' * 2 ^ (8 * A.length) ^^^ (leN A ^^^ leN S * 2 ^ (8 * A.length)) = (leN A' ^^^ leN A) ^^^ (leN S' * 2 ^ (8 * A.length) ^^^ leN S * 2 ^ (8 * A.length)) by
      rw [Nat.xor_assoc, xor_lc (leN S' * _), ← Nat.xor_assoc]]
    rw [stK_xor, ← cr_dif hl 4294967295, stK_xor, stK_pow, stK_pow, hs, hs', sm, sm]
    generalize cr 4294967295 A' = u
    generalize cr 4294967295 A = v
    rw [Nat.xor_assoc u, Nat.xor_assoc u, xor_lc 4294967295 v, Nat.xor_self, Nat.xor_zero, xor_lc v u, Nat.xor_self, Nat.xor_zero, Nat.xor_self]
  by_cases hf : f ≤ 8 * A.length
  · rw [show 8 * A.length = f + (8 * A.length - f) by omega, stK_add, stK_pow] at h2
    exact stK_zero _ hm h2
  · rw [show f = (f - 8 * A.length) + 8 * A.length by omega, Nat.pow_add, ← Nat.mul_assoc, stK_pow] at h2
    rcases Nat.mul_eq_zero.1 h2 with h | h
    · exact h
    · exact absurd h (Nat.pos_iff_ne_zero.1 (Nat.pow_pos (by decide)))
theorem tb_step (x c : Nat) : tb (x % 256 ^^^ c) ^^^ x / 256 = tb (x ^^^ c) := by
  have e : x ^^^ c = (x % 256 ^^^ c) ^^^ (x / 256) * 2 ^ 8 := by
    have h : x = x % 256 ^^^ 2 ^ 8 * (x / 256) := by
      rw [← add_xor (k := 8) (by omega)]; omega
    conv => lhs; rw [h]
    rw [Nat.xor_assoc, Nat.xor_comm _ c, ← Nat.xor_assoc, Nat.mul_comm]
  rw [e, tb_xor (x % 256 ^^^ c), tb_pow]
end Go.Proofs.Ytnejahfeafllkaa
