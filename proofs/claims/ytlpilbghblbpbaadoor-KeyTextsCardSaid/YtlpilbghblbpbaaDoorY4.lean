/- LUa, LUc, LUd, LMa, LWa, LWb, LWc, LWd, LWe, LWf, LWg -/
import Derived.Lib.Strings
import Derived.Shelf.Abstract
import Derived.Outline
import Derived.WalkMore
import Derived.Deep.LoopGhost
import Derived.Deep.QuietTactic
import Derived.BigQuiet
import Derived.IntWalk
import Derived.Lib.Bytealg
import Derived.Lib.AppendZeros
import Derived.Lib.ConvBytes
import Derived.OwnWalk
import Derived.Laws.AppendOwnNone
import Derived.Laws.OwnMore
import Derived.Test.YtlpilbghblbpbaaDoorY2
import Derived.Test.YtlpilbghblbpbaaDoorY1
/- PLAIN MATHEMATICS of the decimal texts: which bytes are a natural number's text, and which number it is. -/
namespace Go.Proofs.YtlpilbghblbpbaaDoor.Nu

def dgc (c : UInt8) : Bool := decide (48 ≤ c.toNat) && decide (c.toNat ≤ 57)
def natL (D : List UInt8) : Bool := !D.isEmpty && !(D.head? == some 48 && decide (1 < D.length)) && D.all dgc
def vr : List UInt8 → Int
  | [] => 0
  | c :: T => ((c.toNat : Int) - 48) * 10 ^ T.length + vr T
def negS (s : ByteArray) : Bool := s.data.toList.head? == some 45
def trimS (s : ByteArray) : ByteArray := if negS s then s.extract 1 s.size else s
def upTo (s : ByteArray) (k : Nat) : Prop := ∀ j (h : j < s.size), j < k → dgc s[j] = true

theorem size_list (s : ByteArray) : s.size = s.data.toList.length := by simp
theorem get_list (s : ByteArray) (k : Nat) (h : k < s.size) : s[k] = s.data.toList[k]'(by simpa using h) := rfl
theorem list_ne (s : ByteArray) (h : 0 < s.size) : ¬ s.toList = [] := by
  intro q; rw [Lib.toList_data] at q; rw [size_list, q] at h; simp at h
theorem list_isE (s : ByteArray) (h : 0 < s.size) : s.toList.isEmpty = false := by
  have := list_ne s h
  cases e : s.toList <;> simp_all
theorem list_nil (s : ByteArray) (h : ¬ 0 < s.size) : s.toList = [] := by
  rw [Lib.toList_data]; rw [size_list] at h; exact List.eq_nil_of_length_eq_zero (by omega)
theorem upTo_zero (s : ByteArray) : upTo s 0 := fun _ _ h => absurd h (by omega)
theorem upTo_succ {s : ByteArray} {k : Nat} (h : upTo s k) (hk : k < s.size) (h1 : 48 ≤ (s[k].toNat : Int)) (h2 : (s[k].toNat : Int) ≤ 57) : upTo s (k + 1) := by
  intro j hj hjk
  by_cases e : j = k
  · subst e; simp [dgc]; omega
  · exact h j hj (by omega)
theorem head_list (s : ByteArray) (h : 0 < s.size) : s.data.toList.head? = some s[0] := by
  rw [get_list, List.head?_eq_getElem?, List.getElem?_eq_getElem]
theorem nat_end {s : ByteArray} (h0 : 0 < s.size) (h1 : ¬ (s[0].toNat : Int) = 48 ∨ s.size ≤ 1) (hu : upTo s s.size) : natL s.data.toList = true := by
  have e : s.data.toList.isEmpty = false := by rw [← Lib.toList_data]; exact list_isE s h0
  have a : s.data.toList.all dgc = true := by
    rw [List.all_eq_true]
    intro c hc
    obtain ⟨k, hk, rfl⟩ := List.getElem_of_mem hc
    exact hu k (by simpa using hk) (by simpa using hk)
  unfold natL
  rw [e, a, head_list s h0]
  rcases h1 with h1 | h1
  · have : (some s[0] == some 48) = false := by
      simp; intro q; rw [q] at h1; exact h1 rfl
    simp [this]
  · have : decide (1 < s.data.toList.length) = false := by rw [← size_list]; simp; omega
    rw [this]; simp
theorem nat_bad {s : ByteArray} {k : Nat} (hk : k < s.size) (h : (s[k].toNat : Int) < 48 ∨ 57 < (s[k].toNat : Int)) : natL s.data.toList = false := by
  have a : s.data.toList.all dgc = false := by
    rw [List.all_eq_false]
    exact ⟨s[k], by rw [get_list]; exact List.getElem_mem _, by simp [dgc]; omega⟩
  simp [natL, a]
theorem nat_lead {s : ByteArray} (h0 : 0 < s.size) (h : (s[0].toNat : Int) = 48) (h1 : 1 < s.size) : natL s.data.toList = false := by
  have e : s[0] = 48 := by apply UInt8.toNat.inj; simp; omega
  have : decide (1 < s.data.toList.length) = true := by rw [← size_list]; simp; omega
  unfold natL; rw [head_list s h0, e, this]; simp
theorem nat_empty {s : ByteArray} (h : ¬ 0 < s.size) : natL s.data.toList = false := by
  have := list_nil s h
  rw [Lib.toList_data] at this
  simp [natL, this]

theorem vr_snoc (T : List UInt8) (c : UInt8) : vr (T ++ [c]) = 10 * vr T + (c.toNat : Int) - 48 := by
  induction T with
  | nil => simp [vr]
  | cons d T ih =>
    simp only [List.cons_append, vr, ih, List.length_append, List.length_cons, List.length_nil, Nat.zero_add, Int.pow_succ]
    have : ((d.toNat : Int) - 48) * (10 ^ T.length * 10) = 10 * (((d.toNat : Int) - 48) * 10 ^ T.length) := by
      rw [← Int.mul_assoc, Int.mul_comm _ 10]
    omega
theorem vr_take (D : List UInt8) (k : Nat) (h : k < D.length) : vr (D.take (k + 1)) = 10 * vr (D.take k) + (D[k].toNat : Int) - 48 := by
  rw [List.take_succ_eq_append_getElem h, vr_snoc]
theorem vr_drop (D : List UInt8) (k : Nat) (h : k < D.length) : vr (D.drop (D.length - (k + 1))) = vr (D.drop (D.length - k)) + ((D[D.length - 1 - k]'(by omega)).toNat - 48 : Int) * 10 ^ k := by
  have e : D.length - (k + 1) = D.length - 1 - k := by omega
  rw [e, List.drop_eq_getElem_cons (by omega : D.length - 1 - k < D.length)]
  have e2 : D.length - 1 - k + 1 = D.length - k := by omega
  simp only [vr, e2, List.length_drop]
  rw [show D.length - (D.length - k) = k by omega, Int.add_comm]
theorem vr_bound (D : List UInt8) (h : D.all dgc = true) : 0 ≤ vr D ∧ vr D < 10 ^ D.length := by
  induction D with
  | nil => simp [vr]
  | cons c T ih =>
    simp only [List.all_cons, Bool.and_eq_true, dgc, decide_eq_true_eq] at h
    have := ih h.2
    have p : (0 : Int) < 10 ^ T.length := Int.pow_pos (by decide)
    have h1 : 0 ≤ ((c.toNat : Int) - 48) * 10 ^ T.length := Int.mul_nonneg (by omega) (by omega)
    have h2 : ((c.toNat : Int) - 48) * 10 ^ T.length ≤ 9 * 10 ^ T.length := Int.mul_le_mul_of_nonneg_right (by omega) (by omega)
    simp only [vr, List.length_cons, Int.pow_succ]
    omega
theorem natL_all {D : List UInt8} (h : natL D = true) : D.all dgc = true := by simp [natL] at h ⊢; exact h.2
theorem natL_ne {D : List UInt8} (h : natL D = true) : 0 < D.length := by
  cases D <;> simp [natL] at h ⊢

theorem neg_size {s : ByteArray} (h : negS s = true) : 0 < s.size := by
  unfold negS at h; rw [size_list]; cases e : s.data.toList <;> simp [e] at h ⊢
theorem neg_test (s : ByteArray) (h : 0 < s.size) : ((s.extract 0 1).toList == [45]) = negS s := by
  rw [Lib.extract_toList]
  unfold negS
  rw [size_list] at h
  cases e : s.data.toList with
  | nil => simp [e] at h
  | cons c T => simp
theorem neg_get (s : ByteArray) (h : 0 < s.size) : negS s = decide ((s[0].toNat : Int) = 45) := by
  unfold negS
  rw [head_list s h, Bool.eq_iff_iff]
  simp
  constructor
  · intro q; rw [q]; rfl
  · intro q; apply UInt8.toNat.inj; simp; omega
theorem trim_neg {s : ByteArray} (h : negS s = true) : trimS s = s.extract 1 s.size := by simp [trimS, h]
theorem trim_pos {s : ByteArray} (h : negS s = false) : trimS s = s := by simp [trimS, h]
theorem trim_size_neg {s : ByteArray} (h : negS s = true) : (trimS s).size = s.size - 1 := by rw [trim_neg h]; simp
theorem trim_get_neg {s : ByteArray} (h : negS s = true) (k : Nat) (hk : k < (trimS s).size) (hk' : k + 1 < s.size) : (trimS s)[k] = s[k + 1] := by
  have e : (trimS s).data.toList = s.data.toList.drop 1 := by
    rw [trim_neg h, ← Lib.toList_data, Lib.extract_toList]
    rw [List.take_of_length_le (by simp)]
  rw [get_list, get_list]
  simp [e]

def formOk (neg : Bool) (D : List UInt8) : Bool := natL D && !(neg && D == [48])
theorem form_nat {neg : Bool} {D : List UInt8} (h : natL D = false) : formOk neg D = false := by simp [formOk, h]
theorem form_zero {s : ByteArray} (h : (s.toList == [48]) = true) : formOk true s.data.toList = false := by
  rw [Lib.toList_data] at h; simp only [formOk, h]; simp
theorem form_neg {s : ByteArray} (h : (s.toList == [48]) = false) (hn : natL s.data.toList = true) : formOk true s.data.toList = true := by
  rw [Lib.toList_data] at h; simp only [formOk, h, hn]; rfl
theorem form_pos {D : List UInt8} (hn : natL D = true) : formOk false D = true := by simp [formOk, hn]
theorem form_natL {neg : Bool} {D : List UInt8} (h : formOk neg D = true) : natL D = true := by
  simp only [formOk, Bool.and_eq_true] at h; exact h.1
theorem all_get {s : ByteArray} (h : natL s.data.toList = true) (k : Nat) (hk : k < s.size) : 48 ≤ (s[k].toNat : Int) ∧ (s[k].toNat : Int) ≤ 57 := by
  have a := List.all_eq_true.1 (natL_all h) s[k] (by rw [get_list]; exact List.getElem_mem _)
  simp only [dgc, Bool.and_eq_true, decide_eq_true_eq] at a
  omega
/-- The last k bytes' number, its bound, and the place of the byte ahead of them. -/
structure FromEnd (s : ByteArray) (k : Nat) (n p : Int) : Prop where
  val : n = vr (s.data.toList.drop (s.size - k))
  pow : p = 10 ^ k
  lo : 0 ≤ n
  hi : n < p
theorem FromEnd.first (s : ByteArray) : FromEnd s 0 0 1 := ⟨by rw [List.drop_of_length_le (by simp)]; rfl, rfl, by omega, by omega⟩
theorem pow_le_15 (k : Nat) (h : k < 16) : (10 : Int) ^ k ≤ 1000000000000000 ∧ (1 : Int) ≤ 10 ^ k := by
  have h1 : (10 : Nat) ^ k ≤ 10 ^ 15 := Nat.pow_le_pow_right (by decide) (by omega)
  have h2 : 0 < (10 : Nat) ^ k := Nat.pow_pos (by decide)
  have h3 : ((10 : Int) ^ k) = ((10 ^ k : Nat) : Int) := by simp
  rw [h3]
  omega
theorem FromEnd.bound {s : ByteArray} {k : Nat} {n p : Int} (h : FromEnd s k n p) (hk : k < 16) : 0 ≤ n ∧ n < p ∧ 1 ≤ p ∧ p ≤ 1000000000000000 := by
  have := pow_le_15 k hk
  have := h.pow; have := h.lo; have := h.hi
  omega
theorem digit_mul (c p : Int) (h : 48 ≤ c) (h' : c ≤ 57) (hp : 0 ≤ p) : 0 ≤ (c - 48) * p ∧ (c - 48) * p ≤ 9 * p :=
  ⟨Int.mul_nonneg (by omega) hp, Int.mul_le_mul_of_nonneg_right (by omega) hp⟩
theorem FromEnd.step {s : ByteArray} {k i : Nat} {n p : Int} (h : FromEnd s k n p) (hk : k < s.size) (hi : i < s.size) (hik : i = s.size - 1 - k) (h1 : 48 ≤ (s[i].toNat : Int)) (h2 : (s[i].toNat : Int) ≤ 57) : FromEnd s (k + 1) (n + ((s[i].toNat : Int) - 48) * p) (p * 10) := by
  subst hik
  have hd := vr_drop s.data.toList k (by simpa using hk)
  have hm := digit_mul (s[s.size - 1 - k].toNat : Int) p h1 h2 (by have := h.lo; have := h.hi; omega)
  obtain ⟨v, q, lo, hh⟩ := h
  refine ⟨?_, by rw [Int.pow_succ, q], by omega, by omega⟩
  subst v; subst q; exact hd.symm
theorem FromEnd.last {s : ByteArray} {n p : Int} (h : FromEnd s s.size n p) : n = vr s.data.toList := by
  have := h.val; simpa using this
end Go.Proofs.YtlpilbghblbpbaaDoor.Nu
/- WALKS of strings.TrimPrefix at "-", num.natural, num.Read. -/
namespace Go.Proofs.YtlpilbghblbpbaaDoor.Nu
open Go.RowKit


end Go.Proofs.YtlpilbghblbpbaaDoor.Nu
/- WALK of num.Read. -/
namespace Go.Proofs.YtlpilbghblbpbaaDoor.Nu
open Go.RowKit

def sgnV (neg : Bool) (v : Int) : Int := bif neg then -v else v
def readV (neg : Bool) (D : List UInt8) : Int := bif formOk neg D then (if 16 < D.length then 0 else outV true (inB (sgnV neg (vr D))) (sgnV neg (vr D))) else 0
def readE (neg : Bool) (D : List UInt8) : Int := bif formOk neg D then (if 16 < D.length then 25 else outE true (inB (sgnV neg (vr D)))) else 2
theorem ret_form {neg : Bool} {D : List UInt8} (h : formOk neg D = false) : Ending.returned (.tuple #[.int .i64 0, .int .i64 2]) = .returned (.tuple #[.int .i64 (readV neg D), .int .i64 (readE neg D)]) :=
  ret_two (by simp [readV, h]) (by simp [readE, h])
theorem ret_long {neg : Bool} {D : List UInt8} (h : formOk neg D = true) (h' : 16 < D.length) : Ending.returned (.tuple #[.int .i64 0, .int .i64 25]) = .returned (.tuple #[.int .i64 (readV neg D), .int .i64 (readE neg D)]) :=
  ret_two (by simp [readV, h, h']) (by simp [readE, h, h'])
theorem ret_val {neg : Bool} {D : List UInt8} {v : Int} (h : formOk neg D = true) (h' : ¬ 16 < D.length) (hv : v = sgnV neg (vr D)) : Ending.returned (.tuple #[.int .i64 (outV true (inB v) v), .int .i64 (outE true (inB v))]) = .returned (.tuple #[.int .i64 (readV neg D), .int .i64 (readE neg D)]) :=
  ret_two (by simp [readV, h, h', hv]) (by simp [readE, h, h', hv])
theorem FromEnd.bound16 {s : ByteArray} {k : Nat} {n p : Int} (h : FromEnd s k n p) (hk : k ≤ 16) : 0 ≤ n ∧ n ≤ 10000000000000000 := by
  have h1 : (10 : Nat) ^ k ≤ 10 ^ 16 := Nat.pow_le_pow_right (by decide) hk
  have h3 : ((10 : Int) ^ k) = ((10 ^ k : Nat) : Int) := by simp
  have := h.pow; have := h.lo; have := h.hi
  omega

end Go.Proofs.YtlpilbghblbpbaaDoor.Nu
/- PLAIN MATHEMATICS of tokens. -/
namespace Go.Proofs.YtlpilbghblbpbaaDoor.Lx

/-- Bytes as a text. -/
def bs (l : List UInt8) : ByteArray := ⟨l.toArray⟩
theorem bs_list (l : List UInt8) : (bs l).toList = l := by rw [Lib.toList_data]; simp [bs]
theorem bs_size (l : List UInt8) : (bs l).size = l.length := by rw [Nm.size_list, bs_list]
theorem bs_ext {a b : ByteArray} (h : a.toList = b.toList) : a = b := by
  rw [Lib.toList_data, Lib.toList_data] at h
  cases a; cases b; simp at h; rw [h]
theorem bs_of (s : ByteArray) : bs s.toList = s := bs_ext (bs_list _)
theorem ext_drop (s : ByteArray) (k : Nat) : (s.extract k s.size).toList = s.toList.drop k := by
  rw [Lib.extract_toList, Lib.toList_data, List.take_of_length_le (by simp)]
theorem ext_take (s : ByteArray) (a b : Nat) : (s.extract a b).toList = (s.toList.drop a).take (b - a) := by
  rw [Lib.extract_toList, Lib.toList_data]
theorem ext_front (s : ByteArray) (k : Nat) : s.extract 0 k = bs (s.toList.take k) := bs_ext (by rw [ext_take, bs_list]; simp)
theorem ext_mid (s : ByteArray) (a b : Nat) : s.extract a b = bs ((s.toList.drop a).take (b - a)) := bs_ext (by rw [ext_take, bs_list])
theorem drop_at (s : ByteArray) (k : Nat) (h : k < s.size) : s.toList.drop k = s[k] :: s.toList.drop (k + 1) := by
  rw [List.drop_eq_getElem_cons (by rw [← Nm.size_list]; exact h), ← Nm.get_list s k h]
theorem drop_end (s : ByteArray) (k : Nat) (h : ¬ k < s.size) : s.toList.drop k = [] := List.drop_eq_nil_of_le (by rw [← Nm.size_list]; omega)
theorem drop_len (s : ByteArray) (k : Nat) : (s.toList.drop k).length = s.size - k := by rw [List.length_drop, ← Nm.size_list]

def dgB (c : UInt8) : Bool := decide (48 ≤ (c.toNat : Int) ∧ (c.toNat : Int) ≤ 57)
def lwB (c : UInt8) : Bool := decide (97 ≤ (c.toNat : Int) ∧ (c.toNat : Int) ≤ 122)
def nmB (c : UInt8) : Bool := decide ((97 ≤ (c.toNat : Int) ∧ (c.toNat : Int) ≤ 122) ∨ (48 ≤ (c.toNat : Int) ∧ (c.toNat : Int) ≤ 57) ∨ (c.toNat : Int) = 95)
def rmB (c : UInt8) : Bool := decide (¬ (c.toNat : Int) = 10)
def blB (c : UInt8) : Bool := decide ((c.toNat : Int) = 32 ∨ (c.toNat : Int) = 9 ∨ (c.toNat : Int) = 10 ∨ (c.toNat : Int) = 13)
def plB (c : UInt8) : Bool := decide (32 ≤ (c.toNat : Int) ∧ (c.toNat : Int) ≤ 126)
/-- How many at the front. -/
def rowN (p : UInt8 → Bool) : List UInt8 → Nat
  | [] => 0
  | c :: l => if p c = true then rowN p l + 1 else 0
theorem rowN_yes {p : UInt8 → Bool} {c : UInt8} {l : List UInt8} (h : p c = true) : rowN p (c :: l) = rowN p l + 1 := if_pos h
theorem rowN_no {p : UInt8 → Bool} {c : UInt8} {l : List UInt8} (h : p c = false) : rowN p (c :: l) = 0 := if_neg (by rw [h]; decide)
theorem rowN_le (p : UInt8 → Bool) : ∀ l, rowN p l ≤ l.length
  | [] => Nat.le_refl _
  | c :: l => by
    cases h : p c
    · rw [rowN_no h]; omega
    · rw [rowN_yes h, List.length_cons]; have := rowN_le p l; omega
/-- How many bytes stand between tokens, within a remark or not. -/
def skN : Bool → List UInt8 → Nat
  | _, [] => 0
  | r, c :: l => if (c.toNat : Int) = 35 ∨ (r = true ∧ ¬ (c.toNat : Int) = 10) then skN true l + 1 else if blB c = true then skN false l + 1 else 0
theorem skN_rem {r : Bool} {c : UInt8} {l : List UInt8} (h : (c.toNat : Int) = 35 ∨ (r = true ∧ ¬ (c.toNat : Int) = 10)) : skN r (c :: l) = skN true l + 1 := by rw [skN, if_pos h]
theorem skN_bl {r : Bool} {c : UInt8} {l : List UInt8} (h : ¬ ((c.toNat : Int) = 35 ∨ (r = true ∧ ¬ (c.toNat : Int) = 10))) (h2 : blB c = true) : skN r (c :: l) = skN false l + 1 := by rw [skN, if_neg h, if_pos h2]
theorem skN_no {r : Bool} {c : UInt8} {l : List UInt8} (h : ¬ ((c.toNat : Int) = 35 ∨ (r = true ∧ ¬ (c.toNat : Int) = 10))) (h2 : blB c = false) : skN r (c :: l) = 0 := by rw [skN, if_neg h, if_neg (by rw [h2]; decide)]
theorem bl10 {c : UInt8} (h : (c.toNat : Int) = 10) : blB c = true := decide_eq_true (.inr (.inr (.inl h)))
theorem skN_le : ∀ (r : Bool) (l : List UInt8), skN r l ≤ l.length
  | _, [] => Nat.le_refl _
  | r, c :: l => by
    rw [skN, List.length_cons]
    have h1 := skN_le true l
    have h2 := skN_le false l
    split
    · omega
    · split <;> omega
theorem sk_row : ∀ l : List UInt8, skN true l = rowN rmB l + skN false (l.drop (rowN rmB l))
  | [] => rfl
  | c :: l => by
    by_cases h : (c.toNat : Int) = 10
    · have e : rmB c = false := decide_eq_false (fun q => q h)
      rw [rowN_no e, List.drop_zero, skN_bl (by rintro (q | ⟨_, q⟩) <;> omega) (bl10 h), skN_bl (by rintro (q | ⟨q, _⟩); omega; exact absurd q (by decide)) (bl10 h)]
      omega
    · rw [skN_rem (.inr ⟨rfl, h⟩), rowN_yes (decide_eq_true h), List.drop_succ_cons, sk_row l]; omega
theorem sk_hash {c : UInt8} {l : List UInt8} (h : (c.toNat : Int) = 35) : skN false (c :: l) = rowN rmB (c :: l) + skN false ((c :: l).drop (rowN rmB (c :: l))) := by
  rw [skN_rem (.inl h), rowN_yes (decide_eq_true (by omega)), List.drop_succ_cons, sk_row l]; omega

/-- A digit to the base 16; -1: none. -/
def sixV (c : UInt8) : Int := if dgB c = true then (c.toNat : Int) - 48 else if 97 ≤ (c.toNat : Int) ∧ (c.toNat : Int) ≤ 102 then (c.toNat : Int) - 87 else -1
theorem sixV_lo (c : UInt8) : -1 ≤ sixV c ∧ sixV c ≤ 15 := by
  unfold sixV
  split
  · have := of_decide_eq_true ‹dgB c = true›; omega
  · split <;> omega
/-- Two digits. -/
def hexL : List UInt8 → Int × Nat
  | a :: b :: _ => if 0 ≤ sixV a ∧ 0 ≤ sixV b then (16 * sixV a + sixV b, 4) else (0, 0)
  | _ => (0, 0)
/-- What stands behind a 92. -/
def escL : List UInt8 → Int × Nat
  | [] => (0, 0)
  | d :: l => if (d.toNat : Int) = 34 ∨ (d.toNat : Int) = 92 then ((d.toNat : Int), 2) else if (d.toNat : Int) = 110 then (10, 2) else if (d.toNat : Int) = 120 then hexL l else (0, 0)
/-- The byte of the part at the front, and how many bytes it has; 0: none. -/
def partL : List UInt8 → Int × Nat
  | [] => (0, 0)
  | c :: l => if (c.toNat : Int) = 34 ∨ plB c = false then (0, 0) else if ¬ (c.toNat : Int) = 92 then ((c.toNat : Int), 1) else escL l
theorem byte_nb (c : UInt8) : 0 ≤ (c.toNat : Int) ∧ (c.toNat : Int) ≤ 255 := by have := c.toNat_lt; omega
theorem hexL_ok (l : List UInt8) : (hexL l).2 ≤ l.length + 2 ∧ 0 ≤ (hexL l).1 ∧ (hexL l).1 ≤ 255 := by
  match l with
  | [] => exact ⟨Nat.zero_le _, Int.le_refl _, by decide⟩
  | [c] => exact ⟨Nat.zero_le _, Int.le_refl _, by show (0 : Int) ≤ 255; decide⟩
  | a :: b :: l =>
    have := sixV_lo a; have := sixV_lo b
    by_cases h : 0 ≤ sixV a ∧ 0 ≤ sixV b
    · rw [show hexL (a :: b :: l) = (16 * sixV a + sixV b, 4) from if_pos h]; simp only [List.length_cons]; omega
    · rw [show hexL (a :: b :: l) = (0, 0) from if_neg h]; exact ⟨Nat.zero_le _, Int.le_refl _, by show (0 : Int) ≤ 255; decide⟩
theorem escL_ok (l : List UInt8) : (escL l).2 ≤ l.length + 1 ∧ 0 ≤ (escL l).1 ∧ (escL l).1 ≤ 255 := by
  match l with
  | [] => exact ⟨Nat.zero_le _, Int.le_refl _, by decide⟩
  | d :: l =>
    have := byte_nb d
    have := hexL_ok l
    unfold escL
    simp only [List.length_cons]
    split
    · dsimp only; omega
    · split
      · dsimp only; omega
      · split
        · omega
        · exact ⟨Nat.zero_le _, Int.le_refl _, by show (0 : Int) ≤ 255; decide⟩
theorem partL_ok (l : List UInt8) : (partL l).2 ≤ l.length ∧ 0 ≤ (partL l).1 ∧ (partL l).1 ≤ 255 := by
  match l with
  | [] => exact ⟨Nat.zero_le _, Int.le_refl _, by decide⟩
  | d :: l =>
    have := byte_nb d
    have := escL_ok l
    unfold partL
    simp only [List.length_cons]
    split
    · exact ⟨Nat.zero_le _, Int.le_refl _, by show (0 : Int) ≤ 255; decide⟩
    · split
      · dsimp only; omega
      · omega
/-- The text's bytes, and where its second quote stands: with so many rounds left, behind so many bytes, with what stands there. -/
def txF : Nat → List UInt8 → List UInt8 → Nat → Option (List UInt8 × Nat)
  | 0, _, _, _ => none
  | n + 1, l, acc, k =>
    match l with
    | [] => none
    | c :: l' => if (c.toNat : Int) = 34 then some (acc, k) else if (partL (c :: l')).2 = 0 then none else txF n ((c :: l').drop (partL (c :: l')).2) (acc ++ [UInt8.ofNat (partL (c :: l')).1.toNat]) (k + (partL (c :: l')).2)
theorem txF_nil (n : Nat) (acc : List UInt8) (k : Nat) : txF n [] acc k = none := by cases n <;> rfl
theorem txF_quote {n : Nat} {c : UInt8} {l acc : List UInt8} {k : Nat} (hn : 0 < n) (h : (c.toNat : Int) = 34) : txF n (c :: l) acc k = some (acc, k) := by
  cases n
  · omega
  · show (if (c.toNat : Int) = 34 then _ else _) = _; rw [if_pos h]
theorem txF_bad {n : Nat} {c : UInt8} {l acc : List UInt8} {k : Nat} (h : ¬ (c.toNat : Int) = 34) (h2 : (partL (c :: l)).2 = 0) : txF n (c :: l) acc k = none := by
  cases n
  · rfl
  · show (if (c.toNat : Int) = 34 then _ else _) = _; rw [if_neg h, if_pos h2]
theorem txF_step {n : Nat} {c : UInt8} {l acc : List UInt8} {k : Nat} (h : ¬ (c.toNat : Int) = 34) (h2 : ¬ (partL (c :: l)).2 = 0) : txF (n + 1) (c :: l) acc k = txF n ((c :: l).drop (partL (c :: l)).2) (acc ++ [UInt8.ofNat (partL (c :: l)).1.toNat]) (k + (partL (c :: l)).2) := by
  show (if (c.toNat : Int) = 34 then _ else _) = _; rw [if_neg h, if_neg h2]

/-- A token but for its place. -/
structure Tk where
  k : Int
  n : Int
  t : List UInt8
/-- All signs, the longer ones first. -/
def signsL : List (List UInt8) := [[46, 46, 46], [62, 61], [60, 61], [58], [59], [123], [125], [40], [41], [38], [124], [43], [45], [42], [46]]
def signL (l : List UInt8) : List UInt8 := (signsL.find? fun w => w.isPrefixOf l).getD []
/-- The error, the token, and how many bytes it has, at the front of what is not empty. -/
def numberL (l : List UInt8) : Int × Tk × Nat :=
  let d := l.take (rowN dgB l)
  (if Nu.readE false d = 2 then 20 else Nu.readE false d, ⟨1, Nu.readV false d, []⟩, rowN dgB l)
def wordL (l : List UInt8) : Int × Tk × Nat :=
  let d := l.take (rowN nmB l)
  if (Nm.rightL d || decide (0 < Nm.wordN d)) = true then (0, ⟨2, 0, d⟩, rowN nmB l) else (20, ⟨0, 0, []⟩, 0)
def textL (l : List UInt8) : Int × Tk × Nat :=
  match txF (l.length + 1) (l.drop 1) [] 1 with
  | none => (20, ⟨0, 0, []⟩, 0)
  | some (t, k) => if 256 < t.length then (4, ⟨0, 0, []⟩, 0) else (0, ⟨3, 0, t⟩, k + 1)
def signR (l : List UInt8) : Int × Tk × Nat := if signL l = [] then (20, ⟨0, 0, []⟩, 0) else (0, ⟨4, 0, signL l⟩, (signL l).length)
def firstL (l : List UInt8) : Int × Tk × Nat :=
  match l with
  | [] => (20, ⟨0, 0, []⟩, 0)
  | c :: _ => if dgB c = true then numberL l else if lwB c = true then wordL l else if (c.toNat : Int) = 34 then textL l else signR l
/-- A token. -/
structure Tok where
  x : Tk
  at_ : Int
def tok0 : Tok := ⟨⟨0, 0, []⟩, 0⟩
def Tok.v (t : Tok) : Value := .agg #[.int .i64 t.x.k, .int .i64 t.x.n, .string (bs t.x.t), .int .i64 t.at_]
/-- The token at a place within: the error, it, the place behind it. -/
def nextL (L : List UInt8) (p : Nat) : Int × Tok × Nat :=
  let q := p + skN false (L.drop p)
  if q = L.length then (0, ⟨⟨0, 0, []⟩, q⟩, q)
  else let r := firstL (L.drop q)
    if r.1 = 0 then (0, ⟨r.2.1, q⟩, q + r.2.2) else (r.1, tok0, q)
end Go.Proofs.YtlpilbghblbpbaaDoor.Lx
/- WALKS of the bytes' questions, of row. -/
namespace Go.Proofs.YtlpilbghblbpbaaDoor.Lx
open Go.RowKit
open Nm (ret_bool ret_int ret_str)

set_option maxHeartbeats 400000 in
theorem plain_any (c : UInt8) (w : World) : Calls Tryd.prog 65 #[.int .u8 (c.toNat : Int)] w fun e w' => e = .returned (.bool (plB c)) ∧ w = w' := by
  by_cases h1 : 32 ≤ (c.toNat : Int) <;> by_cases h2 : (c.toNat : Int) ≤ 126
  all_goals
    go_enter Tryd.func65, Tryd.ntmps65
    go_wp2
    go_ret
    exact ⟨ret_bool (by simp [plB]; omega), rfl⟩
theorem nmB_cases (c : UInt8) : nmB c = (lwB c || (dgB c || decide ((c.toNat : Int) = 95))) := by
  unfold nmB lwB dgB
  rw [Bool.eq_iff_iff]
  simp
theorem rowN_eq {p : UInt8 → Bool} {s : ByteArray} {k : Nat} (hk : k < s.size) (h : p s[k] = true) (he : k + rowN p (s.toList.drop k) = rowN p s.toList) : k + 1 + rowN p (s.toList.drop (k + 1)) = rowN p s.toList := by
  rw [drop_at s k hk, rowN_yes h] at he; omega
theorem rowN_stop {p : UInt8 → Bool} {s : ByteArray} {k : Nat} (hk : k < s.size) (h : p s[k] = false) (he : k + rowN p (s.toList.drop k) = rowN p s.toList) : (k : Int) = rowN p s.toList := by
  rw [drop_at s k hk, rowN_no h] at he; omega
theorem rowN_end {p : UInt8 → Bool} {s : ByteArray} {k : Nat} (hk : ¬ k < s.size) (hk2 : k ≤ s.size) (he : k + rowN p (s.toList.drop k) = rowN p s.toList) : (s.size : Int) = rowN p s.toList := by
  rw [drop_end s k hk] at he; simp only [rowN] at he; omega
end Go.Proofs.YtlpilbghblbpbaaDoor.Lx
/- WALKS of skip and of the reference's Skip. -/
namespace Go.Proofs.YtlpilbghblbpbaaDoor.Lx
open Go.RowKit
open Nm (ret_bool ret_int ret_str)

/-- What is left to pass over, at a place. -/
def SkAt (s : ByteArray) (r : Bool) (k n : Nat) : Prop := k + skN r (s.toList.drop k) = n
theorem SkAt.step {s : ByteArray} {r : Bool} {k n : Nat} (h : SkAt s r k n) (hk : k < s.size) (hn : ¬ ((s[k].toNat : Int) = 35 ∨ (r = true ∧ ¬ (s[k].toNat : Int) = 10))) (hb : (s[k].toNat : Int) = 32 ∨ (s[k].toNat : Int) = 9 ∨ (s[k].toNat : Int) = 10 ∨ (s[k].toNat : Int) = 13) : SkAt s false (k + 1) n := by
  unfold SkAt at h ⊢
  rw [drop_at s k hk, skN_bl hn (decide_eq_true hb)] at h; omega
theorem SkAt.rem {s : ByteArray} {r : Bool} {k n : Nat} (h : SkAt s r k n) (hk : k < s.size) (hn : (s[k].toNat : Int) = 35 ∨ (r = true ∧ ¬ (s[k].toNat : Int) = 10)) : SkAt s true (k + 1) n := by
  unfold SkAt at h ⊢
  rw [drop_at s k hk, skN_rem hn] at h; omega
theorem SkAt.stop {s : ByteArray} {r : Bool} {k n : Nat} (h : SkAt s r k n) (hk : k < s.size) (hn : ¬ ((s[k].toNat : Int) = 35 ∨ (r = true ∧ ¬ (s[k].toNat : Int) = 10))) (hb : ¬ ((s[k].toNat : Int) = 32 ∨ (s[k].toNat : Int) = 9 ∨ (s[k].toNat : Int) = 10 ∨ (s[k].toNat : Int) = 13)) : (k : Int) = n := by
  unfold SkAt at h
  rw [drop_at s k hk, skN_no hn (decide_eq_false hb)] at h; omega
theorem SkAt.last {s : ByteArray} {r : Bool} {k n : Nat} (h : SkAt s r k n) (hk : ¬ k < s.size) : (k : Int) = n := by
  unfold SkAt at h
  rw [drop_end s k hk] at h; cases r <;> simp only [skN] at h <;> omega
theorem SkAt.hash {s : ByteArray} {k n m : Nat} (h : SkAt s false k n) (hk : k < s.size) (hh : (s[k].toNat : Int) = 35) (hm : m = rowN rmB (s.toList.drop k)) : SkAt s false (k + m) n := by
  unfold SkAt at h ⊢
  subst hm
  rw [drop_at s k hk, sk_hash hh, ← drop_at s k hk, List.drop_drop] at h
  rw [show k + rowN rmB (s.toList.drop k) = k + rowN rmB (s.toList.drop k) from rfl]; omega
theorem hash_pos {s : ByteArray} {k m : Nat} (hk : k < s.size) (hh : (s[k].toNat : Int) = 35) (hm : m = rowN rmB (s.toList.drop k)) : 0 < m ∧ k + m ≤ s.size := by
  subst hm
  have h1 := rowN_le rmB (s.toList.drop k)
  rw [drop_len] at h1
  rw [drop_at s k hk, rowN_yes (decide_eq_true (by omega))] at h1 ⊢
  omega
theorem byte_sep (c : Int) : (c = 32 ∨ c = 9 ∨ c = 10 ∨ c = 13) ∨ (c = 35) ∨ ((c == 32) = false ∧ (c == 9) = false ∧ (c == 10) = false ∧ (c == 13) = false ∧ (c == 35) = false) := by
  simp; omega
end Go.Proofs.YtlpilbghblbpbaaDoor.Lx
/- WALKS of the reference's Skip, six, part. -/
namespace Go.Proofs.YtlpilbghblbpbaaDoor.Lx
open Go.RowKit
open Nm (ret_bool ret_int ret_str)

theorem byte_ne (c : Int) : (c = 32 ∨ c = 9 ∨ c = 10 ∨ c = 13) ∨ (c = 35) ∨ ((c != 32) = true ∧ (c != 9) = true ∧ (c != 10) = true ∧ (c != 13) = true ∧ (c == 35) = false ∧ (c == 10) = false) := by
  simp; omega
end Go.Proofs.YtlpilbghblbpbaaDoor.Lx
/- WALK of the reference's part. -/
namespace Go.Proofs.YtlpilbghblbpbaaDoor.Lx
open Go.RowKit
open Nm (ret_bool ret_int ret_str)

def PartP (r : Int × Nat) (w : World) (e : Ending) (w' : World) : Prop := e = .returned (.tuple #[.int .u8 r.1, .int .i64 (r.2 : Int)]) ∧ ∃ q, w' = w.drewN q
theorem PartP.mk {r : Int × Nat} {v n : Int} {w w' : World} (h : r = (v, n.toNat)) (h0 : 0 ≤ n) (hw : ∃ q, w' = w.drewN q) : PartP r w (.returned (.tuple #[.int .u8 v, .int .i64 n])) w' := by
  subst h; refine ⟨?_, hw⟩; dsimp only; rw [Int.toNat_of_nonneg h0]
theorem partL_cons (c : UInt8) (l : List UInt8) : partL (c :: l) = if (c.toNat : Int) = 34 ∨ plB c = false then (0, 0) else if ¬ (c.toNat : Int) = 92 then ((c.toNat : Int), 1) else escL l := rfl
theorem escL_cons (d : UInt8) (l : List UInt8) : escL (d :: l) = if (d.toNat : Int) = 34 ∨ (d.toNat : Int) = 92 then ((d.toNat : Int), 2) else if (d.toNat : Int) = 110 then (10, 2) else if (d.toNat : Int) = 120 then hexL l else (0, 0) := rfl
theorem partL_no {c : UInt8} {l : List UInt8} (h : (c.toNat : Int) < 32 ∨ 126 < (c.toNat : Int) ∨ (c.toNat : Int) = 34) : partL (c :: l) = (0, 0) := by
  rw [partL_cons, if_pos]
  by_cases h4 : (c.toNat : Int) = 34
  · exact .inl h4
  · exact .inr (decide_eq_false (by omega))
theorem partL_one {c : UInt8} {l : List UInt8} (h1 : 32 ≤ (c.toNat : Int)) (h2 : (c.toNat : Int) ≤ 126) (h3 : ¬ (c.toNat : Int) = 34) (h4 : ¬ (c.toNat : Int) = 92) : partL (c :: l) = ((c.toNat : Int), 1) := by
  rw [partL_cons, if_neg, if_pos h4]
  rintro (h | h)
  · exact h3 h
  · have := of_decide_eq_false h; omega
theorem partL_esc {c : UInt8} {l : List UInt8} (h4 : (c.toNat : Int) = 92) : partL (c :: l) = escL l := by
  rw [partL_cons, if_neg, if_neg (by omega)]
  rintro (h | h)
  · omega
  · have := of_decide_eq_false h; omega
theorem escL_self {d : UInt8} {l : List UInt8} (h : (d.toNat : Int) = 34 ∨ (d.toNat : Int) = 92) : escL (d :: l) = ((d.toNat : Int), 2) := if_pos h
theorem escL_n {d : UInt8} {l : List UInt8} (h : (d.toNat : Int) = 110) : escL (d :: l) = (10, 2) := by rw [escL_cons, if_neg (by omega), if_pos h]
theorem escL_x {d : UInt8} {l : List UInt8} (h : (d.toNat : Int) = 120) : escL (d :: l) = hexL l := by rw [escL_cons, if_neg (by omega), if_neg (by omega), if_pos h]
theorem escL_no {d : UInt8} {l : List UInt8} (h : ¬ (d.toNat : Int) = 34) (h2 : ¬ (d.toNat : Int) = 92) (h3 : ¬ (d.toNat : Int) = 110) (h4 : ¬ (d.toNat : Int) = 120) : escL (d :: l) = (0, 0) := by rw [escL_cons, if_neg (by omega), if_neg (by omega), if_neg (by omega)]
theorem hexL_yes {a b : UInt8} {l : List UInt8} (h : 0 ≤ sixV a) (h2 : 0 ≤ sixV b) : hexL (a :: b :: l) = (16 * sixV a + sixV b, 4) := if_pos ⟨h, h2⟩
theorem hexL_no {a b : UInt8} {l : List UInt8} (h : ¬ (0 ≤ sixV a ∧ 0 ≤ sixV b)) : hexL (a :: b :: l) = (0, 0) := if_neg h
theorem hexL_short {s : ByteArray} {k : Nat} (h : ¬ k + 1 < s.size) : hexL (s.toList.drop k) = (0, 0) := by
  have hl := drop_len s k
  generalize s.toList.drop k = l at hl
  match l with
  | [] => rfl
  | [_] => rfl
  | _ :: _ :: _ => simp at hl; omega
theorem byte_part (c : Int) : (c < 32 ∨ (32 ≤ c ∧ 126 < c) ∨ ((32 ≤ c ∧ c ≤ 126) ∧ c = 34)) ∨ ((32 ≤ c ∧ c ≤ 126) ∧ (c == 34) = false ∧ (c != 92) = true) ∨ c = 92 := by
  simp; omega
theorem byte_esc (c : Int) : c = 34 ∨ c = 92 ∨ c = 110 ∨ c = 120 ∨ ((c == 34) = false ∧ (c == 92) = false ∧ (c == 110) = false ∧ (c == 120) = false) := by
  simp; omega
theorem u8_in (v : Int) (h : 0 ≤ v) (h2 : v ≤ 255) : IntKind.u8.wrap v = v := by
  simp only [IntKind.wrap]; simp [IntKind.bits, IntKind.signed]; omega
end Go.Proofs.YtlpilbghblbpbaaDoor.Lx
/- WALKS of coded, part. -/
namespace Go.Proofs.YtlpilbghblbpbaaDoor.Lx
open Go.RowKit
theorem ret_bool {a b : Bool} (h : a = b) : Ending.returned (.bool a) = .returned (.bool b) := by rw [h]
theorem ret_str {a b : ByteArray} (h : a = b) : Ending.returned (.string a) = .returned (.string b) := by rw [h]
theorem ret_int {k : IntKind} {a b : Int} (h : a = b) : Ending.returned (.int k a) = .returned (.int k b) := by rw [h]

theorem dig_all : ∀ n, n < 256 → Lib.indexByte [48, 49, 50, 51, 52, 53, 54, 55, 56, 57, 97, 98, 99, 100, 101, 102] (UInt8.ofNat n) = sixV (UInt8.ofNat n) := by decide +kernel
theorem plain_as (c : UInt8) (b : Bool) (w : World) (h : Hid (plB c = b)) : Calls Tryd.prog 65 #[.int .u8 (c.toNat : Int)] w fun e w' => e = .returned (.bool b) ∧ w = w' := by rw [← h.out]; exact plain_any c w
theorem plain_92 (w : World) : Calls Tryd.prog 65 #[.int .u8 92] w fun e w' => e = .returned (.bool true) ∧ w = w' := plain_any 92 w
theorem byte_part2 (c : UInt8) : ((c.toNat : Int) = 34) ∨ (plB c = false ∧ ((c.toNat : Int) == 34) = false) ∨ (plB c = true ∧ ((c.toNat : Int) == 34) = false ∧ ((c.toNat : Int) != 92) = true) ∨ (plB c = true ∧ (c.toNat : Int) = 92) := by
  by_cases h1 : (c.toNat : Int) = 34
  · exact .inl h1
  · by_cases h2 : 32 ≤ (c.toNat : Int) ∧ (c.toNat : Int) ≤ 126
    · have e : plB c = true := decide_eq_true h2
      by_cases h3 : (c.toNat : Int) = 92
      · exact .inr (.inr (.inr ⟨e, h3⟩))
      · exact .inr (.inr (.inl ⟨e, by simpa using h1, by simpa using h3⟩))
    · exact .inr (.inl ⟨decide_eq_false h2, by simpa using h1⟩)
theorem PartP.of {r : Int × Nat} {w w1 : World} {e : Ending} {w' : World} (h : PartP r w1 e w') (hw : w1 = w) : PartP r w e w' := by subst hw; exact h
end Go.Proofs.YtlpilbghblbpbaaDoor.Lx
/- A LIST OF BYTES OF THE CALL's OWN; WALKS of text. -/
namespace Go.Proofs.YtlpilbghblbpbaaDoor.Lx
open Go.RowKit
theorem Tryd.info5 : (Tryd.prog.info? 5).map (fun i => (i.zero, i.size, i.bytes)) = some (some (.int .u8 0), 1, 1) := by kernel_rfl
theorem bl_alloc {w a : World} {o : Obj} (h : Below w.heap.size w a) : Below w.heap.size w (a.alloc o) := h.alloc h.size o
theorem bl_set {w a : World} {p : Addr} {v : Value} (h : Below w.heap.size w a) (hp : w.heap.size ≤ p.block) : Below w.heap.size w (a.setCell p v) := h.setCell hp v
theorem bl_step {w a b : World} (h : Below w.heap.size w a) (k : Below a.heap.size a b) : Below w.heap.size w b := h.trans (k.mono h.size)
def SRow (w : World) (a : Option Addr) (L : List UInt8) : Prop :=
  (a = none ∧ L = []) ∨ ∃ ad, a = some ad ∧ (L ≠ [] → ad.block < w.heap.size) ∧ ∀ j (h : j < L.length), w.cell? (ad.add j) = some (.int .u8 (L[j].toNat : Int))
theorem block_add (a : Addr) (n : Nat) : (a.add n).block = a.block := by unfold Addr.add; split <;> rfl
theorem SRow.below {w w' : World} {a : Option Addr} {L : List UInt8} (h : SRow w a L) (hb : Below w.heap.size w w') : SRow w' a L := by
  rcases h with h | ⟨ad, rfl, h1, h2⟩
  · exact .inl h
  · refine .inr ⟨ad, rfl, fun e => Nat.lt_of_lt_of_le (h1 e) hb.size, fun j hj => ?_⟩
    have : L ≠ [] := fun e => by subst e; simp at hj
    rw [hb.cell (by rw [block_add]; exact h1 this)]
    exact h2 j hj
def u8s (L : List UInt8) : List Value := L.map fun c => Value.int .u8 (c.toNat : Int)
theorem own_base {w : World} {base e size n : Nat} {v : Value} {xs : List Value} (h : w.ownsRow base e size v n xs) : ∀ k, v.ownBlock = some k → base ≤ k := by
  intro k hk
  rcases h.2 with ⟨rfl, _⟩ | ⟨g, cap, cur, rfl, hb, _⟩
  · simp [Value.ownBlock] at hk
  · simp [Value.ownBlock] at hk; omega
theorem row_own {w : World} {base n : Nat} {v : Value} {L : List UInt8} (h : w.ownsRow base 5 1 v n (u8s L)) : ∃ a cap, v = .slice a L.length cap ∧ SRow w a L := by
  have hl := h.1
  rw [u8s, List.length_map, Nat.mul_one] at hl
  rcases h.2 with ⟨rfl, hn0⟩ | ⟨g, cap, cur, rfl, hb, hg, hcap, hm, hsz, htake⟩
  · rw [hl, hn0]
    exact ⟨none, 0, rfl, .inl ⟨rfl, List.eq_nil_of_length_eq_zero (by omega)⟩⟩
  · rw [← hl]
    refine ⟨_, cap, rfl, .inr ⟨_, rfl, fun _ => (Array.getElem?_eq_some_iff.1 hg).1, fun j hj => ?_⟩⟩
    have h1 : (u8s L)[j]? = some (.int .u8 (L[j].toNat : Int)) := by simp [u8s, List.getElem?_eq_getElem hj]
    rw [← htake, Nat.mul_one, List.getElem?_take_of_lt (by omega)] at h1
    have ha : (⟨g, 0, none⟩ : Addr).add j = ⟨g, j, none⟩ := by unfold Addr.add; split <;> simp_all
    rw [ha, cell_of_row _ _ _ _ 5 (0, 0) hg]
    simpa using h1
theorem conv_row {w : World} {a : Option Addr} {L : List UInt8} (c : Nat) (h : SRow w a L) : (convert 50 9 (.slice a L.length c)).run Tryd.prog w = .ok (.string ⟨L.toArray⟩) w := by
  rcases h with ⟨rfl, rfl⟩ | ⟨ad, rfl, _, h2⟩
  · exact run_convert_bytes_nil w 50 5 Tryd.underlying50 Tryd.underlying5 0 c 9 Tryd.underlying9
  · exact run_convert_bytes_back w 50 9 5 ad c L Tryd.underlying50 Tryd.underlying5 Tryd.underlying9 h2
/-- What a function answers that looks for a token: the error, the token but for its place, how many bytes. -/
def TkP (r : Int × Tk × Nat) (w : World) (e : Ending) (w' : World) : Prop := e = .returned (.tuple #[.agg #[.int .i64 r.2.1.k, .int .i64 r.2.1.n, .string (bs r.2.1.t), .int .i64 0], .int .i64 (r.2.2 : Int), .int .i64 r.1]) ∧ Below w.heap.size w w'
def TxAt (s : ByteArray) (R : Option (List UInt8 × Nat)) (k : Nat) (acc : List UInt8) : Prop := ∃ f, s.size - k < f ∧ txF f (s.toList.drop k) acc k = R
theorem TxAt.quote {s : ByteArray} {R : Option (List UInt8 × Nat)} {k : Nat} {acc : List UInt8} (h : TxAt s R k acc) (hk : k < s.size) (hq : (s[k].toNat : Int) = 34) : R = some (acc, k) := by
  obtain ⟨f, hf, h⟩ := h
  rw [drop_at s k hk, txF_quote (by omega) hq] at h; exact h.symm
theorem TxAt.end_ {s : ByteArray} {R : Option (List UInt8 × Nat)} {k : Nat} {acc : List UInt8} (h : TxAt s R k acc) (hk : ¬ k < s.size) : R = none := by
  obtain ⟨f, hf, h⟩ := h
  rw [drop_end s k hk, txF_nil] at h; exact h.symm
theorem TxAt.bad {s : ByteArray} {R : Option (List UInt8 × Nat)} {k : Nat} {acc : List UInt8} (h : TxAt s R k acc) (hk : k < s.size) (hq : ¬ (s[k].toNat : Int) = 34) (hp : (partL (s.toList.drop k)).2 = 0) : R = none := by
  obtain ⟨f, hf, h⟩ := h
  rw [drop_at s k hk] at h hp
  rw [txF_bad hq hp] at h; exact h.symm
theorem TxAt.step {s : ByteArray} {R : Option (List UInt8 × Nat)} {k n : Nat} {c : Int} {acc : List UInt8} (h : TxAt s R k acc) (hk : k < s.size) (hq : ¬ (s[k].toNat : Int) = 34) (hp : partL (s.toList.drop k) = (c, n)) (hn : n ≠ 0) : TxAt s R (k + n) (acc ++ [UInt8.ofNat c.toNat]) := by
  obtain ⟨f, hf, h⟩ := h
  cases f
  · omega
  · rename_i f
    rw [drop_at s k hk] at h hp
    rw [txF_step hq (by rw [hp]; exact hn), hp] at h
    refine ⟨f, by omega, ?_⟩
    rw [← h, ← drop_at s k hk, List.drop_drop]
theorem u8_of (c : Int) (h0 : 0 ≤ c) (h1 : c ≤ 255) : ((UInt8.ofNat c.toNat).toNat : Int) = c := by rw [UInt8.toNat_ofNat']; omega
theorem part_bd {L : List UInt8} {c : Int} {n : Nat} (h : partL L = (c, n)) : n ≤ L.length ∧ 0 ≤ c ∧ c ≤ 255 := by have := partL_ok L; rw [h] at this; exact this
theorem eq_comm_b (a b : UInt8) : (a == b) = decide (b = a) := by rw [Bool.eq_iff_iff]; simp; exact eq_comm
end Go.Proofs.YtlpilbghblbpbaaDoor.Lx
/- WALK of text. -/
namespace Go.Proofs.YtlpilbghblbpbaaDoor.Lx
open Go.RowKit
theorem owns_below {w w' : World} {base E size n : Nat} {v : Value} {xs : List Value} (h : w.ownsRow base E size v n xs) (hb : Below w.heap.size w w') : w'.ownsRow base E size v n xs := by
  obtain ⟨h1, h2⟩ := h
  refine ⟨h1, ?_⟩
  rcases h2 with h2 | ⟨g, cap, cur, hv, hg, hh, r⟩
  · exact Or.inl h2
  · exact Or.inr ⟨g, cap, cur, hv, hg, by rw [hb.block g (Array.getElem?_eq_some_iff.1 hh).1]; exact hh, r⟩
theorem bl_drewN (w : World) (q : Nat) : Below w.heap.size w (w.drewN q) := ⟨rfl, rfl, rfl, Nat.le_refl _, fun _ _ => rfl⟩
theorem textL_none {s : ByteArray} {R : Option (List UInt8 × Nat)} (h : txF (s.toList.length + 1) (s.toList.drop 1) [] 1 = R) (hR : R = none) : textL s.toList = (20, ⟨0, 0, []⟩, 0) := by
  unfold textL; rw [h, hR]
theorem textL_long {s : ByteArray} {R : Option (List UInt8 × Nat)} {acc : List UInt8} {k : Nat} (h : txF (s.toList.length + 1) (s.toList.drop 1) [] 1 = R) (hR : R = some (acc, k)) (hl : 256 < acc.length) : textL s.toList = (4, ⟨0, 0, []⟩, 0) := by
  unfold textL; rw [h, hR]; exact if_pos hl
theorem textL_yes {s : ByteArray} {R : Option (List UInt8 × Nat)} {acc : List UInt8} {k : Nat} (h : txF (s.toList.length + 1) (s.toList.drop 1) [] 1 = R) (hR : R = some (acc, k)) (hl : ¬ 256 < acc.length) : textL s.toList = (0, ⟨3, 0, acc⟩, k + 1) := by
  unfold textL; rw [h, hR]; exact if_neg hl
/-- A block of the call's own that holds a token. -/
def Tz (w : World) (g : Nat) : Prop := g < w.heap.size ∧ (∀ o, w.frozen? ⟨g, o, none⟩ = false) ∧ w.cell? ⟨g, 0, none⟩ = some (.int .i64 0) ∧ w.cell? ⟨g, 1, none⟩ = some (.int .i64 0) ∧ w.cell? ⟨g, 2, none⟩ = some (.string ⟨#[]⟩) ∧ w.cell? ⟨g, 3, none⟩ = some (.int .i64 0)
theorem Tz.low {w w' : World} {g N : Nat} (h : Tz w g) (hb : Below N w w') (hg : g < N) : Tz w' g :=
  ⟨Nat.lt_of_lt_of_le h.1 hb.size, fun o => (hb.frozen (p := ⟨g, o, none⟩) hg).trans (h.2.1 o), (hb.cell (p := ⟨g, 0, none⟩) hg).trans h.2.2.1, (hb.cell (p := ⟨g, 1, none⟩) hg).trans h.2.2.2.1, (hb.cell (p := ⟨g, 2, none⟩) hg).trans h.2.2.2.2.1, (hb.cell (p := ⟨g, 3, none⟩) hg).trans h.2.2.2.2.2⟩
theorem Tz.later {w w' : World} {g : Nat} (h : Tz w g) (hb : Below w.heap.size w w') : Tz w' g := h.low hb h.1
theorem set_size {w : World} {a : Addr} {v : Value} : (w.setCell a v).heap.size = w.heap.size := by simp [World.setCell]
theorem set_far {w : World} {g o b q : Nat} {v : Value} (h : b ≠ g ∨ q ≠ o) : (w.setCell ⟨g, o, none⟩ v).cell? ⟨b, q, none⟩ = w.cell? ⟨b, q, none⟩ :=
  World.cell?_setCell_other _ _ _ _ (by intro e; cases e; rcases h with h | h <;> exact h rfl)
theorem set_here {w : World} {g o : Nat} {u v : Value} (h : w.cell? ⟨g, o, none⟩ = some u) : (w.setCell ⟨g, o, none⟩ v).cell? ⟨g, o, none⟩ = some v := World.cell?_setCell_same _ _ _ h
theorem set4 {W : World} {g : Nat} {u0 u1 u2 u3 : Value} (v0 v1 v2 v3 : Value) (c0 : W.cell? ⟨g, 0, none⟩ = some u0) (c1 : W.cell? ⟨g, 1, none⟩ = some u1) (c2 : W.cell? ⟨g, 2, none⟩ = some u2) (c3 : W.cell? ⟨g, 3, none⟩ = some u3) :
    ((((W.setCell ⟨g, 0, none⟩ v0).setCell ⟨g, 1, none⟩ v1).setCell ⟨g, 2, none⟩ v2).setCell ⟨g, 3, none⟩ v3).cell? ⟨g, 0, none⟩ = some v0 ∧ ((((W.setCell ⟨g, 0, none⟩ v0).setCell ⟨g, 1, none⟩ v1).setCell ⟨g, 2, none⟩ v2).setCell ⟨g, 3, none⟩ v3).cell? ⟨g, 1, none⟩ = some v1 ∧
    ((((W.setCell ⟨g, 0, none⟩ v0).setCell ⟨g, 1, none⟩ v1).setCell ⟨g, 2, none⟩ v2).setCell ⟨g, 3, none⟩ v3).cell? ⟨g, 2, none⟩ = some v2 ∧ ((((W.setCell ⟨g, 0, none⟩ v0).setCell ⟨g, 1, none⟩ v1).setCell ⟨g, 2, none⟩ v2).setCell ⟨g, 3, none⟩ v3).cell? ⟨g, 3, none⟩ = some v3 := by
  refine ⟨?_, ?_, ?_, ?_⟩
  · rw [set_far (.inr (by decide)), set_far (.inr (by decide)), set_far (.inr (by decide)), set_here c0]
  · rw [set_far (.inr (by decide)), set_far (.inr (by decide)), set_here (u := u1) (by rw [set_far (.inr (by decide)), c1])]
  · rw [set_far (.inr (by decide)), set_here (u := u2) (by rw [set_far (.inr (by decide)), set_far (.inr (by decide)), c2])]
  · rw [set_here (u := u3) (by rw [set_far (.inr (by decide)), set_far (.inr (by decide)), set_far (.inr (by decide)), c3])]
theorem bl_set4 {w W : World} {g : Nat} {v0 v1 v2 v3 : Value} (h : Below w.heap.size w W) (hg : w.heap.size ≤ g) : Below w.heap.size w ((((W.setCell ⟨g, 0, none⟩ v0).setCell ⟨g, 1, none⟩ v1).setCell ⟨g, 2, none⟩ v2).setCell ⟨g, 3, none⟩ v3) :=
  bl_set (bl_set (bl_set (bl_set h hg) hg) hg) hg
end Go.Proofs.YtlpilbghblbpbaaDoor.Lx
