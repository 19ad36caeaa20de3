/- PLAIN MATHEMATICS of tokens. -/
import Derived.Test.YtfhknnldkfngdaaDoorNa
import Derived.Test.YtfhknnldkfngdaaDoorUd
namespace Go.Proofs.YtfhknnldkfngdaaDoor

/-- Bytes as a text. -/
def bs (l : List UInt8) : ByteArray := ⟨l.toArray⟩
theorem bs_list (l : List UInt8) : (bs l).toList = l := by rw [Lib.toList_data]; simp [bs]
theorem bs_size (l : List UInt8) : (bs l).size = l.length := by rw [Nm.size_list, bs_list]
theorem bs_ext {a b : ByteArray} (h : a.toList = b.toList) : a = b := by
  rw [Lib.toList_data, Lib.toList_data] at h
  cases a; cases b; simp at h; rw [h]
theorem bs_of (s : ByteArray) : bs s.toList = s := bs_ext (bs_list _)
theorem ext_drop (s : ByteArray) (k : Nat) : (s.extract k s.size).toList = s.toList.drop k := by
  rw [Lib.extract_toList, Lib.toList_data, List.take_of_length_le (by simp)]
theorem ext_take (s : ByteArray) (a b : Nat) : (s.extract a b).toList = (s.toList.drop a).take (b - a) := by
  rw [Lib.extract_toList, Lib.toList_data]
theorem ext_front (s : ByteArray) (k : Nat) : s.extract 0 k = bs (s.toList.take k) := bs_ext (by rw [ext_take, bs_list]; simp)
theorem ext_mid (s : ByteArray) (a b : Nat) : s.extract a b = bs ((s.toList.drop a).take (b - a)) := bs_ext (by rw [ext_take, bs_list])
theorem drop_at (s : ByteArray) (k : Nat) (h : k < s.size) : s.toList.drop k = s[k] :: s.toList.drop (k + 1) := by
  rw [List.drop_eq_getElem_cons (by rw [← Nm.size_list]; exact h), ← Nm.get_list s k h]
theorem drop_end (s : ByteArray) (k : Nat) (h : ¬ k < s.size) : s.toList.drop k = [] := List.drop_eq_nil_of_le (by rw [← Nm.size_list]; omega)
theorem drop_len (s : ByteArray) (k : Nat) : (s.toList.drop k).length = s.size - k := by rw [List.length_drop, ← Nm.size_list]

def dgB (c : UInt8) : Bool := decide (48 ≤ (c.toNat : Int) ∧ (c.toNat : Int) ≤ 57)
def lwB (c : UInt8) : Bool := decide (97 ≤ (c.toNat : Int) ∧ (c.toNat : Int) ≤ 122)
def nmB (c : UInt8) : Bool := decide ((97 ≤ (c.toNat : Int) ∧ (c.toNat : Int) ≤ 122) ∨ (48 ≤ (c.toNat : Int) ∧ (c.toNat : Int) ≤ 57) ∨ (c.toNat : Int) = 95)
def rmB (c : UInt8) : Bool := decide (¬ (c.toNat : Int) = 10)
def blB (c : UInt8) : Bool := decide ((c.toNat : Int) = 32 ∨ (c.toNat : Int) = 9 ∨ (c.toNat : Int) = 10 ∨ (c.toNat : Int) = 13)
def plB (c : UInt8) : Bool := decide (32 ≤ (c.toNat : Int) ∧ (c.toNat : Int) ≤ 126)
/-- How many at the front. -/
def rowN (p : UInt8 → Bool) : List UInt8 → Nat
  | [] => 0
  | c :: l => if p c = true then rowN p l + 1 else 0
theorem rowN_yes {p : UInt8 → Bool} {c : UInt8} {l : List UInt8} (h : p c = true) : rowN p (c :: l) = rowN p l + 1 := if_pos h
theorem rowN_no {p : UInt8 → Bool} {c : UInt8} {l : List UInt8} (h : p c = false) : rowN p (c :: l) = 0 := if_neg (by rw [h]; decide)
theorem rowN_le (p : UInt8 → Bool) : ∀ l, rowN p l ≤ l.length
  | [] => Nat.le_refl _
  | c :: l => by
    cases h : p c
    · rw [rowN_no h]; omega
    · rw [rowN_yes h, List.length_cons]; have := rowN_le p l; omega
/-- How many bytes stand between tokens, within a remark or not. -/
def skN : Bool → List UInt8 → Nat
  | _, [] => 0
  | r, c :: l => if (c.toNat : Int) = 35 ∨ (r = true ∧ ¬ (c.toNat : Int) = 10) then skN true l + 1 else if blB c = true then skN false l + 1 else 0
theorem skN_rem {r : Bool} {c : UInt8} {l : List UInt8} (h : (c.toNat : Int) = 35 ∨ (r = true ∧ ¬ (c.toNat : Int) = 10)) : skN r (c :: l) = skN true l + 1 := by rw [skN, if_pos h]
theorem skN_bl {r : Bool} {c : UInt8} {l : List UInt8} (h : ¬ ((c.toNat : Int) = 35 ∨ (r = true ∧ ¬ (c.toNat : Int) = 10))) (h2 : blB c = true) : skN r (c :: l) = skN false l + 1 := by rw [skN, if_neg h, if_pos h2]
theorem skN_no {r : Bool} {c : UInt8} {l : List UInt8} (h : ¬ ((c.toNat : Int) = 35 ∨ (r = true ∧ ¬ (c.toNat : Int) = 10))) (h2 : blB c = false) : skN r (c :: l) = 0 := by rw [skN, if_neg h, if_neg (by rw [h2]; decide)]
theorem bl10 {c : UInt8} (h : (c.toNat : Int) = 10) : blB c = true := decide_eq_true (.inr (.inr (.inl h)))
theorem skN_le : ∀ (r : Bool) (l : List UInt8), skN r l ≤ l.length
  | _, [] => Nat.le_refl _
  | r, c :: l => by
    rw [skN, List.length_cons]
    have h1 := skN_le true l
    have h2 := skN_le false l
    split
    · omega
    · split <;> omega
theorem sk_row : ∀ l : List UInt8, skN true l = rowN rmB l + skN false (l.drop (rowN rmB l))
  | [] => rfl
  | c :: l => by
    by_cases h : (c.toNat : Int) = 10
    · have e : rmB c = false := decide_eq_false (fun q => q h)
      rw [rowN_no e, List.drop_zero, skN_bl (by rintro (q | ⟨_, q⟩) <;> omega) (bl10 h), skN_bl (by rintro (q | ⟨q, _⟩); omega; exact absurd q (by decide)) (bl10 h)]
      omega
    · rw [skN_rem (.inr ⟨rfl, h⟩), rowN_yes (decide_eq_true h), List.drop_succ_cons, sk_row l]; omega
theorem sk_hash {c : UInt8} {l : List UInt8} (h : (c.toNat : Int) = 35) : skN false (c :: l) = rowN rmB (c :: l) + skN false ((c :: l).drop (rowN rmB (c :: l))) := by
  rw [skN_rem (.inl h), rowN_yes (decide_eq_true (by omega)), List.drop_succ_cons, sk_row l]; omega

/-- A digit to the base 16; -1: none. -/
def sixV (c : UInt8) : Int := if dgB c = true then (c.toNat : Int) - 48 else if 97 ≤ (c.toNat : Int) ∧ (c.toNat : Int) ≤ 102 then (c.toNat : Int) - 87 else -1
theorem sixV_lo (c : UInt8) : -1 ≤ sixV c ∧ sixV c ≤ 15 := by
  unfold sixV
  split
  · have := of_decide_eq_true ‹dgB c = true›; omega
  · split <;> omega
/-- Two digits. -/
def hexL : List UInt8 → Int × Nat
  | a :: b :: _ => if 0 ≤ sixV a ∧ 0 ≤ sixV b then (16 * sixV a + sixV b, 4) else (0, 0)
  | _ => (0, 0)
/-- What stands behind a 92. -/
def escL : List UInt8 → Int × Nat
  | [] => (0, 0)
  | d :: l => if (d.toNat : Int) = 34 ∨ (d.toNat : Int) = 92 then ((d.toNat : Int), 2) else if (d.toNat : Int) = 110 then (10, 2) else if (d.toNat : Int) = 120 then hexL l else (0, 0)
/-- The byte of the part at the front, and how many bytes it has; 0: none. -/
def partL : List UInt8 → Int × Nat
  | [] => (0, 0)
  | c :: l => if (c.toNat : Int) = 34 ∨ plB c = false then (0, 0) else if ¬ (c.toNat : Int) = 92 then ((c.toNat : Int), 1) else escL l
theorem byte_nb (c : UInt8) : 0 ≤ (c.toNat : Int) ∧ (c.toNat : Int) ≤ 255 := by have := c.toNat_lt; omega
theorem hexL_ok (l : List UInt8) : (hexL l).2 ≤ l.length + 2 ∧ 0 ≤ (hexL l).1 ∧ (hexL l).1 ≤ 255 := by
  match l with
  | [] => exact ⟨Nat.zero_le _, Int.le_refl _, by decide⟩
  | [c] => exact ⟨Nat.zero_le _, Int.le_refl _, by show (0 : Int) ≤ 255; decide⟩
  | a :: b :: l =>
    have := sixV_lo a; have := sixV_lo b
    by_cases h : 0 ≤ sixV a ∧ 0 ≤ sixV b
    · rw [show hexL (a :: b :: l) = (16 * sixV a + sixV b, 4) from if_pos h]; simp only [List.length_cons]; omega
    · rw [show hexL (a :: b :: l) = (0, 0) from if_neg h]; exact ⟨Nat.zero_le _, Int.le_refl _, by show (0 : Int) ≤ 255; decide⟩
theorem escL_ok (l : List UInt8) : (escL l).2 ≤ l.length + 1 ∧ 0 ≤ (escL l).1 ∧ (escL l).1 ≤ 255 := by
  match l with
  | [] => exact ⟨Nat.zero_le _, Int.le_refl _, by decide⟩
  | d :: l =>
    have := byte_nb d
    have := hexL_ok l
    unfold escL
    simp only [List.length_cons]
    split
    · dsimp only; omega
    · split
      · dsimp only; omega
      · split
        · omega
        · exact ⟨Nat.zero_le _, Int.le_refl _, by show (0 : Int) ≤ 255; decide⟩
theorem partL_ok (l : List UInt8) : (partL l).2 ≤ l.length ∧ 0 ≤ (partL l).1 ∧ (partL l).1 ≤ 255 := by
  match l with
  | [] => exact ⟨Nat.zero_le _, Int.le_refl _, by decide⟩
  | d :: l =>
    have := byte_nb d
    have := escL_ok l
    unfold partL
    simp only [List.length_cons]
    split
    · exact ⟨Nat.zero_le _, Int.le_refl _, by show (0 : Int) ≤ 255; decide⟩
    · split
      · dsimp only; omega
      · omega
/-- The text's bytes, and where its second quote stands: with so many rounds left, behind so many bytes, with what stands there. -/
def txF : Nat → List UInt8 → List UInt8 → Nat → Option (List UInt8 × Nat)
  | 0, _, _, _ => none
  | n + 1, l, acc, k =>
    match l with
    | [] => none
    | c :: l' => if (c.toNat : Int) = 34 then some (acc, k) else if (partL (c :: l')).2 = 0 then none else txF n ((c :: l').drop (partL (c :: l')).2) (acc ++ [UInt8.ofNat (partL (c :: l')).1.toNat]) (k + (partL (c :: l')).2)
theorem txF_nil (n : Nat) (acc : List UInt8) (k : Nat) : txF n [] acc k = none := by cases n <;> rfl
theorem txF_quote {n : Nat} {c : UInt8} {l acc : List UInt8} {k : Nat} (hn : 0 < n) (h : (c.toNat : Int) = 34) : txF n (c :: l) acc k = some (acc, k) := by
  cases n
  · omega
  · show (if (c.toNat : Int) = 34 then _ else _) = _; rw [if_pos h]
theorem txF_bad {n : Nat} {c : UInt8} {l acc : List UInt8} {k : Nat} (h : ¬ (c.toNat : Int) = 34) (h2 : (partL (c :: l)).2 = 0) : txF n (c :: l) acc k = none := by
  cases n
  · rfl
  · show (if (c.toNat : Int) = 34 then _ else _) = _; rw [if_neg h, if_pos h2]
theorem txF_step {n : Nat} {c : UInt8} {l acc : List UInt8} {k : Nat} (h : ¬ (c.toNat : Int) = 34) (h2 : ¬ (partL (c :: l)).2 = 0) : txF (n + 1) (c :: l) acc k = txF n ((c :: l).drop (partL (c :: l)).2) (acc ++ [UInt8.ofNat (partL (c :: l)).1.toNat]) (k + (partL (c :: l)).2) := by
  show (if (c.toNat : Int) = 34 then _ else _) = _; rw [if_neg h, if_neg h2]

/-- A token but for its place. -/
structure Tk where
  k : Int
  n : Int
  t : List UInt8
/-- All signs, the longer ones first. -/
def signsL : List (List UInt8) := [[46, 46, 46], [62, 61], [60, 61], [58], [59], [123], [125], [40], [41], [38], [124], [43], [45], [42], [46]]
def signL (l : List UInt8) : List UInt8 := (signsL.find? fun w => w.isPrefixOf l).getD []
/-- The error, the token, and how many bytes it has, at the front of what is not empty. -/
def numberL (l : List UInt8) : Int × Tk × Nat :=
  let d := l.take (rowN dgB l)
  (if Nu.readE false d = 2 then 20 else Nu.readE false d, ⟨1, Nu.readV false d, []⟩, rowN dgB l)
def wordL (l : List UInt8) : Int × Tk × Nat :=
  let d := l.take (rowN nmB l)
  if (Nm.rightL d || decide (0 < Nm.wordN d)) = true then (0, ⟨2, 0, d⟩, rowN nmB l) else (20, ⟨0, 0, []⟩, 0)
def textL (l : List UInt8) : Int × Tk × Nat :=
  match txF (l.length + 1) (l.drop 1) [] 1 with
  | none => (20, ⟨0, 0, []⟩, 0)
  | some (t, k) => if 256 < t.length then (4, ⟨0, 0, []⟩, 0) else (0, ⟨3, 0, t⟩, k + 1)
def signR (l : List UInt8) : Int × Tk × Nat := if signL l = [] then (20, ⟨0, 0, []⟩, 0) else (0, ⟨4, 0, signL l⟩, (signL l).length)
def firstL (l : List UInt8) : Int × Tk × Nat :=
  match l with
  | [] => (20, ⟨0, 0, []⟩, 0)
  | c :: _ => if dgB c = true then numberL l else if lwB c = true then wordL l else if (c.toNat : Int) = 34 then textL l else signR l
/-- A token. -/
structure Tok where
  x : Tk
  at_ : Int
def tok0 : Tok := ⟨⟨0, 0, []⟩, 0⟩
def Tok.v (t : Tok) : Value := .agg #[.int .i64 t.x.k, .int .i64 t.x.n, .string (bs t.x.t), .int .i64 t.at_]
/-- The token at a place within: the error, it, the place behind it. -/
def nextL (L : List UInt8) (p : Nat) : Int × Tok × Nat :=
  let q := p + skN false (L.drop p)
  if q = L.length then (0, ⟨⟨0, 0, []⟩, q⟩, q)
  else let r := firstL (L.drop q)
    if r.1 = 0 then (0, ⟨r.2.1, q⟩, q + r.2.2) else (r.1, tok0, q)
end Go.Proofs.YtfhknnldkfngdaaDoor
