/- PLAIN MATHEMATICS of numbers as bytes: which bytes a number has, which number some bytes are, or which error; that each goes back. -/
import Derived.Lib.Strings
namespace Go.Proofs.YtddleeenlpigfaaGreatDoor.Vn

/-- The groups ahead of the last one. -/
def hi : Nat → Nat → List UInt8
  | 0, _ => []
  | f + 1, n => if n = 0 then [] else hi f (n / 128) ++ [UInt8.ofNat (n % 128 + 128)]
def nb (n : Nat) : List UInt8 := hi 9 (n / 128) ++ [UInt8.ofNat (n % 128)]
def vl (L : List UInt8) : Nat := L.foldl (fun n c => n * 128 + c.toNat % 128) 0
def High (L : List UInt8) : Prop := ∀ c ∈ L, 128 ≤ c.toNat
def lead : Nat → List UInt8 → Nat
  | 0, _ => 0
  | _ + 1, [] => 0
  | f + 1, c :: T => if 128 ≤ c.toNat then lead f T + 1 else 0
/-- What stands at the front: which error, which number, how many bytes. -/
def gets (L : List UInt8) : Nat × Nat × Nat :=
  if L.head? = some 128 then (2, 0, 0)
  else if lead 10 L = 10 then (2, 0, 0)
  else if lead 10 L = L.length then (3, 0, 0)
  else if lead 10 L = 9 ∧ 129 < (L.headD 0).toNat then (2, 0, 0)
  else (0, vl (L.take (lead 10 L + 1)), lead 10 L + 1)

theorem snocRec {P : List UInt8 → Prop} (h0 : P []) (h1 : ∀ L c, P L → P (L ++ [c])) (L : List UInt8) : P L := by
  rw [← List.reverse_reverse L]
  induction L.reverse with
  | nil => exact h0
  | cons c T ih => rw [List.reverse_cons]; exact h1 _ _ ih
theorem vl_snoc (L : List UInt8) (c : UInt8) : vl (L ++ [c]) = vl L * 128 + c.toNat % 128 := by simp [vl]
theorem vl_nil : vl [] = 0 := rfl
theorem vl_lt (L : List UInt8) : vl L < 128 ^ L.length := by
  refine snocRec (P := fun L => vl L < 128 ^ L.length) (by simp [vl_nil]) (fun L c ih => ?_) L
  · rw [vl_snoc, List.length_append, List.length_singleton, Nat.pow_succ]
    omega
theorem foldl_vl (L : List UInt8) : ∀ n, L.foldl (fun n c => n * 128 + c.toNat % 128) n = n * 128 ^ L.length + vl L := by
  refine snocRec (P := fun L => ∀ n, L.foldl (fun n c => n * 128 + c.toNat % 128) n = n * 128 ^ L.length + vl L) (by simp [vl_nil]) (fun L c ih => ?_) L
  · intro n
    rw [List.foldl_append, ih, vl_snoc, List.length_append, List.length_singleton, Nat.pow_succ]
    simp only [List.foldl_cons, List.foldl_nil, Nat.add_mul]
    rw [← Nat.mul_assoc]; omega
theorem vl_cons (c : UInt8) (T : List UInt8) : vl (c :: T) = c.toNat % 128 * 128 ^ T.length + vl T := by
  have := foldl_vl T (0 * 128 + c.toNat % 128)
  simpa [vl] using this
theorem lead_high : ∀ (H : List UInt8) (f : Nat) (T : List UInt8), High H → H.length ≤ f → lead f (H ++ T) = H.length + lead (f - H.length) T
  | [], f, T, _, _ => by simp
  | c :: H, 0, T, _, hl => by simp at hl
  | c :: H, f + 1, T, hh, hl => by
    simp only [List.cons_append, lead, List.length_cons]
    rw [if_pos (hh c (by simp)), lead_high H f T (fun d hd => hh d (by simp [hd])) (by simpa using hl)]
    rw [show f + 1 - (H.length + 1) = f - H.length by omega]; omega
theorem lead_low (f : Nat) (d : UInt8) (T : List UInt8) (h : d.toNat < 128) : lead f (d :: T) = 0 := by
  cases f with
  | zero => rfl
  | succ f => simp only [lead]; rw [if_neg (by omega)]
theorem lead_nil (f : Nat) : lead f [] = 0 := by cases f <;> rfl
theorem lead_le : ∀ f L, lead f L ≤ f ∧ lead f L ≤ L.length
  | 0, _ => by simp [lead]
  | f + 1, [] => by simp [lead]
  | f + 1, c :: T => by
    have := lead_le f T
    simp only [lead, List.length_cons]; split <;> omega
/-- The front splits: what is high, and what follows. -/
theorem lead_split : ∀ f L, High (L.take (lead f L)) ∧ (lead f L < f → lead f L < L.length → ∃ d T, L.drop (lead f L) = d :: T ∧ d.toNat < 128)
  | 0, _ => by simp [lead, High]
  | f + 1, [] => by simp [lead, High]
  | f + 1, c :: T => by
    obtain ⟨h1, h2⟩ := lead_split f T
    simp only [lead, List.length_cons]
    split
    · rename_i hc
      refine ⟨fun d hd => ?_, fun a b => ?_⟩
      · rcases List.mem_cons.1 (by simpa using hd) with rfl | hd
        · exact hc
        · exact h1 d hd
      · exact h2 (by omega) (by omega)
    · rename_i hc
      exact ⟨by simp [High], fun _ _ => ⟨c, T, rfl, by omega⟩⟩
/-! ### the ways out -/
theorem gets_first {L : List UInt8} (h : L.head? = some 128) : gets L = (2, 0, 0) := by
  unfold gets; rw [if_pos h]
theorem gets_ten {H T : List UInt8} (hh : High H) (hl : H.length = 10) : gets (H ++ T) = (2, 0, 0) := by
  unfold gets
  have : lead 10 (H ++ T) = 10 := by rw [lead_high H 10 T hh (by omega), hl]; simp [lead]
  rw [this]; simp
theorem gets_short {H : List UInt8} (hh : High H) (hl : H.length < 10) (h0 : H.head? ≠ some 128) : gets H = (3, 0, 0) := by
  unfold gets
  have : lead 10 H = H.length := by
    have := lead_high H 10 [] hh (by omega)
    rw [List.append_nil, lead_nil] at this; omega
  rw [this, if_neg h0, if_neg (by omega), if_pos rfl]
theorem gets_wide {H : List UInt8} {d : UInt8} {T : List UInt8} (hh : High H) (hl : H.length = 9) (h9 : 129 < (H.headD 0).toNat) : gets (H ++ d :: T) = (2, 0, 0) := by
  have hd : ((H ++ d :: T).headD 0) = H.headD 0 := by
    cases H with
    | nil => simp at hl
    | cons a H => rfl
  by_cases hd2 : 128 ≤ d.toNat
  · rw [show H ++ d :: T = (H ++ [d]) ++ T by simp]
    refine gets_ten (fun c hc => ?_) (by simp [hl])
    rcases List.mem_append.1 hc with hc | hc
    · exact hh c hc
    · simp at hc; subst hc; exact hd2
  · have hle : lead 10 (H ++ d :: T) = 9 := by rw [lead_high H 10 _ hh (by omega), lead_low _ _ _ (by omega), hl]
    unfold gets
    rw [hle, hd]
    split
    · rfl
    · rw [if_neg (by omega), if_neg (by simp [hl]), if_pos ⟨rfl, h9⟩]
theorem gets_ok {H : List UInt8} {d : UInt8} {T : List UInt8} (hh : High H) (hd : d.toNat < 128) (hl : H.length ≤ 9) (h0 : H.head? ≠ some 128) (h9 : H.length = 9 → (H.headD 0).toNat ≤ 129) :
    gets (H ++ d :: T) = (0, vl H * 128 + d.toNat, H.length + 1) := by
  have hle : lead 10 (H ++ d :: T) = H.length := by rw [lead_high H 10 _ hh (by omega), lead_low _ _ _ hd, Nat.add_zero]
  have hh0 : (H ++ d :: T).head? ≠ some 128 := by
    cases H with
    | nil => intro e; simp at e; subst e; revert hd; decide
    | cons a H => exact h0
  have hv : (H ++ d :: T).take (H.length + 1) = H ++ [d] := by
    rw [List.take_append, List.take_of_length_le (by omega)]
    simp
  unfold gets
  rw [hle, if_neg hh0, if_neg (by omega), if_neg (by simp), if_neg ?_, hv, vl_snoc, Nat.mod_eq_of_lt hd]
  rintro ⟨e, e2⟩
  have := h9 e
  cases H with
  | nil => simp at e
  | cons a H => simp at e2 this; omega
/-! ### there and back -/
theorem hi_props : ∀ f n, n < 128 ^ f → High (hi f n) ∧ vl (hi f n) = n ∧ (hi f n).length ≤ f ∧ (hi f n).head? ≠ some 128 ∧ (n = 0 → hi f n = [])
  | 0, n, h => by
    have : n = 0 := by simpa using h
    subst this
    simp [hi, High, vl_nil]
  | f + 1, n, h => by
    simp only [hi]
    split
    · rename_i h0; subst h0; simp [High, vl_nil]
    · rename_i h0
      have hlt : n / 128 < 128 ^ f := by rw [Nat.pow_succ] at h; omega
      obtain ⟨a, b, c, d, e⟩ := hi_props f (n / 128) hlt
      have ht : (UInt8.ofNat (n % 128 + 128)).toNat = n % 128 + 128 := by rw [UInt8.toNat_ofNat']; omega
      refine ⟨fun x hx => ?_, ?_, ?_, ?_, fun x => absurd x h0⟩
      · rcases List.mem_append.1 hx with hx | hx
        · exact a x hx
        · rw [List.mem_singleton.1 hx, ht]; omega
      · rw [vl_snoc, b, ht]; omega
      · rw [List.length_append, List.length_singleton]; omega
      · by_cases hq : n / 128 = 0
        · rw [e hq]
          intro x
          rw [List.nil_append, List.head?_cons] at x
          replace x := Option.some.inj x
          have : (UInt8.ofNat (n % 128 + 128)).toNat = 128 := by rw [x]; rfl
          omega
        · cases hg : hi f (n / 128) with
          | nil => rw [hg, vl_nil] at b; omega
          | cons y Y => rw [hg] at d; exact d
theorem vl_pos {H : List UInt8} (hh : High H) (h0 : H.head? ≠ some 128) (hne : H ≠ []) : 0 < vl H := by
  cases H with
  | nil => exact absurd rfl hne
  | cons c T =>
    rw [vl_cons]
    have h1 := hh c (by simp)
    have h2 := c.toNat_lt
    have h3 : c.toNat ≠ 128 := fun e => h0 (by
      have : c = 128 := UInt8.toNat.inj e
      rw [this]; rfl)
    have h4 : 1 ≤ c.toNat % 128 := by omega
    have := Nat.mul_le_mul h4 (Nat.one_le_two_pow (n := 7 * T.length))
    have hp : 0 < 128 ^ T.length := Nat.pow_pos (by decide)
    have := Nat.mul_pos (show 0 < c.toNat % 128 by omega) hp
    omega
theorem hi_uniq (H : List UInt8) : ∀ f, High H → H.head? ≠ some 128 → H.length ≤ f → hi f (vl H) = H := by
  refine snocRec (P := fun H => ∀ f, High H → H.head? ≠ some 128 → H.length ≤ f → hi f (vl H) = H) (fun f _ _ _ => by cases f <;> simp [hi, vl_nil]) (fun H c ih => ?_) H
  · intro f hh h0 hl
    rw [List.length_append, List.length_singleton] at hl
    obtain ⟨f, rfl⟩ : ∃ g, f = g + 1 := ⟨f - 1, by omega⟩
    have hp := vl_pos hh h0 (by simp)
    have hc := hh c (by simp)
    have hc2 := c.toNat_lt
    rw [vl_snoc] at hp ⊢
    simp only [hi]
    rw [if_neg (by omega), show (vl H * 128 + c.toNat % 128) / 128 = vl H by omega, show (vl H * 128 + c.toNat % 128) % 128 = c.toNat % 128 by omega,
      show c.toNat % 128 + 128 = c.toNat by omega, UInt8.ofNat_toNat]
    rw [ih f (fun d hd => hh d (by simp [hd])) ?_ (by omega)]
    cases H with
    | nil => simp
    | cons a H => exact h0
theorem wide_of {H : List UInt8} (hl : H.length = 9) : (H.headD 0).toNat % 128 * 128 ^ 8 ≤ vl H ∧ vl H < ((H.headD 0).toNat % 128 + 1) * 128 ^ 8 := by
  cases H with
  | nil => simp at hl
  | cons c T =>
    have ht : T.length = 8 := by simpa using hl
    have := vl_lt T
    rw [vl_cons, ht]
    rw [ht] at this
    simp only [List.headD_cons, Nat.add_mul]
    omega
theorem gets_nb {n : Nat} (h : n < 18446744073709551616) (T : List UInt8) : gets (nb n ++ T) = (0, n, (nb n).length) := by
  obtain ⟨a, b, c, d, _⟩ := hi_props 9 (n / 128) (by omega)
  have ht : (UInt8.ofNat (n % 128)).toNat = n % 128 := by rw [UInt8.toNat_ofNat']; omega
  unfold nb
  rw [List.append_assoc]
  show gets (hi 9 (n / 128) ++ UInt8.ofNat (n % 128) :: T) = _
  rw [gets_ok a (by rw [ht]; omega) c d, b, ht, List.length_append]
  · rw [show n / 128 * 128 + n % 128 = n by omega]; rfl
  · intro e
    have h1 := (wide_of e).1
    rw [b] at h1
    have h2 := ((hi 9 (n / 128)).headD 0).toNat_lt
    generalize ((hi 9 (n / 128)).headD 0).toNat = x at *
    omega
theorem gets_back {L : List UInt8} {n c : Nat} (h : gets L = (0, n, c)) : nb n = L.take c ∧ n < 18446744073709551616 ∧ c ≤ L.length := by
  unfold gets at h
  split at h
  · simp at h
  rename_i h0
  split at h
  · simp at h
  rename_i h1
  split at h
  · simp at h
  rename_i h2
  split at h
  · simp at h
  rename_i h3
  simp only [Prod.mk.injEq, true_and] at h
  obtain ⟨rfl, rfl⟩ := h
  obtain ⟨l1, l2⟩ := lead_le 10 L
  obtain ⟨s1, s2⟩ := lead_split 10 L
  obtain ⟨d, T, e, hd⟩ := s2 (by omega) (by omega)
  generalize lead 10 L = k at *
  have hk : (L.take k).length = k := by rw [List.length_take]; omega
  have hL : L = L.take k ++ d :: T := by rw [← e, List.take_append_drop]
  have ht : L.take (k + 1) = L.take k ++ [d] := by
    conv => lhs; rw [hL]
    rw [List.take_append, List.take_of_length_le (by omega), hk]
    simp
  have hh0 : (L.take k).head? ≠ some 128 := by
    cases k with
    | zero => simp
    | succ k =>
      cases L with
      | nil => simp
      | cons a L => exact h0
  rw [ht, vl_snoc, Nat.mod_eq_of_lt hd]
  refine ⟨?_, ?_, by omega⟩
  · unfold nb
    rw [show (vl (L.take k) * 128 + d.toNat) / 128 = vl (L.take k) by omega, show (vl (L.take k) * 128 + d.toNat) % 128 = d.toNat by omega, UInt8.ofNat_toNat,
      hi_uniq _ 9 s1 hh0 (by omega)]
  · by_cases e9 : k = 9
    · subst e9
      have h4 := (wide_of hk).2
      have h5 : ((L.take 9).headD 0) = L.headD 0 := by
        cases L with
        | nil => rfl
        | cons a L => rfl
      rw [h5] at h4
      have h6 := (L.headD 0).toNat_lt
      have h7 : (L.headD 0).toNat ≤ 129 := Nat.le_of_not_lt fun x => h3 ⟨rfl, x⟩
      have h8 : 128 ≤ (L.headD 0).toNat := by
        cases L with
        | nil => simp at hk
        | cons a L => exact s1 a (by simp)
      generalize (L.headD 0).toNat = x at *
      omega
    · have := vl_lt (L.take k)
      rw [hk] at this
      have h9 := Nat.pow_le_pow_right (n := 128) (by decide) (show k ≤ 8 by omega)
      omega
def sgn (n : Int) : Nat := if n < 0 then (2 * (-(n + 1)) + 1).toNat else (2 * n).toNat
def usg (n : Nat) : Int := if n % 2 = 1 then -((n / 2 : Nat) : Int) - 1 else ((n / 2 : Nat) : Int)
theorem usg_sgn (n : Int) : usg (sgn n) = n := by
  unfold usg sgn
  split <;> split <;> omega
theorem sgn_lt {n : Int} (h1 : -9223372036854775808 ≤ n) (h2 : n ≤ 9223372036854775807) : sgn n < 18446744073709551616 := by
  unfold sgn; split <;> omega
end Go.Proofs.YtddleeenlpigfaaGreatDoor.Vn
