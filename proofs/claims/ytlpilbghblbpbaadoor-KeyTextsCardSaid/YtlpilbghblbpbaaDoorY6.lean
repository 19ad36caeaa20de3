/- LUe, LUf, LWh, LWi -/
import Derived.Test.YtlpilbghblbpbaaDoorY2
import Derived.Test.YtlpilbghblbpbaaDoorY4
/- WALK of the reference's Read. -/
namespace Go.Proofs.YtlpilbghblbpbaaDoor.Nu
open Go.RowKit

/-- The bytes of s from f on, ahead of i, are digits. -/
def upFrom (s : ByteArray) (f i : Nat) : Prop := ∀ j (h : j < s.size), f ≤ j → j < i → dgc s[j] = true
theorem upFrom_first (s : ByteArray) (f : Nat) : upFrom s f f := fun _ _ h h' => absurd h (by omega)
theorem upFrom_succ {s : ByteArray} {f i : Nat} (h : upFrom s f i) (hi : i < s.size) (h1 : 48 ≤ (s[i].toNat : Int)) (h2 : (s[i].toNat : Int) ≤ 57) : upFrom s f (i + 1) := by
  intro j hj hf hjk
  by_cases e : j = i
  · subst e; simp [dgc]; omega
  · exact h j hj hf (by omega)
/-- d is s without its first f bytes, of which there is the sign alone. -/
structure Off (s d : ByteArray) (neg : Bool) (f : Nat) : Prop where
  size : s.size = d.size + f
  at_ : ∀ j (h : j < d.size) (h' : f + j < s.size), d[j] = s[f + j]
  neg1 : neg = decide (f = 1)
theorem Off.zero {s : ByteArray} (h : negS s = false) : Off s (trimS s) (negS s) 0 := by
  have e := trim_pos h
  refine ⟨by rw [e]; rfl, fun j hj hj' => ?_, by rw [h]; rfl⟩
  have : (trimS s).data.toList = s.data.toList := by rw [e]
  rw [get_list, get_list]
  simp [this]
theorem Off.one {s : ByteArray} (h : negS s = true) : Off s (trimS s) (negS s) 1 := by
  have h0 := neg_size h
  have e := trim_size_neg h
  refine ⟨by omega, fun j hj hj' => ?_, by rw [h]; rfl⟩
  rw [trim_get_neg h j hj (by omega)]
  have : ∀ a b (ha : a < s.size) (hb : b < s.size), a = b → s[a] = s[b] := fun a b ha hb e => by subst e; rfl
  exact this _ _ _ _ (by omega)
theorem Off.bad {s d : ByteArray} {neg : Bool} {f i : Nat} (h : Off s d neg f) (hf : f ≤ i) (hi : i < s.size) (hb : (s[i].toNat : Int) < 48 ∨ 57 < (s[i].toNat : Int)) : formOk neg d.data.toList = false := by
  have hs := h.size
  have e := h.at_ (i - f) (by omega) (by omega)
  have e2 : s[f + (i - f)]'(by omega) = s[i] := by
    have : ∀ a b (ha : a < s.size) (hb : b < s.size), a = b → s[a] = s[b] := fun a b ha hb e => by subst e; rfl
    exact this _ _ _ _ (by omega)
  exact form_nat (nat_bad (k := i - f) (by omega) (by rw [e, e2]; exact hb))
theorem Off.empty {s d : ByteArray} {neg : Bool} {f : Nat} (h : Off s d neg f) (hs : ¬ f < s.size) : formOk neg d.data.toList = false :=
  form_nat (nat_empty (by have := h.size; omega))
theorem Off.nought {s d : ByteArray} {neg : Bool} {f : Nat} (h : Off s d neg f) (hs : f < s.size) (h0 : (s[f].toNat : Int) = 48) (h1 : f + 1 < s.size ∨ f = 1) : formOk neg d.data.toList = false := by
  have hz := h.size
  have e := h.at_ 0 (by omega) (by omega)
  have e0 : d[0]'(by omega) = s[f] := e
  by_cases h2 : f + 1 < s.size
  · exact form_nat (nat_lead (by omega) (by rw [e0]; exact h0) (by omega))
  · obtain rfl : f = 1 := by omega
    have hn : neg = true := h.neg1
    subst hn
    have hl : d.data.toList.length = 1 := by rw [← size_list]; omega
    obtain ⟨c, hc⟩ := List.length_eq_one_iff.1 hl
    have hd : d[0]'(by omega) = c := by
      rw [get_list]; simp [hc]
    have hc48 : c = 48 := by
      rw [hd] at e0
      apply UInt8.toNat.inj
      rw [e0]; simp; omega
    apply form_zero
    rw [Lib.toList_data, hc, hc48]; rfl
theorem Off.good {s d : ByteArray} {neg : Bool} {f : Nat} (h : Off s d neg f) (hs : f < s.size) (h0 : ¬ (s[f].toNat : Int) = 48 ∨ (s.size ≤ f + 1 ∧ f ≠ 1)) (hu : upFrom s f s.size) : formOk neg d.data.toList = true := by
  have hz := h.size
  have e0 : d[0]'(by omega) = s[f] := h.at_ 0 (by omega) (by omega)
  have hn : natL d.data.toList = true := by
    refine nat_end (by omega) ?_ ?_
    · rw [e0]; rcases h0 with h0 | h0
      · exact .inl h0
      · right; omega
    · intro j hj hjk
      rw [h.at_ j hj (by omega)]
      exact hu (f + j) (by omega) (by omega) (by omega)
  have hneg := h.neg1
  by_cases hf : f = 1
  · subst hf
    obtain rfl : neg = true := hneg
    refine form_neg ?_ hn
    rw [Lib.toList_data]
    cases e : (d.data.toList == [48]) with
    | false => rfl
    | true =>
      exfalso
      have e' : d.data.toList = [48] := by simpa using e
      have : d[0]'(by omega) = 48 := by rw [get_list]; simp [e']
      rw [this] at e0
      rcases h0 with h0 | h0
      · apply h0; rw [← e0]; rfl
      · exact h0.2 rfl
  · obtain rfl : neg = false := by simpa [hf] using hneg
    exact form_pos hn
/-- The number of the digits ahead of i. -/
structure FromLeft (s d : ByteArray) (f i : Nat) (n : Int) : Prop where
  fle : f ≤ i
  val : n = vr (d.data.toList.take (i - f))
  lo : 0 ≤ n
  hi : n < 10 ^ (i - f)
theorem FromLeft.first (s d : ByteArray) (f : Nat) : FromLeft s d f f 0 := ⟨Nat.le_refl _, by simp [vr], by omega, by simp⟩
theorem FromLeft.bound {s d : ByteArray} {f i : Nat} {n : Int} (h : FromLeft s d f i n) (hk : i - f ≤ 16) : 0 ≤ n ∧ n ≤ 10000000000000000 := by
  have h1 : (10 : Nat) ^ (i - f) ≤ 10 ^ 16 := Nat.pow_le_pow_right (by decide) hk
  have h3 : ((10 : Int) ^ (i - f)) = ((10 ^ (i - f) : Nat) : Int) := by simp
  have := h.lo; have := h.hi
  omega
theorem FromLeft.step {s d : ByteArray} {neg : Bool} {f i : Nat} {n : Int} (h : FromLeft s d f i n) (ho : Off s d neg f) (hi : i < s.size) (h1 : 48 ≤ (s[i].toNat : Int)) (h2 : (s[i].toNat : Int) ≤ 57) : FromLeft s d f (i + 1) (10 * n + (s[i].toNat : Int) - 48) := by
  obtain ⟨g1, g2, g3, g4⟩ := h
  have hz := ho.size
  have e := ho.at_ (i - f) (by omega) (by omega)
  have e2 : s[f + (i - f)]'(by omega) = s[i] := by
    have : ∀ a b (ha : a < s.size) (hb : b < s.size), a = b → s[a] = s[b] := fun a b ha hb e => by subst e; rfl
    exact this _ _ _ _ (by omega)
  have ht := vr_take d.data.toList (i - f) (by rw [← size_list]; omega)
  rw [← get_list d (i - f) (by omega), e, e2] at ht
  have e3 : i + 1 - f = (i - f) + 1 := by omega
  refine ⟨by omega, by rw [e3, ht, g2], by omega, ?_⟩
  rw [e3, Int.pow_succ]; omega
theorem FromLeft.last {s d : ByteArray} {neg : Bool} {f : Nat} {n : Int} (h : FromLeft s d f s.size n) (ho : Off s d neg f) : n = vr d.data.toList := by
  have := h.val
  have hz := ho.size
  rw [List.take_of_length_le (by rw [← size_list]; omega)] at this
  exact this
theorem upFrom_at {s : ByteArray} {f : Nat} (h : upFrom s f s.size) (i : Nat) (hi : i < s.size) (hf : f ≤ i) : 48 ≤ (s[i].toNat : Int) ∧ (s[i].toNat : Int) ≤ 57 := by
  have := h i hi hf hi
  simp [dgc] at this
  omega
end Go.Proofs.YtlpilbghblbpbaaDoor.Nu
/- WALK of the reference's Read. -/
namespace Go.Proofs.YtlpilbghblbpbaaDoor.Nu
open Go.RowKit
theorem ne_empty {s : ByteArray} (h : 0 < s.size) : ¬ s = ByteArray.empty := by intro e; subst e; exact absurd h (by decide)
theorem ret_much {neg : Bool} {D : List UInt8} {n : Int} (h : formOk neg D = true) (h' : ¬ 16 < D.length) (hv : n = vr D) (hm : 9007199254740992 < n) : Ending.returned (.tuple #[.int .i64 0, .int .i64 25]) = .returned (.tuple #[.int .i64 (readV neg D), .int .i64 (readE neg D)]) := by
  have : inB (sgnV neg (vr D)) = false := by subst hv; cases neg <;> simp [sgnV] <;> exact inB_mkno (by omega)
  exact ret_two (by simp [readV, h, h', this, outV]) (by simp [readE, h, h', this, outE])
theorem ret_sgn {neg : Bool} {D : List UInt8} {n v : Int} (h : formOk neg D = true) (h' : ¬ 16 < D.length) (hn : n = vr D) (hv : v = sgnV neg n) (h0 : 0 ≤ n) (hm : n ≤ 9007199254740992) : Ending.returned (.tuple #[.int .i64 v, .int .i64 0]) = .returned (.tuple #[.int .i64 (readV neg D), .int .i64 (readE neg D)]) := by
  subst hn; subst hv
  have : inB (sgnV neg (vr D)) = true := by cases neg <;> simp [sgnV] <;> exact inB_mk (by omega) (by omega)
  exact ret_two (by simp [readV, h, h', this, outV]) (by simp [readE, h, h', this, outE])
theorem ret_plus {neg : Bool} {D : List UInt8} {n : Int} (h : formOk neg D = true) (h' : ¬ 16 < D.length) (hn : n = vr D) (hg : neg = decide ((0 : Nat) = 1)) (h0 : 0 ≤ n) (hm : n ≤ 9007199254740992) : Ending.returned (.tuple #[.int .i64 n, .int .i64 0]) = .returned (.tuple #[.int .i64 (readV neg D), .int .i64 (readE neg D)]) :=
  ret_sgn h h' hn (by subst hg; rfl) h0 hm
theorem ret_minus {neg : Bool} {D : List UInt8} {n : Int} (h : formOk neg D = true) (h' : ¬ 16 < D.length) (hn : n = vr D) (hg : neg = decide ((1 : Nat) = 1)) (h0 : 0 ≤ n) (hm : n ≤ 9007199254740992) : Ending.returned (.tuple #[.int .i64 (-n), .int .i64 0]) = .returned (.tuple #[.int .i64 (readV neg D), .int .i64 (readE neg D)]) :=
  ret_sgn h h' hn (by subst hg; rfl) h0 hm

end Go.Proofs.YtlpilbghblbpbaaDoor.Nu
/- WALKS of sign, number, word. -/
namespace Go.Proofs.YtlpilbghblbpbaaDoor.Lx
open Go.RowKit
def signAt (r : Nat) : ByteArray := ⟨(signsL.getD r []).toArray⟩
/-- What a program has from its start on: the words' table and the signs'. -/
structure Ent (w : World) : Prop where
  nm : Nm.Env w
  signs : ∀ r, r < 15 → w.cell? ⟨0, r, none⟩ = some (.string (signAt r))
theorem Ent.below {w w' : World} (h : Ent w) (hb : Below w.heap.size w w') : Ent w' := by
  refine ⟨h.nm.below hb, fun r hr => ?_⟩
  have h2 := h.nm.one
  rw [hb.cell (p := ⟨0, r, none⟩) (by simp; omega)]; exact h.signs r hr
theorem signAt_list (r : Nat) : (signAt r).toList = signsL.getD r [] := bs_list _
theorem signAt_size (r : Nat) : (signAt r).size = (signsL.getD r []).length := bs_size _
theorem find_getD {p : List UInt8 → Bool} : ∀ {l : List (List UInt8)} {k : Nat}, k < l.length → (∀ j, j < k → p (l.getD j []) = false) → p (l.getD k []) = true → l.find? p = some (l.getD k [])
  | [], k, hk, _, _ => absurd hk (Nat.not_lt_zero _)
  | x :: l, 0, _, _, h => by
    have h' : p x = true := h
    rw [List.find?_cons_of_pos h']; rfl
  | x :: l, k + 1, hk, hN, h => by
    have h0 : p x = false := hN 0 (Nat.succ_pos _)
    rw [List.find?_cons_of_neg (by rw [h0]; decide), find_getD (l := l) (k := k) (by simpa using hk) (fun j hj => hN (j + 1) (Nat.succ_lt_succ hj)) h]; rfl
theorem sign_at {L : List UInt8} {k : Nat} (hk : k < 15) (hN : ∀ j, j < k → (signsL.getD j []).isPrefixOf L = false) (h : (signsL.getD k []).isPrefixOf L = true) : signL L = signsL.getD k [] := by
  unfold signL; rw [find_getD (p := fun w => w.isPrefixOf L) (l := signsL) hk hN h]; rfl
theorem sign_none {L : List UInt8} (hN : ∀ j, j < 15 → (signsL.getD j []).isPrefixOf L = false) : signL L = [] := by
  unfold signL
  rw [List.find?_eq_none.2]; rfl
  intro x hx h
  obtain ⟨k, hk, rfl⟩ := List.getElem_of_mem hx
  have h2 := hN k hk
  rw [List.getD, List.getElem?_eq_getElem hk, Option.getD_some] at h2
  rw [h2] at h; exact absurd h (by decide)
theorem signs_ne : ∀ k, k < 15 → signsL.getD k [] ≠ [] := by decide
end Go.Proofs.YtlpilbghblbpbaaDoor.Lx
/- WALKS of number, word, first, Next. -/
namespace Go.Proofs.YtlpilbghblbpbaaDoor.Lx
open Go.RowKit
theorem dgB_head {c : UInt8} (h : dgB c = true) : ¬ (c.toNat : Int) = 45 := by have := of_decide_eq_true h; omega
/-- The digits at the front, as a text of their own. -/
theorem front_pos {s : ByteArray} (h0 : 0 < s.size) (hd : dgB s[0] = true) : 0 < rowN dgB s.toList ∧ rowN dgB s.toList ≤ s.size := by
  have h1 := rowN_le dgB s.toList
  rw [← Nm.size_list] at h1
  have e := drop_at s 0 h0
  rw [List.drop_zero] at e
  rw [e, rowN_yes hd] at h1 ⊢; omega
theorem negS_no {s t : ByteArray} (h0 : 0 < s.size) (hd : dgB s[0] = true) (m : Nat) (hm : 0 < m) (ht : t = bs (s.toList.take m)) : Nu.negS t = false := by
  subst ht
  have e := drop_at s 0 h0
  rw [List.drop_zero] at e
  unfold Nu.negS
  rw [← Lib.toList_data, bs_list, e]
  cases m
  · omega
  · simp only [List.take_succ_cons, List.head?_cons]
    have := dgB_head hd
    simp
    intro q; rw [q] at this; exact this rfl
theorem nright_as (t : ByteArray) (b : Bool) (w : World) (hE : Nm.Env w) (hs : t.size ≤ maxLen) (hb : Hid (Nm.rightL t.toList = b)) : Calls Tryd.prog 9 #[.string t] w fun e w' => e = .returned (.bool b) ∧ Below w.heap.size w w' := by rw [← hb.out]; exact Nm.right_any t w hE hs
theorem nword_as (t : ByteArray) (v : Int) (w : World) (hE : Nm.Env w) (hb : Hid (Nm.wordN t.toList = v)) : Calls Tryd.prog 19 #[.string t] w fun e w' => e = .returned (.int .i64 v) ∧ w = w' := by rw [← hb.out]; exact Nm.word_any t w hE
end Go.Proofs.YtlpilbghblbpbaaDoor.Lx
