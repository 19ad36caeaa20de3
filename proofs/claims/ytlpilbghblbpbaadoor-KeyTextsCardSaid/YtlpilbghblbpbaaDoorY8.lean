/- LMb, LWj, LWk, LXa, LXb, LXc, LXd, LXe, LXf, LXg, LYa, LYb -/
import Derived.Deep.AppendLies
import Derived.Deep.RegionHeld3
import Derived.Lib.AppendZeros
import Derived.Laws.OwnMore
import Derived.Test.YtlpilbghblbpbaaDoorY4
import Derived.Test.YtlpilbghblbpbaaDoorY6
/- PLAIN MATHEMATICS: how long tokens are; all tokens of a text; what is quoted. -/
namespace Go.Proofs.YtlpilbghblbpbaaDoor.Lx
theorem txF_le : ∀ (n : Nat) (l acc : List UInt8) (k : Nat) (t : List UInt8) (k' : Nat), txF n l acc k = some (t, k') → k' + 1 ≤ k + l.length
  | 0, _, _, _, _, _, h => by simp [txF] at h
  | n + 1, [], acc, k, t, k', h => by rw [txF_nil] at h; simp at h
  | n + 1, c :: l, acc, k, t, k', h => by
    by_cases hq : (c.toNat : Int) = 34
    · rw [txF_quote (Nat.succ_pos _) hq] at h
      simp at h; simp; omega
    · by_cases hp : (partL (c :: l)).2 = 0
      · rw [txF_bad hq hp] at h; simp at h
      · rw [txF_step hq hp] at h
        have := txF_le n _ _ _ _ _ h
        have h2 := (partL_ok (c :: l)).1
        rw [List.length_drop] at this
        omega
theorem signL_mem {l : List UInt8} : signL l = [] ∨ (signL l ≠ [] ∧ (signL l).length ≤ l.length) := by
  unfold signL
  cases h : signsL.find? fun w => w.isPrefixOf l with
  | none => exact .inl rfl
  | some w =>
    have h1 := List.find?_some h
    have h2 := List.mem_of_find?_eq_some h
    right
    refine ⟨?_, ?_⟩
    · intro e
      have e : w = [] := e
      subst e
      revert h2; decide
    · obtain ⟨t, rfl⟩ := List.isPrefixOf_iff_prefix.1 h1
      simp
theorem natL_nil : Nu.natL [] = false := rfl
theorem readE_nil : Nu.readE false [] = 2 := rfl
theorem firstL_cons (c : UInt8) (l : List UInt8) : firstL (c :: l) = if dgB c = true then numberL (c :: l) else if lwB c = true then wordL (c :: l) else if (c.toNat : Int) = 34 then textL (c :: l) else signR (c :: l) := rfl
theorem numberL_le (l : List UInt8) : (numberL l).2.2 ≤ l.length ∧ ((numberL l).1 = 0 → 1 ≤ (numberL l).2.2) := by
  refine ⟨rowN_le dgB l, fun h => ?_⟩
  show 1 ≤ rowN dgB l
  by_cases h0 : rowN dgB l = 0
  · exfalso
    have h1 : (if Nu.readE false (l.take (rowN dgB l)) = 2 then 20 else Nu.readE false (l.take (rowN dgB l))) = (0 : Int) := h
    rw [h0, List.take_zero, readE_nil, if_pos rfl] at h1
    exact absurd h1 (by decide)
  · omega
theorem wordL_le (l : List UInt8) : (wordL l).2.2 ≤ l.length ∧ ((wordL l).1 = 0 → 1 ≤ (wordL l).2.2) := by
  unfold wordL
  dsimp only
  split
  · refine ⟨rowN_le nmB l, fun hh => ?_⟩
    by_cases h0 : rowN nmB l = 0
    · exfalso
      rename_i h
      rw [h0, List.take_zero] at h
      revert h; decide
    · show 1 ≤ rowN nmB l; omega
  · exact ⟨Nat.zero_le _, fun h => absurd h (by show ¬ (20 : Int) = 0; decide)⟩
theorem textL_le {l : List UInt8} (hl : l ≠ []) : (textL l).2.2 ≤ l.length ∧ ((textL l).1 = 0 → 1 ≤ (textL l).2.2) := by
  unfold textL
  cases h : txF (l.length + 1) (l.drop 1) [] 1 with
  | none => exact ⟨Nat.zero_le _, fun h => absurd h (by show ¬ (20 : Int) = 0; decide)⟩
  | some r =>
    obtain ⟨t, k⟩ := r
    have h2 := txF_le _ _ _ _ _ _ h
    have h3 : 0 < l.length := List.length_pos_iff.2 hl
    rw [List.length_drop] at h2
    dsimp only
    split
    · exact ⟨Nat.zero_le _, fun h => absurd h (by show ¬ (4 : Int) = 0; decide)⟩
    · exact ⟨by show k + 1 ≤ l.length; omega, fun _ => by show 1 ≤ k + 1; omega⟩
theorem signR_le (l : List UInt8) : (signR l).2.2 ≤ l.length ∧ ((signR l).1 = 0 → 1 ≤ (signR l).2.2) := by
  unfold signR
  rcases signL_mem (l := l) with h | ⟨h, h2⟩
  · rw [if_pos h]; exact ⟨Nat.zero_le _, fun h => absurd h (by show ¬ (20 : Int) = 0; decide)⟩
  · rw [if_neg h]; exact ⟨h2, fun _ => List.length_pos_iff.2 h⟩
theorem firstL_le {l : List UInt8} (hl : l ≠ []) : (firstL l).2.2 ≤ l.length ∧ ((firstL l).1 = 0 → 1 ≤ (firstL l).2.2) := by
  cases l with
  | nil => exact absurd rfl hl
  | cons c l =>
    rw [firstL_cons]
    split
    · exact numberL_le _
    · split
      · exact wordL_le _
      · split
        · exact textL_le (by simp)
        · exact signR_le _
/-- A place behind another one, within. -/
theorem nextL_le {L : List UInt8} {p : Nat} (hp : p ≤ L.length) : (nextL L p).2.2 ≤ L.length ∧ ((nextL L p).1 = 0 → (nextL L p).2.1.x.k ≠ 0 → p + 1 ≤ (nextL L p).2.2) := by
  have h1 := skN_le false (L.drop p)
  rw [List.length_drop] at h1
  unfold nextL
  dsimp only
  split
  · refine ⟨by dsimp only; omega, fun _ h => absurd rfl h⟩
  · rename_i hq
    have hne : L.drop (p + skN false (L.drop p)) ≠ [] := by
      intro e
      have := List.drop_eq_nil_iff.1 e
      omega
    have h2 := firstL_le hne
    rw [List.length_drop] at h2
    split
    · rename_i h0
      have h3 := h2.2 h0
      dsimp only
      exact ⟨by omega, fun _ _ => by omega⟩
    · rename_i h0
      exact ⟨by dsimp only; omega, fun h => absurd h h0⟩
end Go.Proofs.YtlpilbghblbpbaaDoor.Lx
/- WALKS of first, Next. -/
namespace Go.Proofs.YtlpilbghblbpbaaDoor.Lx
open Go.RowKit
/-- What a function answers that looks for a token, cell by cell. -/
theorem TkP.of {r : Int × Tk × Nat} {k n E : Int} {t : ByteArray} {z : Nat} {w : World} {e : Ending} {w' : World} (h : TkP r w e w') (hr : r = (E, ⟨k, n, t.toList⟩, z)) : e = .returned (.tuple #[.agg #[.int .i64 k, .int .i64 n, .string t, .int .i64 0], .int .i64 (z : Int), .int .i64 E]) ∧ Below w.heap.size w w' := by
  subst hr
  have := h.1
  rw [show bs t.toList = t from bs_of t] at this
  exact ⟨this, h.2⟩
end Go.Proofs.YtlpilbghblbpbaaDoor.Lx
/- WALK of Next. -/
namespace Go.Proofs.YtlpilbghblbpbaaDoor.Lx
open Go.RowKit
/-- What Next answers: the error, the token, the place. -/
def NxP (r : Int × Tok × Nat) (w : World) (e : Ending) (w' : World) : Prop := e = .returned (.tuple #[r.2.1.v, .int .i64 (r.2.2 : Int), .int .i64 r.1]) ∧ Below w.heap.size w w'
theorem skAt_of {s : ByteArray} {p : Nat} : SkAt s false p (p + skN false (s.toList.drop p)) := rfl
theorem skAt_le {s : ByteArray} {p q : Nat} (hp : p ≤ s.size) (h : SkAt s false p q) : p ≤ q ∧ q ≤ s.size := by
  unfold SkAt at h
  have := skN_le false (s.toList.drop p)
  rw [drop_len] at this
  omega
theorem nextL_end {s : ByteArray} {p q : Nat} (h : SkAt s false p q) (hq : q = s.size) : nextL s.toList p = (0, ⟨⟨0, 0, []⟩, q⟩, q) := by
  unfold SkAt at h
  unfold nextL
  dsimp only
  rw [h, if_pos (by rw [← Nm.size_list]; exact hq)]
theorem nextL_mid {s : ByteArray} {p q : Nat} (h : SkAt s false p q) (hq : q ≠ s.size) : nextL s.toList p = if (firstL (s.toList.drop q)).1 = 0 then (0, ⟨(firstL (s.toList.drop q)).2.1, q⟩, q + (firstL (s.toList.drop q)).2.2) else ((firstL (s.toList.drop q)).1, tok0, q) := by
  unfold SkAt at h
  unfold nextL
  dsimp only
  rw [h, if_neg (by rw [← Nm.size_list]; exact hq)]
theorem set5 {W : World} {g : Nat} {u0 u1 u2 u3 : Value} (v3 : Value) (c0 : W.cell? ⟨g, 0, none⟩ = some u0) (c1 : W.cell? ⟨g, 1, none⟩ = some u1) (c2 : W.cell? ⟨g, 2, none⟩ = some u2) (c3 : W.cell? ⟨g, 3, none⟩ = some u3) :
    (W.setCell ⟨g, 3, none⟩ v3).cell? ⟨g, 0, none⟩ = some u0 ∧ (W.setCell ⟨g, 3, none⟩ v3).cell? ⟨g, 1, none⟩ = some u1 ∧ (W.setCell ⟨g, 3, none⟩ v3).cell? ⟨g, 2, none⟩ = some u2 ∧ (W.setCell ⟨g, 3, none⟩ v3).cell? ⟨g, 3, none⟩ = some v3 :=
  ⟨by rw [set_far (.inr (by decide)), c0], by rw [set_far (.inr (by decide)), c1], by rw [set_far (.inr (by decide)), c2], set_here c3⟩
end Go.Proofs.YtlpilbghblbpbaaDoor.Lx
/- WALK of the reference's text. -/
namespace Go.Proofs.YtlpilbghblbpbaaDoor.Lx
open Go.RowKit
theorem Tz.fresh (w : World) (ty : TypeId) : Tz (w.alloc (.cells #[.int .i64 0, .int .i64 0, .string { data := #[] }, .int .i64 0] ty)) w.heap.size := ⟨by simp, fun _ => World.frozen?_alloc_new .., by simp, by simp, by simp, by simp⟩
/-- What the reference answers of a token at a place. -/
def RfP (r : Int × Tk × Nat) (q : Nat) (w : World) (e : Ending) (w' : World) : Prop := NxP (if r.1 = 0 then (0, ⟨r.2.1, q⟩, q + r.2.2) else (r.1, tok0, q)) w e w'
theorem RfP.yes {k n : Int} {t : List UInt8} {z q : Nat} {P : Int} {S : ByteArray} {w w' : World} (hS : S = bs t) (hP : P = (q : Int) + (z : Int)) (hb : Below w.heap.size w w') : RfP (0, ⟨k, n, t⟩, z) q w (.returned (.tuple #[.agg #[.int .i64 k, .int .i64 n, .string S, .int .i64 (q : Int)], .int .i64 P, .int .i64 0])) w' := by
  subst hS hP; exact ⟨rfl, hb⟩
theorem RfP.no {E : Int} {x : Tk × Nat} {q : Nat} {w w' : World} (hE : E ≠ 0) (hb : Below w.heap.size w w') : RfP (E, x) q w (.returned (.tuple #[.agg #[.int .i64 0, .int .i64 0, .string ⟨#[]⟩, .int .i64 0], .int .i64 (q : Int), .int .i64 E])) w' := by
  unfold RfP; rw [if_neg hE]; exact ⟨rfl, hb⟩
def TxQ (s : ByteArray) (q : Nat) (R : Option (List UInt8 × Nat)) (k : Nat) (acc : List UInt8) : Prop := ∃ f, s.size - k < f ∧ txF f (s.toList.drop k) acc (k - q) = R
section
variable {s : ByteArray} {q : Nat} {R : Option (List UInt8 × Nat)} {k : Nat} {acc : List UInt8} (h : TxQ s q R k acc)
include h
theorem TxQ.quote (hk : k < s.size) (hq : (s[k].toNat : Int) = 34) : R = some (acc, k - q) := by
  obtain ⟨f, hf, h⟩ := h
  rw [drop_at s k hk, txF_quote (by omega) hq] at h; exact h.symm
theorem TxQ.end_ (hk : ¬ k < s.size) : R = none := by
  obtain ⟨f, hf, h⟩ := h
  rw [drop_end s k hk, txF_nil] at h; exact h.symm
theorem TxQ.bad (hk : k < s.size) (hq : ¬ (s[k].toNat : Int) = 34) (hp : (partL (s.toList.drop k)).2 = 0) : R = none := by
  obtain ⟨f, hf, h⟩ := h
  rw [drop_at s k hk] at h hp
  rw [txF_bad hq hp] at h; exact h.symm
theorem TxQ.step {n : Nat} {c : Int} (hqk : q ≤ k) (hk : k < s.size) (hq : ¬ (s[k].toNat : Int) = 34) (hp : partL (s.toList.drop k) = (c, n)) (hn : n ≠ 0) : TxQ s q R (k + n) (acc ++ [UInt8.ofNat c.toNat]) := by
  obtain ⟨f, hf, h⟩ := h
  cases f
  · omega
  · rename_i f
    rw [drop_at s k hk] at h hp
    rw [txF_step hq (by rw [hp]; exact hn), hp] at h
    refine ⟨f, by omega, ?_⟩
    rw [← h, ← drop_at s k hk, List.drop_drop, show k + n - q = k - q + n by omega]
end
theorem bs_app (x y : List UInt8) : bs x ++ ⟨y.toArray⟩ = bs (x ++ y) := ByteArray.mk_append_mk x y
theorem conv_one (W : World) (c : Int) (h0 : 0 ≤ c) (h1 : c ≤ 255) : (convert 50 9 (.slice (some ⟨W.heap.size, 0, none⟩) 1 1)).run Tryd.prog (W.alloc (.cells #[.int .u8 c] 5)) = .ok (.string ⟨#[UInt8.ofNat c.toNat]⟩) (W.alloc (.cells #[.int .u8 c] 5)) :=
  conv_row (L := [UInt8.ofNat c.toNat]) 1 (.inr ⟨_, rfl, fun _ => by simp, fun j hj => by
    obtain rfl : j = 0 := by simp at hj; omega
    simp [Addr.add]
    omega⟩)
theorem qtext_none {s : ByteArray} {q : Nat} {R : Option (List UInt8 × Nat)} (h : txF ((s.toList.drop q).length + 1) ((s.toList.drop q).drop 1) [] 1 = R) (hR : R = none) : textL (s.toList.drop q) = (20, ⟨0, 0, []⟩, 0) := by
  unfold textL; rw [h, hR]
theorem qtext_long {s : ByteArray} {q : Nat} {R : Option (List UInt8 × Nat)} {acc : List UInt8} {k : Nat} (h : txF ((s.toList.drop q).length + 1) ((s.toList.drop q).drop 1) [] 1 = R) (hR : R = some (acc, k)) (hl : 256 < acc.length) : textL (s.toList.drop q) = (4, ⟨0, 0, []⟩, 0) := by
  unfold textL; rw [h, hR]; exact if_pos hl
theorem qtext_yes {s : ByteArray} {q : Nat} {R : Option (List UInt8 × Nat)} {acc : List UInt8} {k : Nat} (h : txF ((s.toList.drop q).length + 1) ((s.toList.drop q).drop 1) [] 1 = R) (hR : R = some (acc, k)) (hl : ¬ 256 < acc.length) : textL (s.toList.drop q) = (0, ⟨3, 0, acc⟩, k + 1) := by
  unfold textL; rw [h, hR]; exact if_neg hl
end Go.Proofs.YtlpilbghblbpbaaDoor.Lx
/- WALKS of the reference's begins, sign. -/
namespace Go.Proofs.YtlpilbghblbpbaaDoor.Lx
open Go.RowKit
theorem pre_iff {x L : List UInt8} : x.isPrefixOf L = decide (x.length ≤ L.length ∧ L.take x.length = x) := by
  rw [Bool.eq_iff_iff, List.isPrefixOf_iff_prefix, List.prefix_iff_eq_take, decide_eq_true_iff]
  constructor
  · intro h
    refine ⟨?_, h.symm⟩
    rw [h, List.length_take]; omega
  · intro h; exact h.2.symm
theorem ext_cut (s : ByteArray) (q n : Nat) : (s.extract q (q + n)).toList = (s.toList.drop q).take n := by
  rw [ext_take, show q + n - q = n by omega]
theorem cons_pre (x c : UInt8) (l : List UInt8) : [x].isPrefixOf (c :: l) = (x == c) := by simp [List.isPrefixOf]
theorem pre_cut {s : ByteArray} {q : Nat} {x : List UInt8} (h : x.isPrefixOf (s.toList.drop q) = true) (hx : x.length = 2 := by rfl) : s.extract q (q + 2) = bs x := by
  rw [pre_iff] at h
  have := (of_decide_eq_true h).2
  rw [hx] at this
  exact bs_ext (by rw [ext_cut, this, bs_list])
theorem pre_room {s : ByteArray} {q : Nat} {x : List UInt8} (h : x.isPrefixOf (s.toList.drop q) = true) (hx : x.length = 2 := by rfl) : q + 2 ≤ s.size := by
  rw [pre_iff] at h
  have := (of_decide_eq_true h).1
  rw [hx, drop_len] at this
  omega
def oneS : ByteArray := ⟨#[58, 59, 123, 125, 40, 41, 38, 124, 43, 45, 42, 46]⟩
theorem one_tab : ∀ k, (h : k < 12) → signsL.getD (k + 3) [] = [oneS[k]'h] := by decide
theorem one_cut : ∀ k, k < 12 → oneS.extract k (k + 1) = ⟨(signsL.getD (k + 3) []).toArray⟩ := by
  intro k hk
  apply bs_ext
  rw [ext_take]
  have e : ∀ k, k < 12 → (oneS.toList.drop k).take (k + 1 - k) = signsL.getD (k + 3) [] := by decide +kernel
  rw [e k hk]
  exact (bs_list _).symm
theorem drew2 (w : World) (a b : Nat) : ∃ m, (w.drewN a).drewN b = w.drewN m := ⟨a + b, by simp only [World.drewN, Nat.add_assoc]⟩
theorem pre_one {s : ByteArray} {q k : Nat} (hq : q < s.size) (hk : k < 12) : (signsL.getD (k + 3) []).isPrefixOf (s.toList.drop q) = ((s[q].toNat : Int) == ((oneS[k]'hk).toNat : Int)) := by
  rw [one_tab k hk, drop_at s q hq, cons_pre, Bool.eq_iff_iff]
  simp
  constructor
  · intro h; rw [h]
  · intro h; exact UInt8.toNat.inj (by omega)
end Go.Proofs.YtlpilbghblbpbaaDoor.Lx
/- WALK of the reference's Next. -/
namespace Go.Proofs.YtlpilbghblbpbaaDoor.Lx
open Go.RowKit
theorem readE_cases (D : List UInt8) : Nu.readE false D = 0 ∨ Nu.readE false D = 2 ∨ Nu.readE false D = 25 := by
  unfold Nu.readE Nu.outE
  cases Nu.formOk false D
  · exact .inr (.inl rfl)
  · simp only [cond_true]
    split
    · exact .inr (.inr rfl)
    · cases Nu.inB (Nu.sgnV false (Nu.vr D))
      · exact .inr (.inr rfl)
      · exact .inl rfl
/-- So many are left of a row that begins at q. -/
def RwAt (s : ByteArray) (p : UInt8 → Bool) (q m k : Nat) : Prop := q ≤ k ∧ k + rowN p (s.toList.drop k) = q + m
theorem RwAt.first {s : ByteArray} {p : UInt8 → Bool} {q : Nat} : RwAt s p q (rowN p (s.toList.drop q)) q := ⟨Nat.le_refl _, rfl⟩
theorem RwAt.step {s : ByteArray} {p : UInt8 → Bool} {q m k : Nat} (h : RwAt s p q m k) (hk : k < s.size) (hp : p s[k] = true) : RwAt s p q m (k + 1) := by
  obtain ⟨h1, h2⟩ := h
  rw [drop_at s k hk, rowN_yes hp] at h2
  exact ⟨by omega, by omega⟩
theorem RwAt.stop {s : ByteArray} {p : UInt8 → Bool} {q m k : Nat} (h : RwAt s p q m k) (hk : k < s.size) (hp : p s[k] = false) : k = q + m := by
  have h2 := h.2
  rw [drop_at s k hk, rowN_no hp] at h2
  omega
theorem RwAt.end_ {s : ByteArray} {p : UInt8 → Bool} {q m k : Nat} (h : RwAt s p q m k) (hk : ¬ k < s.size) : k = q + m := by
  have h2 := h.2
  rw [drop_end s k hk] at h2
  simp only [rowN] at h2; omega
theorem rnright_as (t : ByteArray) (b : Bool) (w : World) (hs : t.size ≤ maxLen) (hb : Hid (Nm.rightL t.toList = b)) : Calls Tryd.prog 27 #[.string t] w fun e w' => e = .returned (.bool b) ∧ w = w' := by rw [← hb.out]; exact Nm.rright_any t w hs
theorem rnword_as (t : ByteArray) (v : Int) (w : World) (hb : Hid (Nm.wordN t.toList = v)) : Calls Tryd.prog 42 #[.string t] w fun e w' => e = .returned (.int .i64 v) ∧ w = w' := by rw [← hb.out]; exact Nm.rword_any t w
theorem firstL_at {s : ByteArray} {q : Nat} (hq : q < s.size) : firstL (s.toList.drop q) = if dgB s[q] = true then numberL (s.toList.drop q) else if lwB s[q] = true then wordL (s.toList.drop q) else if (s[q].toNat : Int) = 34 then textL (s.toList.drop q) else signR (s.toList.drop q) := by
  rw [drop_at s q hq, firstL_cons]
theorem negS_at {s : ByteArray} {q m : Nat} (hq : q < s.size) (hd : dgB s[q] = true) (hm : 0 < m) : Nu.negS (s.extract q (q + m)) = false := by
  unfold Nu.negS
  rw [← Lib.toList_data, ext_cut, drop_at s q hq]
  cases m
  · omega
  · simp only [List.take_succ_cons, List.head?_cons]
    have := dgB_head hd
    simp
    intro e; rw [e] at this; exact this rfl
end Go.Proofs.YtlpilbghblbpbaaDoor.Lx
/- WALK of the reference's Next: numbers, names, signs. -/
namespace Go.Proofs.YtlpilbghblbpbaaDoor.Lx
open Go.RowKit
end Go.Proofs.YtlpilbghblbpbaaDoor.Lx
/- WALK of the reference's Next: names, signs. -/
namespace Go.Proofs.YtlpilbghblbpbaaDoor.Lx
open Go.RowKit
theorem sign_heads : ∀ j, j < 15 → ∃ x r, signsL.getD j [] = x :: r ∧ lwB x = false := fun j hj => by
  have h : ∀ j, j < 15 → ((signsL.getD j []).head?.map lwB) = some false := by decide
  have h2 := h j hj
  cases e : signsL.getD j [] with
  | nil => rw [e] at h2; exact absurd h2 (by decide)
  | cons x r =>
    rw [e] at h2
    exact ⟨x, r, rfl, by simpa using h2⟩
theorem sign_letter {c : UInt8} {l : List UInt8} (h : lwB c = true) : signL (c :: l) = [] := sign_none fun j hj => by
  obtain ⟨x, r, e, hx⟩ := sign_heads j hj
  rw [e]
  have : (x == c) = false := by
    cases hxc : x == c
    · rfl
    · have : x = c := by simpa using hxc
      subst this; rw [h] at hx; exact absurd hx (by decide)
  simp [List.isPrefixOf, this]
end Go.Proofs.YtlpilbghblbpbaaDoor.Lx
/- WALK of the reference's Next: signs; Next whole. -/
namespace Go.Proofs.YtlpilbghblbpbaaDoor.Lx
open Go.RowKit
theorem other_row {c : UInt8} (hd : dgB c = false) (hl : lwB c = false) (h : 97 ≤ (c.toNat : Int)) : nmB c = false := by
  have h1 := of_decide_eq_false hd
  have h2 := of_decide_eq_false hl
  exact decide_eq_false (by omega)
end Go.Proofs.YtlpilbghblbpbaaDoor.Lx
/- A LIST OF TOKENS OF THE CALL's OWN; all tokens of a text; WALK of Lex. -/
namespace Go.Proofs.YtlpilbghblbpbaaDoor.Lx
open Go.RowKit
/-- All tokens from a place on, behind others. -/
def lexF : Nat → List UInt8 → Nat → List Tok → List Tok × Nat × Int
  | 0, _, _, _ => ([], 0, 0)
  | f + 1, L, p, acc =>
    if (nextL L p).1 ≠ 0 then ([], (nextL L p).2.2, (nextL L p).1)
    else if (nextL L p).2.1.x.k = 0 then (acc, 0, 0)
    else lexF f L (nextL L p).2.2 (acc ++ [(nextL L p).2.1])
def lexL (L : List UInt8) : List Tok × Nat × Int := lexF (L.length + 1) L 0 []
def LxAt (s : ByteArray) (R : List Tok × Nat × Int) (p : Nat) (acc : List Tok) : Prop := ∃ f, s.size - p < f ∧ lexF f s.toList p acc = R
theorem LxAt.first {s : ByteArray} : LxAt s (lexL s.toList) 0 [] := ⟨s.toList.length + 1, by rw [← Nm.size_list]; omega, rfl⟩
section
variable {s : ByteArray} {R : List Tok × Nat × Int} {p n : Nat} {acc : List Tok} {E : Int} {t : Tok} (h : LxAt s R p acc) (hn : nextL s.toList p = (E, t, n))
include h hn
theorem LxAt.bad (hE : E ≠ 0) : R = ([], n, E) := by
  obtain ⟨f, hf, h⟩ := h
  cases f
  · omega
  · rw [← h, lexF, hn, if_pos hE]
theorem LxAt.end_ (hE : E = 0) (hk : t.x.k = 0) : R = (acc, 0, 0) := by
  obtain ⟨f, hf, h⟩ := h
  cases f
  · omega
  · rw [← h, lexF, hn, if_neg (by simpa using hE), if_pos hk]
theorem LxAt.step (hp : p ≤ s.size) (hE : E = 0) (hk : t.x.k ≠ 0) : p + 1 ≤ n ∧ n ≤ s.size ∧ LxAt s R n (acc ++ [t]) := by
  have hle := nextL_le (L := s.toList) (p := p) (by rw [← Nm.size_list]; exact hp)
  rw [hn, ← Nm.size_list] at hle
  have h1 := hle.2 hE hk
  have h2 := hle.1
  obtain ⟨f, hf, h⟩ := h
  cases f
  · omega
  · rename_i f
    refine ⟨h1, h2, f, by dsimp only at h1 h2; omega, ?_⟩
    rw [← h, lexF, hn, if_neg (by simpa using hE), if_neg hk]
end
/-- A token's cells. -/
def Tok.enc (t : Tok) : List Value := [.int .i64 t.x.k, .int .i64 t.x.n, .string (bs t.x.t), .int .i64 t.at_]
theorem flat_get {α : Type} {s : Nat} : ∀ (L : List (List α)) (i r : Nat) (_ : ∀ x ∈ L, x.length = s) (_ : r < s) (hi : i < L.length), L.flatten[i * s + r]? = L[i][r]?
  | x :: L, 0, r, hs, hr, _ => by
    have : x.length = s := hs x (by simp)
    rw [Nat.zero_mul, Nat.zero_add, List.flatten_cons, List.getElem?_append_left (by omega)]
    rfl
  | x :: L, i + 1, r, hs, hr, hi => by
    have hx : x.length = s := hs x (by simp)
    rw [List.flatten_cons, List.getElem?_append_right (by rw [hx, Nat.add_mul]; omega)]
    have e : (i + 1) * s + r - x.length = i * s + r := by rw [hx, Nat.add_mul]; omega
    rw [e, flat_get L i r (fun y hy => hs y (by simp [hy])) hr (by simpa using hi)]
    rfl
def encs (L : List Tok) : List Value := (L.map Tok.enc).flatten
theorem encs_app (L : List Tok) (t : Tok) : encs (L ++ [t]) = encs L ++ t.enc := by unfold encs; rw [List.map_append, List.flatten_append]; simp
/-- A row of tokens that can be read. -/
def TRow (w : World) (a : Option Addr) (L : List Tok) : Prop := ∀ j, (hj : j < L.length) → ∃ b off, a = some ⟨b, off, none⟩ ∧ b < w.heap.size ∧ w.cell? ⟨b, off + j * 4, none⟩ = some (.int .i64 L[j].x.k) ∧ w.cell? ⟨b, off + j * 4 + 1, none⟩ = some (.int .i64 L[j].x.n) ∧ w.cell? ⟨b, off + j * 4 + 2, none⟩ = some (.string (bs L[j].x.t)) ∧ w.cell? ⟨b, off + j * 4 + 3, none⟩ = some (.int .i64 L[j].at_)
theorem TRow.below {w w' : World} {a : Option Addr} {L : List Tok} (h : TRow w a L) (hb : Below w.heap.size w w') : TRow w' a L := fun j hj => by
  obtain ⟨b, off, e, lt, h0, h1, h2, h3⟩ := h j hj
  exact ⟨b, off, e, Nat.lt_of_lt_of_le lt hb.size, (hb.cell (p := ⟨b, _, none⟩) lt).trans h0, (hb.cell (p := ⟨b, _, none⟩) lt).trans h1, (hb.cell (p := ⟨b, _, none⟩) lt).trans h2, (hb.cell (p := ⟨b, _, none⟩) lt).trans h3⟩
theorem trow_own {w : World} {base n : Nat} {E : TypeId} {v : Value} {L : List Tok} (h : w.ownsRow base E 4 v n (encs L)) (hn : n = L.length) : ∃ a cap, v = .slice a n cap ∧ TRow w a L := by
  rcases h.2 with ⟨rfl, hn0⟩ | ⟨g, cap, cur, rfl, hb, hg, hcap, hm, hsz, htake⟩
  · exact ⟨none, 0, by rw [hn0], fun j hj => by omega⟩
  · refine ⟨_, cap, rfl, fun j hj => ?_⟩
    have hl : ∀ r, r < 4 → w.cell? ⟨g, j * 4 + r, none⟩ = L[j].enc[r]? := fun r hr => by
      have e1 := flat_get (L.map Tok.enc) j r (fun x hx => by obtain ⟨t, -, rfl⟩ := List.mem_map.1 hx; rfl) hr (by simpa using hj)
      rw [List.getElem_map] at e1
      rw [← e1]
      show _ = (encs L)[j * 4 + r]?
      rw [← htake, List.getElem?_take_of_lt (by omega), cell_of_row _ _ _ _ E (0, 0) hg]
      simp
    have z : ∀ r, (0 + j * 4 + r : Nat) = j * 4 + r := fun r => by omega
    refine ⟨g, 0, rfl, (Array.getElem?_eq_some_iff.1 hg).1, ?_, ?_, ?_, ?_⟩
    · rw [show (0 + j * 4 : Nat) = j * 4 + 0 by omega, hl 0 (by decide)]; rfl
    · rw [z, hl 1 (by decide)]; rfl
    · rw [z, hl 2 (by decide)]; rfl
    · rw [z, hl 3 (by decide)]; rfl
theorem heap_new (w : World) (o : Obj) : (w.alloc o).heap[w.heap.size]? = some o := by show (w.heap.push o)[w.heap.size]? = _; simp
theorem new4 (W : World) {x0 x1 x2 x3 : Value} {ty : TypeId} {i : Nat} {u : Value} (h : [x0, x1, x2, x3][i]? = some u) : (W.alloc (.cells #[x0, x1, x2, x3] ty)).cell? ((⟨W.heap.size, 0, none⟩ : Addr).add i) = some u :=
  World.news_of_block (cs := #[x0, x1, x2, x3]) (t := ty) (fr := (0, 0)) (heap_new W _) i u h
/-- What Lex answers. -/
def LexP (R : List Tok × Nat × Int) (w : World) (e : Ending) (w' : World) : Prop := ∃ a n cap, n = R.1.length ∧ e = .returned (.tuple #[.slice a n cap, .int .i64 (R.2.1 : Int), .int .i64 R.2.2]) ∧ TRow w' a R.1 ∧ Below w.heap.size w w'
end Go.Proofs.YtlpilbghblbpbaaDoor.Lx
/- PLAIN MATHEMATICS: what is quoted is one token, of that text. -/
namespace Go.Proofs.YtlpilbghblbpbaaDoor.Lx
open Go.RowKit
/-- A digit to the base 16. -/
def hexC (n : Nat) : UInt8 := [48, 49, 50, 51, 52, 53, 54, 55, 56, 57, 97, 98, 99, 100, 101, 102].getD n 0
theorem six_hex : ∀ n, n < 16 → sixV (hexC n) = n := by decide
/-- A byte's part. -/
def qpart (c : UInt8) : List UInt8 :=
  if (c.toNat : Int) = 34 ∨ (c.toNat : Int) = 92 then [92, c] else if (c.toNat : Int) = 10 then [92, 110] else if plB c = false then [92, 120, hexC (c.toNat / 16), hexC (c.toNat % 16)] else [c]
def quoteL (l : List UInt8) : List UInt8 := 34 :: (l.flatMap qpart ++ [34])
theorem byte_lt (c : UInt8) : c.toNat < 256 := c.toNat_lt
theorem partL_q (c : UInt8) (r : List UInt8) : partL (qpart c ++ r) = ((c.toNat : Int), (qpart c).length) := by
  have hb := byte_lt c
  unfold qpart
  split
  · rename_i h
    show (if ((92 : UInt8).toNat : Int) = 34 ∨ plB 92 = false then (0, 0) else if ¬ ((92 : UInt8).toNat : Int) = 92 then (((92 : UInt8).toNat : Int), 1) else escL (c :: r)) = _
    rw [if_neg (by decide), if_neg (by decide)]
    show (if (c.toNat : Int) = 34 ∨ (c.toNat : Int) = 92 then ((c.toNat : Int), 2) else if (c.toNat : Int) = 110 then (10, 2) else if (c.toNat : Int) = 120 then hexL r else (0, 0)) = _
    rw [if_pos h]; rfl
  · split
    · rename_i h
      show (if ((92 : UInt8).toNat : Int) = 34 ∨ plB 92 = false then (0, 0) else if ¬ ((92 : UInt8).toNat : Int) = 92 then (((92 : UInt8).toNat : Int), 1) else escL (110 :: r)) = _
      rw [if_neg (by decide), if_neg (by decide)]
      show (if ((110 : UInt8).toNat : Int) = 34 ∨ ((110 : UInt8).toNat : Int) = 92 then (((110 : UInt8).toNat : Int), 2) else if ((110 : UInt8).toNat : Int) = 110 then (10, 2) else if ((110 : UInt8).toNat : Int) = 120 then hexL r else (0, 0)) = _
      rw [if_neg (by decide), if_pos (by decide), h]; rfl
    · split
      · show (if ((92 : UInt8).toNat : Int) = 34 ∨ plB 92 = false then (0, 0) else if ¬ ((92 : UInt8).toNat : Int) = 92 then (((92 : UInt8).toNat : Int), 1) else escL (120 :: hexC (c.toNat / 16) :: hexC (c.toNat % 16) :: r)) = _
        rw [if_neg (by decide), if_neg (by decide)]
        show (if ((120 : UInt8).toNat : Int) = 34 ∨ ((120 : UInt8).toNat : Int) = 92 then (((120 : UInt8).toNat : Int), 2) else if ((120 : UInt8).toNat : Int) = 110 then (10, 2) else if ((120 : UInt8).toNat : Int) = 120 then hexL (hexC (c.toNat / 16) :: hexC (c.toNat % 16) :: r) else (0, 0)) = _
        rw [if_neg (by decide), if_neg (by decide), if_pos (by decide)]
        show (if 0 ≤ sixV (hexC (c.toNat / 16)) ∧ 0 ≤ sixV (hexC (c.toNat % 16)) then (16 * sixV (hexC (c.toNat / 16)) + sixV (hexC (c.toNat % 16)), 4) else (0, 0)) = _
        rw [six_hex _ (by omega), six_hex _ (by omega), if_pos (by omega), Prod.mk.injEq]
        exact ⟨by omega, rfl⟩
      · rename_i h1 h2 h3
        show (if (c.toNat : Int) = 34 ∨ plB c = false then (0, 0) else if ¬ (c.toNat : Int) = 92 then ((c.toNat : Int), 1) else escL r) = _
        rw [if_neg (by simp only [Bool.not_eq_false] at h3; rw [h3]; simp; omega), if_pos (by omega)]; rfl
theorem qpart_head (c : UInt8) : ∃ d m, qpart c = d :: m ∧ ¬ (d.toNat : Int) = 34 := by
  unfold qpart
  split
  · exact ⟨_, _, rfl, by decide⟩
  · split
    · exact ⟨_, _, rfl, by decide⟩
    · split
      · exact ⟨_, _, rfl, by decide⟩
      · exact ⟨_, _, rfl, by omega⟩
theorem txF_q (r : List UInt8) : ∀ (l : List UInt8) (n : Nat) (acc : List UInt8) (k : Nat), l.length < n → txF n (l.flatMap qpart ++ 34 :: r) acc k = some (acc ++ l, k + (l.flatMap qpart).length)
  | [], n, acc, k, hn => by
    rw [List.flatMap_nil, List.nil_append, txF_quote hn (by decide), List.append_nil]; rfl
  | c :: l, 0, acc, k, hn => by simp at hn
  | c :: l, n + 1, acc, k, hn => by
    obtain ⟨d, m, e, hd⟩ := qpart_head c
    have hp := partL_q c (l.flatMap qpart ++ 34 :: r)
    have h0 : ¬ (qpart c).length = 0 := by rw [e]; simp
    rw [List.flatMap_cons, List.append_assoc]
    rw [e, List.cons_append] at hp ⊢
    rw [txF_step hd (by rw [hp, ← e]; exact h0), hp]
    dsimp only
    rw [show (d :: (m ++ (l.flatMap qpart ++ 34 :: r))).drop (d :: m).length = l.flatMap qpart ++ 34 :: r by rw [← List.cons_append, List.drop_left], txF_q r l n _ _ (by simpa using hn)]
    simp only [Int.toNat_natCast, UInt8.ofNat_toNat, List.append_assoc, List.singleton_append, List.length_append, Nat.add_assoc]
theorem qpart_len (l : List UInt8) : l.length ≤ (l.flatMap qpart).length := by
  induction l with
  | nil => exact Nat.le_refl _
  | cons c l ih =>
    obtain ⟨d, m, e, -⟩ := qpart_head c
    rw [List.flatMap_cons, List.length_append, e, List.length_cons, List.length_cons]; omega
theorem textL_q (l r : List UInt8) : textL (quoteL l ++ r) = if 256 < l.length then (4, ⟨0, 0, []⟩, 0) else (0, ⟨3, 0, l⟩, (quoteL l).length) := by
  have h := txF_q r l ((quoteL l ++ r).length + 1) [] 1 (by have := qpart_len l; unfold quoteL; simp only [List.length_append, List.length_cons]; omega)
  unfold textL
  rw [show (quoteL l ++ r).drop 1 = l.flatMap qpart ++ 34 :: r by unfold quoteL; simp, h]
  rw [List.nil_append]
  show (if 256 < l.length then _ else _) = _
  split
  · rfl
  · rw [show 1 + (l.flatMap qpart).length + 1 = (quoteL l).length by unfold quoteL; simp only [List.length_append, List.length_cons, List.length_nil]; omega]
/-- What stands around it. -/
def frontL (g : Nat) : List UInt8 := [32, 9, 10, 32].take g
theorem skN_front (g : Nat) (c : UInt8) (r : List UInt8) (h : ¬ (c.toNat : Int) = 35) (hb : blB c = false) (hg : g < 5) : skN false (frontL g ++ c :: r) = (frontL g).length := by
  have h0 : skN false (c :: r) = 0 := by
    show (if (c.toNat : Int) = 35 ∨ (false = true ∧ ¬ (c.toNat : Int) = 10) then skN true r + 1 else if blB c = true then skN false r + 1 else 0) = 0
    rw [if_neg (by simp; omega), if_neg (by simp [hb])]
  have h1 : ∀ (b : UInt8) (m : List UInt8), blB b = true → ¬ (b.toNat : Int) = 35 → skN false (b :: m) = skN false m + 1 := fun b m h1 h2 => by
    show (if (b.toNat : Int) = 35 ∨ (false = true ∧ ¬ (b.toNat : Int) = 10) then skN true m + 1 else if blB b = true then skN false m + 1 else 0) = _
    rw [if_neg (by simp; omega), if_pos h1]
  rcases (by omega : g = 0 ∨ g = 1 ∨ g = 2 ∨ g = 3 ∨ g = 4) with rfl | rfl | rfl | rfl | rfl
  · exact h0
  · show skN false (32 :: c :: r) = 1
    rw [h1 _ _ (by decide) (by decide), h0]
  · show skN false (32 :: 9 :: c :: r) = 2
    rw [h1 _ _ (by decide) (by decide), h1 _ _ (by decide) (by decide), h0]
  · show skN false (32 :: 9 :: 10 :: c :: r) = 3
    rw [h1 _ _ (by decide) (by decide), h1 _ _ (by decide) (by decide), h1 _ _ (by decide) (by decide), h0]
  · show skN false (32 :: 9 :: 10 :: 32 :: c :: r) = 4
    rw [h1 _ _ (by decide) (by decide), h1 _ _ (by decide) (by decide), h1 _ _ (by decide) (by decide), h1 _ _ (by decide) (by decide), h0]
theorem skN_tail : ∀ g, g < 5 → skN false (35 :: frontL g) = 1 + (frontL g).length := by decide
/-- The text that is cut. -/
def wholeL (g : Nat) (l : List UInt8) : List UInt8 := frontL g ++ quoteL l ++ [35] ++ frontL g
theorem whole_as (g : Nat) (l : List UInt8) : wholeL g l = frontL g ++ (34 :: (l.flatMap qpart ++ [34] ++ 35 :: frontL g)) := by unfold wholeL quoteL; simp
theorem next_q (g : Nat) (l : List UInt8) (hg : g < 5) : nextL (wholeL g l) 0 = if 256 < l.length then (4, tok0, (frontL g).length) else (0, ⟨⟨3, 0, l⟩, (frontL g).length⟩, (frontL g).length + (quoteL l).length) := by
  unfold nextL
  rw [List.drop_zero, show skN false (wholeL g l) = (frontL g).length by rw [whole_as]; exact skN_front g 34 _ (by decide) (by decide) hg, Nat.zero_add]
  rw [if_neg (by rw [whole_as]; simp), whole_as, List.drop_left]
  have hf : firstL (34 :: (l.flatMap qpart ++ [34] ++ 35 :: frontL g)) = textL (quoteL l ++ 35 :: frontL g) := by
    have h2 : ∀ m, firstL (34 :: m) = textL (34 :: m) := fun m => by
      show (if dgB 34 = true then numberL (34 :: m) else if lwB 34 = true then wordL (34 :: m) else if ((34 : UInt8).toNat : Int) = 34 then textL (34 :: m) else signR (34 :: m)) = _
      rw [if_neg (by decide), if_neg (by decide), if_pos (by decide)]
    rw [h2]; congr 1
  rw [hf, textL_q]
  dsimp only
  split
  · rfl
  · rfl
theorem next_q2 (g : Nat) (l : List UInt8) (hg : g < 5) : nextL (wholeL g l) ((frontL g).length + (quoteL l).length) = (0, ⟨⟨0, 0, []⟩, ((wholeL g l).length : Nat)⟩, (wholeL g l).length) := by
  unfold nextL
  rw [show (wholeL g l).drop ((frontL g).length + (quoteL l).length) = 35 :: frontL g by unfold wholeL; rw [List.append_assoc, ← List.length_append, List.drop_left]; rfl, skN_tail g hg]
  rw [show (frontL g).length + (quoteL l).length + (1 + (frontL g).length) = (wholeL g l).length by unfold wholeL; simp; omega, if_pos rfl]
theorem lex_q (g : Nat) (l : List UInt8) (hg : g < 5) : lexL (wholeL g l) = if 256 < l.length then ([], (frontL g).length, 4) else ([⟨⟨3, 0, l⟩, (frontL g).length⟩], 0, 0) := by
  unfold lexL
  obtain ⟨m, hm⟩ : ∃ m, (wholeL g l).length = m + 1 := ⟨(wholeL g l).length - 1, by rw [whole_as]; simp only [List.length_append, List.length_cons]; omega⟩
  rw [hm]
  show (if (nextL (wholeL g l) 0).1 ≠ 0 then ([], (nextL (wholeL g l) 0).2.2, (nextL (wholeL g l) 0).1) else if (nextL (wholeL g l) 0).2.1.x.k = 0 then ([], 0, 0) else lexF (m + 1) (wholeL g l) (nextL (wholeL g l) 0).2.2 ([] ++ [(nextL (wholeL g l) 0).2.1])) = _
  rw [next_q g l hg]
  by_cases h : 256 < l.length
  · rw [if_pos h, if_pos h, if_pos (by show ¬ (4 : Int) = 0; decide)]
  · rw [if_neg h, if_neg h, if_neg (by simp)]
    dsimp only
    rw [if_neg (by decide)]
    show (if (nextL (wholeL g l) ((frontL g).length + (quoteL l).length)).1 ≠ 0 then _ else if (nextL (wholeL g l) ((frontL g).length + (quoteL l).length)).2.1.x.k = 0 then _ else _) = _
    rw [next_q2 g l hg, if_neg (by simp)]
    dsimp only
    rw [if_pos rfl]; rfl
theorem front_add : ∀ g, g < 4 → frontL (g + 1) = frontL g ++ ([32, 9, 10] : List UInt8).extract (g % 3) (g % 3 + 1) := by decide
theorem flat_app (l : List UInt8) (c : UInt8) : (l ++ [c]).flatMap qpart = l.flatMap qpart ++ qpart c := by rw [List.flatMap_append]; simp
theorem qpart_le (c : UInt8) : (qpart c).length ≤ 4 := by
  unfold qpart; split
  · simp
  · split
    · simp
    · split
      · simp
      · simp
theorem flat_le (l : List UInt8) : (l.flatMap qpart).length ≤ 4 * l.length := by
  induction l with
  | nil => exact Nat.le_refl _
  | cons c l ih => have := qpart_le c; rw [List.flatMap_cons, List.length_append, List.length_cons]; omega
end Go.Proofs.YtlpilbghblbpbaaDoor.Lx
/- WALK of Quote. -/
namespace Go.Proofs.YtlpilbghblbpbaaDoor.Lx
open Go.RowKit
/-- What is made of the front of a text. -/
def qL (l : List UInt8) (k : Nat) : List UInt8 := 34 :: (l.take k).flatMap qpart
theorem qL_step {s : ByteArray} {k : Nat} (h : k < s.size) : qL s.toList (k + 1) = qL s.toList k ++ qpart s[k] := by
  unfold qL
  have hk : k < s.toList.length := by rw [← Nm.size_list]; exact h
  rw [List.take_succ_eq_append_getElem hk, flat_app, List.cons_append, show s.toList[k] = s[k] by
    have := drop_at s k h
    rw [List.drop_eq_getElem_cons hk] at this
    exact (List.cons.inj this).1]
theorem qL_len (l : List UInt8) (k : Nat) : (qL l k).length ≤ 4 * k + 1 := by
  unfold qL
  have h1 := flat_le (l.take k)
  have h2 := List.length_take_le k l
  rw [List.length_cons]; omega
theorem qL_all {s : ByteArray} {k : Nat} (h : ¬ k < s.size) : qL s.toList k ++ [34] = quoteL s.toList := by
  unfold qL quoteL
  rw [List.take_of_length_le (by rw [← Nm.size_list]; omega)]; rfl
theorem new1 (W : World) {x0 : Value} {ty : TypeId} {i : Nat} {u : Value} (h : [x0][i]? = some u) : (W.alloc (.cells #[x0] ty)).cell? ((⟨W.heap.size, 0, none⟩ : Addr).add i) = some u :=
  World.news_of_block (cs := #[x0]) (t := ty) (fr := (0, 0)) (heap_new W _) i u h
theorem new2 (W : World) {x0 x1 : Value} {ty : TypeId} {i : Nat} {u : Value} (h : [x0, x1][i]? = some u) : (W.alloc (.cells #[x0, x1] ty)).cell? ((⟨W.heap.size, 0, none⟩ : Addr).add i) = some u :=
  World.news_of_block (cs := #[x0, x1]) (t := ty) (fr := (0, 0)) (heap_new W _) i u h
/-- How a round of Quote goes. -/
theorem q_cases (c : UInt8) : ((c.toNat : Int) = 34 ∧ qpart c = [92, c]) ∨ ((c.toNat : Int) = 92 ∧ qpart c = [92, c]) ∨ (((c.toNat : Int) == 34) = false ∧ ((c.toNat : Int) == 92) = false ∧ (c.toNat : Int) = 10 ∧ qpart c = [92, 110]) ∨
    (((c.toNat : Int) == 34) = false ∧ ((c.toNat : Int) == 92) = false ∧ ((c.toNat : Int) == 10) = false ∧ plB c = false ∧ qpart c = [92, 120, hexC (c.toNat / 16), hexC (c.toNat % 16)]) ∨
    (((c.toNat : Int) == 34) = false ∧ ((c.toNat : Int) == 92) = false ∧ ((c.toNat : Int) == 10) = false ∧ plB c = true ∧ qpart c = [c]) := by
  unfold qpart
  by_cases h1 : (c.toNat : Int) = 34
  · exact .inl ⟨h1, if_pos (.inl h1)⟩
  · by_cases h2 : (c.toNat : Int) = 92
    · exact .inr (.inl ⟨h2, if_pos (.inr h2)⟩)
    · rw [if_neg (by omega)]
      have e1 : ((c.toNat : Int) == 34) = false := by simpa using h1
      have e2 : ((c.toNat : Int) == 92) = false := by simpa using h2
      by_cases h3 : (c.toNat : Int) = 10
      · exact .inr (.inr (.inl ⟨e1, e2, h3, if_pos h3⟩))
      · rw [if_neg h3]
        have e3 : ((c.toNat : Int) == 10) = false := by simpa using h3
        cases h4 : plB c
        · exact .inr (.inr (.inr (.inl ⟨e1, e2, e3, rfl, if_pos rfl⟩)))
        · exact .inr (.inr (.inr (.inr ⟨e1, e2, e3, rfl, if_neg (by simp)⟩)))
theorem u8_val {c : UInt8} {n : Nat} (h : (c.toNat : Int) = n) : c = UInt8.ofNat n := by
  have h2 : c.toNat = n := by omega
  rw [← h2, UInt8.ofNat_toNat]
theorem u8s_app (a b : List UInt8) : u8s (a ++ b) = u8s a ++ u8s b := List.map_append
section
variable {P : Program} {md : Region.Mode} {ops : Array Oper} {Q : Exit → Act → World → Prop} {S : World → Prop}
theorem take_at' {i : Nat} {oi : Oper} (d : Nat) {v : Value} {fuel : Nat} {listed : Array Bool} {a : Act} {w : World} (hi : ops[i]? = some oi) (hd : oi.dst = some d)
    (hs : Region.noSelect ops = true) (hf : Region.free md ops listed i = true) (hr : (Region.ready md ops listed).contains i = true)
    (hQ : ∀ c a w, Q (.panic c) (a.put oi.dst v) w → Q (.panic c) a w) (hy : YieldsIf P ops S oi v a) (hS : S w)
    (h : wpAnyH P md ops Q S fuel (listed.setIfInBounds i true) { a with tmps := a.tmps.setIfInBounds d v } w) : wpAnyH P md ops Q S (fuel + 1) listed a w :=
  wpAnyH_take hi hs hf hr hQ hy hS (by rw [hd]; exact h)
theorem value_at {i : Nat} {o : Oper} (d : Nat) {a : Act} {w w' : World} {v : Value} {K : Act → World → Prop} (ho : ops[i]? = some o) (hd : o.dst = some d) (hw : Region.wanted o (yielded ops a.tmps) = true) (hr : (execOp a.eval o).run P w = .ok (.value v) w') (h : K { a with tmps := a.tmps.setIfInBounds d v } w') : wpOp P ops Q i K a w := by
  unfold wpOp
  simp only [ho, hw, if_true, Oper.wp, hr, Oper.upon]
  exact .inl (by rw [hd]; exact h)
theorem skip_at {i : Nat} {o : Oper} {a : Act} {w w' : World} {K : Act → World → Prop} (ho : ops[i]? = some o) (hd : o.dst = none) (hw : Region.wanted o (yielded ops a.tmps) = true) (hr : (execOp a.eval o).run P w = .ok .skip w') (h : K a w') : wpOp P ops Q i K a w := by
  unfold wpOp
  simp only [ho, hw, if_true, Oper.wp, hr, Oper.upon]
  exact .inl (by rw [hd]; exact h)
theorem append_run {o : Oper} {a : Act} {s x : Operand} {t : TypeId} {w w' : World} {v u r : Value} (hop : o.op = Op.call { callee := Callee.builtin Builtin.append, args := #[s, x], argTypes := #[t, t] }) (hs : a.eval s = v) (hx : a.eval x = u)
    (hrun : (Builtin.append_ #[t, t] o.type #[v, u]).run P w = .ok r w') : (execOp a.eval o).run P w = .ok (.value r) w' := by
  simp [execOp, hop, resolve, invoke, builtin, hs, hx, hrun, Result.andThen]
end
set_option maxRecDepth 100000 in
set_option maxHeartbeats 4000000 in
theorem quote_any (s : ByteArray) (w : World) (hs : s.size ≤ 4096) : Calls Tryd.prog 47 #[.string s] w fun e w' => e = .returned (.string (bs (quoteL s.toList))) ∧ Below w.heap.size w w' := by
  obtain ⟨i0, hi, hz0, hz1, hz2⟩ := info_parts Tryd.info5
  have HI := Lib.hid hi
  have HZ0 := Lib.hid hz0
  have HZ1 := Lib.hid hz1
  have HZ2 := Lib.hid hz2
  clear hi hz0 hz1 hz2
  go_enter Tryd.func47, Tryd.ntmps47
  go_wp2_with fail
  go_loopw [3, 9] (fun v i wr => ∃ (k m : Nat) (a : Option Addr) (cp : Nat), k ≤ s.size ∧ i = .int .i64 k ∧ m ≤ 4 * k + 1 ∧ v = .slice a m cp ∧ Hid (m = (qL s.toList k).length) ∧ w.heap.size ≤ wr.heap.size ∧ Hid (wr.ownsRow w.heap.size 5 1 (.slice a m cp) m (u8s (qL s.toList k))) ∧ Hid (Below (w.heap.size) w wr)) (fun _ i _ => s.size - (intOf i).toNat)
  case atStart => exact ⟨0, 1, some ⟨w.heap.size, 0, none⟩, 1, by omega, rfl, by omega, rfl, Lib.hid rfl, by simp, Lib.hid (World.ownsRow_lit w #[.int .u8 34] 1 (Nat.le_refl _) (by decide) rfl), Lib.hid (bl_alloc (Below.refl _ _))⟩
  case round =>
    obtain ⟨k, m, a, cp, hk, rfl, hm, rfl, hM, hwr, hO, hB⟩ := hrel
    rename World => wr
    by_cases hlt : k < s.size
    · have HQ := Lib.hid (qL_step hlt)
      have hi1 : (k : Int) < (s.size : Int) := by omega
      have hi0 : (0 : Int) ≤ (k : Int) := by omega
      rcases q_cases s[k] with ⟨h1, hq⟩ | ⟨h1, hq⟩ | ⟨h1, h2, h3, hq⟩ | ⟨h1, h2, h3, h4, hq⟩ | ⟨h1, h2, h3, h4, hq⟩
      · have HQQ := Lib.hid hq
        have HV := Lib.hid (u8_val h1)
        clear hq
        go_wp2_with (at_builtin; refine wpList_append_own _ rfl _ _ 50 rfl w.heap.size 5 i0 (.int .u8 0) 1 1 Tryd.underlying50 HI.out HZ0.out HZ1.out HZ2.out rfl (by decide) _ _ _ rfl (hO.out.alloc _) ⟨wr.heap.size, 0, none⟩ 2 2 [.int .u8 92, .int .u8 34] rfl rfl (fun j u hj => new2 _ hj) (fun x hx => by simp only [List.mem_cons, List.not_mem_nil, or_false] at hx; rcases hx with rfl | rfl <;> rfl) (by unfold maxLen; omega) (by omega) (by simp; omega) ?_; intro v' w4 hown' hgrow4 hnil4; have OW4 := Lib.hid hown'; have G4 := Lib.hid hgrow4; clear hown' hgrow4 hnil4)
        have HU : Hid (u8s (qL s.toList (k + 1)) = u8s (qL s.toList k) ++ [.int .u8 92, .int .u8 34]) := Lib.hid (by rw [HQ.out, u8s_app, HQQ.out]; rw [HV.out]; rfl)
        have HMM : Hid (m + 2 = (qL s.toList (k + 1)).length) := Lib.hid (by rw [HQ.out, List.length_append, HQQ.out, ← hM.out]; rfl)
        have hOW := OW4.out
        rw [← HU.out] at hOW
        obtain ⟨a', c', e1, hS⟩ := row_own (by rw [HMM.out] at hOW; exact hOW)
        rw [← HMM.out] at e1
        subst e1
        have HOW := Lib.hid hOW
        clear hOW hS
        have B0 := Lib.hid ((bl_alloc hB.out).grown G4.out (by simp; omega) (fun k hk => by have := own_base hO.out k hk; omega))
        go_roundw
        case rel => exact ⟨k + 1, m + 2, a', c', by omega, by go_num, by omega, rfl, HMM, by have := B0.out.size; omega, HOW, B0⟩
        case measure => simp [intOf]; omega
      · have HQQ := Lib.hid hq
        have HV := Lib.hid (u8_val h1)
        clear hq
        go_wp2_with (at_builtin; refine wpList_append_own _ rfl _ _ 50 rfl w.heap.size 5 i0 (.int .u8 0) 1 1 Tryd.underlying50 HI.out HZ0.out HZ1.out HZ2.out rfl (by decide) _ _ _ rfl (hO.out.alloc _) ⟨wr.heap.size, 0, none⟩ 2 2 [.int .u8 92, .int .u8 92] rfl rfl (fun j u hj => new2 _ hj) (fun x hx => by simp only [List.mem_cons, List.not_mem_nil, or_false] at hx; rcases hx with rfl | rfl <;> rfl) (by unfold maxLen; omega) (by omega) (by simp; omega) ?_; intro v' w4 hown' hgrow4 hnil4; have OW4 := Lib.hid hown'; have G4 := Lib.hid hgrow4; clear hown' hgrow4 hnil4)
        have HU : Hid (u8s (qL s.toList (k + 1)) = u8s (qL s.toList k) ++ [.int .u8 92, .int .u8 92]) := Lib.hid (by rw [HQ.out, u8s_app, HQQ.out]; rw [HV.out]; rfl)
        have HMM : Hid (m + 2 = (qL s.toList (k + 1)).length) := Lib.hid (by rw [HQ.out, List.length_append, HQQ.out, ← hM.out]; rfl)
        have hOW := OW4.out
        rw [← HU.out] at hOW
        obtain ⟨a', c', e1, hS⟩ := row_own (by rw [HMM.out] at hOW; exact hOW)
        rw [← HMM.out] at e1
        subst e1
        have HOW := Lib.hid hOW
        clear hOW hS
        have B0 := Lib.hid ((bl_alloc hB.out).grown G4.out (by simp; omega) (fun k hk => by have := own_base hO.out k hk; omega))
        go_roundw
        case rel => exact ⟨k + 1, m + 2, a', c', by omega, by go_num, by omega, rfl, HMM, by have := B0.out.size; omega, HOW, B0⟩
        case measure => simp [intOf]; omega
      · have HQQ := Lib.hid hq
        clear hq
        go_wp2_with (at_builtin; refine wpList_append_own _ rfl _ _ 50 rfl w.heap.size 5 i0 (.int .u8 0) 1 1 Tryd.underlying50 HI.out HZ0.out HZ1.out HZ2.out rfl (by decide) _ _ _ rfl (hO.out.alloc _) ⟨wr.heap.size, 0, none⟩ 2 2 [.int .u8 92, .int .u8 110] rfl rfl (fun j u hj => new2 _ hj) (fun x hx => by simp only [List.mem_cons, List.not_mem_nil, or_false] at hx; rcases hx with rfl | rfl <;> rfl) (by unfold maxLen; omega) (by omega) (by simp; omega) ?_; intro v' w4 hown' hgrow4 hnil4; have OW4 := Lib.hid hown'; have G4 := Lib.hid hgrow4; clear hown' hgrow4 hnil4)
        have HU : Hid (u8s (qL s.toList (k + 1)) = u8s (qL s.toList k) ++ [.int .u8 92, .int .u8 110]) := Lib.hid (by rw [HQ.out, u8s_app, HQQ.out]; rfl)
        have HMM : Hid (m + 2 = (qL s.toList (k + 1)).length) := Lib.hid (by rw [HQ.out, List.length_append, HQQ.out, ← hM.out]; rfl)
        have hOW := OW4.out
        rw [← HU.out] at hOW
        obtain ⟨a', c', e1, hS⟩ := row_own (by rw [HMM.out] at hOW; exact hOW)
        rw [← HMM.out] at e1
        subst e1
        have HOW := Lib.hid hOW
        clear hOW hS
        have B0 := Lib.hid ((bl_alloc hB.out).grown G4.out (by simp; omega) (fun k hk => by have := own_base hO.out k hk; omega))
        go_roundw
        case rel => exact ⟨k + 1, m + 2, a', c', by omega, by go_num, by omega, rfl, HMM, by have := B0.out.size; omega, HOW, B0⟩
        case measure => simp [intOf]; omega
      · have HQQ := Lib.hid hq
        have HP := Lib.hid h4
        clear hq h4
        go_wp2_with (go_at_call 65; ((with_reducible refine (plain_as _ _ _ HP).mono ?_); rintro e w' ⟨rfl, rfl⟩))
        have hb := byte_lt s[k]
        obtain ⟨n1, hn1⟩ : ∃ n1, s[k].toNat / 16 = n1 := ⟨_, rfl⟩
        obtain ⟨n2, hn2⟩ : ∃ n2, s[k].toNat % 16 = n2 := ⟨_, rfl⟩
        have l1 : n1 < 16 := by omega
        have l2 : n2 < 16 := by omega
        refine wp_region_held (S := fun _ => True) (by kernel_rfl) ?_
        generalize hwd : ({ wr with drawn := wr.drawn + 1 } : World) = wd
        have HOD := Lib.hid (show wd.ownsRow w.heap.size 5 1 (.slice a m cp) m (u8s (qL s.toList k)) from by rw [← hwd]; exact hO.out)
        have HBD := Lib.hid (show Below w.heap.size w wd from by rw [← hwd]; exact hB.out.drew)
        have hwd2 : w.heap.size ≤ wd.heap.size := by rw [← hwd]; exact hwr
        clear hwd
        refine take_at' (i := 0) 40 (v := .slice a m cp) rfl rfl (by kernel_rfl) (by kernel_rfl) (by kernel_rfl) (fun _ _ _ h => h) (Or.inl ⟨by rfl, fun w' hS => (by go_simp)⟩) trivial ?_
        simp only [List.setIfInBounds_toArray, List.set_cons_succ, List.set_cons_zero]
        refine take_at' (i := 1) 41 (v := .int .u8 (s[k].toNat : Int)) rfl rfl (by kernel_rfl) (by kernel_rfl) (by kernel_rfl) (fun _ _ _ h => h) (Or.inl ⟨by rfl, fun w' hS => (by go_simp)⟩) trivial ?_
        simp only [List.setIfInBounds_toArray, List.set_cons_succ, List.set_cons_zero]
        refine take_at' (i := 2) 42 (v := .int .u8 (n1 : Int)) rfl rfl (by kernel_rfl) (by kernel_rfl) (by kernel_rfl) (fun _ _ _ h => h) (Or.inl ⟨by rfl, fun w' hS => (by go_simp; rw [IntWalk.u8_in _ (by omega)]; omega)⟩) trivial ?_
        simp only [List.setIfInBounds_toArray, List.set_cons_succ, List.set_cons_zero]
        refine take_at' (i := 3) 43 (v := .int .u8 ((hexC n1).toNat : Int)) rfl rfl (by kernel_rfl) (by kernel_rfl) (by kernel_rfl) (fun _ _ _ h => h) (Or.inl ⟨by rfl, fun w' hS => (by rcases (by omega : n1 = 0 ∨ n1 = 1 ∨ n1 = 2 ∨ n1 = 3 ∨ n1 = 4 ∨ n1 = 5 ∨ n1 = 6 ∨ n1 = 7 ∨ n1 = 8 ∨ n1 = 9 ∨ n1 = 10 ∨ n1 = 11 ∨ n1 = 12 ∨ n1 = 13 ∨ n1 = 14 ∨ n1 = 15) with rfl | rfl | rfl | rfl | rfl | rfl | rfl | rfl | rfl | rfl | rfl | rfl | rfl | rfl | rfl | rfl <;> rfl)⟩) trivial ?_
        simp only [List.setIfInBounds_toArray, List.set_cons_succ, List.set_cons_zero]
        refine take_at' (i := 4) 44 (v := .int .u8 (s[k].toNat : Int)) rfl rfl (by kernel_rfl) (by kernel_rfl) (by kernel_rfl) (fun _ _ _ h => h) (Or.inl ⟨by rfl, fun w' hS => (by go_simp)⟩) trivial ?_
        simp only [List.setIfInBounds_toArray, List.set_cons_succ, List.set_cons_zero]
        refine take_at' (i := 5) 45 (v := .int .u8 (n2 : Int)) rfl rfl (by kernel_rfl) (by kernel_rfl) (by kernel_rfl) (fun _ _ _ h => h) (Or.inl ⟨by rfl, fun w' hS => (by go_simp; rw [Int.tmod_eq_emod_of_nonneg (by omega)]; omega)⟩) trivial ?_
        simp only [List.setIfInBounds_toArray, List.set_cons_succ, List.set_cons_zero]
        refine take_at' (i := 6) 46 (v := .int .u8 ((hexC n2).toNat : Int)) rfl rfl (by kernel_rfl) (by kernel_rfl) (by kernel_rfl) (fun _ _ _ h => h) (Or.inl ⟨by rfl, fun w' hS => (by rcases (by omega : n2 = 0 ∨ n2 = 1 ∨ n2 = 2 ∨ n2 = 3 ∨ n2 = 4 ∨ n2 = 5 ∨ n2 = 6 ∨ n2 = 7 ∨ n2 = 8 ∨ n2 = 9 ∨ n2 = 10 ∨ n2 = 11 ∨ n2 = 12 ∨ n2 = 13 ∨ n2 = 14 ∨ n2 = 15) with rfl | rfl | rfl | rfl | rfl | rfl | rfl | rfl | rfl | rfl | rfl | rfl | rfl | rfl | rfl | rfl <;> rfl)⟩) trivial ?_
        simp only [List.setIfInBounds_toArray, List.set_cons_succ, List.set_cons_zero]
        refine wpAnyH_all (rs := [7]) (by kernel_rfl) (by simp) ?_
        intro i hi
        obtain rfl : i = 7 := by simpa using hi
        refine value_at 47 (v := .slice (some ⟨wd.heap.size, 0, none⟩) 4 4) (w' := wd.alloc (.cells #[.int .u8 92, .int .u8 120, .int .u8 ((hexC n1).toNat : Int), .int .u8 ((hexC n2).toNat : Int)] 5)) rfl rfl rfl (by go_simp) ⟨trivial, ?_⟩
        simp only [List.setIfInBounds_toArray, List.set_cons_succ, List.set_cons_zero]
        refine wpAnyH_all (rs := [8]) (by kernel_rfl) (by simp) ?_
        intro i hi
        obtain rfl : i = 8 := by simpa using hi
        obtain ⟨v', w4, hrun, hown', hgrow4, -⟩ := run_append_own (P := Tryd.prog) (wd.alloc (.cells #[.int .u8 92, .int .u8 120, .int .u8 ((hexC n1).toNat : Int), .int .u8 ((hexC n2).toNat : Int)] 5)) w.heap.size 50 50 5 i0 (.int .u8 0) 1 1 Tryd.underlying50 HI.out HZ0.out HZ1.out HZ2.out rfl (by decide) _ _ _ (HOD.out.alloc _) ⟨wd.heap.size, 0, none⟩ 4 4 [.int .u8 92, .int .u8 120, .int .u8 ((hexC n1).toNat : Int), .int .u8 ((hexC n2).toNat : Int)] rfl (fun j u hj => new4 _ hj) (fun x hx => by simp only [List.mem_cons, List.not_mem_nil, or_false] at hx; rcases hx with rfl | rfl | rfl | rfl <;> rfl) (by unfold maxLen; omega) (by omega) (by simp; omega)
        have OW4 := Lib.hid hown'
        have G4 := Lib.hid hgrow4
        refine value_at 48 (v := v') (w' := w4) rfl rfl rfl (append_run rfl rfl rfl hrun) ⟨trivial, ?_⟩
        clear hown' hgrow4 hrun
        simp only [List.setIfInBounds_toArray, List.set_cons_succ, List.set_cons_zero]
        refine take_at' (i := 9) 3 (v := v') rfl rfl (by kernel_rfl) (by kernel_rfl) (by kernel_rfl) (fun _ _ _ h => h) (Or.inl ⟨by rfl, fun w' hS => (by go_simp)⟩) trivial ?_
        simp only [List.setIfInBounds_toArray, List.set_cons_succ, List.set_cons_zero]
        refine wpAnyH_done (by kernel_rfl) ?_ _
        go_wp2_with fail
        have HU : Hid (u8s (qL s.toList (k + 1)) = u8s (qL s.toList k) ++ [.int .u8 92, .int .u8 120, .int .u8 ((hexC n1).toNat : Int), .int .u8 ((hexC n2).toNat : Int)]) := Lib.hid (by rw [HQ.out, u8s_app, HQQ.out]; rw [hn1, hn2]; rfl)
        have HMM : Hid (m + 4 = (qL s.toList (k + 1)).length) := Lib.hid (by rw [HQ.out, List.length_append, HQQ.out, ← hM.out]; rfl)
        have hOW := OW4.out
        rw [← HU.out] at hOW
        obtain ⟨a', c', e1, hS⟩ := row_own (by rw [HMM.out] at hOW; exact hOW)
        rw [← HMM.out] at e1
        subst e1
        have HOW := Lib.hid hOW
        clear hOW hS
        have B0 := Lib.hid ((bl_alloc HBD.out).grown G4.out (by simp; omega) (fun k hk => by have := own_base HOD.out k hk; omega))
        go_roundw
        case rel => exact ⟨k + 1, m + 4, a', c', by omega, by go_num, by omega, rfl, HMM, by have := B0.out.size; omega, HOW, B0⟩
        case measure => simp [intOf]; omega
      · have HQQ := Lib.hid hq
        have HP := Lib.hid h4
        clear hq h4
        go_wp2_with (first | (go_at_call 65; ((with_reducible refine (plain_as _ _ _ HP).mono ?_); rintro e w' ⟨rfl, rfl⟩)) | (at_builtin; refine wpList_append_own _ rfl _ _ 50 rfl w.heap.size 5 i0 (.int .u8 0) 1 1 Tryd.underlying50 HI.out HZ0.out HZ1.out HZ2.out rfl (by decide) _ _ _ rfl (hO.out.alloc _) ⟨wr.heap.size, 0, none⟩ 1 1 [.int .u8 (s[k].toNat : Int)] rfl rfl (fun j u hj => new1 _ hj) (fun x hx => by simp only [List.mem_cons, List.not_mem_nil, or_false] at hx; subst hx; rfl) (by unfold maxLen; omega) (by omega) (by simp; omega) ?_; intro v' w4 hown' hgrow4 hnil4; have OW4 := Lib.hid hown'; have G4 := Lib.hid hgrow4; clear hown' hgrow4 hnil4))
        have HU : Hid (u8s (qL s.toList (k + 1)) = u8s (qL s.toList k) ++ [.int .u8 (s[k].toNat : Int)]) := Lib.hid (by rw [HQ.out, u8s_app, HQQ.out]; rfl)
        have HMM : Hid (m + 1 = (qL s.toList (k + 1)).length) := Lib.hid (by rw [HQ.out, List.length_append, HQQ.out, ← hM.out]; rfl)
        have hOW := OW4.out
        rw [← HU.out] at hOW
        obtain ⟨a', c', e1, hS⟩ := row_own (by rw [HMM.out] at hOW; exact hOW)
        rw [← HMM.out] at e1
        subst e1
        have HOW := Lib.hid hOW
        clear hOW hS
        have B0 := Lib.hid ((bl_alloc hB.out).grown G4.out (by simp; omega) (fun k hk => by have := own_base hO.out k hk; omega))
        go_roundw
        case rel => exact ⟨k + 1, m + 1, a', c', by omega, by go_num, by omega, rfl, HMM, by have := B0.out.size; omega, HOW, B0⟩
        case measure => simp [intOf]; omega
    · have HA := Lib.hid (qL_all hlt)
      go_wp2_with (at_builtin; refine wpList_append_own _ rfl _ _ 50 rfl w.heap.size 5 i0 (.int .u8 0) 1 1 Tryd.underlying50 HI.out HZ0.out HZ1.out HZ2.out rfl (by decide) _ _ _ rfl (hO.out.alloc _) ⟨wr.heap.size, 0, none⟩ 1 1 [.int .u8 34] rfl rfl (fun j u hj => new1 _ hj) (fun x hx => by simp only [List.mem_cons, List.not_mem_nil, or_false] at hx; subst hx; rfl) (by unfold maxLen; omega) (by omega) (by simp; omega) ?_; intro v' w4 hown' hgrow4 hnil4; have OW4 := Lib.hid hown'; have G4 := Lib.hid hgrow4; clear hown' hgrow4 hnil4; have hOW : w4.ownsRow w.heap.size 5 1 v' (m + 1) (u8s (quoteL s.toList)) := (by rw [← HA.out, u8s_app]; exact OW4.out); obtain ⟨a', c', e1, hS⟩ := row_own hOW; have hcv := conv_row c' hS; subst e1; clear hS hOW)
      go_ret
      exact ⟨rfl, (bl_alloc hB.out).grown G4.out (by simp; omega) (fun k hk => by have := own_base hO.out k hk; omega)⟩
end Go.Proofs.YtlpilbghblbpbaaDoor.Lx
