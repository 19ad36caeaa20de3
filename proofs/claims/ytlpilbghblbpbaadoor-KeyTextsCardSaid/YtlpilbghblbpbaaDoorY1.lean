/- LUb, Va, Vb -/
import Derived.Test.YtlpilbghblbpbaaDoorChecked
import Derived.WalkKit
import Derived.WalkSpells
import Derived.WalkLawsBesides
import Derived.Lib.Hide
import Derived.Below
import Derived.Lib.Strings
import Derived.KernelRfl
import Derived.Deep.RegionWith
/- WALKS of num.In, within, magnitude, Add, Sub and of the reference's In, Add. -/
namespace Go.Proofs.YtlpilbghblbpbaaDoor.Nu
open Go.RowKit

def inB (n : Int) : Bool := decide (-9007199254740992 ≤ n ∧ n ≤ 9007199254740992)
theorem inB_yes {n : Int} (h : inB n = true) : -9007199254740992 ≤ n ∧ n ≤ 9007199254740992 := by simpa [inB] using h
theorem inB_no {n : Int} (h : inB n = false) : n < -9007199254740992 ∨ 9007199254740992 < n := by
  simp [inB] at h; omega
theorem inB_mk {n : Int} (h : -9007199254740992 ≤ n) (h' : n ≤ 9007199254740992) : inB n = true := by simp [inB]; omega
theorem inB_mkno {n : Int} (h : n < -9007199254740992 ∨ 9007199254740992 < n) : inB n = false := by simp [inB]; omega
theorem ret_bool {a b : Bool} (h : a = b) : Ending.returned (.bool a) = .returned (.bool b) := by rw [h]
theorem ret_str {a b : ByteArray} (h : a = b) : Ending.returned (.string a) = .returned (.string b) := by rw [h]
theorem ret_int {k : IntKind} {a b : Int} (h : a = b) : Ending.returned (.int k a) = .returned (.int k b) := by rw [h]

set_option maxHeartbeats 400000 in
theorem in_any (n : Int) (w : World) : Calls Tryd.prog 69 #[.int .i64 n] w fun e w' => e = .returned (.bool (inB n)) ∧ w = w' := by
  by_cases h1 : -9007199254740992 ≤ n <;> by_cases h2 : n ≤ 9007199254740992
  all_goals
    go_enter Tryd.func69, Tryd.ntmps69
    go_wp2
    go_ret
    exact ⟨ret_bool (by simp [inB]; omega), rfl⟩

def outV (b c : Bool) (v : Int) : Int := bif b then (bif c then v else 0) else 0
def outE (b c : Bool) : Int := bif b then (bif c then 0 else 25) else 9
def addV (a b : Int) : Int := outV (inB a && inB b) (inB (a + b)) (a + b)
def addE (a b : Int) : Int := outE (inB a && inB b) (inB (a + b))
def subV (a b : Int) : Int := outV (inB a && inB b) (inB (a - b)) (a - b)
def subE (a b : Int) : Int := outE (inB a && inB b) (inB (a - b))
theorem ret_two {a b c d : Int} (h : a = c) (h' : b = d) : Ending.returned (.tuple #[.int .i64 a, .int .i64 b]) = .returned (.tuple #[.int .i64 c, .int .i64 d]) := by rw [h, h']

end Go.Proofs.YtlpilbghblbpbaaDoor.Nu
/- WALK of num.Text, with plain mathematics of a number's text. -/
namespace Go.Proofs.YtlpilbghblbpbaaDoor.Nt
open Go.RowKit
theorem ret_str {a b : ByteArray} (h : a = b) : Ending.returned (.string a) = .returned (.string b) := by rw [h]
theorem ret_int {a b : Int} (h : a = b) : Ending.returned (.int .i64 a) = .returned (.int .i64 b) := by rw [h]
theorem ret_u64 {a b : Int} (h : a = b) : Ending.returned (.int .u64 a) = .returned (.int .u64 b) := by rw [h]

def digC (n : Nat) : UInt8 := UInt8.ofNat (48 + n % 10)
theorem digC_nat (n : Nat) : (digC n).toNat = 48 + n % 10 := by
  unfold digC; rw [UInt8.toNat_ofNat']; omega
/-- The digits of n; of 0 none. With fuel, so that it is reckoned. -/
def dzF : Nat → Nat → List UInt8
  | 0, _ => []
  | f + 1, n => if n = 0 then [] else dzF f (n / 10) ++ [digC n]
def dz (n : Nat) : List UInt8 := dzF n n
theorem dzF_eq (f g n : Nat) (hf : n ≤ f) (hg : n ≤ g) : dzF f n = dzF g n := by
  induction f generalizing g n with
  | zero =>
    obtain rfl : n = 0 := by omega
    cases g <;> simp [dzF]
  | succ f ih =>
    cases g with
    | zero => obtain rfl : n = 0 := by omega
              simp [dzF]
    | succ g =>
      simp only [dzF]
      by_cases h : n = 0
      · simp [h]
      · rw [if_neg h, if_neg h, ih g (n / 10) (by omega) (by omega)]
theorem dz_pos (n : Nat) (h : n ≠ 0) : dz n = dz (n / 10) ++ [digC n] := by
  unfold dz
  cases n with
  | zero => exact absurd rfl h
  | succ m =>
    rw [show dzF (m + 1) (m + 1) = dzF m ((m + 1) / 10) ++ [digC (m + 1)] from by simp [dzF]]
    rw [dzF_eq m ((m + 1) / 10) ((m + 1) / 10) (by omega) (by omega)]
theorem dz_zero : dz 0 = [] := rfl
def dg (n : Nat) : List UInt8 := dz (n / 10) ++ [digC n]
theorem dg_dz (n : Nat) (h : n ≠ 0) : dg n = dz n := by rw [dz_pos n h]; rfl
theorem dg_ten (n : Nat) (h : 10 ≤ n) : dg n = dg (n / 10) ++ [digC n] := by
  rw [dg_dz (n / 10) (by omega)]; rfl
theorem dg_small (n : Nat) (h : n < 10) : dg n = [digC n] := by
  unfold dg; rw [show n / 10 = 0 by omega]; rfl
theorem dz_len (k n : Nat) (h : n < 10 ^ k) : (dz n).length ≤ k := by
  induction k generalizing n with
  | zero => obtain rfl : n = 0 := by simpa using h
            simp [dz_zero]
  | succ k ih =>
    by_cases h0 : n = 0
    · subst h0; simp [dz_zero]
    · rw [dz_pos n h0, List.length_append]
      have := ih (n / 10) (by rw [Nat.pow_succ] at h; omega)
      simp; omega
theorem dg_len (n : Nat) (h : n < 10000000000000000000) : (dg n).length ≤ 19 := by
  have := dz_len 18 (n / 10) (by omega)
  unfold dg; simp; omega
def textL (n : Int) : List UInt8 := if n < 0 then 45 :: dg n.natAbs else dg n.natAbs
def textS (n : Int) : ByteArray := ⟨(textL n).toArray⟩
theorem textL_pos {n : Int} (h : ¬ n < 0) : textL n = dg n.natAbs := by simp [textL, h]
theorem textL_neg {n : Int} (h : n < 0) : textL n = 45 :: dg n.natAbs := by simp [textL, h]
theorem textL_len (n : Int) (h : n.natAbs ≤ 9223372036854775808) : (textL n).length ≤ 20 := by
  have := dg_len n.natAbs (by omega)
  unfold textL; split <;> simp <;> omega
theorem textS_list (n : Int) : (textS n).data.toList = textL n := by simp [textS]

/-- What holds at the head of the round that writes the place k from the end: left is to be written still, L stands there. -/
structure Wrote (N k left : Nat) (L : List UInt8) : Prop where
  len : L.length = k
  says : (k = 0 ∧ left = N) ∨ (left ≠ 0 ∧ dg N = dz left ++ L)
  low : left < 10 ^ (19 - k)
  kle : k ≤ 19
theorem Wrote.first (N : Nat) (h : N < 10000000000000000000) : Wrote N 0 N [] := ⟨rfl, .inl ⟨rfl, rfl⟩, by simpa using h, by omega⟩
theorem Wrote.k18 {N k left : Nat} {L : List UInt8} (h : Wrote N k left L) : k ≤ 18 := by
  obtain ⟨_, h2, h3, h4⟩ := h
  rcases h2 with h2 | h2
  · omega
  · by_cases e : k = 19
    · subst e; simp at h3; omega
    · omega
theorem Wrote.next {N k left : Nat} {L : List UInt8} (h : Wrote N k left L) : dg N = dz (left / 10) ++ (digC left :: L) := by
  obtain ⟨h1, h2, h3, h4⟩ := h
  rcases h2 with ⟨rfl, rfl⟩ | ⟨hl, hd⟩
  · have : L = [] := List.eq_nil_of_length_eq_zero h1
    subst this; rfl
  · rw [hd, dz_pos left hl, List.append_assoc]; rfl
theorem Wrote.step {N k left : Nat} {L : List UInt8} (h : Wrote N k left L) (h0 : left / 10 ≠ 0) : Wrote N (k + 1) (left / 10) (digC left :: L) := by
  have h18 := h.k18
  refine ⟨by simp [h.len], .inr ⟨h0, h.next⟩, ?_, by omega⟩
  have := h.low
  rw [show 19 - k = (19 - (k + 1)) + 1 by omega, Nat.pow_succ] at this
  omega
theorem Wrote.last {N k left : Nat} {L : List UInt8} (h : Wrote N k left L) (h0 : left / 10 = 0) : dg N = digC left :: L := by
  rw [h.next, h0]; rfl

/-- An array of 20 whose end holds the bytes L. -/
structure TailIs (cs : Array Value) (L : List UInt8) : Prop where
  size : cs.size = 20
  len : L.length ≤ 20
  at_ : ∀ j (h : j < L.length), cs[20 - L.length + j]? = some (.int .u8 (L[j].toNat : Int))
theorem TailIs.first (cs : Array Value) (h : cs.size = 20) : TailIs cs [] := ⟨h, by simp, fun j h => by simp at h⟩
theorem TailIs.step {cs : Array Value} {L : List UInt8} (h : TailIs cs L) (c : UInt8) (v : Int) (i : Nat) (hv : v = (c.toNat : Int)) (hi : i + L.length = 19) : TailIs (cs.setIfInBounds i (.int .u8 v)) (c :: L) := by
  subst hv
  obtain ⟨h1, h2, h3⟩ := h
  refine ⟨by simp [h1], by simp; omega, fun j hj => ?_⟩
  have e : 20 - (c :: L).length = i := by simp; omega
  rw [e]
  cases j with
  | zero => simp [h1, show i < 20 by omega]
  | succ j =>
    have := h3 j (by simpa using hj)
    rw [Array.getElem?_setIfInBounds_ne (by omega)]
    rw [show i + (j + 1) = 20 - L.length + j by omega, this]
    rfl
theorem neg_u64 (n : Int) (h : -9223372036854775808 ≤ n) (h' : n < 0) : IntKind.u64.wrap (-IntKind.u64.wrap n) = (n.natAbs : Int) := by
  rw [IntKind.wrap_u64, IntKind.wrap_u64]; omega
theorem pos_u64 (n : Int) (h : n ≤ 9223372036854775807) (h' : 0 ≤ n) : IntKind.u64.wrap n = (n.natAbs : Int) := by
  rw [IntKind.wrap_u64]; omega

set_option maxHeartbeats 400000 in
theorem mag_any0 (n : Int) (w : World) : Calls Tryd.prog 20 #[.int .i64 n] w fun e w' => e = .returned (.int .u64 (if n < 0 then IntKind.u64.wrap (-IntKind.u64.wrap n) else IntKind.u64.wrap n)) ∧ w = w' := by
  by_cases h0 : n < 0
  · rw [if_pos h0]
    go_enter Tryd.func20, Tryd.ntmps20
    go_wp2
    go_ret
    exact ⟨rfl, rfl⟩
  · rw [if_neg h0]
    go_enter Tryd.func20, Tryd.ntmps20
    go_wp2
    go_ret
    exact ⟨rfl, rfl⟩
theorem mag_any (n : Int) (w : World) (h : -9223372036854775808 ≤ n) (h' : n ≤ 9223372036854775807) : Calls Tryd.prog 20 #[.int .i64 n] w fun e w' => e = .returned (.int .u64 (n.natAbs : Int)) ∧ w = w' := by
  refine (mag_any0 n w).mono ?_
  rintro e w' ⟨rfl, rfl⟩
  refine ⟨ret_u64 ?_, rfl⟩
  split
  · exact neg_u64 n h ‹_›
  · exact pos_u64 n h' (by omega)


theorem low_u64 {N k left : Nat} {L : List UInt8} (h : Wrote N k left L) : left < 10000000000000000000 := by
  have h1 : (10 : Nat) ^ (19 - k) ≤ 10 ^ 19 := Nat.pow_le_pow_right (by decide) (by omega)
  have := h.low
  omega

theorem slice_tail (W : World) (b i m : Nat) (hi : i < 20) (hm : m = 20 - i) : (Instr.sliceAt 47 (.pointer (some ⟨b, 0, none⟩)) (some (.int .i64 i)) none none).run Tryd.prog W = .ok (.slice (some ⟨b, i, none⟩) m m) W := by
  subst hm
  have ha : Tryd.prog.arrayLen 47 = 20 := by kernel_rfl
  have h := run_sliceAt_array_l (P := Tryd.prog) W 47 ⟨b, 0, none⟩ (by kernel_rfl) .i64 i (by omega) (by rw [ha]; omega)
  rw [h, ha]
  have hs : ((sizeOf (Tryd.prog.elem 47)).run Tryd.prog W) = .ok 1 W := by kernel_rfl
  rw [hs]
  simp only [Result.andThen, slicedAt, Int.toNat_natCast, if_neg (show ¬ 20 = i by omega)]
  simp [Addr.add]
  exact fun e => e.symm
theorem convert_tail (w : World) (cs : Array Value) (L : List UInt8) (i m : Nat) (hi : i + L.length = 20) (hm : m = L.length) (h : TailIs cs L) :
    (convert 50 9 (.slice (some ⟨w.heap.size, i, none⟩) m m)).run Tryd.prog (w.alloc (.cells cs 47)) = .ok (.string ⟨L.toArray⟩) (w.alloc (.cells cs 47)) := by
  subst hm
  refine run_convert_bytes_back _ 50 9 5 _ _ L (by kernel_rfl) (by kernel_rfl) (by kernel_rfl) fun j hj => ?_
  have := h.at_ j hj
  rw [show 20 - L.length = i by omega] at this
  by_cases hj0 : j = 0
  · subst hj0; simpa [Addr.add, go_sem] using this
  · simpa [Addr.add, go_sem, hj0] using this

set_option maxRecDepth 100000 in
set_option maxHeartbeats 1000000 in
theorem text_pos (n : Int) (w : World) (h0 : 0 ≤ n) (h1 : n ≤ 9223372036854775807) : Calls Tryd.prog 10 #[.int .i64 n] w fun e w' => e = .returned (.string (textS n)) ∧ Below w.heap.size w w' := by
  go_enter Tryd.func10, Tryd.ntmps10
  go_wp2_with (go_at_call 20; refine (mag_any _ _ (by omega) (by omega)).mono ?_; rintro e w' ⟨rfl, rfl⟩)
  have hN := Lib.hid (show n.natAbs < 10000000000000000000 by omega)
  clear h1
  go_loopw [4, 5, 8] (fun a l c wr => ∃ (k i lf : Nat) (L : List UInt8) (cs : Array Value), i + k = 19 ∧ a = .int .i64 ((i : Int) + 1) ∧ l = .int .u64 lf ∧ c = .int .i64 k ∧ wr = w.alloc (.cells cs 47) ∧ Wrote n.natAbs k lf L ∧ TailIs cs L) (fun _ _ c _ => (20 - (intOf c)).toNat)
  case atStart => exact ⟨0, 19, _, _, _, by omega, rfl, rfl, rfl, rfl, Wrote.first _ hN.out, TailIs.first _ rfl⟩
  case round =>
    obtain ⟨k, i, lf, L, cs, hik, rfl, rfl, rfl, hwr, hI, hT⟩ := hrel
    subst hwr
    have hk := hI.k18
    have hlow := low_u64 hI
    have hcs := hT.size
    have hL := hI.len
    have hT' := hT.step (digC lf) (48 + (lf : Int) % 10) i (by rw [digC_nat]; omega) (by omega)
    have H := Lib.hid hI
    clear hI hT
    obtain ⟨x, hx⟩ : ∃ x, cs[i]? = some x := ⟨cs[i], by rw [Array.getElem?_eq_getElem]⟩
    cases hz : ((lf : Int) / 10 == 0)
    · have HT := Lib.hid hT'
      clear hT' hL
      go_wp2
      go_roundw
      case rel => exact ⟨k + 1, i - 1, lf / 10, _, _, by omega, by go_num, by go_num, by go_num, rfl, H.out.step (by simp at hz; omega), HT.out⟩
      case measure => simp [intOf]; omega
    · obtain ⟨m, hm⟩ : ∃ m, m = (digC lf :: L).length := ⟨_, rfl⟩
      have hs := fun W => slice_tail W w.heap.size i m (by omega) (by rw [hm]; simp; omega)
      have hc := convert_tail w _ _ i m (by simp; omega) hm hT'
      have ht := Lib.hid (H.out.last (by simp at hz; omega))
      clear hT' hL hm
      go_wp2
      go_ret
      refine ⟨ret_str ?_, (Below.refl _ _).alloc (Nat.le_refl _) _⟩
      rw [← ht.out]
      simp [textS, textL_pos (show ¬ n < 0 by omega)]
set_option maxRecDepth 100000 in
set_option maxHeartbeats 1000000 in
theorem text_neg (n : Int) (w : World) (h0 : n < 0) (h1 : -9223372036854775808 ≤ n) : Calls Tryd.prog 10 #[.int .i64 n] w fun e w' => e = .returned (.string (textS n)) ∧ Below w.heap.size w w' := by
  go_enter Tryd.func10, Tryd.ntmps10
  go_wp2_with (go_at_call 20; refine (mag_any _ _ (by omega) (by omega)).mono ?_; rintro e w' ⟨rfl, rfl⟩)
  have hN := Lib.hid (show n.natAbs < 10000000000000000000 by omega)
  clear h1
  go_loopw [4, 5, 8] (fun a l c wr => ∃ (k i lf : Nat) (L : List UInt8) (cs : Array Value), i + k = 19 ∧ a = .int .i64 ((i : Int) + 1) ∧ l = .int .u64 lf ∧ c = .int .i64 k ∧ wr = w.alloc (.cells cs 47) ∧ Wrote n.natAbs k lf L ∧ TailIs cs L) (fun _ _ c _ => (20 - (intOf c)).toNat)
  case atStart => exact ⟨0, 19, _, _, _, by omega, rfl, rfl, rfl, rfl, Wrote.first _ hN.out, TailIs.first _ rfl⟩
  case round =>
    obtain ⟨k, i, lf, L, cs, hik, rfl, rfl, rfl, hwr, hI, hT⟩ := hrel
    subst hwr
    have hk := hI.k18
    have hlow := low_u64 hI
    have hcs := hT.size
    have hL := hI.len
    have hT' := hT.step (digC lf) (48 + (lf : Int) % 10) i (by rw [digC_nat]; omega) (by omega)
    have H := Lib.hid hI
    clear hI hT
    obtain ⟨x, hx⟩ : ∃ x, cs[i]? = some x := ⟨cs[i], by rw [Array.getElem?_eq_getElem]⟩
    cases hz : ((lf : Int) / 10 == 0)
    · have HT := Lib.hid hT'
      clear hT' hL
      go_wp2
      go_roundw
      case rel => exact ⟨k + 1, i - 1, lf / 10, _, _, by omega, by go_num, by go_num, by go_num, rfl, H.out.step (by simp at hz; omega), HT.out⟩
      case measure => simp [intOf]; omega
    · obtain ⟨j, rfl⟩ : ∃ j, i = j + 1 := ⟨i - 1, by omega⟩
      obtain ⟨y, hy⟩ : ∃ y, cs[j]? = some y := ⟨cs[j], by rw [Array.getElem?_eq_getElem]⟩
      obtain ⟨y2, hy2⟩ : ∃ y, (cs.setIfInBounds (j + 1) (.int .u8 (48 + (lf : Int) % 10)))[j]? = some y := ⟨y, by rw [Array.getElem?_setIfInBounds_ne (by omega)]; exact hy⟩
      have hT2 := hT'.step 45 45 j rfl (by simp; omega)
      obtain ⟨m, hm⟩ : ∃ m, m = ((45 : UInt8) :: digC lf :: L).length := ⟨_, rfl⟩
      have hs := fun W => slice_tail W w.heap.size j m (by omega) (by rw [hm]; simp; omega)
      have hc := convert_tail w _ _ j m (by simp; omega) hm hT2
      have ht := Lib.hid (H.out.last (by simp at hz; omega))
      clear hT' hT2 hL hm
      go_wp2
      go_ret
      refine ⟨ret_str ?_, (Below.refl _ _).alloc (Nat.le_refl _) _⟩
      rw [textS, textL_neg h0, ← ht.out]

theorem text_any (n : Int) (w : World) (h0 : -9223372036854775808 ≤ n) (h1 : n ≤ 9223372036854775807) : Calls Tryd.prog 10 #[.int .i64 n] w fun e w' => e = .returned (.string (textS n)) ∧ Below w.heap.size w w' := by
  by_cases h : n < 0
  · exact text_neg n w h h0
  · exact text_pos n w (by omega) h1
end Go.Proofs.YtlpilbghblbpbaaDoor.Nt
/- WALK of the reference's Text of numbers. -/
namespace Go.Proofs.YtlpilbghblbpbaaDoor.Nt
open Go.RowKit
set_option maxRecDepth 100000

theorem convert_one (W : World) (B : Nat) (n : Nat) (v : Int) (hv : v = (digC n).toNat) (h : W.cell? ⟨B, 0, none⟩ = some (.int .u8 v)) :
    (convert 50 9 (.slice (some ⟨B, 0, none⟩) 1 1)).run Tryd.prog W = .ok (.string ⟨#[digC n]⟩) W := by
  subst hv
  exact run_convert_bytes_back W 50 9 5 ⟨B, 0, none⟩ 1 [digC n] (by kernel_rfl) (by kernel_rfl) (by kernel_rfl) fun j hj => by
    obtain rfl : j = 0 := by simpa using hj
    simpa [Addr.add] using h

theorem bcell {w w1 : World} {N : Nat} (hb : Below N w w1) : ∀ b o, b < N → w1.cell? ⟨b, o, none⟩ = w.cell? ⟨b, o, none⟩ :=
  fun b o h => hb.cell (p := ⟨b, o, none⟩) h

theorem textS_size (n : Int) (h : n.natAbs ≤ 9223372036854775808) : (textS n).size ≤ 20 := by
  have := textL_len n h
  simpa [textS, ByteArray.size] using this

theorem bytes_app (x y : List UInt8) : (⟨x.toArray⟩ ++ ⟨y.toArray⟩ : ByteArray) = ⟨(x ++ y).toArray⟩ := ByteArray.mk_append_mk x y
theorem text_ten (n m : Int) (hm : m.natAbs = n.natAbs / 10) (h10 : 10 ≤ n.natAbs) (hs : n < 0 ↔ m < 0) : textS m ++ ⟨#[digC n.natAbs]⟩ = textS n := by
  show (⟨(textL m).toArray⟩ ++ ⟨[digC n.natAbs].toArray⟩ : ByteArray) = ⟨(textL n).toArray⟩
  rw [bytes_app]
  have e : textL m ++ [digC n.natAbs] = textL n := by
    by_cases h : n < 0
    · rw [textL_neg h, textL_neg (hs.1 h), dg_ten _ h10, hm]; rfl
    · rw [textL_pos h, textL_pos (fun q => h (hs.2 q)), dg_ten _ h10, hm]
  rw [e]
theorem text_one (n : Int) (h : 0 ≤ n) (h10 : n < 10) : textS n = ⟨#[digC n.natAbs]⟩ := by
  unfold textS; rw [textL_pos (by omega), dg_small _ (by omega)]
theorem text_one_neg (n : Int) (h : n < 0) (h10 : -10 < n) : (⟨#[45]⟩ ++ ⟨#[digC n.natAbs]⟩ : ByteArray) = textS n := by
  unfold textS; rw [textL_neg h, dg_small _ (by omega)]
  exact bytes_app [45] [_]

set_option maxHeartbeats 1000000 in
theorem rtext_one (n : Int) (w : World) (h0 : 0 ≤ n) (h10 : n < 10) : Calls Tryd.prog 14 #[.int .i64 n] w fun e w' => e = .returned (.string (textS n)) ∧ Below w.heap.size w w' := by
  have hc := fun W B => convert_one W B n.natAbs (48 + n) (by rw [digC_nat]; omega)
  go_enter Tryd.func14, Tryd.ntmps14
  go_wp2_with fail
  go_ret
  exact ⟨ret_str (text_one n h0 h10).symm, (Below.refl _ _).alloc (Nat.le_refl _) _⟩
theorem neg_rest (n : Int) (h0 : n < 0) : ∃ r, -(n.tmod 10) = r ∧ r = (n.natAbs : Int) % 10 := ⟨_, rfl, by rw [Int.tmod_eq_emod]; split <;> omega⟩
set_option maxHeartbeats 1000000 in
theorem rtext_one_neg (n : Int) (w : World) (h0 : n < 0) (h10 : -10 < n) : Calls Tryd.prog 14 #[.int .i64 n] w fun e w' => e = .returned (.string (textS n)) ∧ Below w.heap.size w w' := by
  obtain ⟨r, hr, R⟩ := neg_rest n h0
  have hc := fun W B => convert_one W B n.natAbs (48 + r) (by rw [digC_nat]; omega)
  have R1 : 0 ≤ r := by omega
  have R2 : r ≤ 9 := by omega
  clear R
  go_enter Tryd.func14, Tryd.ntmps14
  go_wp2_with fail
  go_ret
  exact ⟨ret_str (text_one_neg n h0 h10), (Below.refl _ _).alloc (Nat.le_refl _) _⟩
set_option maxHeartbeats 1000000 in
theorem rtext_big (n : Int) (w : World) (h0 : 0 ≤ n) (hi : n ≤ 9223372036854775807) (h10 : ¬ n < 10) (ih : ∀ w, Calls Tryd.prog 14 #[.int .i64 (n / 10)] w fun e w' => e = .returned (.string (textS (n / 10))) ∧ Below w.heap.size w w') :
    Calls Tryd.prog 14 #[.int .i64 n] w fun e w' => e = .returned (.string (textS n)) ∧ Below w.heap.size w w' := by
  obtain ⟨m, hm, M⟩ : ∃ m, IntKind.i64.wrap (n.tdiv 10) = m ∧ m = n / 10 := ⟨_, rfl, by rw [IntKind.wrap_i64, Int.tdiv_eq_ediv_of_nonneg h0]; omega⟩
  obtain ⟨c, hcw, C⟩ : ∃ c, IntKind.u8.wrap (IntKind.i64.wrap (48 + n.tmod 10)) = c ∧ c = 48 + n % 10 := ⟨_, rfl, by rw [IntKind.wrap_u8, IntKind.wrap_i64, Int.tmod_eq_emod_of_nonneg h0]; omega⟩
  have hc := fun W B => convert_one W B n.natAbs c (by rw [digC_nat]; omega)
  rw [← M] at ih
  have HM := Lib.hid M
  have hsz := textS_size m (by omega)
  clear C M hi
  go_enter Tryd.func14, Tryd.ntmps14
  go_wp2_with fail
  go_region_with (go_at_call 14; (with_reducible refine (ih _).mono ?_); rintro e w1 ⟨rfl, hB⟩; have hcl := bcell hB)
  all_goals
    go_wp2_with fail
    go_ret
    refine ⟨ret_str (text_ten n m (by have := HM.out; omega) (by omega) (by have := HM.out; omega)), ?_⟩
    first
      | exact ((Below.refl _ _).drew.trans hB).alloc hB.size _
      | exact (((Below.refl _ _).alloc (Nat.le_refl _) _).drew).trans (hB.mono (by simp))
set_option maxHeartbeats 1000000 in
theorem rtext_big_neg (n : Int) (w : World) (h0 : n < 0) (lo : -9223372036854775808 ≤ n) (h10 : ¬ -10 < n) (ih : ∀ w, Calls Tryd.prog 14 #[.int .i64 (-((n.natAbs : Int) / 10))] w fun e w' => e = .returned (.string (textS (-((n.natAbs : Int) / 10)))) ∧ Below w.heap.size w w') :
    Calls Tryd.prog 14 #[.int .i64 n] w fun e w' => e = .returned (.string (textS n)) ∧ Below w.heap.size w w' := by
  obtain ⟨r, hr, R⟩ := neg_rest n h0
  obtain ⟨m, hm, M⟩ : ∃ m, IntKind.i64.wrap (n.tdiv 10) = m ∧ m = -((n.natAbs : Int) / 10) := ⟨_, rfl, by rw [IntKind.wrap_i64, Int.tdiv_eq_ediv, show Int.sign 10 = 1 from rfl]; split <;> omega⟩
  obtain ⟨c, hcw, C⟩ : ∃ c, IntKind.u8.wrap (IntKind.i64.wrap (48 + r)) = c ∧ c = 48 + r := ⟨_, rfl, by rw [IntKind.wrap_u8, IntKind.wrap_i64]; omega⟩
  have hc := fun W B => convert_one W B n.natAbs c (by rw [digC_nat]; omega)
  rw [← M] at ih
  have HM := Lib.hid M
  have hsz := textS_size m (by omega)
  have R1 : 0 ≤ r := by omega
  have R2 : r ≤ 9 := by omega
  clear C M lo R
  go_enter Tryd.func14, Tryd.ntmps14
  go_wp2_with fail
  go_region_with (go_at_call 14; (with_reducible refine (ih _).mono ?_); rintro e w1 ⟨rfl, hB⟩; have hcl := bcell hB)
  all_goals
    go_wp2_with fail
    go_ret
    refine ⟨ret_str (text_ten n m (by have := HM.out; omega) (by omega) (by have := HM.out; omega)), ?_⟩
    first
      | exact ((Below.refl _ _).drew.trans hB).alloc hB.size _
      | exact (((Below.refl _ _).alloc (Nat.le_refl _) _).drew).trans (hB.mono (by simp))
theorem rtext_fuel (k : Nat) : ∀ (n : Int) (w : World), n.natAbs ≤ k → -9223372036854775808 ≤ n → n ≤ 9223372036854775807 →
    Calls Tryd.prog 14 #[.int .i64 n] w fun e w' => e = .returned (.string (textS n)) ∧ Below w.heap.size w w' := by
  induction k with
  | zero => exact fun n w hk _ _ => rtext_one n w (by omega) (by omega)
  | succ k ih =>
    intro n w hk lo hi
    by_cases h0 : 0 ≤ n
    · by_cases h10 : n < 10
      · exact rtext_one n w h0 h10
      · exact rtext_big n w h0 hi h10 fun w => ih _ w (by omega) (by omega) (by omega)
    · by_cases h10 : -10 < n
      · exact rtext_one_neg n w (by omega) h10
      · exact rtext_big_neg n w (by omega) lo h10 fun w => ih _ w (by omega) (by omega) (by omega)
theorem rtext_any (n : Int) (w : World) (lo : -9223372036854775808 ≤ n) (hi : n ≤ 9223372036854775807) :
    Calls Tryd.prog 14 #[.int .i64 n] w fun e w' => e = .returned (.string (textS n)) ∧ Below w.heap.size w w' := rtext_fuel n.natAbs n w (Nat.le_refl _) lo hi
end Go.Proofs.YtlpilbghblbpbaaDoor.Nt
