/- WALK of the reference's Mul: bit by bit of the second factor's size. -/
import Derived.Test.YtikhhkhkfaadlaaB
namespace Go.Proofs.Ytikhhkhkfaadlaa
open Go.RowKit

/-- What holds at each round's head of the reference's multiplication of A and B. -/
def MulInv (P : Int) (k : Nat) (x y s : Int) : Prop := 0 ≤ x ∧ x ≤ 36028797018963968 ∧ 0 ≤ y ∧ y ≤ 9007199254740992 ∧ 0 ≤ s ∧ s ≤ 9007199254740992 ∧ y * 2 ^ k ≤ 9007199254740992 ∧ ((y = 0 ∧ s = P) ∨ (0 < y ∧ s + x * y = P))
theorem mul_half (x y : Int) : x * y = 2 * (x * (y / 2)) + x * (y % 2) := by
  have h : y = 2 * (y / 2) + y % 2 := by omega
  calc x * y = x * (2 * (y / 2) + y % 2) := by rw [← h]
    _ = _ := by rw [Int.mul_add, Int.mul_left_comm]
theorem mul_odd (x y : Int) (h : y % 2 = 1) : x * y = 2 * (x * (y / 2)) + x := by rw [mul_half, h, Int.mul_one]
theorem mul_even (x y : Int) (h : ¬ y % 2 = 1) : x * y = 2 * (x * (y / 2)) := by rw [mul_half, show y % 2 = 0 by omega, Int.mul_zero, Int.add_zero]
theorem mul_pos_ge (x y : Int) (hx : 0 ≤ x) (hy : 0 < y) : x ≤ x * y := by
  have := Int.mul_le_mul_of_nonneg_left (show 1 ≤ y by omega) hx
  omega
theorem MulInv.odd_over {P x y s : Int} {k : Nat} (h : MulInv P k x y s) (ho : y % 2 = 1) (hs : 9007199254740992 < s + x) : 9007199254740992 < P := by
  obtain ⟨h1, h2, h3, h4, h5, h6, h7, h8 | h8⟩ := h
  · omega
  · have := mul_pos_ge x y h1 h8.1; omega
theorem MulInv.any_big {P x y s : Int} {k : Nat} (h : MulInv P k x y s) (hy : 0 < y / 2) (hx : 9007199254740992 < x) : 9007199254740992 < P := by
  obtain ⟨h1, h2, h3, h4, h5, h6, h7, h8 | h8⟩ := h
  · omega
  · have := mul_pos_ge x y h1 h8.1; omega
theorem pow_half (y : Int) (k : Nat) (h7 : y * 2 ^ k ≤ 9007199254740992) : y / 2 * 2 ^ (k + 1) ≤ 9007199254740992 := by
  have h2 : (0 : Int) ≤ 2 ^ k := Int.le_of_lt (Int.pow_pos (by decide))
  have h3 : y / 2 * 2 ≤ y := by omega
  have h4 := Int.mul_le_mul_of_nonneg_right h3 h2
  rw [Int.pow_succ]
  have h5 : y / 2 * (2 ^ k * 2) = y / 2 * 2 * 2 ^ k := by rw [Int.mul_comm (2 ^ k) 2, Int.mul_assoc]
  omega
/-- One round: the new sum s' and half of y; x' is twice x, or the cap. -/
theorem MulInv.step {P x y s s' x' : Int} {k : Nat} (h : MulInv P k x y s) (hs : (y % 2 = 1 ∧ s' = s + x) ∨ (¬ y % 2 = 1 ∧ s' = s)) (hs' : s' ≤ 9007199254740992)
    (hx : 0 < y / 2 → x ≤ 9007199254740992) (hx' : (x * 2 ≤ 36028797018963968 ∧ x' = x * 2) ∨ (36028797018963968 < x * 2 ∧ x' = 36028797018963968)) : MulInv P (k + 1) x' (y / 2) s' := by
  obtain ⟨h1, h2, h3, h4, h5, h6, h7, h8⟩ := h
  have hp := pow_half y k h7
  refine ⟨by omega, by omega, by omega, by omega, by omega, hs', hp, ?_⟩
  rcases h8 with h8 | h8
  · left; omega
  · by_cases hy : 0 < y / 2
    · right
      refine ⟨hy, ?_⟩
      have hx2 : x' = x * 2 := by have := hx hy; omega
      rw [hx2, Int.mul_right_comm]
      rcases hs with hs | hs
      · have := mul_odd x y hs.1; omega
      · have := mul_even x y hs.1; omega
    · left
      have h0 : y / 2 = 0 := by omega
      refine ⟨h0, ?_⟩
      rcases hs with hs | hs
      · have := mul_odd x y hs.1; rw [h0] at this; omega
      · exfalso; omega
theorem MulInv.last {P x y s : Int} (h : MulInv P 54 x y s) : s = P ∧ P ≤ 9007199254740992 ∧ 0 ≤ P := by
  obtain ⟨h1, h2, h3, h4, h5, h6, h7, h8⟩ := h
  have : y = 0 := by omega
  omega
theorem MulInv.first (A B : Int) (hA : 0 ≤ A) (hA' : A ≤ 9007199254740992) (hB : 0 ≤ B) (hB' : B ≤ 9007199254740992) : MulInv (A * B) 0 A B 0 := by
  refine ⟨hA, by omega, hB, hB', by omega, by omega, by omega, ?_⟩
  by_cases h : B = 0
  · left; subst h; simp
  · right; exact ⟨by omega, by omega⟩

theorem MulInv.first' {a b x y : Int} (hx : x = (a.natAbs : Int)) (hy : y = (b.natAbs : Int)) (ha : -9007199254740992 ≤ a ∧ a ≤ 9007199254740992) (hb : -9007199254740992 ≤ b ∧ b ≤ 9007199254740992) :
    MulInv ((a.natAbs : Int) * (b.natAbs : Int)) 0 x y 0 := by
  subst hx; subst hy
  exact MulInv.first _ _ (by omega) (by omega) (by omega) (by omega)
/-- How the product of the sizes stands to the product. -/
def Sgn (below : Bool) (a b : Int) : Prop := (a.natAbs : Int) * (b.natAbs : Int) = bif below then -(a * b) else a * b
theorem Sgn.pp {a b : Int} (ha : 0 ≤ a) (hb : 0 ≤ b) : Sgn false a b := by
  simp only [Sgn, cond_false, Int.natAbs_of_nonneg ha, Int.natAbs_of_nonneg hb]
theorem Sgn.np {a b : Int} (ha : a < 0) (hb : 0 ≤ b) : Sgn true a b := by
  simp only [Sgn, cond_true, Int.natAbs_of_nonneg hb, show (a.natAbs : Int) = -a by omega, Int.neg_mul]
theorem Sgn.pn {a b : Int} (ha : 0 ≤ a) (hb : b < 0) : Sgn true a b := by
  simp only [Sgn, cond_true, Int.natAbs_of_nonneg ha, show (b.natAbs : Int) = -b by omega, Int.mul_neg]
theorem Sgn.nn {a b : Int} (ha : a < 0) (hb : b < 0) : Sgn false a b := by
  simp only [Sgn, cond_false, show (a.natAbs : Int) = -a by omega, show (b.natAbs : Int) = -b by omega, Int.neg_mul, Int.mul_neg, Int.neg_neg]
theorem Sgn.over {a b : Int} {c : Bool} (h : Sgn c a b) (ho : 9007199254740992 < (a.natAbs : Int) * (b.natAbs : Int)) : inB (a * b) = false := by
  unfold Sgn at h
  rw [h] at ho
  cases c <;> simp at ho <;> exact inB_mkno (by omega)
theorem Sgn.fits {a b x y s : Int} {c : Bool} (h : Sgn c a b) (hI : MulInv ((a.natAbs : Int) * (b.natAbs : Int)) 54 x y s) : inB (a * b) = true ∧ (bif c then -s else s) = a * b := by
  unfold Sgn at h
  have := hI.last
  rw [h] at this
  cases c <;> simp at this ⊢ <;> exact ⟨inB_mk (by omega) (by omega), by omega⟩
theorem ret_over {a b : Int} (ia : inB a = true) (ib : inB b = true) (h : inB (a * b) = false) : Ending.returned (.tuple #[.int .i64 0, .int .i64 25]) = .returned (.tuple #[.int .i64 (mulV a b), .int .i64 (mulE a b)]) :=
  ret_two (by simp [mulV, outV, h]) (by simp [mulE, outE, ia, ib, h])
theorem ret_fits {a b v : Int} (ia : inB a = true) (ib : inB b = true) (h : inB (a * b) = true ∧ v = a * b) : Ending.returned (.tuple #[.int .i64 v, .int .i64 0]) = .returned (.tuple #[.int .i64 (mulV a b), .int .i64 (mulE a b)]) :=
  ret_two (by simp [mulV, outV, ia, ib, h.1, h.2]) (by simp [mulE, outE, ia, ib, h.1])


set_option maxHeartbeats 2000000 in
theorem rmul_pp (a b : Int) (w : World) (ia : inB a = true) (ib : inB b = true) (ha : 0 ≤ a) (hb : 0 ≤ b) : Calls Try.prog 10 #[.int .i64 a, .int .i64 b] w fun e w' => e = .returned (.tuple #[.int .i64 (mulV a b), .int .i64 (mulE a b)]) ∧ w = w' := by
  have ba := inB_yes ia
  have bb := inB_yes ib
  have HS := Lib.hid (Sgn.pp ha hb)
  go_enter Try.func10, Try.ntmps10
  go_wp2_with (go_at_call 13; refine (rin_any _ _).mono ?_; rintro e w' ⟨rfl, rfl⟩)
  have IA := Lib.hid ia
  have IB := Lib.hid ib
  clear ia ib
  go_loop [6, 7, 9, 10] (fun x y s i => ∃ (k : Nat) (x0 y0 s0 : Int), k ≤ 54 ∧ i = .int .i64 k ∧ x = .int .i64 x0 ∧ y = .int .i64 y0 ∧ s = .int .i64 s0 ∧ MulInv ((a.natAbs : Int) * (b.natAbs : Int)) k x0 y0 s0) (fun _ _ _ i => (54 - (intOf i)).toNat)
  case atStart => exact ⟨0, _, _, _, by omega, rfl, rfl, rfl, rfl, MulInv.first' (by omega) (by omega) ba bb⟩
  case round =>
    obtain ⟨k, x, y, s, hk, rfl, rfl, rfl, rfl, hI⟩ := hrel
    obtain ⟨h1, h2, h3, h4, h5, h6⟩ : 0 ≤ x ∧ x ≤ 36028797018963968 ∧ 0 ≤ y ∧ y ≤ 9007199254740992 ∧ 0 ≤ s ∧ s ≤ 9007199254740992 := ⟨hI.1, hI.2.1, hI.2.2.1, hI.2.2.2.1, hI.2.2.2.2.1, hI.2.2.2.2.2.1⟩
    have H := Lib.hid hI
    clear hI
    by_cases hk4 : k < 54
    · go_wp2
      all_goals first
        | (go_round
           case rel => exact ⟨k + 1, _, _, _, by omega, by go_num, rfl, rfl, rfl, H.out.step (by first | (left; refine ⟨by simpa using ‹(y % 2 == 1) = true›, rfl⟩) | (right; refine ⟨by simpa using ‹(y % 2 == 1) = false›, rfl⟩)) (by omega) (by omega) (by omega)⟩
           case measure => simp [intOf]; omega)
        | (go_ret2
           refine ⟨ret_over IA.out IB.out (HS.out.over ?_), rfl⟩
           first
             | exact H.out.odd_over (by simpa using ‹(y % 2 == 1) = true›) ‹_›
             | exact H.out.any_big ‹0 < y / 2› (by omega))
    · obtain rfl : k = 54 := by omega
      go_wp2
      go_ret2
      exact ⟨ret_fits IA.out IB.out (HS.out.fits H.out), rfl⟩

set_option maxHeartbeats 2000000 in
theorem rmul_np (a b : Int) (w : World) (ia : inB a = true) (ib : inB b = true) (ha : a < 0) (hb : 0 ≤ b) : Calls Try.prog 10 #[.int .i64 a, .int .i64 b] w fun e w' => e = .returned (.tuple #[.int .i64 (mulV a b), .int .i64 (mulE a b)]) ∧ w = w' := by
  have ba := inB_yes ia
  have bb := inB_yes ib
  have HS := Lib.hid (Sgn.np ha hb)
  go_enter Try.func10, Try.ntmps10
  go_wp2_with (go_at_call 13; refine (rin_any _ _).mono ?_; rintro e w' ⟨rfl, rfl⟩)
  have IA := Lib.hid ia
  have IB := Lib.hid ib
  clear ia ib
  go_loop [6, 7, 9, 10] (fun x y s i => ∃ (k : Nat) (x0 y0 s0 : Int), k ≤ 54 ∧ i = .int .i64 k ∧ x = .int .i64 x0 ∧ y = .int .i64 y0 ∧ s = .int .i64 s0 ∧ MulInv ((a.natAbs : Int) * (b.natAbs : Int)) k x0 y0 s0) (fun _ _ _ i => (54 - (intOf i)).toNat)
  case atStart => exact ⟨0, _, _, _, by omega, rfl, rfl, rfl, rfl, MulInv.first' (by omega) (by omega) ba bb⟩
  case round =>
    obtain ⟨k, x, y, s, hk, rfl, rfl, rfl, rfl, hI⟩ := hrel
    obtain ⟨h1, h2, h3, h4, h5, h6⟩ : 0 ≤ x ∧ x ≤ 36028797018963968 ∧ 0 ≤ y ∧ y ≤ 9007199254740992 ∧ 0 ≤ s ∧ s ≤ 9007199254740992 := ⟨hI.1, hI.2.1, hI.2.2.1, hI.2.2.2.1, hI.2.2.2.2.1, hI.2.2.2.2.2.1⟩
    have H := Lib.hid hI
    clear hI
    by_cases hk4 : k < 54
    · go_wp2
      all_goals first
        | (go_round
           case rel => exact ⟨k + 1, _, _, _, by omega, by go_num, rfl, rfl, rfl, H.out.step (by first | (left; refine ⟨by simpa using ‹(y % 2 == 1) = true›, rfl⟩) | (right; refine ⟨by simpa using ‹(y % 2 == 1) = false›, rfl⟩)) (by omega) (by omega) (by omega)⟩
           case measure => simp [intOf]; omega)
        | (go_ret2
           refine ⟨ret_over IA.out IB.out (HS.out.over ?_), rfl⟩
           first
             | exact H.out.odd_over (by simpa using ‹(y % 2 == 1) = true›) ‹_›
             | exact H.out.any_big ‹0 < y / 2› (by omega))
    · obtain rfl : k = 54 := by omega
      go_wp2
      go_ret2
      exact ⟨ret_fits IA.out IB.out (HS.out.fits H.out), rfl⟩

set_option maxHeartbeats 2000000 in
theorem rmul_pn (a b : Int) (w : World) (ia : inB a = true) (ib : inB b = true) (ha : 0 ≤ a) (hb : b < 0) : Calls Try.prog 10 #[.int .i64 a, .int .i64 b] w fun e w' => e = .returned (.tuple #[.int .i64 (mulV a b), .int .i64 (mulE a b)]) ∧ w = w' := by
  have ba := inB_yes ia
  have bb := inB_yes ib
  have HS := Lib.hid (Sgn.pn ha hb)
  go_enter Try.func10, Try.ntmps10
  go_wp2_with (go_at_call 13; refine (rin_any _ _).mono ?_; rintro e w' ⟨rfl, rfl⟩)
  have IA := Lib.hid ia
  have IB := Lib.hid ib
  clear ia ib
  go_loop [6, 7, 9, 10] (fun x y s i => ∃ (k : Nat) (x0 y0 s0 : Int), k ≤ 54 ∧ i = .int .i64 k ∧ x = .int .i64 x0 ∧ y = .int .i64 y0 ∧ s = .int .i64 s0 ∧ MulInv ((a.natAbs : Int) * (b.natAbs : Int)) k x0 y0 s0) (fun _ _ _ i => (54 - (intOf i)).toNat)
  case atStart => exact ⟨0, _, _, _, by omega, rfl, rfl, rfl, rfl, MulInv.first' (by omega) (by omega) ba bb⟩
  case round =>
    obtain ⟨k, x, y, s, hk, rfl, rfl, rfl, rfl, hI⟩ := hrel
    obtain ⟨h1, h2, h3, h4, h5, h6⟩ : 0 ≤ x ∧ x ≤ 36028797018963968 ∧ 0 ≤ y ∧ y ≤ 9007199254740992 ∧ 0 ≤ s ∧ s ≤ 9007199254740992 := ⟨hI.1, hI.2.1, hI.2.2.1, hI.2.2.2.1, hI.2.2.2.2.1, hI.2.2.2.2.2.1⟩
    have H := Lib.hid hI
    clear hI
    by_cases hk4 : k < 54
    · go_wp2
      all_goals first
        | (go_round
           case rel => exact ⟨k + 1, _, _, _, by omega, by go_num, rfl, rfl, rfl, H.out.step (by first | (left; refine ⟨by simpa using ‹(y % 2 == 1) = true›, rfl⟩) | (right; refine ⟨by simpa using ‹(y % 2 == 1) = false›, rfl⟩)) (by omega) (by omega) (by omega)⟩
           case measure => simp [intOf]; omega)
        | (go_ret2
           refine ⟨ret_over IA.out IB.out (HS.out.over ?_), rfl⟩
           first
             | exact H.out.odd_over (by simpa using ‹(y % 2 == 1) = true›) ‹_›
             | exact H.out.any_big ‹0 < y / 2› (by omega))
    · obtain rfl : k = 54 := by omega
      go_wp2
      go_ret2
      exact ⟨ret_fits IA.out IB.out (HS.out.fits H.out), rfl⟩

set_option maxHeartbeats 2000000 in
theorem rmul_nn (a b : Int) (w : World) (ia : inB a = true) (ib : inB b = true) (ha : a < 0) (hb : b < 0) : Calls Try.prog 10 #[.int .i64 a, .int .i64 b] w fun e w' => e = .returned (.tuple #[.int .i64 (mulV a b), .int .i64 (mulE a b)]) ∧ w = w' := by
  have ba := inB_yes ia
  have bb := inB_yes ib
  have HS := Lib.hid (Sgn.nn ha hb)
  go_enter Try.func10, Try.ntmps10
  go_wp2_with (go_at_call 13; refine (rin_any _ _).mono ?_; rintro e w' ⟨rfl, rfl⟩)
  have IA := Lib.hid ia
  have IB := Lib.hid ib
  clear ia ib
  go_loop [6, 7, 9, 10] (fun x y s i => ∃ (k : Nat) (x0 y0 s0 : Int), k ≤ 54 ∧ i = .int .i64 k ∧ x = .int .i64 x0 ∧ y = .int .i64 y0 ∧ s = .int .i64 s0 ∧ MulInv ((a.natAbs : Int) * (b.natAbs : Int)) k x0 y0 s0) (fun _ _ _ i => (54 - (intOf i)).toNat)
  case atStart => exact ⟨0, _, _, _, by omega, rfl, rfl, rfl, rfl, MulInv.first' (by omega) (by omega) ba bb⟩
  case round =>
    obtain ⟨k, x, y, s, hk, rfl, rfl, rfl, rfl, hI⟩ := hrel
    obtain ⟨h1, h2, h3, h4, h5, h6⟩ : 0 ≤ x ∧ x ≤ 36028797018963968 ∧ 0 ≤ y ∧ y ≤ 9007199254740992 ∧ 0 ≤ s ∧ s ≤ 9007199254740992 := ⟨hI.1, hI.2.1, hI.2.2.1, hI.2.2.2.1, hI.2.2.2.2.1, hI.2.2.2.2.2.1⟩
    have H := Lib.hid hI
    clear hI
    by_cases hk4 : k < 54
    · go_wp2
      all_goals first
        | (go_round
           case rel => exact ⟨k + 1, _, _, _, by omega, by go_num, rfl, rfl, rfl, H.out.step (by first | (left; refine ⟨by simpa using ‹(y % 2 == 1) = true›, rfl⟩) | (right; refine ⟨by simpa using ‹(y % 2 == 1) = false›, rfl⟩)) (by omega) (by omega) (by omega)⟩
           case measure => simp [intOf]; omega)
        | (go_ret2
           refine ⟨ret_over IA.out IB.out (HS.out.over ?_), rfl⟩
           first
             | exact H.out.odd_over (by simpa using ‹(y % 2 == 1) = true›) ‹_›
             | exact H.out.any_big ‹0 < y / 2› (by omega))
    · obtain rfl : k = 54 := by omega
      go_wp2
      go_ret2
      exact ⟨ret_fits IA.out IB.out (HS.out.fits H.out), rfl⟩

set_option maxHeartbeats 400000 in
theorem rmul_any (a b : Int) (w : World) : Calls Try.prog 10 #[.int .i64 a, .int .i64 b] w fun e w' => e = .returned (.tuple #[.int .i64 (mulV a b), .int .i64 (mulE a b)]) ∧ w = w' := by
  cases ia : inB a
  · go_enter Try.func10, Try.ntmps10
    go_wp2_with (go_at_call 13; refine (rin_any _ _).mono ?_; rintro e w' ⟨rfl, rfl⟩)
    go_ret2
    exact ⟨ret_two (by simp [mulV, outV, ia]) (by simp [mulE, outE, ia]), rfl⟩
  · cases ib : inB b
    · go_enter Try.func10, Try.ntmps10
      go_wp2_with (go_at_call 13; refine (rin_any _ _).mono ?_; rintro e w' ⟨rfl, rfl⟩)
      go_ret2
      exact ⟨ret_two (by simp [mulV, outV, ia, ib]) (by simp [mulE, outE, ia, ib]), rfl⟩
    · by_cases ha : a < 0 <;> by_cases hb : b < 0
      · exact rmul_nn a b w ia ib ha hb
      · exact rmul_np a b w ia ib ha (by omega)
      · exact rmul_pn a b w ia ib (by omega) hb
      · exact rmul_pp a b w ia ib (by omega) (by omega)

end Go.Proofs.Ytikhhkhkfaadlaa
