/- WALK of the reference's Text. -/
import Derived.Test.YtikhhkhkfaadlaaF
import Derived.Deep.RegionWith
namespace Go.Proofs.Ytikhhkhkfaadlaa
open Go.RowKit

theorem convert_one (W : World) (B : Nat) (n : Nat) (v : Int) (hv : v = (digC n).toNat) (h : W.cell? ⟨B, 0, none⟩ = some (.int .u8 v)) :
    (convert 45 9 (.slice (some ⟨B, 0, none⟩) 1 1)).run Try.prog W = .ok (.string ⟨#[digC n]⟩) W := by
  subst hv
  exact run_convert_bytes_back W 45 9 5 ⟨B, 0, none⟩ 1 [digC n] (by kernel_rfl) (by kernel_rfl) (by kernel_rfl) fun j hj => by
    obtain rfl : j = 0 := by simpa using hj
    simpa [Addr.add] using h

theorem bcell {w w1 : World} {N : Nat} (hb : Below N w w1) : ∀ b o, b < N → w1.cell? ⟨b, o, none⟩ = w.cell? ⟨b, o, none⟩ :=
  fun b o h => hb.cell (p := ⟨b, o, none⟩) h

theorem textS_size (n : Int) (h : n.natAbs ≤ 9223372036854775808) : (textS n).size ≤ 20 := by
  have := textL_len n h
  simpa [textS, ByteArray.size] using this

theorem bytes_app (x y : List UInt8) : (⟨x.toArray⟩ ++ ⟨y.toArray⟩ : ByteArray) = ⟨(x ++ y).toArray⟩ := ByteArray.mk_append_mk x y
theorem text_ten (n m : Int) (hm : m.natAbs = n.natAbs / 10) (h10 : 10 ≤ n.natAbs) (hs : n < 0 ↔ m < 0) : textS m ++ ⟨#[digC n.natAbs]⟩ = textS n := by
  show (⟨(textL m).toArray⟩ ++ ⟨[digC n.natAbs].toArray⟩ : ByteArray) = ⟨(textL n).toArray⟩
  rw [bytes_app]
  have e : textL m ++ [digC n.natAbs] = textL n := by
    by_cases h : n < 0
    · rw [textL_neg h, textL_neg (hs.1 h), dg_ten _ h10, hm]; rfl
    · rw [textL_pos h, textL_pos (fun q => h (hs.2 q)), dg_ten _ h10, hm]
  rw [e]
theorem text_one (n : Int) (h : 0 ≤ n) (h10 : n < 10) : textS n = ⟨#[digC n.natAbs]⟩ := by
  unfold textS; rw [textL_pos (by omega), dg_small _ (by omega)]
theorem text_one_neg (n : Int) (h : n < 0) (h10 : -10 < n) : (⟨#[45]⟩ ++ ⟨#[digC n.natAbs]⟩ : ByteArray) = textS n := by
  unfold textS; rw [textL_neg h, dg_small _ (by omega)]
  exact bytes_app [45] [_]

set_option maxHeartbeats 1000000 in
theorem rtext_one (n : Int) (w : World) (h0 : 0 ≤ n) (h10 : n < 10) : Calls Try.prog 20 #[.int .i64 n] w fun e w' => e = .returned (.string (textS n)) ∧ Below w.heap.size w w' := by
  have hc := fun W B => convert_one W B n.natAbs (48 + n) (by rw [digC_nat]; omega)
  go_enter Try.func20, Try.ntmps20
  go_wp2_with fail
  go_ret
  exact ⟨ret_str (text_one n h0 h10).symm, (Below.refl _ _).alloc (Nat.le_refl _) _⟩
theorem neg_rest (n : Int) (h0 : n < 0) : ∃ r, -(n.tmod 10) = r ∧ r = (n.natAbs : Int) % 10 := ⟨_, rfl, by rw [Int.tmod_eq_emod]; split <;> omega⟩
set_option maxHeartbeats 1000000 in
theorem rtext_one_neg (n : Int) (w : World) (h0 : n < 0) (h10 : -10 < n) : Calls Try.prog 20 #[.int .i64 n] w fun e w' => e = .returned (.string (textS n)) ∧ Below w.heap.size w w' := by
  obtain ⟨r, hr, R⟩ := neg_rest n h0
  have hc := fun W B => convert_one W B n.natAbs (48 + r) (by rw [digC_nat]; omega)
  have R1 : 0 ≤ r := by omega
  have R2 : r ≤ 9 := by omega
  clear R
  go_enter Try.func20, Try.ntmps20
  go_wp2_with fail
  go_ret
  exact ⟨ret_str (text_one_neg n h0 h10), (Below.refl _ _).alloc (Nat.le_refl _) _⟩
set_option maxHeartbeats 1000000 in
theorem rtext_big (n : Int) (w : World) (h0 : 0 ≤ n) (hi : n ≤ 9223372036854775807) (h10 : ¬ n < 10) (ih : ∀ w, Calls Try.prog 20 #[.int .i64 (n / 10)] w fun e w' => e = .returned (.string (textS (n / 10))) ∧ Below w.heap.size w w') :
    Calls Try.prog 20 #[.int .i64 n] w fun e w' => e = .returned (.string (textS n)) ∧ Below w.heap.size w w' := by
  obtain ⟨m, hm, M⟩ : ∃ m, IntKind.i64.wrap (n.tdiv 10) = m ∧ m = n / 10 := ⟨_, rfl, by rw [IntKind.wrap_i64, Int.tdiv_eq_ediv_of_nonneg h0]; omega⟩
  obtain ⟨c, hcw, C⟩ : ∃ c, IntKind.u8.wrap (IntKind.i64.wrap (48 + n.tmod 10)) = c ∧ c = 48 + n % 10 := ⟨_, rfl, by rw [IntKind.wrap_u8, IntKind.wrap_i64, Int.tmod_eq_emod_of_nonneg h0]; omega⟩
  have hc := fun W B => convert_one W B n.natAbs c (by rw [digC_nat]; omega)
  rw [← M] at ih
  have HM := Lib.hid M
  have hsz := textS_size m (by omega)
  clear C M hi
  go_enter Try.func20, Try.ntmps20
  go_wp2_with fail
  go_region_with (go_at_call 20; (with_reducible refine (ih _).mono ?_); rintro e w1 ⟨rfl, hB⟩; have hcl := bcell hB)
  all_goals
    go_wp2_with fail
    go_ret
    refine ⟨ret_str (text_ten n m (by have := HM.out; omega) (by omega) (by have := HM.out; omega)), ?_⟩
    first
      | exact ((Below.refl _ _).drew.trans hB).alloc hB.size _
      | exact (((Below.refl _ _).alloc (Nat.le_refl _) _).drew).trans (hB.mono (by simp))
set_option maxHeartbeats 1000000 in
theorem rtext_big_neg (n : Int) (w : World) (h0 : n < 0) (lo : -9223372036854775808 ≤ n) (h10 : ¬ -10 < n) (ih : ∀ w, Calls Try.prog 20 #[.int .i64 (-((n.natAbs : Int) / 10))] w fun e w' => e = .returned (.string (textS (-((n.natAbs : Int) / 10)))) ∧ Below w.heap.size w w') :
    Calls Try.prog 20 #[.int .i64 n] w fun e w' => e = .returned (.string (textS n)) ∧ Below w.heap.size w w' := by
  obtain ⟨r, hr, R⟩ := neg_rest n h0
  obtain ⟨m, hm, M⟩ : ∃ m, IntKind.i64.wrap (n.tdiv 10) = m ∧ m = -((n.natAbs : Int) / 10) := ⟨_, rfl, by rw [IntKind.wrap_i64, Int.tdiv_eq_ediv, show Int.sign 10 = 1 from rfl]; split <;> omega⟩
  obtain ⟨c, hcw, C⟩ : ∃ c, IntKind.u8.wrap (IntKind.i64.wrap (48 + r)) = c ∧ c = 48 + r := ⟨_, rfl, by rw [IntKind.wrap_u8, IntKind.wrap_i64]; omega⟩
  have hc := fun W B => convert_one W B n.natAbs c (by rw [digC_nat]; omega)
  rw [← M] at ih
  have HM := Lib.hid M
  have hsz := textS_size m (by omega)
  have R1 : 0 ≤ r := by omega
  have R2 : r ≤ 9 := by omega
  clear C M lo R
  go_enter Try.func20, Try.ntmps20
  go_wp2_with fail
  go_region_with (go_at_call 20; (with_reducible refine (ih _).mono ?_); rintro e w1 ⟨rfl, hB⟩; have hcl := bcell hB)
  all_goals
    go_wp2_with fail
    go_ret
    refine ⟨ret_str (text_ten n m (by have := HM.out; omega) (by omega) (by have := HM.out; omega)), ?_⟩
    first
      | exact ((Below.refl _ _).drew.trans hB).alloc hB.size _
      | exact (((Below.refl _ _).alloc (Nat.le_refl _) _).drew).trans (hB.mono (by simp))
theorem rtext_fuel (k : Nat) : ∀ (n : Int) (w : World), n.natAbs ≤ k → -9223372036854775808 ≤ n → n ≤ 9223372036854775807 →
    Calls Try.prog 20 #[.int .i64 n] w fun e w' => e = .returned (.string (textS n)) ∧ Below w.heap.size w w' := by
  induction k with
  | zero => exact fun n w hk _ _ => rtext_one n w (by omega) (by omega)
  | succ k ih =>
    intro n w hk lo hi
    by_cases h0 : 0 ≤ n
    · by_cases h10 : n < 10
      · exact rtext_one n w h0 h10
      · exact rtext_big n w h0 hi h10 fun w => ih _ w (by omega) (by omega) (by omega)
    · by_cases h10 : -10 < n
      · exact rtext_one_neg n w (by omega) h10
      · exact rtext_big_neg n w (by omega) lo h10 fun w => ih _ w (by omega) (by omega) (by omega)
theorem rtext_any (n : Int) (w : World) (lo : -9223372036854775808 ≤ n) (hi : n ≤ 9223372036854775807) :
    Calls Try.prog 20 #[.int .i64 n] w fun e w' => e = .returned (.string (textS n)) ∧ Below w.heap.size w w' := rtext_fuel n.natAbs n w (Nat.le_refl _) lo hi
end Go.Proofs.Ytikhhkhkfaadlaa
