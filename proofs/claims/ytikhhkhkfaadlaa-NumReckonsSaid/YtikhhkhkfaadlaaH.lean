/- WALK of treillagelaw01.NumReckons. -/
import Derived.Test.YtikhhkhkfaadlaaC
import Derived.Test.YtikhhkhkfaadlaaG
namespace Go.Proofs.Ytikhhkhkfaadlaa
open Go.RowKit

theorem sub_is (a b x y : Int) (w : World) (hx : Hid (subV a b = x)) (hy : Hid (subE a b = y)) : Calls Try.prog 11 #[.int .i64 a, .int .i64 b] w fun e w' => e = .returned (.tuple #[.int .i64 x, .int .i64 y]) ∧ w = w' := by
  rw [← hx.out, ← hy.out]; exact sub_any a b w
theorem sub_out (a b : Int) (h : inB a = false ∨ inB b = false) : subV a b = 0 ∧ subE a b = 9 := by
  rcases h with h | h <;> simp [subV, subE, outV, outE, h]
theorem sub_over (a b : Int) (ha : inB a = true) (hb : inB b = true) (h : inB (a - b) = false) : subV a b = 0 ∧ subE a b = 25 := by
  simp [subV, subE, outV, outE, h, ha, hb]
theorem sub_fits (a b : Int) (ha : inB a = true) (hb : inB b = true) (h : inB (a - b) = true) : subV a b = a - b ∧ subE a b = 0 := by
  simp [subV, subE, outV, outE, h, ha, hb]

theorem sub_cases (a b : Int) : (inB a = false ∧ subV a b = 0 ∧ subE a b = 9) ∨ (inB a = true ∧ inB b = false ∧ subV a b = 0 ∧ subE a b = 9) ∨ (inB a = true ∧ inB b = true ∧ inB (a - b) = false ∧ subV a b = 0 ∧ subE a b = 25) ∨
    (inB a = true ∧ inB b = true ∧ inB (a - b) = true ∧ subV a b = a - b ∧ subE a b = 0) := by
  cases ha : inB a
  · exact .inl ⟨rfl, sub_out a b (.inl ha)⟩
  · cases hb : inB b
    · exact .inr (.inl ⟨rfl, rfl, sub_out a b (.inr hb)⟩)
    · cases hc : inB (a - b)
      · exact .inr (.inr (.inl ⟨rfl, rfl, rfl, sub_over a b ha hb hc⟩))
      · exact .inr (.inr (.inr ⟨rfl, rfl, rfl, sub_fits a b ha hb hc⟩))

set_option maxHeartbeats 1000000 in
theorem reckons_walk (a b : Int) (w : World) : Calls Try.prog 3 #[.int .i64 a, .int .i64 b] w fun e w' => e = .returned (.bool true) ∧ Below w.heap.size w w' := by
  rcases sub_cases a b with ⟨ha, h1, h2⟩ | ⟨ha, hb, h1, h2⟩ | ⟨ha, hb, hc, h1, h2⟩ | ⟨ha, hb, hc, h1, h2⟩
  all_goals
    have H1 := Lib.hid h1
    have H2 := Lib.hid h2
    clear h1 h2
    try have ba := inB_yes ha
    try have bb := inB_yes hb
    go_enter Try.func3, Try.ntmps3
    go_wp2_with (first
      | (go_at_call 7; refine (add_any _ _ _).mono ?_; rintro e w' ⟨rfl, rfl⟩)
      | (go_at_call 8; refine (radd_any _ _ _).mono ?_; rintro e w' ⟨rfl, rfl⟩)
      | (go_at_call 9; refine (mul_any _ _ _).mono ?_; rintro e w' ⟨rfl, rfl⟩)
      | (go_at_call 10; refine (rmul_any _ _ _).mono ?_; rintro e w' ⟨rfl, rfl⟩)
      | (go_at_call 11; refine (sub_is _ _ _ _ _ H1 H2).mono ?_; rintro e w' ⟨rfl, rfl⟩)
      | (go_at_call 12; refine (in_any _ _).mono ?_; rintro e w' ⟨rfl, rfl⟩)
      | (go_at_call 13; refine (rin_any _ _).mono ?_; rintro e w' ⟨rfl, rfl⟩)
      | (go_at_call 14; refine (awake_any _).mono ?_; rintro e w' ⟨rfl, hB⟩))
    go_ret
    exact ⟨rfl, hB⟩
end Go.Proofs.Ytikhhkhkfaadlaa
