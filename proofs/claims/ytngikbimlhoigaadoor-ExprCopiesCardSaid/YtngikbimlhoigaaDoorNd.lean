/- WALKS of the reference's Right, of name.Path, the reference's Path, and few. -/
import Derived.Test.YtngikbimlhoigaaDoorNc
namespace Go.Proofs.YtngikbimlhoigaaDoor.Nm
open Go.RowKit

theorem letB_yes {r : Int} (h : letB r = true) : 97 ≤ r ∧ r ≤ 122 := of_decide_eq_true h
theorem letB_no {r : Int} (h : letB r = false) : r < 97 ∨ 122 < r := by have := of_decide_eq_false h; omega
theorem innB_yes {r : Int} (h : innB r = true) : (48 ≤ r ∧ r ≤ 57) ∨ r = 95 := of_decide_eq_true h
theorem innB_no {r : Int} (h : innB r = false) : ¬ ((48 ≤ r ∧ r ≤ 57) ∨ r = 95) := of_decide_eq_false h
theorem letB_mk {r : Int} (h : 97 ≤ r ∧ r ≤ 122) : letB r = true := decide_eq_true h
theorem innB_mk {r : Int} (h : (48 ≤ r ∧ r ≤ 57) ∨ r = 95) : innB r = true := decide_eq_true h
theorem letB_mkno {r : Int} (h : ¬ (97 ≤ r ∧ r ≤ 122)) : letB r = false := decide_eq_false h
theorem innB_mkno {r : Int} (h : ¬ ((48 ≤ r ∧ r ≤ 57) ∨ r = 95)) : innB r = false := decide_eq_false h
theorem rword_as (s : ByteArray) (v : Int) (w : World) (h : Hid (wordN s.toList = v)) : Calls Tryd.prog 56 #[.string s] w fun e w' => e = .returned (.int .i64 v) ∧ w = w' := by
  rw [← h.out]; exact rword_any s w
theorem right_first {s : ByteArray} (h0 : 0 < s.size) (h1 : (s[0].toNat : Int) < 97 ∨ 122 < (s[0].toNat : Int)) : rightL s.toList = false :=
  right_bad h0 (letB_mkno (by omega)) (.inl rfl)
theorem right_all {s : ByteArray} (h0 : 0 < s.size) (h1 : s.size ≤ 16) (hg : Good s s.size) (hw : wordN s.toList = 0) : true = rightL s.toList := by
  rw [right_end h0 h1 hg, hw]; rfl

theorem byte_cases (c : Int) : ((97 ≤ c ∧ c ≤ 122) ∧ (c != 95) = true) ∨ ((48 ≤ c ∧ c ≤ 57) ∧ (c != 95) = true) ∨ ((57 < c ∧ c < 97) ∧ (c != 95) = false) ∨ ((c < 48 ∨ (57 < c ∧ c < 97) ∨ 122 < c) ∧ (c != 95) = true) := by
  by_cases h : c = 95
  · subst h; right; right; left; decide
  · have e : (c != 95) = true := by simpa using h
    rw [e]; simp; omega
set_option maxHeartbeats 2000000 in
theorem rright_any (s : ByteArray) (w : World) (hs : s.size ≤ maxLen) : Calls Tryd.prog 49 #[.string s] w fun e w' => e = .returned (.bool (rightL s.toList)) ∧ w = w' := by
  unfold maxLen at hs
  by_cases h0 : 0 < s.size
  · by_cases h16 : 16 < s.size
    · go_enter Tryd.func49, Tryd.ntmps49
      go_wp2
      go_ret
      exact ⟨ret_bool (right_empty (.inr (by rw [← size_list]; exact h16))).symm, rfl⟩
    · obtain ⟨v, hv⟩ : ∃ v, wordN s.toList = v := ⟨_, rfl⟩
      have hv0 := wordN_nonneg s.toList
      rw [hv] at hv0
      have HV := Lib.hid hv
      clear hv
      by_cases hp : 0 < v
      · go_enter Tryd.func49, Tryd.ntmps49
        go_wp2_with (go_at_call 56; refine (rword_as _ _ _ HV).mono ?_; rintro e w' ⟨rfl, rfl⟩)
        go_ret
        exact ⟨ret_bool (right_word (by rw [HV.out]; exact hp)).symm, rfl⟩
      · have HW := Lib.hid (show wordN s.toList = 0 by rw [HV.out]; omega)
        by_cases hf : 97 ≤ (s[0].toNat : Int) ∧ (s[0].toNat : Int) ≤ 122
        · have G1 : Good s 1 := (Good.first s).succ h0 (.inl (letB_mk hf))
          have HG1 := Lib.hid G1
          obtain ⟨f1, f2⟩ := hf
          clear G1
          go_enter Tryd.func49, Tryd.ntmps49
          go_wp2_with (go_at_call 56; refine (rword_as _ _ _ HV).mono ?_; rintro e w' ⟨rfl, rfl⟩)
          go_loop [3] (fun i => ∃ k : Nat, 1 ≤ k ∧ k ≤ s.size ∧ i = .int .i64 k ∧ Good s k) (fun i => s.size - (intOf i).toNat)
          case atStart => exact ⟨1, by omega, by omega, rfl, HG1.out⟩
          case round =>
            obtain ⟨k, hk1, hk, rfl, hG⟩ := hrel
            have G := Lib.hid hG
            clear hG
            by_cases hlt : k < s.size
            · obtain ⟨c, hc⟩ : ∃ c : Int, (s[k].toNat : Int) = c := ⟨_, rfl⟩
              have HC := Lib.hid hc
              rcases byte_cases c with ⟨g1, g2⟩ | ⟨g1, g2⟩ | ⟨g1, g2⟩ | ⟨g1, g2⟩
              · have HG := Lib.hid (G.out.succ hlt (.inl (by rw [hc]; exact letB_mk g1)))
                obtain ⟨g3, g4⟩ := g1
                go_wp2
                go_round
                case rel => exact ⟨k + 1, by omega, by omega, by go_num, HG.out⟩
                case measure => simp [intOf]; omega
              · have HG := Lib.hid (G.out.succ hlt (.inr ⟨by omega, by rw [hc]; exact innB_mk (.inl g1)⟩))
                obtain ⟨g3, g4⟩ := g1
                go_wp2
                go_round
                case rel => exact ⟨k + 1, by omega, by omega, by go_num, HG.out⟩
                case measure => simp [intOf]; omega
              · have HG := Lib.hid (G.out.succ hlt (.inr ⟨by omega, by rw [hc]; exact innB_mk (.inr (by simpa using g2))⟩))
                go_wp2
                go_round
                case rel => exact ⟨k + 1, by omega, by omega, by go_num, HG.out⟩
                case measure => simp [intOf]; omega
              · have hne : c ≠ 95 := by simpa using g2
                have HB := Lib.hid (right_bad hlt (by rw [hc]; exact letB_mkno (by omega)) (.inr (by rw [hc]; exact innB_mkno (by omega))))
                clear hne
                rcases g1 with g1 | ⟨g1, g1'⟩ | g1
                · go_wp2
                  go_ret
                  exact ⟨ret_bool HB.out.symm, rfl⟩
                · have d1 : decide (c ≤ 57) = false := decide_eq_false (by omega)
                  go_wp2
                  go_ret
                  exact ⟨ret_bool HB.out.symm, rfl⟩
                · have d1 : decide (c ≤ 57) = false := decide_eq_false (by omega)
                  have d2 : decide (c ≤ 122) = false := decide_eq_false (by omega)
                  go_wp2
                  go_ret
                  exact ⟨ret_bool HB.out.symm, rfl⟩
            · obtain rfl : k = s.size := by omega
              go_wp2
              go_ret
              exact ⟨ret_bool (right_all h0 (by omega) G.out HW.out), rfl⟩
        · have HB := Lib.hid (right_first h0 (by omega))
          have hf2 : (s[0].toNat : Int) < 97 ∨ (¬ (s[0].toNat : Int) < 97 ∧ 122 < (s[0].toNat : Int)) := by omega
          clear hf
          rcases hf2 with hf2 | ⟨hf2, hf3⟩
          all_goals
            go_enter Tryd.func49, Tryd.ntmps49
            go_wp2_with (go_at_call 56; refine (rword_as _ _ _ HV).mono ?_; rintro e w' ⟨rfl, rfl⟩)
            go_ret
            exact ⟨ret_bool HB.out.symm, rfl⟩
  · go_enter Tryd.func49, Tryd.ntmps49
    go_wp2
    go_ret
    exact ⟨ret_bool (right_empty (.inl (by rw [← size_list]; omega))).symm, rfl⟩
end Go.Proofs.YtngikbimlhoigaaDoor.Nm
