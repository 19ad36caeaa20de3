/- WALKS of strings.TrimPrefix at "-", num.natural, num.Read. -/
import Derived.Test.YtfhknnldkfngdaaDoorUb
import Derived.Test.YtfhknnldkfngdaaDoorUa
namespace Go.Proofs.YtfhknnldkfngdaaDoor.Nu
open Go.RowKit


set_option maxHeartbeats 400000 in
theorem hasp_any (s : ByteArray) (w : World) (hs : s.size ≤ maxLen) : Calls Tryd.prog 49 #[.string s, .string { data := #[45] }] w fun e w' => e = .returned (.bool (negS s)) ∧ w = w' := by
  unfold maxLen at hs
  by_cases h0 : 0 < s.size
  · go_enter Tryd.func49, Tryd.ntmps49
    go_wp2
    go_ret
    exact ⟨ret_bool (neg_test s h0), rfl⟩
  · have hn : negS s = false := by cases e : negS s; rfl; exact absurd (neg_size e) h0
    rw [hn]; clear hn
    go_enter Tryd.func49, Tryd.ntmps49
    go_wp2
    go_ret
    exact ⟨rfl, rfl⟩

set_option maxHeartbeats 400000 in
theorem trim_any (s : ByteArray) (w : World) (hs : s.size ≤ maxLen) : Calls Tryd.prog 43 #[.string s, .string { data := #[45] }] w fun e w' => e = .returned (.string (trimS s)) ∧ w = w' := by
  cases hn : negS s
  · go_enter Tryd.func43, Tryd.ntmps43
    go_wp2_with (first | (go_at_call 49; refine (hasp_any _ _ hs).mono ?_; rintro e w' ⟨rfl, rfl⟩) | (go_at_call 51; go_in))
    go_ret
    exact ⟨ret_str (trim_pos hn).symm, rfl⟩
  · have h0 := neg_size hn
    unfold maxLen at hs
    go_enter Tryd.func43, Tryd.ntmps43
    go_wp2_with (first | (go_at_call 49; refine (hasp_any _ _ (by unfold maxLen; exact hs)).mono ?_; rintro e w' ⟨rfl, rfl⟩) | (go_at_call 51; go_in))
    go_ret
    exact ⟨ret_str (trim_neg hn).symm, rfl⟩

set_option maxHeartbeats 400000 in
theorem natural_any (s : ByteArray) (w : World) (hs : s.size ≤ maxLen) : Calls Tryd.prog 44 #[.string s] w fun e w' => e = .returned (.bool (natL s.data.toList)) ∧ w = w' := by
  unfold maxLen at hs
  by_cases h0 : 0 < s.size
  · have hn := list_ne s h0
    have hE := list_isE s h0
    by_cases h48 : (s[0].toNat : Int) = 48 ∧ 1 < s.size
    · obtain ⟨h4, h1⟩ := h48
      go_enter Tryd.func44, Tryd.ntmps44
      go_wp2
      go_ret
      exact ⟨ret_bool (nat_lead h0 h4 h1).symm, rfl⟩
    · have HL := Lib.hid (show ¬ (s[0].toNat : Int) = 48 ∨ s.size ≤ 1 by omega)
      have hc : ((s[0].toNat : Int) = 48 ∧ ¬ 1 < s.size) ∨ ¬ (s[0].toNat : Int) = 48 := by omega
      clear h48
      rcases hc with ⟨h4, h1⟩ | h4
      all_goals
        go_enter Tryd.func44, Tryd.ntmps44
        go_wp2
        go_loop [18] (fun i => ∃ k : Nat, k ≤ s.size ∧ i = .int .i64 k ∧ upTo s k) (fun i => s.size - (intOf i).toNat)
        case atStart => exact ⟨0, by omega, rfl, upTo_zero s⟩
        case round =>
          obtain ⟨k, hk, rfl, hu⟩ := hrel
          have H := Lib.hid hu
          clear hu
          by_cases hlt : k < s.size
          · go_wp2
            all_goals first
              | (go_round
                 case rel => exact ⟨k + 1, by omega, by go_num, upTo_succ H.out hlt (by omega) (by omega)⟩
                 case measure => simp [intOf]; omega)
              | (go_ret
                 exact ⟨ret_bool (nat_bad hlt (by omega)).symm, rfl⟩)
          · obtain rfl : k = s.size := by omega
            go_wp2
            go_ret
            exact ⟨ret_bool (nat_end h0 HL.out H.out).symm, rfl⟩
  · have hn := list_nil s h0
    go_enter Tryd.func44, Tryd.ntmps44
    go_wp2
    go_ret
    exact ⟨ret_bool (nat_empty h0).symm, rfl⟩

end Go.Proofs.YtfhknnldkfngdaaDoor.Nu
