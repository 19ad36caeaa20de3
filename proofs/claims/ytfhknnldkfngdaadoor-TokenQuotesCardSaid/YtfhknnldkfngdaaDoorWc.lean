/- WALKS of the reference's Skip, six, part. -/
import Derived.Test.YtfhknnldkfngdaaDoorWb
namespace Go.Proofs.YtfhknnldkfngdaaDoor
open Go.RowKit
open Nm (ret_bool ret_int ret_str)

theorem byte_ne (c : Int) : (c = 32 ∨ c = 9 ∨ c = 10 ∨ c = 13) ∨ (c = 35) ∨ ((c != 32) = true ∧ (c != 9) = true ∧ (c != 10) = true ∧ (c != 13) = true ∧ (c == 35) = false ∧ (c == 10) = false) := by
  simp; omega
set_option maxHeartbeats 2000000 in
theorem rskip_any (s : ByteArray) (p n : Nat) (w : World) (hs : s.size ≤ 140737488355328) (hp : p ≤ s.size) (hn : SkAt s false p n) : Calls Tryd.prog 16 #[.string s, .int .i64 (p : Int)] w fun e w' => e = .returned (.int .i64 (n : Int)) ∧ w = w' := by
  have HN := Lib.hid hn
  clear hn
  go_enter Tryd.func16, Tryd.ntmps16
  go_wp2
  go_loop [1, 5] (fun i r => ∃ (k : Nat) (b : Bool), k ≤ s.size ∧ i = .int .i64 k ∧ r = .bool b ∧ Hid (SkAt s b k n)) (fun i _ => s.size - (intOf i).toNat)
  case atStart => exact ⟨p, false, hp, rfl, rfl, HN⟩
  case round =>
    obtain ⟨k, b, hk, rfl, rfl, hR⟩ := hrel
    by_cases hlt : k < s.size
    · obtain ⟨c, hc⟩ : ∃ c : Int, (s[k].toNat : Int) = c := ⟨_, rfl⟩
      have HC := Lib.hid hc
      cases b
      · rcases byte_ne c with h | h | ⟨h1, h2, h3, h4, h5, h6⟩
        · have HS := Lib.hid (hR.out.step hlt (by rw [hc]; simp; omega) (by rw [hc]; exact h))
          rcases h with rfl | rfl | rfl | rfl
          all_goals
            go_wp2_with fail
            go_round
            case rel => exact ⟨k + 1, false, by omega, by go_num, rfl, HS⟩
            case measure => simp [intOf]; omega
        · subst h
          have HS := Lib.hid (hR.out.rem hlt (.inl hc))
          go_wp2_with fail
          go_round
          case rel => exact ⟨k + 1, true, by omega, by go_num, rfl, HS⟩
          case measure => simp [intOf]; omega
        · have HS := Lib.hid (hR.out.stop hlt (by rw [hc]; simp at h5; simp [h5]) (by rw [hc]; simp at h1 h2 h3 h4; omega))
          go_wp2_with fail
          go_ret
          exact ⟨ret_int HS.out, rfl⟩
      · cases h10 : (c == 10)
        · have hne : ¬ c = 10 := by simpa using h10
          have HS := Lib.hid (hR.out.rem hlt (.inr ⟨rfl, by rw [hc]; exact hne⟩))
          clear hne
          cases h35 : (c == 35)
          all_goals
            go_wp2_with fail
            go_round
            case rel => exact ⟨k + 1, true, by omega, by go_num, rfl, HS⟩
            case measure => simp [intOf]; omega
        · obtain rfl : c = 10 := by simpa using h10
          clear h10
          have HS := Lib.hid (hR.out.step hlt (by rw [hc]; simp) (by rw [hc]; decide))
          go_wp2_with fail
          go_round
          case rel => exact ⟨k + 1, false, by omega, by go_num, rfl, HS⟩
          case measure => simp [intOf]; omega
    · go_wp2_with fail
      go_ret
      exact ⟨ret_int (hR.out.last hlt), rfl⟩

set_option maxHeartbeats 400000 in
theorem six_any (c : UInt8) (w : World) : Calls Tryd.prog 42 #[.int .u8 (c.toNat : Int)] w fun e w' => e = .returned (.int .i64 (sixV c)) ∧ w = w' := by
  have hb := byte_nb c
  obtain ⟨v, hv⟩ : ∃ v, sixV c = v := ⟨_, rfl⟩
  rw [hv]
  have HV := Lib.hid hv
  clear hv
  cases hd : dgB c
  · have HD := Lib.hid hd
    clear hd
    have hc3 : (c.toNat : Int) < 97 ∨ (97 ≤ (c.toNat : Int) ∧ (c.toNat : Int) ≤ 102) ∨ (97 ≤ (c.toNat : Int) ∧ 102 < (c.toNat : Int)) := by omega
    rcases hc3 with h1 | ⟨h1, h2⟩ | ⟨h1, h2⟩
    all_goals
      go_enter Tryd.func42, Tryd.ntmps42
      go_wp2_with (go_at_call 18; refine (rdigit_as _ _ _ HD).mono ?_; rintro e w' ⟨rfl, rfl⟩)
      go_ret
      refine ⟨ret_int ?_, rfl⟩
      rw [← HV.out]
      unfold sixV
      rw [HD.out, if_neg (by decide)]
      first
        | exact (if_pos (by omega)).symm
        | exact (if_neg (by omega)).symm
        | exact if_pos (by omega)
        | exact if_neg (by omega)
  · have HD := Lib.hid hd
    have hdd := of_decide_eq_true hd
    clear hd
    obtain ⟨h1, h2⟩ := hdd
    go_enter Tryd.func42, Tryd.ntmps42
    go_wp2_with (go_at_call 18; refine (rdigit_as _ _ _ HD).mono ?_; rintro e w' ⟨rfl, rfl⟩)
    go_ret
    refine ⟨ret_int ?_, rfl⟩
    rw [← HV.out]
    unfold sixV
    rw [HD.out, if_pos rfl]
theorem six_as (c : UInt8) (v : Int) (w : World) (h : Hid (sixV c = v)) : Calls Tryd.prog 42 #[.int .u8 (c.toNat : Int)] w fun e w' => e = .returned (.int .i64 v) ∧ w = w' := by rw [← h.out]; exact six_any c w
end Go.Proofs.YtfhknnldkfngdaaDoor
