/- WALKS of coded, part. -/
import Derived.Test.YtfhknnldkfngdaaDoorWd
import Derived.Test.YtfhknnldkfngdaaDoorShelf
namespace Go.Proofs.YtfhknnldkfngdaaDoor
open Go.RowKit
theorem ret_bool {a b : Bool} (h : a = b) : Ending.returned (.bool a) = .returned (.bool b) := by rw [h]
theorem ret_str {a b : ByteArray} (h : a = b) : Ending.returned (.string a) = .returned (.string b) := by rw [h]
theorem ret_int {k : IntKind} {a b : Int} (h : a = b) : Ending.returned (.int k a) = .returned (.int k b) := by rw [h]

theorem dig_all : ∀ n, n < 256 → Lib.indexByte [48, 49, 50, 51, 52, 53, 54, 55, 56, 57, 97, 98, 99, 100, 101, 102] (UInt8.ofNat n) = sixV (UInt8.ofNat n) := by decide +kernel
theorem digit_same (c : UInt8) (w : World) : Calls Tryd.prog 53 #[.string { data := #[48, 49, 50, 51, 52, 53, 54, 55, 56, 57, 97, 98, 99, 100, 101, 102] }, .int .u8 (c.toNat : Int)] w fun e w' => e = .returned (.int .i64 (sixV c)) ∧ w' = w := by
  refine (Tryd.strings_IndexByte _ _ w).mono ?_
  rintro e w' ⟨rfl, rfl⟩
  refine ⟨ret_int ?_, rfl⟩
  have h := dig_all c.toNat c.toNat_lt
  have e1 : ((c.toNat : Int)).toNat.toUInt8 = UInt8.ofNat c.toNat := by simp
  rw [e1, ← show UInt8.ofNat c.toNat = c from UInt8.ofNat_toNat]
  simpa using h
set_option maxHeartbeats 1600000 in
theorem coded_any (s : ByteArray) (w : World) (hs : s.size ≤ 140737488355328) : Calls Tryd.prog 50 #[.string s] w (PartP (hexL (s.toList.drop 2)) w) := by
  by_cases h4 : 3 < s.size
  · have h3 : 2 < s.size := by omega
    have h5 : ¬ s.size < 4 := by omega
    rw [drop_at s 2 h3, drop_at s 3 h4]
    have i2 : (2 : Int) < (s.size : Int) := by omega
    have i3 : (3 : Int) < (s.size : Int) := by omega
    obtain ⟨x1, x2⟩ := sixV_lo s[2]
    obtain ⟨y1, y2⟩ := sixV_lo s[3]
    have hpos : (0 ≤ sixV s[2] ∧ 0 ≤ sixV s[3]) ∨ sixV s[2] < 0 ∨ (0 ≤ sixV s[2] ∧ sixV s[3] < 0) := by omega
    rcases hpos with ⟨p1, p2⟩ | p1 | ⟨p1, p2⟩
    · have HP : Hid (hexL (s[2] :: s[3] :: s.toList.drop 4) = (16 * sixV s[2] + sixV s[3], 4)) := hexL_yes p1 p2
      go_enter Tryd.func50, Tryd.ntmps50
      go_wp2_with fail
      go_quiet ((go_at_call 53; with_reducible exact Calls.quiet_of_same (digit_same _ _)))
      have e5 := IntWalk.u8_in (16 * sixV s[2] + sixV s[3]) (by omega)
      go_wp2_with fail
      go_ret2
      exact PartP.mk HP.out (by decide) ⟨_, rfl⟩
    · have HP : Hid (hexL (s[2] :: s[3] :: s.toList.drop 4) = (0, 0)) := hexL_no (fun h => by have := h.1; omega)
      go_enter Tryd.func50, Tryd.ntmps50
      go_wp2_with fail
      go_quiet ((go_at_call 53; with_reducible exact Calls.quiet_of_same (digit_same _ _)))
      go_wp2_with fail
      go_ret2
      exact PartP.mk HP.out (by decide) ⟨_, rfl⟩
    · have HP : Hid (hexL (s[2] :: s[3] :: s.toList.drop 4) = (0, 0)) := hexL_no (fun h => by have := h.2; omega)
      go_enter Tryd.func50, Tryd.ntmps50
      go_wp2_with fail
      go_quiet ((go_at_call 53; with_reducible exact Calls.quiet_of_same (digit_same _ _)))
      go_wp2_with fail
      go_ret2
      exact PartP.mk HP.out (by decide) ⟨_, rfl⟩
  · have HP := Lib.hid (hexL_short (s := s) (k := 2) (by omega))
    go_enter Tryd.func50, Tryd.ntmps50
    go_wp2_with fail
    go_ret2
    exact PartP.mk HP.out (by decide) ⟨0, rfl⟩
theorem plain_as (c : UInt8) (b : Bool) (w : World) (h : Hid (plB c = b)) : Calls Tryd.prog 24 #[.int .u8 (c.toNat : Int)] w fun e w' => e = .returned (.bool b) ∧ w = w' := by rw [← h.out]; exact plain_any c w
theorem plain_92 (w : World) : Calls Tryd.prog 24 #[.int .u8 92] w fun e w' => e = .returned (.bool true) ∧ w = w' := plain_any 92 w
theorem byte_part2 (c : UInt8) : ((c.toNat : Int) = 34) ∨ (plB c = false ∧ ((c.toNat : Int) == 34) = false) ∨ (plB c = true ∧ ((c.toNat : Int) == 34) = false ∧ ((c.toNat : Int) != 92) = true) ∨ (plB c = true ∧ (c.toNat : Int) = 92) := by
  by_cases h1 : (c.toNat : Int) = 34
  · exact .inl h1
  · by_cases h2 : 32 ≤ (c.toNat : Int) ∧ (c.toNat : Int) ≤ 126
    · have e : plB c = true := decide_eq_true h2
      by_cases h3 : (c.toNat : Int) = 92
      · exact .inr (.inr (.inr ⟨e, h3⟩))
      · exact .inr (.inr (.inl ⟨e, by simpa using h1, by simpa using h3⟩))
    · exact .inr (.inl ⟨decide_eq_false h2, by simpa using h1⟩)
theorem PartP.of {r : Int × Nat} {w w1 : World} {e : Ending} {w' : World} (h : PartP r w1 e w') (hw : w1 = w) : PartP r w e w' := by subst hw; exact h
set_option maxHeartbeats 1600000 in
theorem part_any (s : ByteArray) (w : World) (hs : s.size ≤ 140737488355328) : Calls Tryd.prog 41 #[.string s] w (PartP (partL s.toList) w) := by
  by_cases h0 : 0 < s.size
  · have hn := Nm.list_ne s h0
    have hE := Nm.list_isE s h0
    have ed := drop_at s 0 h0
    rw [List.drop_zero, Nat.zero_add] at ed
    have ED := Lib.hid ed
    clear ed
    have HPL : Hid (partL s.toList = partL (s[0] :: s.toList.drop 1)) := by rw [← ED.out]; rfl
    rcases byte_part2 s[0] with h | ⟨hp, h⟩ | ⟨hp, h, h2⟩ | ⟨hp, h⟩
    · have HP := Lib.hid (HPL.out.trans (partL_no (.inr (.inr h))))
      go_enter Tryd.func41, Tryd.ntmps41
      go_wp2_with fail
      go_ret2
      exact PartP.mk HP.out (by decide) ⟨0, rfl⟩
    · have HP := Lib.hid (HPL.out.trans (partL_no (by have := of_decide_eq_false hp; omega)))
      have HB := Lib.hid hp
      clear hp
      go_enter Tryd.func41, Tryd.ntmps41
      go_wp2_with (go_at_call 24; ((with_reducible refine (plain_as _ _ _ HB).mono ?_); rintro e w' ⟨rfl, rfl⟩))
      go_ret2
      exact PartP.mk HP.out (by decide) ⟨0, rfl⟩
    · have hpp := of_decide_eq_true hp
      have HP := Lib.hid (HPL.out.trans (partL_one hpp.1 hpp.2 (by simpa using h) (by simpa using h2)))
      have HB := Lib.hid hp
      clear hp hpp
      go_enter Tryd.func41, Tryd.ntmps41
      go_wp2_with (go_at_call 24; ((with_reducible refine (plain_as _ _ _ HB).mono ?_); rintro e w' ⟨rfl, rfl⟩))
      go_ret2
      exact PartP.mk HP.out (by decide) ⟨0, rfl⟩
    · have HP := Lib.hid (HPL.out.trans (partL_esc h))
      clear hp HPL
      by_cases h1 : 1 < s.size
      · have hz : ¬ s.size = 1 := by omega
        have hz2 : ((s.size : Int) == 1) = false := by simp; omega
        have hz3 : (s.size == 1) = false := by simp; omega
        rw [drop_at s 1 h1] at HP
        obtain ⟨d, hd⟩ : ∃ d : Int, (s[1].toNat : Int) = d := ⟨_, rfl⟩
        have HD := Lib.hid hd
        rcases byte_esc d with rfl | rfl | rfl | rfl | ⟨g1, g2, g3, g4⟩
        · have HQ := Lib.hid (HP.out.trans (escL_self (.inl hd)))
          rw [hd] at HQ
          go_enter Tryd.func41, Tryd.ntmps41
          go_wp2_with (go_at_call 24; ((with_reducible refine (plain_92 _).mono ?_); rintro e w' ⟨rfl, rfl⟩))
          go_ret2
          exact PartP.mk HQ.out (by decide) ⟨0, rfl⟩
        · have HQ := Lib.hid (HP.out.trans (escL_self (.inr hd)))
          rw [hd] at HQ
          go_enter Tryd.func41, Tryd.ntmps41
          go_wp2_with (go_at_call 24; ((with_reducible refine (plain_92 _).mono ?_); rintro e w' ⟨rfl, rfl⟩))
          go_ret2
          exact PartP.mk HQ.out (by decide) ⟨0, rfl⟩
        · have HQ := Lib.hid (HP.out.trans (escL_n hd))
          go_enter Tryd.func41, Tryd.ntmps41
          go_wp2_with (go_at_call 24; ((with_reducible refine (plain_92 _).mono ?_); rintro e w' ⟨rfl, rfl⟩))
          go_ret2
          exact PartP.mk HQ.out (by decide) ⟨0, rfl⟩
        · have HQ := Lib.hid (HP.out.trans (escL_x hd))
          go_enter Tryd.func41, Tryd.ntmps41
          go_wp2_with (first | (go_at_call 24; ((with_reducible refine (plain_92 _).mono ?_); rintro e w' ⟨rfl, rfl⟩)) | (go_at_call 50; refine (coded_any _ _ hs).mono ?_; rintro e w1 ⟨rfl, hq⟩; have HW := Lib.hid hq; clear hq))
          go_ret2
          exact ⟨by rw [HQ.out]; rfl, HW.out⟩
        · have HQ := Lib.hid (HP.out.trans (escL_no (by rw [hd]; simpa using g1) (by rw [hd]; simpa using g2) (by rw [hd]; simpa using g3) (by rw [hd]; simpa using g4)))
          go_enter Tryd.func41, Tryd.ntmps41
          go_wp2_with (go_at_call 24; ((with_reducible refine (plain_92 _).mono ?_); rintro e w' ⟨rfl, rfl⟩))
          go_ret2
          exact PartP.mk HQ.out (by decide) ⟨0, rfl⟩
      · have hz : s.size = 1 := by omega
        have hz2 : ((s.size : Int) == 1) = true := by simp; omega
        have hz3 : (s.size == 1) = true := by simp; omega
        rw [drop_end s 1 h1] at HP
        clear hz
        go_enter Tryd.func41, Tryd.ntmps41
        go_wp2_with (go_at_call 24; ((with_reducible refine (plain_92 _).mono ?_); rintro e w' ⟨rfl, rfl⟩))
        go_ret2
        exact PartP.mk HP.out (by decide) ⟨0, rfl⟩
  · have hn := Nm.list_nil s h0
    have HL := Lib.hid (show partL s.toList = (0, 0) by rw [hn]; rfl)
    go_enter Tryd.func41, Tryd.ntmps41
    go_wp2_with fail
    go_ret2
    exact PartP.mk HL.out (by decide) ⟨0, rfl⟩
end Go.Proofs.YtfhknnldkfngdaaDoor
