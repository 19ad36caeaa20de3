/- WALKS of the bytes' questions, of row. -/
import Derived.Test.YtfhknnldkfngdaaDoorMa
import Derived.Test.YtfhknnldkfngdaaDoorNb
import Derived.Shelf.Abstract
namespace Go.Proofs.YtfhknnldkfngdaaDoor
open Go.RowKit
open Nm (ret_bool ret_int ret_str)

set_option maxHeartbeats 400000 in
theorem isdigit_any (c : UInt8) (w : World) : Calls Tryd.prog 27 #[.int .u8 (c.toNat : Int)] w fun e w' => e = .returned (.bool (dgB c)) ∧ w = w' := by
  by_cases h1 : 48 ≤ (c.toNat : Int) <;> by_cases h2 : (c.toNat : Int) ≤ 57
  all_goals
    go_enter Tryd.func27, Tryd.ntmps27
    go_wp2
    go_ret
    exact ⟨ret_bool (by simp [dgB]; omega), rfl⟩
set_option maxHeartbeats 400000 in
theorem rdigit_any (c : UInt8) (w : World) : Calls Tryd.prog 18 #[.int .u8 (c.toNat : Int)] w fun e w' => e = .returned (.bool (dgB c)) ∧ w = w' := by
  by_cases h1 : 48 ≤ (c.toNat : Int) <;> by_cases h2 : (c.toNat : Int) ≤ 57
  all_goals
    go_enter Tryd.func18, Tryd.ntmps18
    go_wp2
    go_ret
    exact ⟨ret_bool (by simp [dgB]; omega), rfl⟩
set_option maxHeartbeats 400000 in
theorem isletter_any (c : UInt8) (w : World) : Calls Tryd.prog 29 #[.int .u8 (c.toNat : Int)] w fun e w' => e = .returned (.bool (lwB c)) ∧ w = w' := by
  by_cases h1 : 97 ≤ (c.toNat : Int) <;> by_cases h2 : (c.toNat : Int) ≤ 122
  all_goals
    go_enter Tryd.func29, Tryd.ntmps29
    go_wp2
    go_ret
    exact ⟨ret_bool (by simp [lwB]; omega), rfl⟩
set_option maxHeartbeats 400000 in
theorem plain_any (c : UInt8) (w : World) : Calls Tryd.prog 24 #[.int .u8 (c.toNat : Int)] w fun e w' => e = .returned (.bool (plB c)) ∧ w = w' := by
  by_cases h1 : 32 ≤ (c.toNat : Int) <;> by_cases h2 : (c.toNat : Int) ≤ 126
  all_goals
    go_enter Tryd.func24, Tryd.ntmps24
    go_wp2
    go_ret
    exact ⟨ret_bool (by simp [plB]; omega), rfl⟩
set_option maxHeartbeats 400000 in
theorem inremark_any (c : UInt8) (w : World) : Calls Tryd.prog 26 #[.int .u8 (c.toNat : Int)] w fun e w' => e = .returned (.bool (rmB c)) ∧ w = w' := by
  cases h : ((c.toNat : Int) != 10)
  all_goals
    have H := Lib.hid h
    go_enter Tryd.func26, Tryd.ntmps26
    go_wp2
    go_ret
    refine ⟨ret_bool ?_, rfl⟩
    have h5 := H.out
    simp at h5
    unfold rmB
    first
      | exact (decide_eq_true (by omega)).symm
      | exact (decide_eq_false (by omega)).symm
theorem isletter_as (c : UInt8) (b : Bool) (w : World) (h : Hid (lwB c = b)) : Calls Tryd.prog 29 #[.int .u8 (c.toNat : Int)] w fun e w' => e = .returned (.bool b) ∧ w = w' := by rw [← h.out]; exact isletter_any c w
theorem isdigit_as (c : UInt8) (b : Bool) (w : World) (h : Hid (dgB c = b)) : Calls Tryd.prog 27 #[.int .u8 (c.toNat : Int)] w fun e w' => e = .returned (.bool b) ∧ w = w' := by rw [← h.out]; exact isdigit_any c w
theorem rdigit_as (c : UInt8) (b : Bool) (w : World) (h : Hid (dgB c = b)) : Calls Tryd.prog 18 #[.int .u8 (c.toNat : Int)] w fun e w' => e = .returned (.bool b) ∧ w = w' := by rw [← h.out]; exact rdigit_any c w
theorem nmB_cases (c : UInt8) : nmB c = (lwB c || (dgB c || decide ((c.toNat : Int) = 95))) := by
  unfold nmB lwB dgB
  rw [Bool.eq_iff_iff]
  simp
set_option maxHeartbeats 400000 in
theorem inname_any (c : UInt8) (w : World) : Calls Tryd.prog 36 #[.int .u8 (c.toNat : Int)] w fun e w' => e = .returned (.bool (nmB c)) ∧ w = w' := by
  have HN := Lib.hid (nmB_cases c)
  cases h1 : lwB c <;> cases h2 : dgB c <;> cases h3 : ((c.toNat : Int) == 95)
  all_goals
    have H1 := Lib.hid h1
    have H2 := Lib.hid h2
    have H3 := Lib.hid h3
    clear h1 h2
    go_enter Tryd.func36, Tryd.ntmps36
    go_wp2_with (first | (go_at_call 29; refine (isletter_as _ _ _ H1).mono ?_; rintro e w' ⟨rfl, rfl⟩) | (go_at_call 27; refine (isdigit_as _ _ _ H2).mono ?_; rintro e w' ⟨rfl, rfl⟩))
    go_ret
    refine ⟨ret_bool ?_, rfl⟩
    rw [HN.out, H1.out, H2.out]
    have h5 := H3.out
    simp at h5
    simp [h5]
set_option maxHeartbeats 400000 in
theorem rletter_any (c : UInt8) (w : World) : Calls Tryd.prog 20 #[.int .u8 (c.toNat : Int)] w fun e w' => e = .returned (.bool (nmB c)) ∧ w = w' := by
  by_cases h0 : 97 ≤ (c.toNat : Int) <;> by_cases h1 : (c.toNat : Int) ≤ 122 <;> cases h2 : dgB c <;> cases h3 : ((c.toNat : Int) == 95)
  all_goals
    have H2 := Lib.hid h2
    have H3 := Lib.hid h3
    clear h2
    go_enter Tryd.func20, Tryd.ntmps20
    go_wp2_with (go_at_call 18; refine (rdigit_as _ _ _ H2).mono ?_; rintro e w' ⟨rfl, rfl⟩)
    go_ret
    refine ⟨ret_bool ?_, rfl⟩
    rw [nmB_cases, H2.out]
    have h5 := H3.out
    simp at h5
    simp [h5, lwB]; try omega

theorem rowN_eq {p : UInt8 → Bool} {s : ByteArray} {k : Nat} (hk : k < s.size) (h : p s[k] = true) (he : k + rowN p (s.toList.drop k) = rowN p s.toList) : k + 1 + rowN p (s.toList.drop (k + 1)) = rowN p s.toList := by
  rw [drop_at s k hk, rowN_yes h] at he; omega
theorem rowN_stop {p : UInt8 → Bool} {s : ByteArray} {k : Nat} (hk : k < s.size) (h : p s[k] = false) (he : k + rowN p (s.toList.drop k) = rowN p s.toList) : (k : Int) = rowN p s.toList := by
  rw [drop_at s k hk, rowN_no h] at he; omega
theorem rowN_end {p : UInt8 → Bool} {s : ByteArray} {k : Nat} (hk : ¬ k < s.size) (hk2 : k ≤ s.size) (he : k + rowN p (s.toList.drop k) = rowN p s.toList) : (s.size : Int) = rowN p s.toList := by
  rw [drop_end s k hk] at he; simp only [rowN] at he; omega
set_option maxHeartbeats 1000000 in
theorem row_any (g : Nat) (p : UInt8 → Bool) (eg : ∀ args w, (callFunc g args).run Tryd.prog w = .ok (.enter g args) w) (ask : ∀ (c : UInt8) (w : World), Calls Tryd.prog g #[.int .u8 (c.toNat : Int)] w fun e w' => e = .returned (.bool (p c)) ∧ w = w')
    (s : ByteArray) (w : World) (hs : s.size ≤ 140737488355328) : Calls Tryd.prog 25 #[.string s, .func (.func g) #[] #[]] w fun e w' => e = .returned (.int .i64 (rowN p s.toList : Nat)) ∧ w = w' := by
  have HA := Lib.hid ask
  clear ask
  go_enter Tryd.func25, Tryd.ntmps25
  go_wp2
  go_loop [5, 8] (fun _ i => ∃ k : Nat, k ≤ s.size ∧ i = .int .i64 k ∧ Hid (k + rowN p (s.toList.drop k) = rowN p s.toList)) (fun _ i => s.size - (intOf i).toNat)
  case atStart => exact ⟨0, by omega, rfl, by rw [List.drop_zero, Nat.zero_add]; exact rfl⟩
  case round =>
    obtain ⟨k, hk, rfl, hR⟩ := hrel
    by_cases hlt : k < s.size
    · have HC : Hid (∀ w, Calls Tryd.prog g #[.int .u8 (s[k].toNat : Int)] w fun e w' => e = .returned (.bool (p s[k])) ∧ w = w') := fun w => HA.out s[k] w
      obtain ⟨q, hq⟩ : ∃ q, p s[k] = q := ⟨_, rfl⟩
      rw [hq] at HC
      have HQ := Lib.hid hq
      clear hq
      cases q
      · go_wp2_with (go_at_fn g; refine (HC.out _).mono ?_; rintro e w' ⟨rfl, rfl⟩)
        go_ret
        exact ⟨ret_int (rowN_stop hlt HQ.out hR.out), rfl⟩
      · go_wp2_with (go_at_fn g; refine (HC.out _).mono ?_; rintro e w' ⟨rfl, rfl⟩)
        go_round
        case rel => exact ⟨k + 1, by omega, by go_num, rowN_eq hlt HQ.out hR.out⟩
        case measure => simp [intOf]; omega
    · go_wp2
      go_ret
      exact ⟨ret_int (rowN_end hlt hk hR.out), rfl⟩
theorem row_remark (s : ByteArray) (w : World) (hs : s.size ≤ 140737488355328) : Calls Tryd.prog 25 #[.string s, .func (.func 26) #[] #[]] w fun e w' => e = .returned (.int .i64 (rowN rmB s.toList : Nat)) ∧ w = w' :=
  row_any 26 rmB (fun _ _ => by kernel_rfl) inremark_any s w hs
theorem row_digit (s : ByteArray) (w : World) (hs : s.size ≤ 140737488355328) : Calls Tryd.prog 25 #[.string s, .func (.func 27) #[] #[]] w fun e w' => e = .returned (.int .i64 (rowN dgB s.toList : Nat)) ∧ w = w' :=
  row_any 27 dgB (fun _ _ => by kernel_rfl) isdigit_any s w hs
theorem row_name (s : ByteArray) (w : World) (hs : s.size ≤ 140737488355328) : Calls Tryd.prog 25 #[.string s, .func (.func 36) #[] #[]] w fun e w' => e = .returned (.int .i64 (rowN nmB s.toList : Nat)) ∧ w = w' :=
  row_any 36 nmB (fun _ _ => by kernel_rfl) inname_any s w hs
end Go.Proofs.YtfhknnldkfngdaaDoor
