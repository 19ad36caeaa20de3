/- WALKS of bucket.Of, Slot, New, inRange and of the reference's Of, Slot: the number of a text, its bucket. -/
import Derived.Test.YtnejahfeafllkaaProg
import Derived.WalkKit
import Derived.Lib.Hide
import Derived.Below
import Derived.RowKit3
import Derived.Outline
import Derived.Laws.BitsAllLaws
namespace Go.Proofs.Ytnejahfeafllkaa
open Go.RowKit
theorem ret_int {k : IntKind} {a b : Int} (h : a = b) : Ending.returned (.int k a) = .returned (.int k b) := by rw [h]
/-- One byte's step. -/
def fs (x : Int) (c : Nat) : Int := IntKind.u64.wrap (bits .xor .u64 x (IntKind.u64.wrap (c : Int)) * 1099511628211)
/-- A text's number. -/
def fnv (L : List UInt8) : Int := L.foldl (fun x c => fs x c.toNat) 14695981039346656037
theorem fs_bd (x : Int) (c : Nat) : 0 ≤ fs x c ∧ fs x c ≤ 18446744073709551615 := by
  unfold fs; generalize bits .xor .u64 x (IntKind.u64.wrap (c : Int)) * 1099511628211 = y; rw [IntKind.wrap_u64]; omega
theorem fnv_snoc (L : List UInt8) (c : UInt8) : fnv (L ++ [c]) = fs (fnv L) c.toNat := by simp [fnv]
theorem fnv_bd (L : List UInt8) : 0 ≤ fnv L ∧ fnv L ≤ 18446744073709551615 := by
  rcases List.eq_nil_or_concat L with rfl | ⟨L', c, rfl⟩
  · exact ⟨by decide, by decide⟩
  · rw [List.concat_eq_append, fnv_snoc]; exact fs_bd _ _
theorem take_at (s : ByteArray) (i : Nat) (h : i < s.size) : s.data.toList.take (i + 1) = s.data.toList.take i ++ [s[i]] := by
  have hl : i < s.data.toList.length := by simpa using h
  rw [List.take_succ_eq_append_getElem hl]; rfl
set_option maxHeartbeats 400000 in
theorem bof_any (s : ByteArray) (w : World) (hs : s.size ≤ maxLen) : Calls Try.prog 11 #[.string s] w fun e w' => e = .returned (.int .u64 (fnv s.data.toList)) ∧ w = w' := by
  unfold maxLen at hs
  go_enter Try.func11, Try.ntmps11
  go_wp2
  go_loop [3, 7] (fun x j => ∃ (i : Nat) (m : Int), i ≤ s.size ∧ j = .int .i64 i ∧ x = .int .u64 m ∧ m = fnv (s.data.toList.take i)) (fun _ j => s.size - (intOf j).toNat)
  case atStart => exact ⟨0, _, by omega, rfl, rfl, rfl⟩
  case round =>
    obtain ⟨i, m, hi, rfl, rfl, hm⟩ := hrel
    have HM := Lib.hid hm
    clear hm
    by_cases hli : i < s.size
    · have HI := Lib.hid (fnv_snoc (s.data.toList.take i) s[i])
      rw [← take_at s i hli] at HI
      go_wp2
      go_round
      case rel => exact ⟨i + 1, _, by omega, by go_num, rfl, by rw [HI.out, ← HM.out, fs]⟩
      case measure => simp [intOf]; omega
    · obtain rfl : i = s.size := by omega
      go_wp2
      go_ret
      exact ⟨ret_int (by rw [HM.out, List.take_of_length_le (by simp)]), rfl⟩
set_option maxHeartbeats 400000 in
theorem rof_any (s : ByteArray) (w : World) (hs : s.size ≤ maxLen) : Calls Try.prog 12 #[.string s] w fun e w' => e = .returned (.int .u64 (fnv s.data.toList)) ∧ w = w' := by
  unfold maxLen at hs
  go_enter Try.func12, Try.ntmps12
  go_wp2
  go_loop [3, 4] (fun x j => ∃ (i : Nat) (m : Int), i ≤ s.size ∧ j = .int .i64 i ∧ x = .int .u64 m ∧ m = fnv (s.data.toList.take i)) (fun _ j => s.size - (intOf j).toNat)
  case atStart => exact ⟨0, _, by omega, rfl, rfl, rfl⟩
  case round =>
    obtain ⟨i, m, hi, rfl, rfl, hm⟩ := hrel
    have HM := Lib.hid hm
    clear hm
    by_cases hli : i < s.size
    · have HI := Lib.hid (fnv_snoc (s.data.toList.take i) s[i])
      rw [← take_at s i hli] at HI
      go_wp2
      go_round
      case rel => exact ⟨i + 1, _, by omega, by go_num, rfl, by rw [HI.out, ← HM.out, fs]⟩
      case measure => simp [intOf]; omega
    · obtain rfl : i = s.size := by omega
      go_wp2
      go_ret
      exact ⟨ret_int (by rw [HM.out, List.take_of_length_le (by simp)]), rfl⟩
/-- May there be so many? -/
def may (n : Int) : Bool := decide (1 ≤ n) && decide (n ≤ 1024)
set_option maxHeartbeats 400000 in
theorem range_yes (n : Int) (w : World) (h : may n = true) : Calls Try.prog 32 #[.int .i64 n] w fun e w' => e = .returned (.bool true) ∧ w = w' := by
  have h1 : 1 ≤ n ∧ n ≤ 1024 := by simpa [may] using h
  obtain ⟨h1, h2⟩ := h1
  clear h
  go_enter Try.func32, Try.ntmps32
  go_wp2
  go_ret
  exact ⟨by simp, rfl⟩
set_option maxHeartbeats 400000 in
theorem range_no (n : Int) (w : World) (h : may n = false) : Calls Try.prog 32 #[.int .i64 n] w fun e w' => e = .returned (.bool false) ∧ w = w' := by
  have h1 : n < 1 ∨ 1 ≤ n ∧ 1024 < n := by simp [may] at h; omega
  clear h
  rcases h1 with h1 | ⟨h1, h2⟩
  all_goals
    go_enter Try.func32, Try.ntmps32
    go_wp2
    go_ret
    exact ⟨by simp <;> omega, rfl⟩
def slotOf (s : ByteArray) (n : Int) : Int := fnv s.data.toList % n
theorem slot_bd (s : ByteArray) (n : Int) (h : may n = true) : 0 ≤ slotOf s n ∧ slotOf s n < n := by
  have h1 : 1 ≤ n ∧ n ≤ 1024 := by simpa [may] using h
  unfold slotOf; exact ⟨Int.emod_nonneg _ (by omega), Int.emod_lt_of_pos _ (by omega)⟩
set_option maxHeartbeats 400000 in
theorem bslot_yes (s : ByteArray) (n : Int) (w : World) (hs : s.size ≤ maxLen) (h : may n = true) : Calls Try.prog 13 #[.string s, .int .i64 n] w fun e w' => e = .returned (.int .i64 (slotOf s n)) ∧ w = w' := by
  have hb := fnv_bd s.data.toList
  have hd := slot_bd s n h
  unfold slotOf at *
  have h1 : 1 ≤ n ∧ n ≤ 1024 := by simpa [may] using h
  have HF := fun W => Lib.hid (bof_any s W hs)
  generalize fnv s.data.toList = x at *
  obtain ⟨h1, h2⟩ := h1
  obtain ⟨hb1, hb2⟩ := hb
  obtain ⟨hd1, hd2⟩ := hd
  have HR := fun W => Lib.hid (range_yes n W h)
  clear h
  go_enter Try.func13, Try.ntmps13
  go_wp2_with (first
    | (go_at_call 32; refine (HR _).out.mono ?_; rintro e w1 ⟨rfl, rfl⟩)
    | (go_at_call 11; refine (HF _).out.mono ?_; rintro e w1 ⟨rfl, rfl⟩))
  go_ret
  exact ⟨by simp, rfl⟩
end Go.Proofs.Ytnejahfeafllkaa
