/- WALKS of bucket's New, Slot and of the reference's Slot; the page's examples; the law BucketSlots. -/
import Derived.Test.YtnejahfeafllkaaPa
namespace Go.Proofs.Ytnejahfeafllkaa
open Go.RowKit
set_option maxHeartbeats 400000 in
theorem bslot_no (s : ByteArray) (n : Int) (w : World) (h : may n = false) : Calls Try.prog 13 #[.string s, .int .i64 n] w fun e w' => e = .returned (.int .i64 0) ∧ w = w' := by
  have HR := fun W => Lib.hid (range_no n W h)
  clear h
  go_enter Try.func13, Try.ntmps13
  go_wp2_with (go_at_call 32; refine (HR _).out.mono ?_; rintro e w1 ⟨rfl, rfl⟩)
  go_ret
  exact ⟨by simp, rfl⟩
set_option maxHeartbeats 400000 in
theorem rslot_yes (s : ByteArray) (n : Int) (w : World) (hs : s.size ≤ maxLen) (h : may n = true) : Calls Try.prog 14 #[.string s, .int .i64 n] w fun e w' => e = .returned (.int .i64 (slotOf s n)) ∧ w = w' := by
  have hb := fnv_bd s.data.toList
  have hd := slot_bd s n h
  unfold slotOf at *
  have h1 : 1 ≤ n ∧ n ≤ 1024 := by simpa [may] using h
  have HF := fun W => Lib.hid (rof_any s W hs)
  generalize fnv s.data.toList = x at *
  obtain ⟨h1, h2⟩ := h1
  obtain ⟨hb1, hb2⟩ := hb
  obtain ⟨hd1, hd2⟩ := hd
  have h1b : decide (n < 1) = false := by simp; omega
  have h2b : decide (1024 < n) = false := by simp; omega
  clear h
  go_enter Try.func14, Try.ntmps14
  go_wp2_with (go_at_call 12; refine (HF _).out.mono ?_; rintro e w1 ⟨rfl, rfl⟩)
  go_ret
  exact ⟨by simp, rfl⟩
set_option maxHeartbeats 400000 in
theorem rslot_no (s : ByteArray) (n : Int) (w : World) (h : may n = false) : Calls Try.prog 14 #[.string s, .int .i64 n] w fun e w' => e = .returned (.int .i64 0) ∧ w = w' := by
  have h1 : n < 1 ∨ 1 ≤ n ∧ 1024 < n := by simp [may] at h; omega
  clear h
  rcases h1 with h1 | ⟨h1, h2⟩
  all_goals
    go_enter Try.func14, Try.ntmps14
    go_wp2
    go_ret
    exact ⟨by simp, rfl⟩
set_option maxHeartbeats 400000 in
theorem bnew_no (n : Int) (w : World) (h : may n = false) : Calls Try.prog 10 #[.int .i64 n] w fun e w' => e = .returned (.tuple #[.pointer none, .int .i64 1]) ∧ w = w' := by
  have HR := fun W => Lib.hid (range_no n W h)
  clear h
  go_enter Try.func10, Try.ntmps10
  go_wp2_with (go_at_call 32; refine (HR _).out.mono ?_; rintro e w1 ⟨rfl, rfl⟩)
  go_ret2
  exact ⟨by simp, rfl⟩
set_option maxHeartbeats 400000 in
theorem bnew_yes (n : Int) (w : World) (h : may n = true) : Calls Try.prog 10 #[.int .i64 n] w fun e w' => e = .returned (.tuple #[.pointer (some ⟨w.heap.size + 1, 0, none⟩), .int .i64 0]) ∧ Below w.heap.size w w' := by
  have HR := fun W => Lib.hid (range_yes n W h)
  have hmm := @run_makeMap Try.prog
  clear h
  go_enter Try.func10, Try.ntmps10
  go_wp2_with (go_at_call 32; refine (HR _).out.mono ?_; rintro e w1 ⟨rfl, rfl⟩)
  go_ret2
  exact ⟨by simp, ((Below.refl _ _).alloc (Nat.le_refl _) _).alloc (by simp) _⟩
theorem fnv_nil : fnv [] = 14695981039346656037 := by decide +kernel
theorem fnv_a : fnv [97] = 12638187200555641996 := by decide +kernel
set_option maxHeartbeats 400000 in
theorem bawake_any (w : World) : Calls Try.prog 9 #[] w fun e w' => e = .returned (.bool true) ∧ w = w' := by
  have H0 := fun w => Lib.hid (bof_any ⟨#[]⟩ w (by decide))
  have H1 := fun w => Lib.hid (bof_any ⟨#[97]⟩ w (by decide))
  rw [show (⟨#[]⟩ : ByteArray).data.toList = [] from rfl, fnv_nil] at H0
  rw [show (⟨#[97]⟩ : ByteArray).data.toList = [97] from rfl, fnv_a] at H1
  go_enter Try.func9, Try.ntmps9
  go_wp2_with (first
    | (go_at_call 11; (with_reducible refine (H0 _).out.mono ?_); rintro e w1 ⟨rfl, rfl⟩)
    | (go_at_call 11; (with_reducible refine (H1 _).out.mono ?_); rintro e w1 ⟨rfl, rfl⟩))
  go_ret
  exact ⟨by simp, rfl⟩
end Go.Proofs.Ytnejahfeafllkaa
