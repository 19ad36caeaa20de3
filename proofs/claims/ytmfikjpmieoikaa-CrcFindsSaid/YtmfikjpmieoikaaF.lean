/- WALKS of the laws CrcSums and CrcSeals. -/
import Derived.Test.YtmfikjpmieoikaaE
namespace Go.Proofs.Ytmfikjpmieoikaa
open Go.RowKit
theorem of_three (p q r : ByteArray) (w : World) (n : Nat) (hp : p.size ≤ 140737488355328) (hq : q.size ≤ 140737488355328) (hr : r.size ≤ 140737488355328) (hn : n = sm (p.data.toList ++ q.data.toList ++ r.data.toList)) :
    Calls Try.prog 30 #[.slice (some ⟨w.heap.size, 0, none⟩) 3 3] (w.alloc (.cells #[.string p, .string q, .string r] 9)) fun e w' => e = .returned (.int .u32 (n : Int)) ∧ Below w.heap.size w w' := by
  have hS : StrRow (w.alloc (.cells #[.string p, .string q, .string r] 9)) (some ⟨w.heap.size, 0, none⟩) 3 [p, q, r] :=
    ⟨rfl, by decide, fun i x h => by
      match i, h with
      | 0, h => simp at h; subst h; exact hp
      | 1, h => simp at h; subst h; exact hq
      | 2, h => simp at h; subst h; exact hr, fun _ => ⟨w.heap.size, 0, rfl, by simp, fun i x h => by
      rw [cell_of_row _ _ _ _ 9 (0, 0) (heap_alloc_new w _)]
      match i, h with
      | 0, h => simp at h; subst h; rfl
      | 1, h => simp at h; subst h; rfl
      | 2, h => simp at h; subst h; rfl⟩⟩
  refine (of_row _ 3 3 _ _ hS).mono fun e w' ⟨he, hb⟩ => ⟨?_, ((Below.refl _ w).alloc (Nat.le_refl _) _).trans (hb.mono (by simp))⟩
  rw [he, hn]
  simp [flat]
theorem below_step {w a b : World} (h : Hid (Below w.heap.size w a)) (k : Below a.heap.size a b) : Hid (Below w.heap.size w b) := h.out.trans (k.mono h.out.size)
set_option maxHeartbeats 1000000 in
theorem sums_long (a b c : ByteArray) (w : World) (ha : a.size ≤ maxLen) (hb : b.size ≤ maxLen) (hc : c.size ≤ maxLen) (h : 200 < a.size ∨ 200 < b.size ∨ 200 < c.size) :
    Calls Try.prog 6 #[.string a, .string b, .string c] w fun e w' => e = .returned (.bool true) ∧ Below w.heap.size w w' := by
  unfold maxLen at ha hb hc
  by_cases h1 : 200 < a.size
  all_goals by_cases h2 : 200 < b.size
  all_goals by_cases h3 : 200 < c.size
  all_goals first
    | (exfalso; omega)
    | (go_enter Try.func6, Try.ntmps6
       go_wp2_with (go_at_call 29; refine (awake_any _).mono ?_; rintro e w' ⟨rfl, hB⟩)
       go_ret
       exact ⟨rfl, hB⟩)
set_option maxHeartbeats 2000000 in
theorem sums_short (a b c : ByteArray) (w : World) (ha : a.size ≤ 200) (hb : b.size ≤ 200) (hc : c.size ≤ 200) :
    Calls Try.prog 6 #[.string a, .string b, .string c] w fun e w' => e = .returned (.bool true) ∧ Below w.heap.size w w' := by
  obtain ⟨n, hn⟩ : ∃ n, n = sm (a.data.toList ++ b.data.toList ++ c.data.toList) := ⟨_, rfl⟩
  have H1 := fun w => Lib.hid (of_three a b c w n (by omega) (by omega) (by omega) hn)
  have hab : (a ++ b).size = a.size + b.size := by simp
  have H2 := fun w => Lib.hid (of_three (a ++ b) ⟨#[]⟩ c w n (by omega) (by decide) (by omega) (by rw [hn]; simp))
  have H3 := fun w => Lib.hid (rof_any (a ++ b ++ c) w (by simp; omega))
  have e3 : sm (a ++ b ++ c).data.toList = n := by rw [hn]; simp
  rw [e3] at H3
  clear hn e3
  go_enter Try.func6, Try.ntmps6
  go_wp2_with (first
    | (go_at_call 29; refine (awake_any _).mono ?_; rintro e w1 ⟨rfl, hB⟩; have HB1 := Lib.hid hB; have HZ1 := Lib.hid hB.size; clear hB)
    | (go_at_call 31; refine (H3 _).out.mono ?_; rintro e w9 ⟨rfl, rfl⟩)
    | (go_at_call 30; (with_reducible refine (H1 _).out.mono ?_); rintro e w2 ⟨rfl, hB⟩; have HB2 := Lib.hid hB; have HZ2 := Lib.hid hB.size; clear hB)
    | (go_at_call 30; (with_reducible refine (H2 _).out.mono ?_); rintro e w3 ⟨rfl, hB⟩; have HB3 := Lib.hid hB; have HZ3 := Lib.hid hB.size; clear hB))
  go_ret
  exact ⟨rfl, HB1.out.trans ((HB2.out.mono HZ1.out).trans (HB3.out.mono (Nat.le_trans HZ1.out HZ2.out)))⟩
theorem sums_walk (a b c : ByteArray) (w : World) (ha : a.size ≤ maxLen) (hb : b.size ≤ maxLen) (hc : c.size ≤ maxLen) :
    Calls Try.prog 6 #[.string a, .string b, .string c] w fun e w' => e = .returned (.bool true) ∧ Below w.heap.size w w' := by
  by_cases h : 200 < a.size ∨ 200 < b.size ∨ 200 < c.size
  · exact sums_long a b c w ha hb hc h
  · exact sums_short a b c w (by omega) (by omega) (by omega)

theorem opn_seal (s : ByteArray) : opn (s ++ markS s) = (s, 0) := by
  have hsz : (s ++ markS s).size = s.size + 4 := by rw [ByteArray.size_append, markS_size]
  have hf : frontS (s ++ markS s) = s := by
    unfold frontS
    rw [hsz, Nat.add_sub_cancel]
    apply ByteArray.ext
    simp
  have ht : tailS (s ++ markS s) = markS s := by
    unfold tailS
    rw [hsz, Nat.add_sub_cancel]
    apply ByteArray.ext
    apply Array.toList_inj.1
    have h4 : (markS s).data.toList.length = 4 := rfl
    rw [Lib.extract_data, ByteArray.data_append, Array.toList_append, List.drop_append_of_le_length (by simp), List.drop_of_length_le (by simp), List.nil_append, Nat.add_sub_cancel_left]
    exact List.take_of_length_le (Nat.le_of_eq h4)
  unfold opn
  rw [if_neg (by omega), hf, ht, if_pos rfl]
set_option maxHeartbeats 1000000 in
theorem seals_long (s : ByteArray) (w : World) (hs : s.size ≤ maxLen) (h : 400 < s.size) :
    Calls Try.prog 7 #[.string s] w fun e w' => e = .returned (.bool true) ∧ Below w.heap.size w w' := by
  unfold maxLen at hs
  go_enter Try.func7, Try.ntmps7
  go_wp2_with (go_at_call 29; refine (awake_any _).mono ?_; rintro e w' ⟨rfl, hB⟩)
  go_ret
  exact ⟨rfl, hB⟩
set_option maxHeartbeats 2000000 in
theorem seals_short (s : ByteArray) (w : World) (hs : s.size ≤ 400) :
    Calls Try.prog 7 #[.string s] w fun e w' => e = .returned (.bool true) ∧ Below w.heap.size w w' := by
  have H1 := fun w => Lib.hid (open_any s w (by omega))
  have H2 := fun w => Lib.hid (ropen_any s w (by omega))
  have H3 := fun w => Lib.hid (Seal_any s w (by omega))
  have H4 := fun w => Lib.hid (open_any (s ++ markS s) w (by rw [ByteArray.size_append, markS_size]; omega))
  have H5 := fun w => Lib.hid (mark_any s w (by omega))
  rw [opn_seal] at H4
  have hm := markS_size s
  generalize markS s = m at *
  generalize (opn s).1 = x at *
  generalize (opn s).2 = f at *
  have HB := Lib.hid (Below.refl w.heap.size w)
  go_enter Try.func7, Try.ntmps7
  go_wp2_with (first
    | (go_at_call 29; refine (awake_any _).mono ?_; rintro e w1 ⟨rfl, hB⟩; replace HB := below_step HB hB; clear hB)
    | (go_at_call 33; refine (H2 _).out.mono ?_; rintro e w1 ⟨rfl, hB⟩; replace HB := below_step HB hB; clear hB)
    | (go_at_call 34; refine (H3 _).out.mono ?_; rintro e w1 ⟨rfl, hB⟩; replace HB := below_step HB hB; clear hB)
    | (go_at_call 35; refine (H5 _).out.mono ?_; rintro e w1 ⟨rfl, hB⟩; replace HB := below_step HB hB; clear hB)
    | (go_at_call 32; (with_reducible refine (H1 _).out.mono ?_); rintro e w1 ⟨rfl, hB⟩; replace HB := below_step HB hB; clear hB)
    | (go_at_call 32; (with_reducible refine (H4 _).out.mono ?_); rintro e w1 ⟨rfl, hB⟩; replace HB := below_step HB hB; clear hB))
  go_ret
  exact ⟨rfl, HB.out⟩
theorem seals_walk (s : ByteArray) (w : World) (hs : s.size ≤ maxLen) :
    Calls Try.prog 7 #[.string s] w fun e w' => e = .returned (.bool true) ∧ Below w.heap.size w w' := by
  by_cases h : 400 < s.size
  · exact seals_long s w hs h
  · exact seals_short s w (by omega)
end Go.Proofs.Ytmfikjpmieoikaa
