/- WALKS of number, word, first, Next. -/
import Derived.Test.YtfhknnldkfngdaaDoorWh
namespace Go.Proofs.YtfhknnldkfngdaaDoor
open Go.RowKit
theorem dgB_head {c : UInt8} (h : dgB c = true) : ¬ (c.toNat : Int) = 45 := by have := of_decide_eq_true h; omega
/-- The digits at the front, as a text of their own. -/
theorem front_pos {s : ByteArray} (h0 : 0 < s.size) (hd : dgB s[0] = true) : 0 < rowN dgB s.toList ∧ rowN dgB s.toList ≤ s.size := by
  have h1 := rowN_le dgB s.toList
  rw [← Nm.size_list] at h1
  have e := drop_at s 0 h0
  rw [List.drop_zero] at e
  rw [e, rowN_yes hd] at h1 ⊢; omega
theorem negS_no {s t : ByteArray} (h0 : 0 < s.size) (hd : dgB s[0] = true) (m : Nat) (hm : 0 < m) (ht : t = bs (s.toList.take m)) : Nu.negS t = false := by
  subst ht
  have e := drop_at s 0 h0
  rw [List.drop_zero] at e
  unfold Nu.negS
  rw [← Lib.toList_data, bs_list, e]
  cases m
  · omega
  · simp only [List.take_succ_cons, List.head?_cons]
    have := dgB_head hd
    simp
    intro q; rw [q] at this; exact this rfl
theorem read_front (t : ByteArray) (D : List UInt8) (V E : Int) (w : World) (ht : Hid (t = bs D)) (hn : Hid (Nu.negS t = false)) (hs : t.size ≤ maxLen) (hV : Hid (Nu.readV false D = V)) (hE : Hid (Nu.readE false D = E)) : Calls Tryd.prog 35 #[.string t] w fun e w' => e = .returned (.tuple #[.int .i64 V, .int .i64 E]) ∧ w = w' := by
  have h := Nu.read_any t w hs
  rw [Nu.trim_pos hn.out, hn.out, ht.out, ← Lib.toList_data, bs_list, hV.out, hE.out] at h
  rw [ht.out]; exact h
theorem row_digit_as (s : ByteArray) (m : Nat) (w : World) (hs : s.size ≤ 140737488355328) (hm : Hid (rowN dgB s.toList = m)) : Calls Tryd.prog 25 #[.string s, .func (.func 27) #[] #[]] w fun e w' => e = .returned (.int .i64 (m : Nat)) ∧ w = w' := by rw [← hm.out]; exact row_digit s w hs
theorem row_name_as (s : ByteArray) (m : Nat) (w : World) (hs : s.size ≤ 140737488355328) (hm : Hid (rowN nmB s.toList = m)) : Calls Tryd.prog 25 #[.string s, .func (.func 36) #[] #[]] w fun e w' => e = .returned (.int .i64 (m : Nat)) ∧ w = w' := by rw [← hm.out]; exact row_name s w hs
set_option maxRecDepth 100000 in
set_option maxHeartbeats 2000000 in
theorem number_any (s : ByteArray) (w : World) (hs : s.size ≤ 140737488355328) (h0 : 0 < s.size) (hd : dgB s[0] = true) : Calls Tryd.prog 28 #[.string s] w (TkP (numberL s.toList) w) := by
  obtain ⟨m0, m1⟩ := front_pos h0 hd
  obtain ⟨m, hm⟩ : ∃ m, rowN dgB s.toList = m := ⟨_, rfl⟩
  rw [hm] at m0 m1
  have HM := Lib.hid hm
  have HT := Lib.hid (ext_front s m)
  have HN := Lib.hid (negS_no h0 hd m m0 (ext_front s m))
  obtain ⟨V, hV⟩ : ∃ V, Nu.readV false (s.toList.take m) = V := ⟨_, rfl⟩
  obtain ⟨E, hE⟩ : ∃ E, Nu.readE false (s.toList.take m) = E := ⟨_, rfl⟩
  have HL : Hid (numberL s.toList = (if E = 2 then 20 else E, ⟨1, V, []⟩, m)) := Lib.hid (by unfold numberL; rw [hm]; dsimp only; rw [hV, hE])
  have HV := Lib.hid hV
  have HE := Lib.hid hE
  have hz : (s.extract 0 m).size ≤ maxLen := by unfold maxLen; simp; omega
  clear hV hE hm hd
  cases h2 : (E == 2)
  · have H2 := Lib.hid (show ¬ E = 2 by simpa using h2)
    go_enter Tryd.func28, Tryd.ntmps28
    go_wp2_with (first | (go_at_call 25; ((with_reducible refine (row_digit_as s m _ hs HM).mono ?_); rintro e w' ⟨rfl, rfl⟩)) | (go_at_call 35; ((with_reducible refine (read_front _ _ V E _ HT HN hz HV HE).mono ?_); rintro e w' ⟨rfl, rfl⟩)))
    refine bodyPost_ret (v := .tuple #[.agg #[.int .i64 1, .int .i64 V, .string ⟨#[]⟩, .int .i64 0], .int .i64 (m : Int), .int .i64 E]) (by simp [results, Tryd.results28, go_sem]) rfl ⟨by rw [HL.out, if_neg H2.out]; rfl, ?_⟩
    exact bl_alloc (Below.refl _ _)
  · obtain rfl : E = 2 := by simpa using h2
    clear h2
    replace HL := Lib.hid (show numberL s.toList = (20, ⟨1, V, []⟩, m) by rw [HL.out]; rfl)
    go_enter Tryd.func28, Tryd.ntmps28
    go_wp2_with (first | (go_at_call 25; ((with_reducible refine (row_digit_as s m _ hs HM).mono ?_); rintro e w' ⟨rfl, rfl⟩)) | (go_at_call 35; ((with_reducible refine (read_front _ _ V 2 _ HT HN hz HV HE).mono ?_); rintro e w' ⟨rfl, rfl⟩)))
    refine bodyPost_ret (v := .tuple #[.agg #[.int .i64 1, .int .i64 V, .string ⟨#[]⟩, .int .i64 0], .int .i64 (m : Int), .int .i64 20]) (by simp [results, Tryd.results28, go_sem]) rfl ⟨by rw [HL.out]; rfl, ?_⟩
    exact bl_alloc (Below.refl _ _)
theorem clone_any (s : ByteArray) (w : World) (hs : s.size ≤ 140737488355328) : Calls Tryd.prog 39 #[.string s] w fun e w' => e = .returned (.string s) ∧ Below w.heap.size w w' := by
  go_enter Tryd.func39, Tryd.ntmps39
  go_wp2_with (go_at_call 48; refine (Tryd.stringslite_Clone _ _ (by omega)).mono ?_; rintro e w1 ⟨rfl, hB⟩; have HB := Lib.hid hB; clear hB)
  go_ret
  exact ⟨rfl, HB.out⟩
theorem nright_as (t : ByteArray) (b : Bool) (w : World) (hE : Nm.Env w) (hs : t.size ≤ maxLen) (hb : Hid (Nm.rightL t.toList = b)) : Calls Tryd.prog 37 #[.string t] w fun e w' => e = .returned (.bool b) ∧ Below w.heap.size w w' := by rw [← hb.out]; exact Nm.right_any t w hE hs
theorem nword_as (t : ByteArray) (v : Int) (w : World) (hE : Nm.Env w) (hb : Hid (Nm.wordN t.toList = v)) : Calls Tryd.prog 38 #[.string t] w fun e w' => e = .returned (.int .i64 v) ∧ w = w' := by rw [← hb.out]; exact Nm.word_any t w hE
set_option maxRecDepth 100000 in
set_option maxHeartbeats 2000000 in
theorem word_any (s : ByteArray) (w : World) (hE : Ent w) (hs : s.size ≤ 140737488355328) : Calls Tryd.prog 30 #[.string s] w (TkP (wordL s.toList) w) := by
  obtain ⟨m, hm⟩ : ∃ m, rowN nmB s.toList = m := ⟨_, rfl⟩
  have hmle := rowN_le nmB s.toList
  rw [← Nm.size_list, hm] at hmle
  have HM := Lib.hid hm
  have hz : (s.extract 0 m).size ≤ maxLen := by unfold maxLen; simp; omega
  have hz2 : (s.extract 0 m).size ≤ 140737488355328 := by simp; omega
  obtain ⟨v, hv⟩ : ∃ v, Nm.wordN (s.extract 0 m).toList = v := ⟨_, rfl⟩
  obtain ⟨b, hb⟩ : ∃ b, Nm.rightL (s.extract 0 m).toList = b := ⟨_, rfl⟩
  have hv0 := Nm.wordN_nonneg (s.extract 0 m).toList
  rw [hv] at hv0
  have HL : Hid (wordL s.toList = if (b || decide (0 < v)) = true then (0, ⟨2, 0, s.toList.take m⟩, m) else (20, ⟨0, 0, []⟩, 0)) := Lib.hid (by
    unfold wordL; rw [hm]; dsimp only
    rw [← hv, ← hb, ext_front, bs_list])
  have HT := Lib.hid (ext_front s m)
  have HV := Lib.hid hv
  have HB := Lib.hid hb
  have HE := Lib.hid hE
  clear hm hv hb hE
  cases b
  · by_cases hv1 : v = 0
    · subst hv1
      go_enter Tryd.func30, Tryd.ntmps30
      go_wp2_with (first | (go_at_call 25; ((with_reducible refine (row_name_as s m _ hs HM).mono ?_); rintro e w' ⟨rfl, rfl⟩)) | (go_at_call 37; ((with_reducible refine (nright_as _ _ _ (HE.out.nm.below (bl_alloc (Below.refl _ _))) hz HB).mono ?_); rintro e w1 ⟨rfl, hb⟩; have HZ := Lib.hid (show Tz w1 w.heap.size from Tz.later ⟨by simp, fun _ => World.frozen?_alloc_new .., by simp, by simp, by simp, by simp⟩ hb); have HB1 := Lib.hid (bl_step (bl_alloc (Below.refl w.heap.size w)) hb); clear hb)) | (go_at_call 38; ((with_reducible refine (nword_as _ 0 _ (HE.out.nm.below HB1.out) HV).mono ?_); rintro e w' ⟨rfl, rfl⟩; obtain ⟨hz, hf, c0, c1, c2, c3⟩ := HZ.out)))
      obtain ⟨k0, k1, k2, k3⟩ := set4 (.int .i64 0) (.int .i64 0) (.string ⟨#[]⟩) (.int .i64 0) c0 c1 c2 c3
      refine bodyPost_ret (v := .tuple #[.agg #[.int .i64 0, .int .i64 0, .string ⟨#[]⟩, .int .i64 0], .int .i64 0, .int .i64 20]) (by simp [results, Tryd.results30, go_sem, k0, k1, k2, k3]) rfl ⟨by rw [HL.out]; rfl, bl_set4 HB1.out (Nat.le_refl _)⟩
    · have hv2 : (v == 0) = false := by simpa using hv1
      have HD := Lib.hid (show (false || decide (0 < v)) = true by simp; omega)
      go_enter Tryd.func30, Tryd.ntmps30
      go_wp2_with (first | (go_at_call 25; ((with_reducible refine (row_name_as s m _ hs HM).mono ?_); rintro e w' ⟨rfl, rfl⟩)) | (go_at_call 37; ((with_reducible refine (nright_as _ _ _ (HE.out.nm.below (bl_alloc (Below.refl _ _))) hz HB).mono ?_); rintro e w1 ⟨rfl, hb⟩; have HZ := Lib.hid (show Tz w1 w.heap.size from Tz.later ⟨by simp, fun _ => World.frozen?_alloc_new .., by simp, by simp, by simp, by simp⟩ hb); have HB1 := Lib.hid (bl_step (bl_alloc (Below.refl w.heap.size w)) hb); clear hb)) | (go_at_call 38; ((with_reducible refine (nword_as _ v _ (HE.out.nm.below HB1.out) HV).mono ?_); rintro e w' ⟨rfl, rfl⟩)) | (go_at_call 39; ((with_reducible refine (clone_any _ _ hz2).mono ?_); rintro e w2 ⟨rfl, hb⟩; obtain ⟨hz, hf, c0, c1, c2, c3⟩ := HZ.out.later hb; have HB2 := Lib.hid (bl_step HB1.out hb); clear hb)))
      obtain ⟨k0, k1, k2, k3⟩ := set4 (.int .i64 2) (.int .i64 0) (.string (s.extract 0 m)) (.int .i64 0) c0 c1 c2 c3
      refine bodyPost_ret (v := .tuple #[.agg #[.int .i64 2, .int .i64 0, .string (s.extract 0 m), .int .i64 0], .int .i64 (m : Int), .int .i64 0]) (by simp [results, Tryd.results30, go_sem, k0, k1, k2, k3]) rfl ⟨by rw [HL.out, if_pos HD.out, HT.out], bl_set4 HB2.out (Nat.le_refl _)⟩
  · replace HL := Lib.hid (show wordL s.toList = (0, ⟨2, 0, s.toList.take m⟩, m) by rw [HL.out]; rfl)
    go_enter Tryd.func30, Tryd.ntmps30
    go_wp2_with (first | (go_at_call 25; ((with_reducible refine (row_name_as s m _ hs HM).mono ?_); rintro e w' ⟨rfl, rfl⟩)) | (go_at_call 37; ((with_reducible refine (nright_as _ _ _ (HE.out.nm.below (bl_alloc (Below.refl _ _))) hz HB).mono ?_); rintro e w1 ⟨rfl, hb⟩; have HZ := Lib.hid (show Tz w1 w.heap.size from Tz.later ⟨by simp, fun _ => World.frozen?_alloc_new .., by simp, by simp, by simp, by simp⟩ hb); have HB1 := Lib.hid (bl_step (bl_alloc (Below.refl w.heap.size w)) hb); clear hb)) | (go_at_call 39; ((with_reducible refine (clone_any _ _ hz2).mono ?_); rintro e w2 ⟨rfl, hb⟩; obtain ⟨hz, hf, c0, c1, c2, c3⟩ := HZ.out.later hb; have HB2 := Lib.hid (bl_step HB1.out hb); clear hb)))
    obtain ⟨k0, k1, k2, k3⟩ := set4 (.int .i64 2) (.int .i64 0) (.string (s.extract 0 m)) (.int .i64 0) c0 c1 c2 c3
    refine bodyPost_ret (v := .tuple #[.agg #[.int .i64 2, .int .i64 0, .string (s.extract 0 m), .int .i64 0], .int .i64 (m : Int), .int .i64 0]) (by simp [results, Tryd.results30, go_sem, k0, k1, k2, k3]) rfl ⟨by rw [HL.out, HT.out], bl_set4 HB2.out (Nat.le_refl _)⟩
end Go.Proofs.YtfhknnldkfngdaaDoor
