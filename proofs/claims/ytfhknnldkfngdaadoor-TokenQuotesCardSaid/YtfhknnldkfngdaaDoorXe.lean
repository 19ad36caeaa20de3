/- WALK of the reference's Next: names, signs. -/
import Derived.Test.YtfhknnldkfngdaaDoorXd
namespace Go.Proofs.YtfhknnldkfngdaaDoor
open Go.RowKit
theorem sign_heads : ∀ j, j < 15 → ∃ x r, signsL.getD j [] = x :: r ∧ lwB x = false := fun j hj => by
  have h : ∀ j, j < 15 → ((signsL.getD j []).head?.map lwB) = some false := by decide
  have h2 := h j hj
  cases e : signsL.getD j [] with
  | nil => rw [e] at h2; exact absurd h2 (by decide)
  | cons x r =>
    rw [e] at h2
    exact ⟨x, r, rfl, by simpa using h2⟩
theorem sign_letter {c : UInt8} {l : List UInt8} (h : lwB c = true) : signL (c :: l) = [] := sign_none fun j hj => by
  obtain ⟨x, r, e, hx⟩ := sign_heads j hj
  rw [e]
  have : (x == c) = false := by
    cases hxc : x == c
    · rfl
    · have : x = c := by simpa using hxc
      subst this; rw [h] at hx; exact absurd hx (by decide)
  simp [List.isPrefixOf, this]
theorem rsign_as (s : ByteArray) (q : Nat) (X : ByteArray) (w : World) (hs : s.size ≤ 140737488355328) (hq : q < s.size) (hX : Hid (bs (signL (s.toList.drop q)) = X)) : Calls Tryd.prog 23 #[.string s, .int .i64 (q : Int)] w fun e w' => e = .returned (.string X) ∧ Below w.heap.size w w' := by
  refine (rsign_any s q w hs hq).mono ?_
  rintro e w' ⟨rfl, n, rfl⟩
  exact ⟨by rw [hX.out], bl_drewN _ _⟩
set_option maxRecDepth 100000 in
set_option maxHeartbeats 4000000 in
theorem rnext_word (s : ByteArray) (p q : Nat) (w : World) (hs : s.size ≤ 140737488355328) (hp : p ≤ s.size) (hq : SkAt s false p q) (hlt : q < s.size) (hd : dgB s[q] = false) (hl : lwB s[q] = true) : Calls Tryd.prog 8 #[.string s, .int .i64 (p : Int)] w (NxP (nextL s.toList p) w) := by
  have HQ := Lib.hid hq
  have hlo := of_decide_eq_true hl
  obtain ⟨hlo1, hlo2⟩ := hlo
  obtain ⟨m, hm⟩ : ∃ m, rowN nmB (s.toList.drop q) = m := ⟨_, rfl⟩
  have hnm : nmB s[q] = true := decide_eq_true (.inl ⟨hlo1, hlo2⟩)
  have hm0 : 0 < m := by rw [← hm, drop_at s q hlt, rowN_yes hnm]; omega
  have hm1 : q + m ≤ s.size := by have := rowN_le nmB (s.toList.drop q); rw [drop_len] at this; omega
  have HRW : Hid (RwAt s nmB q m q) := Lib.hid (by rw [← hm]; exact RwAt.first)
  obtain ⟨v, hv⟩ : ∃ v, Nm.wordN (s.extract q (q + m)).toList = v := ⟨_, rfl⟩
  obtain ⟨b, hb⟩ : ∃ b, Nm.rightL (s.extract q (q + m)).toList = b := ⟨_, rfl⟩
  have hv0 := Nm.wordN_nonneg (s.extract q (q + m)).toList
  rw [hv] at hv0
  have hf : firstL (s.toList.drop q) = if (b || decide (0 < v)) = true then (0, ⟨2, 0, (s.toList.drop q).take m⟩, m) else (20, ⟨0, 0, []⟩, 0) := by
    rw [firstL_at hlt, if_neg (by rw [hd]; decide), if_pos hl]; unfold wordL; rw [hm]; dsimp only; rw [← hv, ← hb, ext_cut]
  have hn := nextL_mid hq (by omega)
  rw [hf] at hn
  have HV := Lib.hid hv
  have HB := Lib.hid hb
  have HD := Lib.hid hd
  have HT : Hid (s.extract q (q + m) = bs ((s.toList.drop q).take m)) := Lib.hid (bs_ext (by rw [ext_cut, bs_list]))
  have HX : Hid (bs (signL (s.toList.drop q)) = ⟨#[]⟩) := Lib.hid (by rw [drop_at s q hlt, sign_letter hl]; rfl)
  have hz : (s.extract q (q + m)).size ≤ maxLen := by unfold maxLen; simp; omega
  have hq34 : ((s[q].toNat : Int) == 34) = false := by simp; omega
  have e1 : (q == s.size) = false := by simp; omega
  have e2 : ((q : Int) == (s.size : Int)) = false := by simp; omega
  clear hq hf hb hv hd hm hnm hl
  have hcase : b = true ∨ (b = false ∧ 0 < v) ∨ (b = false ∧ ¬ 0 < v) := by cases b <;> simp <;> omega
  rcases hcase with rfl | ⟨rfl, hv1⟩ | ⟨rfl, hv1⟩
  case' inl => replace hn : nextL s.toList p = (0, ⟨⟨2, 0, (s.toList.drop q).take m⟩, q⟩, q + m) := hn
  case' inr.inl => replace hn : nextL s.toList p = (0, ⟨⟨2, 0, (s.toList.drop q).take m⟩, q⟩, q + m) := by rw [hn, show (false || decide (0 < v)) = true by simpa using hv1]; rfl
  case' inr.inr => replace hn : nextL s.toList p = (20, tok0, q) := by rw [hn, show (false || decide (0 < v)) = false by simpa using hv1]; rfl
  all_goals
    have HN := Lib.hid hn
    clear hn
    go_enter Tryd.func8, Tryd.ntmps8
    go_wp2_with (first | (go_at_call 16; ((with_reducible refine (rskip_as s p q _ hs hp HQ).mono ?_); rintro e w' ⟨rfl, rfl⟩)) | (go_at_call 18; ((with_reducible refine (rdigit_as _ _ _ HD).mono ?_); rintro e w' ⟨rfl, rfl⟩)))
    go_loop [7] (fun i => ∃ k : Nat, k ≤ s.size ∧ i = .int .i64 k ∧ Hid (RwAt s nmB q m k)) (fun i => s.size - (intOf i).toNat)
    case atStart => exact ⟨q, by omega, rfl, HRW⟩
    case round =>
      obtain ⟨k, hk, rfl, hR⟩ := hrel
      by_cases hkl : k < s.size
      · cases hc : nmB s[k]
        · have HC := Lib.hid hc
          obtain rfl := hR.out.stop hkl hc
          clear hc
          have hne : ¬ (s.extract q (q + m)).toList = [] := Nm.list_ne _ (by simp; omega)
          have hne2 : (s.extract q (q + m)).toList.isEmpty = false := Nm.list_isE _ (by simp; omega)
          go_wp2_with (first | (go_at_call 20; ((with_reducible refine (rletter_as _ _ _ HC).mono ?_); rintro e w' ⟨rfl, rfl⟩)) | (go_at_call 21; ((with_reducible refine (rnright_as _ _ _ hz HB).mono ?_); rintro e w' ⟨rfl, rfl⟩)) | (go_at_call 22; ((with_reducible refine (rnword_as _ _ _ HV).mono ?_); rintro e w' ⟨rfl, rfl⟩)) | (go_at_call 23; ((with_reducible refine (rsign_as s q _ _ hs hlt HX).mono ?_); rintro e w1 ⟨rfl, hb⟩; obtain ⟨hz, hf, c0, c1, c2, c3⟩ := (Tz.fresh w 28).later hb; obtain ⟨k0, k1, k2, k3⟩ := set4 (.int .i64 0) (.int .i64 0) (.string ⟨#[]⟩) (.int .i64 0) c0 c1 c2 c3; have HB1 := Lib.hid (bl_step (bl_alloc (Below.refl w.heap.size w)) hb); clear hb)))
          first
            | exact bodyPost_ret (v := .tuple #[.agg #[.int .i64 2, .int .i64 0, .string (s.extract q (q + m)), .int .i64 (q : Int)], .int .i64 ((q + m : Nat) : Int), .int .i64 0]) (by simp [results, Tryd.results8, go_sem]) rfl ⟨by rw [HN.out, HT.out]; rfl, bl_alloc (Below.refl _ _)⟩
            | exact bodyPost_ret (v := .tuple #[.agg #[.int .i64 0, .int .i64 0, .string ⟨#[]⟩, .int .i64 0], .int .i64 (q : Int), .int .i64 20]) (by simp [results, Tryd.results8, go_sem, k0, k1, k2, k3]) rfl ⟨by rw [HN.out]; rfl, bl_set4 HB1.out (Nat.le_refl _)⟩
        · have HC := Lib.hid hc
          have HS := Lib.hid (hR.out.step hkl hc)
          clear hc
          go_wp2_with (go_at_call 20; ((with_reducible refine (rletter_as _ _ _ HC).mono ?_); rintro e w' ⟨rfl, rfl⟩))
          go_round
          case rel => exact ⟨k + 1, by omega, by go_num, HS⟩
          case measure => simp [intOf]; omega
      · obtain rfl := hR.out.end_ hkl
        have hne : ¬ (s.extract q (q + m)).toList = [] := Nm.list_ne _ (by simp; omega)
        have hne2 : (s.extract q (q + m)).toList.isEmpty = false := Nm.list_isE _ (by simp; omega)
        go_wp2_with (first | (go_at_call 21; ((with_reducible refine (rnright_as _ _ _ hz HB).mono ?_); rintro e w' ⟨rfl, rfl⟩)) | (go_at_call 22; ((with_reducible refine (rnword_as _ _ _ HV).mono ?_); rintro e w' ⟨rfl, rfl⟩)) | (go_at_call 23; ((with_reducible refine (rsign_as s q _ _ hs hlt HX).mono ?_); rintro e w1 ⟨rfl, hb⟩; obtain ⟨hz, hf, c0, c1, c2, c3⟩ := (Tz.fresh w 28).later hb; obtain ⟨k0, k1, k2, k3⟩ := set4 (.int .i64 0) (.int .i64 0) (.string ⟨#[]⟩) (.int .i64 0) c0 c1 c2 c3; have HB1 := Lib.hid (bl_step (bl_alloc (Below.refl w.heap.size w)) hb); clear hb)))
        first
          | exact bodyPost_ret (v := .tuple #[.agg #[.int .i64 2, .int .i64 0, .string (s.extract q (q + m)), .int .i64 (q : Int)], .int .i64 ((q + m : Nat) : Int), .int .i64 0]) (by simp [results, Tryd.results8, go_sem]) rfl ⟨by rw [HN.out, HT.out]; rfl, bl_alloc (Below.refl _ _)⟩
          | exact bodyPost_ret (v := .tuple #[.agg #[.int .i64 0, .int .i64 0, .string ⟨#[]⟩, .int .i64 0], .int .i64 (q : Int), .int .i64 20]) (by simp [results, Tryd.results8, go_sem, k0, k1, k2, k3]) rfl ⟨by rw [HN.out]; rfl, bl_set4 HB1.out (Nat.le_refl _)⟩
end Go.Proofs.YtfhknnldkfngdaaDoor
