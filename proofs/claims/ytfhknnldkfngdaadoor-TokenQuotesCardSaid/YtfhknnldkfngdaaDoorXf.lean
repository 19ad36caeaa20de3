/- WALK of the reference's Next: signs; Next whole. -/
import Derived.Test.YtfhknnldkfngdaaDoorXe
namespace Go.Proofs.YtfhknnldkfngdaaDoor
open Go.RowKit
theorem other_row {c : UInt8} (hd : dgB c = false) (hl : lwB c = false) (h : 97 ≤ (c.toNat : Int)) : nmB c = false := by
  have h1 := of_decide_eq_false hd
  have h2 := of_decide_eq_false hl
  exact decide_eq_false (by omega)
set_option maxRecDepth 100000 in
set_option maxHeartbeats 4000000 in
theorem rnext_sign (s : ByteArray) (p q : Nat) (w : World) (hs : s.size ≤ 140737488355328) (hp : p ≤ s.size) (hq : SkAt s false p q) (hlt : q < s.size) (hd : dgB s[q] = false) (hl : lwB s[q] = false) (h34 : ¬ (s[q].toNat : Int) = 34) : Calls Tryd.prog 8 #[.string s, .int .i64 (p : Int)] w (NxP (nextL s.toList p) w) := by
  have HQ := Lib.hid hq
  obtain ⟨X, hX⟩ : ∃ X, bs (signL (s.toList.drop q)) = X := ⟨_, rfl⟩
  have hXl : X.toList = signL (s.toList.drop q) := by rw [← hX, bs_list]
  have hf : firstL (s.toList.drop q) = if signL (s.toList.drop q) = [] then (20, ⟨0, 0, []⟩, 0) else (0, ⟨4, 0, signL (s.toList.drop q)⟩, (signL (s.toList.drop q)).length) := by
    rw [firstL_at hlt, if_neg (by rw [hd]; decide), if_neg (by rw [hl]; decide), if_neg h34]; rfl
  have hn := nextL_mid hq (by omega)
  rw [hf, ← hXl] at hn
  have HX := Lib.hid hX
  have HD := Lib.hid hd
  have HO := Lib.hid (other_row hd hl)
  have HR : Hid (Nm.rightL ByteArray.empty.toList = false) := Lib.hid (by rw [Lib.toList_data]; rfl)
  have HV : Hid (Nm.wordN ByteArray.empty.toList = 0) := Lib.hid (by rw [Lib.toList_data]; rfl)
  have hz : ByteArray.empty.size ≤ maxLen := by decide
  have hq34 : ((s[q].toNat : Int) == 34) = false := by simpa using h34
  have e1 : (q == s.size) = false := by simp; omega
  have e2 : ((q : Int) == (s.size : Int)) = false := by simp; omega
  have hXz : X.size ≤ 10000 := by
    rw [Nm.size_list, hXl]
    unfold signL
    cases h : signsL.find? fun w => w.isPrefixOf (s.toList.drop q) with
    | none => exact Nat.zero_le _
    | some x =>
      have h2 := List.mem_of_find?_eq_some h
      have h3 : ∀ x ∈ signsL, x.length ≤ 10000 := by decide
      exact h3 x h2
  clear hq hf hd hl h34 hX
  by_cases hX0 : X.toList = []
  case' pos =>
    rw [hX0] at hn
    replace hn : nextL s.toList p = (20, tok0, q) := hn
    obtain rfl : X = ⟨#[]⟩ := bs_ext (hX0.trans (bs_list []).symm)
    clear hX0 hXl
  case' neg =>
    rw [if_neg hX0] at hn
    replace hn : nextL s.toList p = (0, ⟨⟨4, 0, X.toList⟩, q⟩, q + X.toList.length) := hn
    rw [← Nm.size_list] at hn
    have hXe : X.toList.isEmpty = false := by cases h : X.toList; exact absurd h hX0; rfl
    clear hXl
  all_goals
    have HN := Lib.hid hn
    clear hn
    by_cases h97 : 97 ≤ (s[q].toNat : Int)
    case' pos => have HNM := Lib.hid (HO.out h97)
    case' neg => obtain ⟨bb, hbb⟩ : ∃ bb, nmB s[q] = bb := ⟨_, rfl⟩; have HNM := Lib.hid hbb; clear hbb; cases bb
  all_goals
    go_enter Tryd.func8, Tryd.ntmps8
    go_wp2_with (first | (go_at_call 16; ((with_reducible refine (rskip_as s p q _ hs hp HQ).mono ?_); rintro e w' ⟨rfl, rfl⟩)) | (go_at_call 18; ((with_reducible refine (rdigit_as _ _ _ HD).mono ?_); rintro e w' ⟨rfl, rfl⟩)))
    go_loop [7] (fun i => i = .int .i64 (q : Int)) (fun _ => 0)
    case atStart => rfl
    case round =>
      obtain rfl := hrel
      go_wp2_with (first | (go_at_call 20; ((with_reducible refine (rletter_as _ _ _ HNM).mono ?_); rintro e w' ⟨rfl, rfl⟩)) | (go_at_call 21; ((with_reducible refine (rnright_as _ _ _ hz HR).mono ?_); rintro e w' ⟨rfl, rfl⟩)) | (go_at_call 22; ((with_reducible refine (rnword_as _ _ _ HV).mono ?_); rintro e w' ⟨rfl, rfl⟩)) | (go_at_call 23; ((with_reducible refine (rsign_as s q _ _ hs hlt HX).mono ?_); rintro e w1 ⟨rfl, hb⟩; obtain ⟨hz, hf, c0, c1, c2, c3⟩ := (Tz.fresh w 28).later hb; have HB1 := Lib.hid (bl_step (bl_alloc (Below.refl w.heap.size w)) hb); clear hb)))
      first
        | (obtain ⟨k0, k1, k2, k3⟩ := set4 (.int .i64 4) (.int .i64 0) (.string X) (.int .i64 (q : Int)) c0 c1 c2 c3
           exact bodyPost_ret (v := .tuple #[.agg #[.int .i64 4, .int .i64 0, .string X, .int .i64 (q : Int)], .int .i64 ((q : Int) + (X.size : Int)), .int .i64 0]) (by simp [results, Tryd.results8, go_sem, k0, k1, k2, k3]) rfl ⟨by rw [HN.out]; dsimp only [Tok.v]; rw [bs_of]; rfl, bl_set4 HB1.out (Nat.le_refl _)⟩)
        | (obtain ⟨k0, k1, k2, k3⟩ := set4 (.int .i64 0) (.int .i64 0) (.string ⟨#[]⟩) (.int .i64 0) c0 c1 c2 c3
           exact bodyPost_ret (v := .tuple #[.agg #[.int .i64 0, .int .i64 0, .string ⟨#[]⟩, .int .i64 0], .int .i64 (q : Int), .int .i64 20]) (by simp [results, Tryd.results8, go_sem, k0, k1, k2, k3]) rfl ⟨by rw [HN.out]; rfl, bl_set4 HB1.out (Nat.le_refl _)⟩)
theorem rnext_any (s : ByteArray) (p : Nat) (w : World) (hs : s.size ≤ 140737488355328) (hp : p ≤ s.size) : Calls Tryd.prog 8 #[.string s, .int .i64 (p : Int)] w (NxP (nextL s.toList p) w) := by
  obtain ⟨q, hq⟩ : ∃ q, SkAt s false p q := ⟨_, skAt_of⟩
  obtain ⟨hpq, hqs⟩ := skAt_le hp hq
  by_cases he : q = s.size
  · exact rnext_end s p q w hs hp hq he
  · have hlt : q < s.size := by omega
    cases hd : dgB s[q]
    · cases hl : lwB s[q]
      · by_cases h34 : (s[q].toNat : Int) = 34
        · exact rnext_text s p q w hs hp hq hlt h34
        · exact rnext_sign s p q w hs hp hq hlt hd hl h34
      · exact rnext_word s p q w hs hp hq hlt hd hl
    · exact rnext_num s p q w hs hp hq hlt hd
set_option maxRecDepth 100000 in
set_option maxHeartbeats 1000000 in
theorem rnext_out (s : ByteArray) (a : Int) (w : World) (h : a < 0 ∨ (¬ a < 0 ∧ (s.size : Int) < a)) : Calls Tryd.prog 8 #[.string s, .int .i64 a] w (NxP (1, tok0, 0) w) := by
  rcases h with h | ⟨h, h2⟩
  all_goals
    go_enter Tryd.func8, Tryd.ntmps8
    go_wp2_with fail
    exact bodyPost_ret (v := .tuple #[.agg #[.int .i64 0, .int .i64 0, .string ⟨#[]⟩, .int .i64 0], .int .i64 0, .int .i64 1]) (by simp [results, Tryd.results8, go_sem]) rfl ⟨rfl, bl_alloc (Below.refl _ _)⟩
end Go.Proofs.YtfhknnldkfngdaaDoor
