/- WALKS of first, Next. -/
import Derived.Test.YtfhknnldkfngdaaDoorWi
import Derived.Test.YtfhknnldkfngdaaDoorMb
namespace Go.Proofs.YtfhknnldkfngdaaDoor
open Go.RowKit
theorem Tz.new (w : World) : Tz (w.alloc (.cells #[.int .i64 0, .int .i64 0, .string { data := #[] }, .int .i64 0] 24)) w.heap.size := ⟨by simp, fun _ => World.frozen?_alloc_new .., by simp, by simp, by simp, by simp⟩
/-- What a function answers that looks for a token, cell by cell. -/
theorem TkP.of {r : Int × Tk × Nat} {k n E : Int} {t : ByteArray} {z : Nat} {w : World} {e : Ending} {w' : World} (h : TkP r w e w') (hr : r = (E, ⟨k, n, t.toList⟩, z)) : e = .returned (.tuple #[.agg #[.int .i64 k, .int .i64 n, .string t, .int .i64 0], .int .i64 (z : Int), .int .i64 E]) ∧ Below w.heap.size w w' := by
  subst hr
  have := h.1
  rw [show bs t.toList = t from bs_of t] at this
  exact ⟨this, h.2⟩
set_option maxRecDepth 100000 in
set_option maxHeartbeats 2000000 in
theorem first_any (s : ByteArray) (k n E : Int) (t : ByteArray) (z : Nat) (w : World) (hE : Ent w) (hs : s.size ≤ 140737488355328) (h0 : 0 < s.size) (hr : firstL s.toList = (E, ⟨k, n, t.toList⟩, z)) :
    Calls Tryd.prog 15 #[.string s] w fun e w' => e = .returned (.tuple #[.agg #[.int .i64 k, .int .i64 n, .string t, .int .i64 0], .int .i64 (z : Int), .int .i64 E]) ∧ Below w.heap.size w w' := by
  have ed := drop_at s 0 h0
  rw [List.drop_zero, Nat.zero_add] at ed
  have hf : firstL s.toList = if dgB s[0] = true then numberL s.toList else if lwB s[0] = true then wordL s.toList else if (s[0].toNat : Int) = 34 then textL s.toList else signR s.toList := by
    conv => lhs; rw [ed]
    rw [firstL_cons, ← ed]
  rw [hf] at hr
  clear hf ed
  have HE := Lib.hid hE
  clear hE
  cases hd : dgB s[0]
  · rw [hd, if_neg (by decide)] at hr
    have HD := Lib.hid hd
    clear hd
    cases hl : lwB s[0]
    · rw [hl, if_neg (by decide)] at hr
      have HL := Lib.hid hl
      clear hl
      cases hq : ((s[0].toNat : Int) == 34)
      · rw [if_neg (by simpa using hq)] at hr
        have HC : Hid (∀ W, Below w.heap.size w W → Calls Tryd.prog 32 #[.string s] W fun e w' => e = .returned (.tuple #[.agg #[.int .i64 k, .int .i64 n, .string t, .int .i64 0], .int .i64 (z : Int), .int .i64 E]) ∧ Below W.heap.size W w') := Lib.hid (fun W hW => (sign_any s W (HE.out.below hW)).mono fun _ _ h => h.of hr)
        clear hr
        go_enter Tryd.func15, Tryd.ntmps15
        go_wp2_with (first | (go_at_call 27; ((with_reducible refine (isdigit_as _ _ _ HD).mono ?_); rintro e w' ⟨rfl, rfl⟩)) | (go_at_call 29; ((with_reducible refine (isletter_as _ _ _ HL).mono ?_); rintro e w' ⟨rfl, rfl⟩)) | (go_at_call 32; ((with_reducible refine (HC.out _ (bl_alloc (Below.refl _ _))).mono ?_); rintro e w1 ⟨rfl, hb⟩; obtain ⟨hz, hf, c0, c1, c2, c3⟩ := (Tz.new w).later hb; have HB := Lib.hid (bl_step (bl_alloc (Below.refl w.heap.size w)) hb); clear hb)))
        obtain ⟨k0, k1, k2, k3⟩ := set4 (.int .i64 k) (.int .i64 n) (.string t) (.int .i64 0) c0 c1 c2 c3
        exact bodyPost_ret (v := .tuple #[.agg #[.int .i64 k, .int .i64 n, .string t, .int .i64 0], .int .i64 (z : Int), .int .i64 E]) (by simp [results, Tryd.results15, go_sem, k0, k1, k2, k3]) rfl ⟨rfl, bl_set4 HB.out (Nat.le_refl _)⟩
      · rw [if_pos (by simpa using hq)] at hr
        have HC : Hid (∀ W, Below w.heap.size w W → Calls Tryd.prog 31 #[.string s] W fun e w' => e = .returned (.tuple #[.agg #[.int .i64 k, .int .i64 n, .string t, .int .i64 0], .int .i64 (z : Int), .int .i64 E]) ∧ Below W.heap.size W w') := Lib.hid (fun W hW => (text_any s W hs h0).mono fun _ _ h => h.of hr)
        clear hr
        go_enter Tryd.func15, Tryd.ntmps15
        go_wp2_with (first | (go_at_call 27; ((with_reducible refine (isdigit_as _ _ _ HD).mono ?_); rintro e w' ⟨rfl, rfl⟩)) | (go_at_call 29; ((with_reducible refine (isletter_as _ _ _ HL).mono ?_); rintro e w' ⟨rfl, rfl⟩)) | (go_at_call 31; ((with_reducible refine (HC.out _ (bl_alloc (Below.refl _ _))).mono ?_); rintro e w1 ⟨rfl, hb⟩; obtain ⟨hz, hf, c0, c1, c2, c3⟩ := (Tz.new w).later hb; have HB := Lib.hid (bl_step (bl_alloc (Below.refl w.heap.size w)) hb); clear hb)))
        obtain ⟨k0, k1, k2, k3⟩ := set4 (.int .i64 k) (.int .i64 n) (.string t) (.int .i64 0) c0 c1 c2 c3
        exact bodyPost_ret (v := .tuple #[.agg #[.int .i64 k, .int .i64 n, .string t, .int .i64 0], .int .i64 (z : Int), .int .i64 E]) (by simp [results, Tryd.results15, go_sem, k0, k1, k2, k3]) rfl ⟨rfl, bl_set4 HB.out (Nat.le_refl _)⟩
    · rw [hl, if_pos rfl] at hr
      have HL := Lib.hid hl
      clear hl
      have HC : Hid (∀ W, Below w.heap.size w W → Calls Tryd.prog 30 #[.string s] W fun e w' => e = .returned (.tuple #[.agg #[.int .i64 k, .int .i64 n, .string t, .int .i64 0], .int .i64 (z : Int), .int .i64 E]) ∧ Below W.heap.size W w') := Lib.hid (fun W hW => (word_any s W (HE.out.below hW) hs).mono fun _ _ h => h.of hr)
      clear hr
      go_enter Tryd.func15, Tryd.ntmps15
      go_wp2_with (first | (go_at_call 27; ((with_reducible refine (isdigit_as _ _ _ HD).mono ?_); rintro e w' ⟨rfl, rfl⟩)) | (go_at_call 29; ((with_reducible refine (isletter_as _ _ _ HL).mono ?_); rintro e w' ⟨rfl, rfl⟩)) | (go_at_call 30; ((with_reducible refine (HC.out _ (bl_alloc (Below.refl _ _))).mono ?_); rintro e w1 ⟨rfl, hb⟩; obtain ⟨hz, hf, c0, c1, c2, c3⟩ := (Tz.new w).later hb; have HB := Lib.hid (bl_step (bl_alloc (Below.refl w.heap.size w)) hb); clear hb)))
      obtain ⟨k0, k1, k2, k3⟩ := set4 (.int .i64 k) (.int .i64 n) (.string t) (.int .i64 0) c0 c1 c2 c3
      exact bodyPost_ret (v := .tuple #[.agg #[.int .i64 k, .int .i64 n, .string t, .int .i64 0], .int .i64 (z : Int), .int .i64 E]) (by simp [results, Tryd.results15, go_sem, k0, k1, k2, k3]) rfl ⟨rfl, bl_set4 HB.out (Nat.le_refl _)⟩
  · rw [hd, if_pos rfl] at hr
    have HC : Hid (∀ W, Below w.heap.size w W → Calls Tryd.prog 28 #[.string s] W fun e w' => e = .returned (.tuple #[.agg #[.int .i64 k, .int .i64 n, .string t, .int .i64 0], .int .i64 (z : Int), .int .i64 E]) ∧ Below W.heap.size W w') := Lib.hid (fun W hW => (number_any s W hs h0 hd).mono fun _ _ h => h.of hr)
    have HD := Lib.hid hd
    clear hr hd
    go_enter Tryd.func15, Tryd.ntmps15
    go_wp2_with (first | (go_at_call 27; ((with_reducible refine (isdigit_as _ _ _ HD).mono ?_); rintro e w' ⟨rfl, rfl⟩)) | (go_at_call 28; ((with_reducible refine (HC.out _ (bl_alloc (Below.refl _ _))).mono ?_); rintro e w1 ⟨rfl, hb⟩; obtain ⟨hz, hf, c0, c1, c2, c3⟩ := (Tz.new w).later hb; have HB := Lib.hid (bl_step (bl_alloc (Below.refl w.heap.size w)) hb); clear hb)))
    obtain ⟨k0, k1, k2, k3⟩ := set4 (.int .i64 k) (.int .i64 n) (.string t) (.int .i64 0) c0 c1 c2 c3
    exact bodyPost_ret (v := .tuple #[.agg #[.int .i64 k, .int .i64 n, .string t, .int .i64 0], .int .i64 (z : Int), .int .i64 E]) (by simp [results, Tryd.results15, go_sem, k0, k1, k2, k3]) rfl ⟨rfl, bl_set4 HB.out (Nat.le_refl _)⟩
end Go.Proofs.YtfhknnldkfngdaaDoor
