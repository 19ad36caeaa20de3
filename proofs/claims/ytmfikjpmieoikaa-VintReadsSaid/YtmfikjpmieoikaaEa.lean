/- WALKS of the reference's GetText; of the nil reader. -/
import Derived.Test.YtmfikjpmieoikaaDa
import Derived.Test.YtmfikjpmieoikaaV
import Derived.RegionTactic
namespace Go.Proofs.Ytmfikjpmieoikaa
open Go.RowKit
theorem nxtT_by (s : ByteArray) (p e : Nat) (g : Nat × Nat × Nat) : nxtT p e (textR s p g) =
    if (nxt p e g).2.2 ≠ 0 then (⟨#[]⟩, (nxt p e g).2.1, (nxt p e g).2.2) else if s.size - (nxt p e g).2.1 < (nxt p e g).1 then (⟨#[]⟩, p, 3) else (s.extract (nxt p e g).2.1 ((nxt p e g).2.1 + (nxt p e g).1), (nxt p e g).2.1 + (nxt p e g).1, 0) := by
  obtain ⟨a, b, c⟩ := g
  by_cases h0 : e = 0
  · subst h0
    by_cases ha : a = 0
    · subst ha
      rw [nxt_ok rfl, if_neg (by simp)]
      by_cases hb : s.size - (p + c) < b
      · rw [if_pos hb]
        have : textR s p (0, b, c) = (3, ⟨#[]⟩, 0) := by unfold textR; rw [if_neg (by simp), if_pos hb]
        rw [this, nxtT_no (by decide)]
      · rw [if_neg hb]
        have : textR s p (0, b, c) = (0, s.extract (p + c) (p + c + b), c + b) := by unfold textR; rw [if_neg (by simp), if_neg hb]
        rw [this, nxtT_ok rfl, Nat.add_assoc p c b]
    · rw [nxt_no ha, if_pos ha]
      have : textR s p (a, b, c) = (a, ⟨#[]⟩, 0) := by unfold textR; rw [if_pos ha]
      rw [this, nxtT_no ha]
  · rw [nxt_err h0, nxtT_err h0, if_pos h0]
theorem nxt_le {s : ByteArray} {p e most : Nat} {L : List UInt8} (hp : p ≤ s.size) (hl : L.length = s.size - p) : (nxt p e (mostR most L)).2.1 ≤ s.size ∧ (nxt p e (mostR most L)).1 < 18446744073709551616 := by
  by_cases h0 : e = 0
  · subst h0
    obtain ⟨⟨a, b, c⟩, hg⟩ : ∃ g, mostR most L = g := ⟨_, rfl⟩
    rw [hg]
    by_cases ha : a = 0
    · subst ha
      obtain ⟨g1, _⟩ := mostR_le hg
      obtain ⟨_, h64, hcl⟩ := gets_back g1
      rw [nxt_ok rfl]
      exact ⟨by show p + c ≤ s.size; omega, h64⟩
    · rw [nxt_no ha]; exact ⟨hp, by show 0 < 18446744073709551616; decide⟩
  · rw [nxt_err h0]; exact ⟨hp, by show 0 < 18446744073709551616; decide⟩
set_option maxRecDepth 100000 in
set_option maxHeartbeats 4000000 in
theorem rgettext_any (s : ByteArray) (p e : Nat) (m : Int) (L : List UInt8) (w : World) (hL : L = s.data.toList.drop p) (hp : p ≤ s.size) (hs : s.size ≤ 140737488355328) (hm : m ≤ 9223372036854775807) :
    Calls Try.prog 23 #[refR s p e, .int .i64 m] w (GetPost s (.string (nxtT p e (textR s p (mostR (mostOf m) L))).1) (nxtT p e (textR s p (mostR (mostOf m) L))).2.1 (nxtT p e (textR s p (mostR (mostOf m) L))).2.2 w) := by
  have HG := fun w => Lib.hid (rmost_any s p e (mostOf m) L w hL hp hs)
  obtain ⟨hle, h64⟩ := nxt_le (s := s) (p := p) (e := e) (most := mostOf m) (L := L) hp (by rw [hL]; simp)
  rw [nxtT_by]
  obtain ⟨⟨n, p1, e1⟩, hg⟩ : ∃ g, nxt p e (mostR (mostOf m) L) = g := ⟨_, rfl⟩
  rw [hg] at HG hle h64 ⊢
  have hle : p1 ≤ s.size := hle
  have h64 : n < 18446744073709551616 := h64
  unfold GetPost refR at HG
  unfold refR
  clear hg hL
  have hM : (m < 0 ∧ ((mostOf m : Nat) : Int) = 0) ∨ (¬ m < 0 ∧ ((mostOf m : Nat) : Int) = m) := by unfold mostOf; omega
  by_cases h1 : e1 ≠ 0
  · rw [if_pos (show (n, p1, e1).2.2 ≠ 0 from h1)]
    have h1i : ((e1 : Int) != 0) = true := by simp; exact h1
    clear h1
    rcases hM with ⟨hm0, hM⟩ | ⟨hm0, hM⟩
    all_goals
      rw [hM] at HG
      clear hM
      go_enter Try.func23, Try.ntmps23
      go_wp2_with (go_at_call 19; refine (HG _).out.mono ?_; rintro e w1 ⟨rfl, hB⟩; obtain ⟨hc, hf⟩ := bcell hB; have HB := Lib.hid hB; have hz : w.heap.size + 1 < w1.heap.size := (by have := hB.size; simp at this; omega); have hz0 : w.heap.size < w1.heap.size := (by omega); clear hB)
      exact bodyPost_ret (v := .tuple #[.agg #[.string s, .int .i64 p1, .int .i64 e1], .string ⟨#[]⟩]) (by simp [results, Try.results23, go_sem, hc, hz]) rfl ⟨rfl, below5 HB.out _ _ _⟩
  · obtain rfl : e1 = 0 := by omega
    rw [if_neg (show ¬ (n, p1, 0).2.2 ≠ 0 by simp)]
    by_cases h2 : s.size - p1 < n
    · rw [if_pos (show s.size - (n, p1, 0).2.1 < (n, p1, 0).1 from h2)]
      have h2i : (s.size : Int) - (p1 : Int) < (n : Int) := by omega
      have h2j : (0 : Int) ≤ (s.size : Int) - (p1 : Int) := by omega
      clear h2 h1
      rcases hM with ⟨hm0, hM⟩ | ⟨hm0, hM⟩
      all_goals
        rw [hM] at HG
        clear hM
        go_enter Try.func23, Try.ntmps23
        go_wp2_with (first
          | (go_at_call 19; refine (HG _).out.mono ?_; rintro e w1 ⟨rfl, hB⟩; obtain ⟨hc, hf⟩ := bcell hB; have HB := Lib.hid hB; have hz : w.heap.size + 1 < w1.heap.size := (by have := hB.size; simp at this; omega); have hz0 : w.heap.size < w1.heap.size := (by omega); clear hB)
          | (go_at_call 38; refine (fail_any _ _ _ _ _ _).mono ?_; rintro e w2 ⟨rfl, hB⟩; obtain ⟨hc2, hf2⟩ := bcell hB; have HB2 := Lib.hid hB; clear hB))
        exact bodyPost_ret (v := .tuple #[.agg #[.string s, .int .i64 p, .int .i64 3], .string ⟨#[]⟩]) (by simp [results, Try.results23, go_sem, hc, hc2, hz, hz0]) rfl ⟨rfl, below6 HB.out HB2.out _ _ _⟩
    · rw [if_neg (show ¬ s.size - (n, p1, 0).2.1 < (n, p1, 0).1 from h2)]
      have h2i : ¬ (s.size : Int) - (p1 : Int) < (n : Int) := by omega
      have h2j : (0 : Int) ≤ (s.size : Int) - (p1 : Int) := by omega
      have hn47 : (n : Int) ≤ 140737488355328 := by omega
      obtain ⟨z, hzz⟩ : ∃ z, z = p1 + n := ⟨_, rfl⟩
      have hz1 : (p1 : Int) + (n : Int) = (z : Int) := by omega
      have hz2 : (p1 : Int) ≤ (z : Int) := by omega
      have hz3 : (z : Int) ≤ (s.size : Int) := by omega
      have HZ := Lib.hid hzz
      clear h2 h1 hzz
      rcases hM with ⟨hm0, hM⟩ | ⟨hm0, hM⟩
      all_goals
        rw [hM] at HG
        clear hM
        go_enter Try.func23, Try.ntmps23
        go_wp2_with (go_at_call 19; refine (HG _).out.mono ?_; rintro e w1 ⟨rfl, hB⟩; obtain ⟨hc, hf⟩ := bcell hB; have HB := Lib.hid hB; have hz : w.heap.size + 1 < w1.heap.size := (by have := hB.size; simp at this; omega); have hz0 : w.heap.size < w1.heap.size := (by omega); clear hB)
        go_region
        all_goals go_wp2
        all_goals
          refine bodyPost_ret (v := .tuple #[.agg #[.string s, .int .i64 z, .int .i64 0], .string (s.extract p1 z)]) (by simp [results, Try.results23, go_sem, hc, hz]) rfl ⟨?_, (below5 HB.out _ _ _).drew⟩
          show Ending.returned _ = .returned (.tuple #[refR s (p1 + n) 0, .string (s.extract p1 (p1 + n))])
          rw [← HZ.out]; rfl
/-! ### the nil reader -/
set_option maxHeartbeats 400000 in
theorem take_nil (f : FuncId) (M : Int) (w : World) : Calls Try.prog 39 #[.pointer none, .func (.func f) #[.pointer none] #[], .int .u64 M] w fun en w' => en = .returned (.int .u64 0) ∧ w = w' := by
  go_enter Try.func39, Try.ntmps39
  go_wp2_with (go_at_call 25; refine (err_nil _).mono ?_; rintro e w1 ⟨rfl, rfl⟩)
  go_ret
  exact ⟨rfl, rfl⟩
set_option maxHeartbeats 400000 in
theorem takeT_nil (f : FuncId) (M : Int) (w : World) : Calls Try.prog 42 #[.pointer none, .func (.func f) #[.pointer none] #[], .int .u64 M] w fun en w' => en = .returned (.string ⟨#[]⟩) ∧ w = w' := by
  go_enter Try.func42, Try.ntmps42
  go_wp2_with (go_at_call 25; refine (err_nil _).mono ?_; rintro e w1 ⟨rfl, rfl⟩)
  go_ret
  exact ⟨rfl, rfl⟩
set_option maxHeartbeats 400000 in
theorem get_nil (w : World) : Calls Try.prog 18 #[.pointer none] w fun en w' => en = .returned (.int .u64 0) ∧ w = w' := by
  go_enter Try.func18, Try.ntmps18
  go_wp2_with (go_at_call 39; refine (take_nil _ _ _).mono ?_; rintro e w1 ⟨rfl, rfl⟩)
  go_ret
  exact ⟨rfl, rfl⟩
set_option maxHeartbeats 400000 in
theorem most_nil (M : Int) (w : World) : Calls Try.prog 20 #[.pointer none, .int .u64 M] w fun en w' => en = .returned (.int .u64 0) ∧ w = w' := by
  go_enter Try.func20, Try.ntmps20
  go_wp2_with (go_at_call 39; refine (take_nil _ _ _).mono ?_; rintro e w1 ⟨rfl, rfl⟩)
  go_ret
  exact ⟨rfl, rfl⟩
set_option maxHeartbeats 400000 in
theorem getint_nil (w : World) : Calls Try.prog 22 #[.pointer none] w fun en w' => en = .returned (.int .i64 0) ∧ w = w' := by
  have HS := fun w => Lib.hid (signed_any 0 w (by decide))
  go_enter Try.func22, Try.ntmps22
  go_wp2_with (first
    | (go_at_call 18; refine (get_nil _).mono ?_; rintro e w1 ⟨rfl, rfl⟩)
    | (go_at_call 41; refine (HS _).out.mono ?_; rintro e w2 ⟨rfl, rfl⟩))
  go_ret
  exact ⟨rfl, rfl⟩
set_option maxHeartbeats 400000 in
theorem gettext_nil (w : World) : Calls Try.prog 24 #[.pointer none, .int .i64 5] w fun en w' => en = .returned (.string ⟨#[]⟩) ∧ w = w' := by
  go_enter Try.func24, Try.ntmps24
  go_wp2_with (go_at_call 42; refine (takeT_nil _ _ _).mono ?_; rintro e w1 ⟨rfl, rfl⟩)
  go_ret
  exact ⟨rfl, rfl⟩
set_option maxHeartbeats 400000 in
theorem end_nil (w : World) : Calls Try.prog 27 #[.pointer none] w fun en w' => en = .returned (.int .i64 1) ∧ w = w' := by
  go_enter Try.func27, Try.ntmps27
  go_wp2_with (go_at_call 25; refine (err_nil _).mono ?_; rintro e w1 ⟨rfl, rfl⟩)
  go_ret
  exact ⟨rfl, rfl⟩
end Go.Proofs.Ytmfikjpmieoikaa
