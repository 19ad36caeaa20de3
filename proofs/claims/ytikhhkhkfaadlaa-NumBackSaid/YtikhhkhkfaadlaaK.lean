/- WALK of treillagelaw01.NumBack. -/
import Derived.Test.YtikhhkhkfaadlaaV
import Derived.Test.YtikhhkhkfaadlaaW
namespace Go.Proofs.Ytikhhkhkfaadlaa
open Go.RowKit

theorem read_is (s : ByteArray) (x y : Int) (w : World) (hs : s.size ≤ maxLen) (hx : Hid (readV (negS s) (trimS s).data.toList = x)) (hy : Hid (readE (negS s) (trimS s).data.toList = y)) : Calls Try.prog 17 #[.string s] w fun e w' => e = .returned (.tuple #[.int .i64 x, .int .i64 y]) ∧ w = w' := by
  rw [← hx.out, ← hy.out]; exact read_any s w hs
theorem text_is (n : Int) (t : ByteArray) (w : World) (lo : -9223372036854775808 ≤ n) (hi : n ≤ 9223372036854775807) (ht : Hid (textS n = t)) : Calls Try.prog 19 #[.int .i64 n] w fun e w' => e = .returned (.string t) ∧ Below w.heap.size w w' := by
  rw [← ht.out]; exact text_any n w lo hi
theorem add_is (a b x y : Int) (w : World) (hx : Hid (addV a b = x)) (hy : Hid (addE a b = y)) : Calls Try.prog 7 #[.int .i64 a, .int .i64 b] w fun e w' => e = .returned (.tuple #[.int .i64 x, .int .i64 y]) ∧ w = w' := by
  rw [← hx.out, ← hy.out]; exact add_any a b w
theorem sub_as (a b x y : Int) (w : World) (hx : Hid (subV a b = x)) (hy : Hid (subE a b = y)) : Calls Try.prog 11 #[.int .i64 a, .int .i64 b] w fun e w' => e = .returned (.tuple #[.int .i64 x, .int .i64 y]) ∧ w = w' := by
  rw [← hx.out, ← hy.out]; exact sub_any a b w

set_option maxHeartbeats 1000000 in
theorem back_long (n m : Int) (s : ByteArray) (w : World) (hs : s.size ≤ maxLen) (h : 60 < s.size) : Calls Try.prog 6 #[.int .i64 n, .int .i64 m, .string s] w fun e w' => e = .returned (.bool true) ∧ Below w.heap.size w w' := by
  unfold maxLen at hs
  go_enter Try.func6, Try.ntmps6
  go_wp2_with (go_at_call 14; refine (awake_any _).mono ?_; rintro e w' ⟨rfl, hB⟩)
  go_ret
  exact ⟨rfl, hB⟩

/-- The facts of one call, by name: what is written and read again (x, e); what s is read as (y, f), and its text; the sum and the difference. -/
structure BackFacts (n m : Int) (s t u : ByteArray) (x e y f p g q h : Int) : Prop where
  ht : textS n = t
  hx : readV (negS t) (trimS t).data.toList = x
  he : readE (negS t) (trimS t).data.toList = e
  hy : readV (negS s) (trimS s).data.toList = y
  hf : readE (negS s) (trimS s).data.toList = f
  hu : textS y = u
  hp : addV n m = p
  hg : addE n m = g
  hq : subV p m = q
  hh : subE p m = h
theorem backFacts (n m : Int) (s : ByteArray) : ∃ t u x e y f p g q h, BackFacts n m s t u x e y f p g q h := ⟨_, _, _, _, _, _, _, _, _, _, rfl, rfl, rfl, rfl, rfl, rfl, rfl, rfl, rfl, rfl⟩

set_option maxHeartbeats 4000000 in
theorem back_short (n m : Int) (s : ByteArray) (w : World) (lo : -9223372036854775808 ≤ n) (hi : n ≤ 9223372036854775807) (h : ¬ 60 < s.size) : Calls Try.prog 6 #[.int .i64 n, .int .i64 m, .string s] w fun e w' => e = .returned (.bool true) ∧ Below w.heap.size w w' := by
  obtain ⟨t, u, x, e, y, f, p, g, q, hsub, F⟩ := backFacts n m s
  have hts := textS_size n (by omega)
  rw [F.ht] at hts
  have HT := Lib.hid F.ht
  have HX := Lib.hid F.hx
  have HE := Lib.hid F.he
  have HY := Lib.hid F.hy
  have HF := Lib.hid F.hf
  have HU := Lib.hid F.hu
  have HP := Lib.hid F.hp
  have HG := Lib.hid F.hg
  have HQ := Lib.hid F.hq
  have HH := Lib.hid F.hh
  have ht := fun w => Lib.hid (text_is n t w lo hi HT)
  have c1 : (inB n = true ∧ x = n ∧ e = 0) ∨ (inB n = false ∧ e = 25) := by
    have := text_back n
    rw [F.ht, F.hx, F.he] at this; exact this
  have c2 : (f = 0 ∧ u = s ∧ inB y = true) ∨ (f == 0) = false := by
    by_cases hf : f = 0
    · left
      have := read_back s (by rw [F.hf]; exact hf)
      rw [F.hy, F.hu] at this
      exact ⟨hf, this⟩
    · right; simpa using hf
  have c3 : (g = 0 ∧ hsub = 0 ∧ q = n) ∨ (g != 0) = true := by
    by_cases hg : g = 0
    · left
      have := sum_less n m (by rw [F.hg]; exact hg)
      rw [F.hp, F.hq, F.hh] at this
      exact ⟨hg, this⟩
    · right; simpa using hg
  clear F lo hi
  rcases c1 with ⟨i1, rfl, rfl⟩ | ⟨i1, rfl⟩ <;> rcases c2 with ⟨rfl, rfl, i2⟩ | i2 <;> rcases c3 with ⟨rfl, rfl, i3⟩ | i3
  all_goals
    go_enter Try.func6, Try.ntmps6
    go_wp2_with (first
      | (go_at_call 14; refine (awake_any _).mono ?_; rintro e w1 ⟨rfl, hB1⟩)
      | (go_at_call 13; refine (rin_any _ _).mono ?_; rintro e w' ⟨rfl, rfl⟩)
      | (go_at_call 17; (with_reducible refine (read_is _ _ _ _ (by unfold maxLen; omega) HX HE).mono ?_); rintro e w' ⟨rfl, rfl⟩)
      | (go_at_call 17; (with_reducible refine (read_is _ _ _ _ (by unfold maxLen; omega) HY HF).mono ?_); rintro e w' ⟨rfl, rfl⟩)
      | (go_at_call 19; (with_reducible refine (ht _).out.mono ?_); rintro e w2 ⟨rfl, hB2⟩)
      | (go_at_call 19; (with_reducible refine (text_is y u _ (by have := inB_yes i2; omega) (by have := inB_yes i2; omega) HU).mono ?_); rintro e w3 ⟨rfl, hB3⟩)
      | (go_at_call 7; refine (add_is _ _ _ _ _ HP HG).mono ?_; rintro e w' ⟨rfl, rfl⟩)
      | (go_at_call 11; refine (sub_as _ _ _ _ _ HQ HH).mono ?_; rintro e w' ⟨rfl, rfl⟩))
    go_ret
    refine ⟨rfl, ?_⟩
    first
      | exact (hB2.trans (hB3.mono hB2.size)).trans (hB1.mono (Nat.le_trans hB2.size hB3.size))
      | exact hB2.trans (hB1.mono hB2.size)
theorem back_walk (n m : Int) (s : ByteArray) (w : World) (lo : -9223372036854775808 ≤ n) (hi : n ≤ 9223372036854775807) (hs : s.size ≤ maxLen) : Calls Try.prog 6 #[.int .i64 n, .int .i64 m, .string s] w fun e w' => e = .returned (.bool true) ∧ Below w.heap.size w w' := by
  by_cases h : 60 < s.size
  · exact back_long n m s w hs h
  · exact back_short n m s w lo hi h
end Go.Proofs.Ytikhhkhkfaadlaa
