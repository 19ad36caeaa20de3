/- The law BucketSlots. -/
import Derived.Test.YtnejahfeafllkaaPb
namespace Go.Proofs.Ytnejahfeafllkaa
open Go.RowKit
set_option maxHeartbeats 400000 in
theorem slots_walk (s : ByteArray) (n : Int) (w : World) (hs : s.size ≤ maxLen) : Calls Try.prog 3 #[.string s, .int .i64 n] w fun e w' => e = .returned (.bool true) ∧ Below w.heap.size w w' := by
  have hs2 := hs
  unfold maxLen at hs2
  have HA := fun W => Lib.hid (bawake_any W)
  by_cases hl : 400 < s.size
  · have hli : (400 : Int) < (s.size : Int) := by omega
    clear hs
    go_enter Try.func3, Try.ntmps3
    go_wp2_with (go_at_call 9; refine (HA _).out.mono ?_; rintro e w1 ⟨rfl, rfl⟩)
    go_ret
    exact ⟨by simp, Below.refl _ _⟩
  · have hli : ¬ (400 : Int) < (s.size : Int) := by omega
    have HB := fun W => Lib.hid (bof_any s W hs)
    have HR := fun W => Lib.hid (rof_any s W hs)
    cases hm : may n
    · have HN := fun W => Lib.hid (bnew_no n W hm)
      have HS := fun W => Lib.hid (bslot_no s n W hm)
      have HT := fun W => Lib.hid (rslot_no s n W hm)
      have h1 : n < 1 ∨ 1 ≤ n ∧ 1024 < n := by simp [may] at hm; omega
      clear hm hl hs
      rcases h1 with h1 | ⟨h1, h2⟩
      all_goals
        go_enter Try.func3, Try.ntmps3
        go_wp2_with (first
          | (go_at_call 10; refine (HN _).out.mono ?_; rintro e w1 ⟨rfl, rfl⟩)
          | (go_at_call 9; refine (HA _).out.mono ?_; rintro e w1 ⟨rfl, rfl⟩)
          | (go_at_call 11; refine (HB _).out.mono ?_; rintro e w1 ⟨rfl, rfl⟩)
          | (go_at_call 12; refine (HR _).out.mono ?_; rintro e w1 ⟨rfl, rfl⟩)
          | (go_at_call 13; refine (HS _).out.mono ?_; rintro e w1 ⟨rfl, rfl⟩)
          | (go_at_call 14; refine (HT _).out.mono ?_; rintro e w1 ⟨rfl, rfl⟩))
        go_ret
        exact ⟨by simp <;> omega, Below.refl _ _⟩
    · have HN := fun W => Lib.hid (bnew_yes n W hm)
      have HS := fun W => Lib.hid (bslot_yes s n W hs hm)
      have HT := fun W => Lib.hid (rslot_yes s n W hs hm)
      have h1 : 1 ≤ n ∧ n ≤ 1024 := by simpa [may] using hm
      obtain ⟨h1, h2⟩ := h1
      clear hm hl hs
      go_enter Try.func3, Try.ntmps3
      go_wp2_with (first
        | (go_at_call 10; refine (HN _).out.mono ?_; rintro e w1 ⟨rfl, hb⟩; have HZ := Lib.hid hb; clear hb)
        | (go_at_call 9; refine (HA _).out.mono ?_; rintro e w2 ⟨rfl, rfl⟩)
        | (go_at_call 11; refine (HB _).out.mono ?_; rintro e w2 ⟨rfl, rfl⟩)
        | (go_at_call 12; refine (HR _).out.mono ?_; rintro e w2 ⟨rfl, rfl⟩)
        | (go_at_call 13; refine (HS _).out.mono ?_; rintro e w2 ⟨rfl, rfl⟩)
        | (go_at_call 14; refine (HT _).out.mono ?_; rintro e w2 ⟨rfl, rfl⟩))
      go_ret
      exact ⟨by simp, HZ.out⟩
end Go.Proofs.Ytnejahfeafllkaa
