/- WALK of TokenQuotes. -/
import Derived.Test.YtfhknnldkfngdaaDoorYc
import Derived.Test.YtfhknnldkfngdaaDoorXj
namespace Go.Proofs.YtfhknnldkfngdaaDoor
open Go.RowKit
def wholeS (g : Nat) (s : ByteArray) : ByteArray := bs (frontL g) ++ bs (quoteL s.toList) ++ ⟨#[35]⟩ ++ bs (frontL g)
theorem whole_list (g : Nat) (s : ByteArray) : (wholeS g s).toList = wholeL g s.toList := by
  unfold wholeS wholeL
  rw [show (⟨#[35]⟩ : ByteArray) = bs [35] from rfl, bs2, bs2, bs2]
  exact bs_list _
theorem quote_le (s : ByteArray) : (quoteL s.toList).length ≤ 4 * s.size + 2 := by
  have := flat_le s.toList
  rw [← Nm.size_list] at this
  unfold quoteL; simp only [List.length_cons, List.length_append, List.length_nil]; omega
theorem front_le : ∀ g, (frontL g).length ≤ 4 := fun g => by unfold frontL; exact Nat.le_trans (List.length_take_le' _ _) (by decide)
theorem whole_le {g : Nat} {s : ByteArray} (hs : s.size ≤ 300) : (wholeS g s).size ≤ 4096 := by
  have h := congrArg List.length (whole_list g s)
  rw [← Nm.size_list] at h
  have h1 := quote_le s
  have h2 := front_le g
  rw [h]; unfold wholeL; simp only [List.length_cons, List.length_append, List.length_nil]; omega
theorem lex_long (g : Nat) (s : ByteArray) (w : World) (hE : Hid (Ent w)) (hg : g < 5) (hs : s.size ≤ 300) (hl : 256 < s.size) : Calls Tryd.prog 10 #[.string (wholeS g s)] w fun e w' => ∃ a cap, e = .returned (.tuple #[.slice a 0 cap, .int .i64 ((frontL g).length : Int), .int .i64 4]) ∧ Below w.heap.size w w' := by
  refine (lex_any _ w hE.out (whole_le hs)).mono ?_
  rintro e w' ⟨a, n, cap, hn, rfl, -, hB⟩
  rw [whole_list, lex_q g _ hg, if_pos (by rw [← Nm.size_list]; exact hl)] at hn ⊢
  subst hn
  exact ⟨a, cap, rfl, hB⟩
theorem lex_short (g : Nat) (s : ByteArray) (w : World) (hE : Hid (Ent w)) (hg : g < 5) (hs : s.size ≤ 300) (hl : ¬ 256 < s.size) : Calls Tryd.prog 10 #[.string (wholeS g s)] w fun e w' => ∃ b off cap, e = .returned (.tuple #[.slice (some ⟨b, off, none⟩) 1 cap, .int .i64 0, .int .i64 0]) ∧ Hid (Below w.heap.size w w' ∧ b < w'.heap.size ∧ w'.cell? ⟨b, off, none⟩ = some (.int .i64 3) ∧ w'.cell? ⟨b, off + 1, none⟩ = some (.int .i64 0) ∧ w'.cell? ⟨b, off + 2, none⟩ = some (.string s) ∧ w'.cell? ⟨b, off + 3, none⟩ = some (.int .i64 ((frontL g).length : Int))) := by
  refine (lex_any _ w hE.out (whole_le hs)).mono ?_
  rintro e w' ⟨a, n, cap, hn, rfl, hT, hB⟩
  rw [whole_list, lex_q g _ hg, if_neg (by rw [← Nm.size_list]; exact hl)] at hn hT ⊢
  subst hn
  obtain ⟨b, off, rfl, hb, x0, x1, x2, x3⟩ := hT 0 (by simp)
  simp only [Nat.zero_mul, Nat.add_zero] at x0 x1 x2 x3
  exact ⟨b, off, cap, rfl, Lib.hid ⟨hB, hb, x0, x1, x2.trans (by show some (Value.string (bs s.toList)) = _; rw [bs_of]), x3⟩⟩
theorem front_cut : ∀ g, g < 4 → bs (frontL g) ++ (⟨#[32, 9, 10]⟩ : ByteArray).extract (g % 3) (g % 3 + 1) = bs (frontL (g + 1)) := by
  intro n hn
  rcases (by omega : n = 0 ∨ n = 1 ∨ n = 2 ∨ n = 3) with rfl | rfl | rfl | rfl <;> rfl
set_option maxRecDepth 100000 in
set_option maxHeartbeats 4000000 in
theorem tquotes_walk (s : ByteArray) (c : Int) (w : World) (hE : Ent w) (hc0 : 0 ≤ c) : Calls Tryd.prog 5 #[.string s, .int .u8 c] w fun e w' => e = .returned (.bool true) ∧ Below w.heap.size w w' := by
  have HE := Lib.hid hE
  clear hE
  by_cases h8 : 300 < s.size
  · go_enter Tryd.func5, Tryd.ntmps5
    go_wp2_with (go_at_call 6; ((with_reducible refine (awake_out _ HE).mono ?_); rintro e w1 ⟨rfl, hb⟩; have HB := Lib.hid hb; clear hb))
    go_ret
    exact ⟨rfl, HB.out⟩
  · have hs : s.size ≤ 300 := by omega
    have hs2 : s.size ≤ 4096 := by omega
    obtain ⟨g, hg⟩ : ∃ g : Nat, c.tmod 5 = (g : Int) := ⟨(c.tmod 5).toNat, by rw [Int.tmod_eq_emod_of_nonneg hc0]; omega⟩
    have hg5 : g < 5 := by rw [Int.tmod_eq_emod_of_nonneg hc0] at hg; omega
    go_enter Tryd.func5, Tryd.ntmps5
    go_wp2_with (first
      | (go_at_call 12; ((with_reducible refine (quote_any s _ hs2).mono ?_); rintro e w1 ⟨rfl, hb⟩; have HB1 := Lib.hid hb; clear hb))
      | (go_at_call 13; ((with_reducible refine (rquote_any s _ hs2).mono ?_); rintro e w2 ⟨rfl, hb⟩; have HB2 := Lib.hid (bl_step HB1.out hb); clear hb)))
    go_loopw [6, 7] (fun v i wr => ∃ (k : Nat), k ≤ g ∧ i = .int .i64 k ∧ v = .string (bs (frontL k)) ∧ Hid (Below (w.heap.size) w wr)) (fun _ i _ => g - (intOf i).toNat)
    case atStart => exact ⟨0, by omega, rfl, rfl, HB2⟩
    case round =>
      obtain ⟨k, hk, rfl, rfl, hB⟩ := hrel
      rename World => wr
      by_cases hlt : k < g
      · have HC := Lib.hid (front_cut k (by omega))
        have hz : (bs (frontL k)).size ≤ 4 := by rw [bs_size]; exact front_le k
        rcases (by omega : k = 0 ∨ k = 1 ∨ k = 2 ∨ k = 3) with rfl | rfl | rfl | rfl
        · go_wp2_with fail
          go_roundw
          case rel => exact ⟨1, by omega, rfl, rfl, hB⟩
          case measure => simp [intOf]; omega
        · go_wp2_with fail
          go_roundw
          case rel => exact ⟨2, by omega, rfl, rfl, hB⟩
          case measure => simp [intOf]; omega
        · go_wp2_with fail
          go_roundw
          case rel => exact ⟨3, by omega, rfl, rfl, hB⟩
          case measure => simp [intOf]; omega
        · go_wp2_with fail
          go_roundw
          case rel => exact ⟨4, by omega, rfl, rfl, hB⟩
          case measure => simp [intOf]; omega
      · obtain rfl : k = g := by omega
        have hz : (bs (frontL k)).size ≤ 4 := by rw [bs_size]; exact front_le k
        have hz2 : (bs (quoteL s.toList)).size ≤ 4 * s.size + 2 := by rw [bs_size]; exact quote_le s
        have HZ := Lib.hid (bs_size (frontL k))
        have HE2 := Lib.hid (HE.out.below hB.out)
        by_cases hl : 256 < s.size
        · go_wp2_with (first
            | (go_at_call 10; refine (lex_long k s _ HE2 hg5 hs hl).mono ?_; rintro e w3 ⟨a, cap, rfl, hb⟩; have HB3 := Lib.hid (bl_step hB.out hb); clear hb)
            | (go_at_call 6; ((with_reducible refine (awake_out _ (Lib.hid (HE.out.below HB3.out))).mono ?_); rintro e w4 ⟨rfl, hb⟩; have HB4 := Lib.hid (bl_step HB3.out hb); clear hb)))
          go_ret
          exact ⟨rfl, HB4.out⟩
        · go_wp2_with (first
            | (go_at_call 10; refine (lex_short k s _ HE2 hg5 hs hl).mono ?_; rintro e w3 ⟨b, off, cap, rfl, HX⟩; have HB3 := Lib.hid (bl_step hB.out HX.out.1))
            | (go_at_call 6; ((with_reducible refine (awake_out _ (Lib.hid (HE.out.below HB3.out))).mono ?_); rintro e w4 ⟨rfl, hb⟩; obtain ⟨-, hlt, y0, y1, y2, y3⟩ := HX.out; have x0 := (hb.cell (p := ⟨b, off, none⟩) hlt).trans y0; have x1 := (hb.cell (p := ⟨b, off + 1, none⟩) hlt).trans y1; have x2 := (hb.cell (p := ⟨b, off + 2, none⟩) hlt).trans y2; have x3 := (hb.cell (p := ⟨b, off + 3, none⟩) hlt).trans y3; have HB4 := Lib.hid (bl_step HB3.out hb); clear hb y0 y1 y2 y3 hlt)))
          go_ret
          exact ⟨rfl, HB4.out⟩
end Go.Proofs.YtfhknnldkfngdaaDoor
