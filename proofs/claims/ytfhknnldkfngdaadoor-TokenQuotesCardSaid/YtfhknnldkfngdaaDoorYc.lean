/- WALK of the reference's Quote. -/
import Derived.Test.YtfhknnldkfngdaaDoorYb
import Derived.Test.YtfhknnldkfngdaaDoorXi
import Derived.Deep.QuietTactic
import Derived.BigQuiet
namespace Go.Proofs.YtfhknnldkfngdaaDoor
open Go.RowKit
theorem hex_cut : ∀ n, n < 16 → (⟨#[48, 49, 50, 51, 52, 53, 54, 55, 56, 57, 97, 98, 99, 100, 101, 102]⟩ : ByteArray).extract n (n + 1) = bs [hexC n] := by
  intro n hn
  rcases (by omega : n = 0 ∨ n = 1 ∨ n = 2 ∨ n = 3 ∨ n = 4 ∨ n = 5 ∨ n = 6 ∨ n = 7 ∨ n = 8 ∨ n = 9 ∨ n = 10 ∨ n = 11 ∨ n = 12 ∨ n = 13 ∨ n = 14 ∨ n = 15) with rfl | rfl | rfl | rfl | rfl | rfl | rfl | rfl | rfl | rfl | rfl | rfl | rfl | rfl | rfl | rfl <;> rfl
theorem one_of {s : ByteArray} {k : Nat} (h : k < s.size) : s.extract k (k + 1) = bs [s[k]] := by
  have e : (s.extract k (k + 1)).toList = [s[k]] := by rw [ext_cut, drop_at s k h]; rfl
  rw [← bs_of (s.extract k (k + 1)), e]
theorem below_dn {w W : World} {n : Nat} (h : Below w.heap.size w W) : Below w.heap.size w (W.drewN n) := bl_step h (bl_drewN _ _)
theorem bs2 (a b : List UInt8) : bs a ++ bs b = bs (a ++ b) := bs_app a b
set_option maxRecDepth 100000 in
set_option maxHeartbeats 4000000 in
theorem rquote_any (s : ByteArray) (w : World) (hs : s.size ≤ 4096) : Calls Tryd.prog 13 #[.string s] w fun e w' => e = .returned (.string (bs (quoteL s.toList))) ∧ Below w.heap.size w w' := by
  go_enter Tryd.func13, Tryd.ntmps13
  go_wp2_with fail
  go_loopw [4, 5] (fun v i wr => ∃ (k : Nat), k ≤ s.size ∧ i = .int .i64 k ∧ v = .string (bs (qL s.toList k)) ∧ Hid (Below (w.heap.size) w wr)) (fun _ i _ => s.size - (intOf i).toNat)
  case atStart => exact ⟨0, by omega, rfl, rfl, Lib.hid (Below.refl _ _)⟩
  case round =>
    obtain ⟨k, hk, rfl, rfl, hB⟩ := hrel
    rename World => wr
    by_cases hlt : k < s.size
    · have HQ := Lib.hid (qL_step hlt)
      have hi1 : (k : Int) < (s.size : Int) := by omega
      have hi0 : (0 : Int) ≤ (k : Int) := by omega
      have hlen : (bs (qL s.toList k)).size ≤ 4 * k + 1 := by rw [bs_size]; exact qL_len _ _
      have H1 := Lib.hid (one_of hlt)
      rcases q_cases s[k] with ⟨h1, hq⟩ | ⟨h1, hq⟩ | ⟨h1, h2, h3, hq⟩ | ⟨h1, h2, h3, h4, hq⟩ | ⟨h1, h2, h3, h4, hq⟩
      · have HQQ := Lib.hid hq
        clear hq
        go_wp2_with fail
        go_roundw
        case rel => exact ⟨k + 1, by omega, by go_num, by rw [HQ.out, HQQ.out, H1.out]; show Value.string (bs _ ++ bs [92] ++ bs [s[k]]) = _; rw [bs2, bs2, List.append_assoc]; rfl, hB⟩
        case measure => simp [intOf]; omega
      · have HQQ := Lib.hid hq
        clear hq
        go_wp2_with fail
        go_roundw
        case rel => exact ⟨k + 1, by omega, by go_num, by rw [HQ.out, HQQ.out, H1.out]; show Value.string (bs _ ++ bs [92] ++ bs [s[k]]) = _; rw [bs2, bs2, List.append_assoc]; rfl, hB⟩
        case measure => simp [intOf]; omega
      · have HQQ := Lib.hid hq
        clear hq
        go_wp2_with fail
        go_roundw
        case rel => exact ⟨k + 1, by omega, by go_num, by rw [HQ.out, HQQ.out]; show Value.string (bs _ ++ bs [92, 110]) = _; rw [bs2], hB⟩
        case measure => simp [intOf]; omega
      · have HQQ := Lib.hid hq
        have hp := of_decide_eq_false h4
        clear hq h4
        have hb := byte_lt s[k]
        obtain ⟨n1, hn1⟩ : ∃ n1, s[k].toNat / 16 = n1 := ⟨_, rfl⟩
        obtain ⟨n2, hn2⟩ : ∃ n2, s[k].toNat % 16 = n2 := ⟨_, rfl⟩
        have l1 : n1 < 16 := by omega
        have l2 : n2 < 16 := by omega
        go_wp2_with fail
        · go_quiet (fail)
          go_wp2_with fail
          go_roundw
          case rel => exact ⟨k + 1, by omega, by go_num, by rw [HQ.out, HQQ.out, hex_cut _ l1, hex_cut _ l2, hn1, hn2]; show Value.string (bs _ ++ bs [92, 120] ++ bs _ ++ bs _) = _; rw [bs2, bs2, bs2, List.append_assoc, List.append_assoc]; rfl, Lib.hid (below_dn hB.out)⟩
          case measure => simp [intOf]; omega
        · go_quiet (fail)
          go_wp2_with fail
          go_roundw
          case rel => exact ⟨k + 1, by omega, by go_num, by rw [HQ.out, HQQ.out, hex_cut _ l1, hex_cut _ l2, hn1, hn2]; show Value.string (bs _ ++ bs [92, 120] ++ bs _ ++ bs _) = _; rw [bs2, bs2, bs2, List.append_assoc, List.append_assoc]; rfl, Lib.hid (below_dn hB.out)⟩
          case measure => simp [intOf]; omega
      · have HQQ := Lib.hid hq
        have hp := of_decide_eq_true h4
        obtain ⟨hp1, hp2⟩ := hp
        clear hq h4
        go_wp2_with fail
        go_roundw
        case rel => exact ⟨k + 1, by omega, by go_num, by rw [HQ.out, HQQ.out, H1.out, bs2], hB⟩
        case measure => simp [intOf]; omega
    · have HA := Lib.hid (qL_all hlt)
      have hlen : (bs (qL s.toList k)).size ≤ 4 * k + 1 := by rw [bs_size]; exact qL_len _ _
      go_wp2_with fail
      go_ret
      exact ⟨by rw [← HA.out, ← bs2]; rfl, hB.out⟩
end Go.Proofs.YtfhknnldkfngdaaDoor
