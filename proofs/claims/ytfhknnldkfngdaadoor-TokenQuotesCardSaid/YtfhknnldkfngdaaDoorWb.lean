/- WALKS of skip and of the reference's Skip. -/
import Derived.Test.YtfhknnldkfngdaaDoorWa
import Derived.Outline
import Derived.WalkMore
import Derived.Deep.LoopGhost
namespace Go.Proofs.YtfhknnldkfngdaaDoor
open Go.RowKit
open Nm (ret_bool ret_int ret_str)

/-- What is left to pass over, at a place. -/
def SkAt (s : ByteArray) (r : Bool) (k n : Nat) : Prop := k + skN r (s.toList.drop k) = n
theorem SkAt.step {s : ByteArray} {r : Bool} {k n : Nat} (h : SkAt s r k n) (hk : k < s.size) (hn : ¬ ((s[k].toNat : Int) = 35 ∨ (r = true ∧ ¬ (s[k].toNat : Int) = 10))) (hb : (s[k].toNat : Int) = 32 ∨ (s[k].toNat : Int) = 9 ∨ (s[k].toNat : Int) = 10 ∨ (s[k].toNat : Int) = 13) : SkAt s false (k + 1) n := by
  unfold SkAt at h ⊢
  rw [drop_at s k hk, skN_bl hn (decide_eq_true hb)] at h; omega
theorem SkAt.rem {s : ByteArray} {r : Bool} {k n : Nat} (h : SkAt s r k n) (hk : k < s.size) (hn : (s[k].toNat : Int) = 35 ∨ (r = true ∧ ¬ (s[k].toNat : Int) = 10)) : SkAt s true (k + 1) n := by
  unfold SkAt at h ⊢
  rw [drop_at s k hk, skN_rem hn] at h; omega
theorem SkAt.stop {s : ByteArray} {r : Bool} {k n : Nat} (h : SkAt s r k n) (hk : k < s.size) (hn : ¬ ((s[k].toNat : Int) = 35 ∨ (r = true ∧ ¬ (s[k].toNat : Int) = 10))) (hb : ¬ ((s[k].toNat : Int) = 32 ∨ (s[k].toNat : Int) = 9 ∨ (s[k].toNat : Int) = 10 ∨ (s[k].toNat : Int) = 13)) : (k : Int) = n := by
  unfold SkAt at h
  rw [drop_at s k hk, skN_no hn (decide_eq_false hb)] at h; omega
theorem SkAt.last {s : ByteArray} {r : Bool} {k n : Nat} (h : SkAt s r k n) (hk : ¬ k < s.size) : (k : Int) = n := by
  unfold SkAt at h
  rw [drop_end s k hk] at h; cases r <;> simp only [skN] at h <;> omega
theorem SkAt.hash {s : ByteArray} {k n m : Nat} (h : SkAt s false k n) (hk : k < s.size) (hh : (s[k].toNat : Int) = 35) (hm : m = rowN rmB (s.toList.drop k)) : SkAt s false (k + m) n := by
  unfold SkAt at h ⊢
  subst hm
  rw [drop_at s k hk, sk_hash hh, ← drop_at s k hk, List.drop_drop] at h
  rw [show k + rowN rmB (s.toList.drop k) = k + rowN rmB (s.toList.drop k) from rfl]; omega
theorem hash_pos {s : ByteArray} {k m : Nat} (hk : k < s.size) (hh : (s[k].toNat : Int) = 35) (hm : m = rowN rmB (s.toList.drop k)) : 0 < m ∧ k + m ≤ s.size := by
  subst hm
  have h1 := rowN_le rmB (s.toList.drop k)
  rw [drop_len] at h1
  rw [drop_at s k hk, rowN_yes (decide_eq_true (by omega))] at h1 ⊢
  omega
theorem row_remark_at (s : ByteArray) (k m : Nat) (w : World) (hs : s.size ≤ 140737488355328) (hm : Hid (m = rowN rmB (s.toList.drop k))) : Calls Tryd.prog 25 #[.string (s.extract k s.size), .func (.func 26) #[] #[]] w fun e w' => e = .returned (.int .i64 (m : Nat)) ∧ w = w' := by
  rw [hm.out, ← ext_drop]
  exact row_remark _ w (by simp; omega)
theorem byte_sep (c : Int) : (c = 32 ∨ c = 9 ∨ c = 10 ∨ c = 13) ∨ (c = 35) ∨ ((c == 32) = false ∧ (c == 9) = false ∧ (c == 10) = false ∧ (c == 13) = false ∧ (c == 35) = false) := by
  simp; omega
set_option maxHeartbeats 2000000 in
theorem skip_any (s : ByteArray) (p n : Nat) (w : World) (hs : s.size ≤ 140737488355328) (hp : p ≤ s.size) (hn : SkAt s false p n) : Calls Tryd.prog 14 #[.string s, .int .i64 (p : Int)] w fun e w' => e = .returned (.int .i64 (n : Int)) ∧ w = w' := by
  have HN := Lib.hid hn
  clear hn
  go_enter Tryd.func14, Tryd.ntmps14
  go_wp2
  go_step3
  go_wp2
  go_step3
  go_wp2
  go_loop [1] (fun i => ∃ k : Nat, k ≤ s.size ∧ i = .int .i64 k ∧ Hid (SkAt s false k n)) (fun i => s.size - (intOf i).toNat)
  case atStart => exact ⟨p, hp, rfl, HN⟩
  case round =>
    obtain ⟨k, hk, rfl, hR⟩ := hrel
    by_cases hlt : k < s.size
    · obtain ⟨c, hc⟩ : ∃ c : Int, (s[k].toNat : Int) = c := ⟨_, rfl⟩
      have HC := Lib.hid hc
      rcases byte_sep c with h | h | ⟨h1, h2, h3, h4, h5⟩
      · have HS := Lib.hid (hR.out.step hlt (by rw [hc]; simp; omega) (by rw [hc]; exact h))
        rcases h with rfl | rfl | rfl | rfl
        all_goals
          go_wp2_with fail
          go_round
          case rel => exact ⟨k + 1, by omega, by go_num, HS⟩
          case measure => simp [intOf]; omega
      · subst h
        obtain ⟨m, hm⟩ : ∃ m, m = rowN rmB (s.toList.drop k) := ⟨_, rfl⟩
        have HM := Lib.hid hm
        have HS := Lib.hid (hR.out.hash hlt hc hm)
        obtain ⟨m1, m2⟩ := hash_pos hlt hc hm
        clear hm
        go_wp2_with (go_at_call 25; refine (row_remark_at s k m _ hs HM).mono ?_; rintro e w' ⟨rfl, rfl⟩)
        go_round
        case rel => exact ⟨k + m, by omega, by go_num, HS⟩
        case measure => simp [intOf]; omega
      · have HS := Lib.hid (hR.out.stop hlt (by rw [hc]; simp at h5; simp [h5]) (by rw [hc]; simp at h1 h2 h3 h4; omega))
        go_wp2_with fail
        try rw [Exit.noGoto_ret]
        go_ret
        exact ⟨ret_int HS.out, rfl⟩
    · go_wp2_with fail
      try rw [Exit.noGoto_ret]
      go_ret
      exact ⟨ret_int (hR.out.last hlt), rfl⟩
end Go.Proofs.YtfhknnldkfngdaaDoor
