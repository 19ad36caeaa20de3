/- WALKS of the reference's Next. -/
import Derived.Test.YtnejahfeafllkaaFd
import Derived.Deep.QuietTactic
import Derived.BigQuiet
import Derived.Deep.RegionWith
namespace Go.Proofs.Ytnejahfeafllkaa
open Go.RowKit
theorem belowN' {B : Nat} {w a : World} (h : Below B w a) (n : Nat) : Below B w (a.drewN n) := ⟨h.os, h.tape, h.output, h.size, h.block⟩
set_option maxHeartbeats 1000000 in
theorem rnext_out (s : ByteArray) (a : Int) (w : World) (h : a < 0 ∨ 0 ≤ a ∧ (s.size : Int) < a) : Calls Try.prog 26 #[.string s, .int .i64 a] w (NextIs w (⟨#[]⟩, 0, 1)) := by
  rcases h with h | ⟨h0, h⟩
  all_goals
    go_enter Try.func26, Try.ntmps26
    go_wp2
    go_ret3
    exact NextIs.mk' rfl (by decide) (by decide) (Below.refl _ _)
set_option maxHeartbeats 1000000 in
theorem rnext_end (s : ByteArray) (w : World) : Calls Try.prog 26 #[.string s, .int .i64 (s.size : Int)] w (NextIs w (⟨#[]⟩, 0, 5)) := by
  go_enter Try.func26, Try.ntmps26
  go_wp2
  go_ret3
  exact NextIs.mk' rfl (by decide) (by decide) (Below.refl _ _)
set_option maxHeartbeats 1000000 in
theorem rnext_form (s : ByteArray) (p : Nat) (w : World) (hp : p < s.size) (hb : s[p].toNat ≠ 165) : Calls Try.prog 26 #[.string s, .int .i64 (p : Int)] w (NextIs w (⟨#[]⟩, 0, 2)) := by
  have h1 : ((p : Int) == (s.size : Int)) = false := by simp; omega
  have h2 : ((s[p].toNat : Int) != 165) = true := by simp; omega
  have h3 : ((s[p].toNat : Int) == 165) = false := by simp; omega
  clear hb
  go_enter Try.func26, Try.ntmps26
  go_wp2
  go_ret3
  exact NextIs.mk' rfl (by decide) (by decide) (Below.refl _ _)
set_option maxRecDepth 100000 in
set_option maxHeartbeats 2000000 in
theorem rnext_err (s : ByteArray) (p a : Nat) (w : World) (hs : s.size ≤ 140737488355328) (hp : p < s.size) (hb : s[p].toNat = 165) (hg : (gets (s.data.toList.drop (p + 1))).1 = a) (ha : a ≠ 0) :
    Calls Try.prog 26 #[.string s, .int .i64 (p : Int)] w (NextIs w (⟨#[]⟩, 0, a)) := by
  have h1 : ((p : Int) == (s.size : Int)) = false := by simp; omega
  have h2 : ((s[p].toNat : Int) != 165) = false := by simp; omega
  have h3 : ((s[p].toNat : Int) == 165) = true := by simp; omega
  have h4 : ((a : Int) != 0) = true := by simp; omega
  have HG := fun W => Lib.hid (rget_any s (p + 1) 0 (s.data.toList.drop (p + 1)) W rfl (by omega) hs)
  obtain ⟨⟨a', n, c⟩, hgg⟩ : ∃ g, gets (s.data.toList.drop (p + 1)) = g := ⟨_, rfl⟩
  rw [hgg] at hg HG
  obtain rfl : a' = a := hg
  rw [nxt_no ha] at HG
  unfold GetPost refR at HG
  obtain ⟨p1, hp1⟩ : ∃ p1, p1 = p + 1 := ⟨_, rfl⟩
  have e1 : (p : Int) + 1 = (p1 : Int) := by omega
  rw [← hp1] at HG
  clear hb ha hgg hp1
  go_enter Try.func26, Try.ntmps26
  go_wp2_with ((go_at_call 45; refine (HG _).out.mono ?_; rintro e w1 ⟨rfl, hB1⟩; have HB1 := Lib.hid hB1; clear hB1))
  go_quiet (fail)
  go_wp2
  go_ret3
  exact NextIs.mk' rfl (by decide) (Int.natCast_nonneg _) (belowN' (HB1.out.alloc HB1.out.size _) _)
end Go.Proofs.Ytnejahfeafllkaa
