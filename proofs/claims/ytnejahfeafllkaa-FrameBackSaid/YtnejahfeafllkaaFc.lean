/- WALKS of frame.Next. -/
import Derived.Test.YtnejahfeafllkaaFb
namespace Go.Proofs.Ytnejahfeafllkaa
open Go.RowKit
/-- What Next answers. -/
def NextIs (w : World) (x : ByteArray × Nat × Nat) (e : Ending) (w' : World) : Prop := e = .returned (.tuple #[.string x.1, .int .i64 (x.2.1 : Int), .int .i64 (x.2.2 : Int)]) ∧ Below w.heap.size w w'
theorem NextIs.mk' {w w' : World} {x : ByteArray × Nat × Nat} {t : ByteArray} {a b : Int} (hx : x = (t, a.toNat, b.toNat)) (ha : 0 ≤ a) (hb : 0 ≤ b) (h : Below w.heap.size w w') : NextIs w x (.returned (.tuple #[.string t, .int .i64 a, .int .i64 b])) w' := by
  subst hx
  refine ⟨?_, h⟩
  show _ = Ending.returned (.tuple #[.string t, .int .i64 (a.toNat : Int), .int .i64 (b.toNat : Int)])
  rw [Int.toNat_of_nonneg ha, Int.toNat_of_nonneg hb]
set_option maxHeartbeats 1000000 in
theorem next_out (s : ByteArray) (a : Int) (w : World) (h : a < 0 ∨ 0 ≤ a ∧ (s.size : Int) < a) : Calls Try.prog 25 #[.string s, .int .i64 a] w (NextIs w (⟨#[]⟩, 0, 1)) := by
  rcases h with h | ⟨h0, h⟩
  all_goals
    go_enter Try.func25, Try.ntmps25
    go_wp2
    go_ret3
    exact NextIs.mk' rfl (by decide) (by decide) (Below.refl _ _)
set_option maxHeartbeats 1000000 in
theorem next_end (s : ByteArray) (w : World) : Calls Try.prog 25 #[.string s, .int .i64 (s.size : Int)] w (NextIs w (⟨#[]⟩, 0, 5)) := by
  go_enter Try.func25, Try.ntmps25
  go_wp2
  go_ret3
  exact NextIs.mk' rfl (by decide) (by decide) (Below.refl _ _)
set_option maxHeartbeats 1000000 in
theorem next_form (s : ByteArray) (p : Nat) (w : World) (hp : p < s.size) (hb : s[p].toNat ≠ 165) : Calls Try.prog 25 #[.string s, .int .i64 (p : Int)] w (NextIs w (⟨#[]⟩, 0, 2)) := by
  have h1 : ((p : Int) == (s.size : Int)) = false := by simp; omega
  have h2 : ((s[p].toNat : Int) != 165) = true := by simp; omega
  have h3 : ((s[p].toNat : Int) == 165) = false := by simp; omega
  clear hb
  go_enter Try.func25, Try.ntmps25
  go_wp2
  go_ret3
  exact NextIs.mk' rfl (by decide) (by decide) (Below.refl _ _)
theorem opn_part {s : ByteArray} {p z y : Nat} (h1 : p ≤ z) (h2 : y = z + 4) (h3 : y ≤ s.size) : opn (s.extract p y) = if markS (s.extract p z) = s.extract z y then (s.extract p z, 0) else (⟨#[]⟩, 7) := by
  have hz : (s.extract p y).size = y - p := by simp; omega
  unfold opn frontS tailS
  rw [hz, if_neg (by omega), part_part _ _ _ _ _ (by omega), part_part _ _ _ _ _ (by omega)]
  rw [show p + 0 = p by omega, show p + (y - p - 4) = z by omega, show p + (y - p) = y by omega]
set_option maxHeartbeats 2000000 in
theorem next_err (s : ByteArray) (p a : Nat) (w : World) (hs : s.size ≤ 140737488355328) (hp : p < s.size) (hb : s[p].toNat = 165) (hg : (gets (s.data.toList.drop (p + 1))).1 = a) (ha : a ≠ 0) :
    Calls Try.prog 25 #[.string s, .int .i64 (p : Int)] w (NextIs w (⟨#[]⟩, 0, a)) := by
  have h1 : ((p : Int) == (s.size : Int)) = false := by simp; omega
  have h2 : ((s[p].toNat : Int) != 165) = false := by simp; omega
  have h3 : ((s[p].toNat : Int) == 165) = true := by simp; omega
  have h4 : ((a : Int) != 0) = true := by simp; omega
  obtain ⟨R, hR⟩ : ∃ R, s.extract (p + 1) s.size = R := ⟨_, rfl⟩
  have hRL : R.data.toList = s.data.toList.drop (p + 1) := by rw [← hR]; exact rest_is s (p + 1)
  have hRs : R.size ≤ 140737488355328 := by rw [← hR]; simp; omega
  have HG := fun B W => Lib.hid (fun h => get_any B R 0 0 (s.data.toList.drop (p + 1)) W h (by rw [hRL]; rfl) (by omega) hRs)
  obtain ⟨⟨a', n, c⟩, hgg⟩ : ∃ g, gets (s.data.toList.drop (p + 1)) = g := ⟨_, rfl⟩
  rw [hgg] at hg HG
  obtain rfl : a' = a := hg
  rw [nxt_no ha] at HG
  have HE := fun B W => Lib.hid (fun h => err_any B R 0 a' W h)
  have HR := Lib.hid hR
  clear hb ha hgg hRL hRs
  have hsl : (p : Int) + 1 ≤ (s.size : Int) := by omega
  go_enter Try.func25, Try.ntmps25
  go_wp2_with (first
    | (go_at_call 40; refine (new_any _ _).mono ?_; rintro e w1 ⟨rfl, hR1, hB1, hz1⟩; have HR1 := Lib.hid hR1; have HB1 := Lib.hid hB1; clear hR1 hB1)
    | (go_at_call 41; refine ((HG _ _).out (by have := HR1.out; first | exact this | (rw [HR.out] at this; exact this))).mono ?_; rintro e w2 ⟨rfl, hR2, hK2⟩; have HR2 := Lib.hid hR2; have HK2 := Lib.hid hK2; clear hR2 hK2)
    | (go_at_call 42; refine ((HE _ _).out HR2.out).mono ?_; rintro e w3 ⟨rfl, rfl⟩))
  go_ret3
  exact NextIs.mk' rfl (by decide) (Int.natCast_nonneg _) (HK2.out.below HB1.out (Nat.le_refl _) HB1.out.size)
set_option maxRecDepth 100000 in
set_option maxHeartbeats 2000000 in
theorem next_long (s : ByteArray) (p n c : Nat) (w : World) (hs : s.size ≤ 140737488355328) (hp : p < s.size) (hb : s[p].toNat = 165) (hg : gets (s.data.toList.drop (p + 1)) = (0, n, c)) (hn : 65536 < n) :
    Calls Try.prog 25 #[.string s, .int .i64 (p : Int)] w (NextIs w (⟨#[]⟩, 0, 4)) := by
  have h1 : ((p : Int) == (s.size : Int)) = false := by simp; omega
  have h2 : ((s[p].toNat : Int) != 165) = false := by simp; omega
  have h3 : ((s[p].toNat : Int) == 165) = true := by simp; omega
  obtain ⟨R, hR⟩ : ∃ R, s.extract (p + 1) s.size = R := ⟨_, rfl⟩
  have hRL : R.data.toList = s.data.toList.drop (p + 1) := by rw [← hR]; exact rest_is s (p + 1)
  have hRz : R.size = s.size - (p + 1) := by rw [← hR]; simp
  have hcl : c ≤ s.size - (p + 1) := by have := gets_len hg; simpa using this
  have HG := fun B W => Lib.hid (fun h => get_any B R 0 0 (s.data.toList.drop (p + 1)) W h (by rw [hRL]; rfl) (by omega) (by omega))
  rw [hg, nxt_ok rfl, Nat.zero_add] at HG
  have HE := fun B W => Lib.hid (fun h => err_any B R c 0 W h)
  have hni : (65536 : Int) < (n : Int) := by omega
  have HR := Lib.hid hR
  have hsl : (p : Int) + 1 ≤ (s.size : Int) := by omega
  clear hb hg hRL hRz hcl hn
  go_enter Try.func25, Try.ntmps25
  go_wp2_with (first
    | (go_at_call 40; refine (new_any _ _).mono ?_; rintro e w1 ⟨rfl, hR1, hB1, hz1⟩; have HR1 := Lib.hid hR1; have HB1 := Lib.hid hB1; clear hR1 hB1)
    | (go_at_call 41; refine ((HG _ _).out (by have := HR1.out; first | exact this | (rw [HR.out] at this; exact this))).mono ?_; rintro e w2 ⟨rfl, hR2, hK2⟩; have HR2 := Lib.hid hR2; have HK2 := Lib.hid hK2; clear hR2 hK2)
    | (go_at_call 42; refine ((HE _ _).out HR2.out).mono ?_; rintro e w3 ⟨rfl, rfl⟩))
  go_ret3
  exact NextIs.mk' rfl (by decide) (by decide) (HK2.out.below HB1.out (Nat.le_refl _) HB1.out.size)
set_option maxRecDepth 100000 in
set_option maxHeartbeats 2000000 in
theorem next_short (s : ByteArray) (p n c : Nat) (w : World) (hs : s.size ≤ 140737488355328) (hp : p < s.size) (hb : s[p].toNat = 165) (hg : gets (s.data.toList.drop (p + 1)) = (0, n, c)) (hn : n ≤ 65536) (hsh : s.size < p + 1 + c + n + 4) :
    Calls Try.prog 25 #[.string s, .int .i64 (p : Int)] w (NextIs w (⟨#[]⟩, 0, 3)) := by
  have h1 : ((p : Int) == (s.size : Int)) = false := by simp; omega
  have h2 : ((s[p].toNat : Int) != 165) = false := by simp; omega
  have h3 : ((s[p].toNat : Int) == 165) = true := by simp; omega
  obtain ⟨R, hR⟩ : ∃ R, s.extract (p + 1) s.size = R := ⟨_, rfl⟩
  have hRL : R.data.toList = s.data.toList.drop (p + 1) := by rw [← hR]; exact rest_is s (p + 1)
  have hRz : R.size = s.size - (p + 1) := by rw [← hR]; simp
  have hcl : c ≤ s.size - (p + 1) := by have := gets_len hg; simpa using this
  have HG := fun B W => Lib.hid (fun h => get_any B R 0 0 (s.data.toList.drop (p + 1)) W h (by rw [hRL]; rfl) (by omega) (by omega))
  rw [hg, nxt_ok rfl, Nat.zero_add] at HG
  have HE := fun B W => Lib.hid (fun h => err_any B R c 0 W h)
  have hni : ¬ (65536 : Int) < (n : Int) := by omega
  have HLf := fun B W => Lib.hid (fun h => left_any B R c 0 W h (by omega) (by omega))
  obtain ⟨m, hm⟩ : ∃ m, R.size - c = m := ⟨_, rfl⟩
  rw [hm] at HLf
  obtain ⟨b, hb'⟩ : ∃ b, b = p + 1 + c := ⟨_, rfl⟩
  obtain ⟨z, hz⟩ : ∃ z, z = b + n := ⟨_, rfl⟩
  obtain ⟨y, hy⟩ : ∃ y, y = z + 4 := ⟨_, rfl⟩
  have e1 : (s.size : Int) - (m : Int) = (b : Int) := by omega
  have e2 : (b : Int) + (n : Int) = (z : Int) := by omega
  have e3 : (z : Int) + 4 = (y : Int) := by omega
  have hfar : (s.size : Int) < (y : Int) := by omega
  have hy47 : (y : Int) ≤ 140737488555328 := by omega
  have hz47 : (z : Int) ≤ 140737488555328 := by omega
  have HR := Lib.hid hR
  have hsl : (p : Int) + 1 ≤ (s.size : Int) := by omega
  clear hb hg hRL hRz hcl hm hb' hz hy hsh hn
  go_enter Try.func25, Try.ntmps25
  go_wp2_with (first
    | (go_at_call 40; refine (new_any _ _).mono ?_; rintro e w1 ⟨rfl, hR1, hB1, hz1⟩; have HR1 := Lib.hid hR1; have HB1 := Lib.hid hB1; clear hR1 hB1)
    | (go_at_call 41; refine ((HG _ _).out (by have := HR1.out; first | exact this | (rw [HR.out] at this; exact this))).mono ?_; rintro e w2 ⟨rfl, hR2, hK2⟩; have HR2 := Lib.hid hR2; have HK2 := Lib.hid hK2; clear hR2 hK2)
    | (go_at_call 42; refine ((HE _ _).out HR2.out).mono ?_; rintro e w3 ⟨rfl, rfl⟩)
    | (go_at_call 43; refine ((HLf _ _).out HR2.out).mono ?_; rintro e w4 ⟨rfl, hR4, hK4⟩; have HR4 := Lib.hid hR4; have HK4 := Lib.hid hK4; clear hR4 hK4))
  go_ret3
  exact NextIs.mk' rfl (by decide) (by decide) ((HK2.out.trans HK4.out).below HB1.out (Nat.le_refl _) HB1.out.size)
end Go.Proofs.Ytnejahfeafllkaa
