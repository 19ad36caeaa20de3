/- WALK of the reference's part. -/
import Derived.Test.YtfhknnldkfngdaaDoorWc
import Derived.Deep.QuietTactic
import Derived.BigQuiet
import Derived.IntWalk
namespace Go.Proofs.YtfhknnldkfngdaaDoor
open Go.RowKit
open Nm (ret_bool ret_int ret_str)

def PartP (r : Int × Nat) (w : World) (e : Ending) (w' : World) : Prop := e = .returned (.tuple #[.int .u8 r.1, .int .i64 (r.2 : Int)]) ∧ ∃ q, w' = w.drewN q
theorem PartP.mk {r : Int × Nat} {v n : Int} {w w' : World} (h : r = (v, n.toNat)) (h0 : 0 ≤ n) (hw : ∃ q, w' = w.drewN q) : PartP r w (.returned (.tuple #[.int .u8 v, .int .i64 n])) w' := by
  subst h; refine ⟨?_, hw⟩; dsimp only; rw [Int.toNat_of_nonneg h0]
theorem partL_cons (c : UInt8) (l : List UInt8) : partL (c :: l) = if (c.toNat : Int) = 34 ∨ plB c = false then (0, 0) else if ¬ (c.toNat : Int) = 92 then ((c.toNat : Int), 1) else escL l := rfl
theorem escL_cons (d : UInt8) (l : List UInt8) : escL (d :: l) = if (d.toNat : Int) = 34 ∨ (d.toNat : Int) = 92 then ((d.toNat : Int), 2) else if (d.toNat : Int) = 110 then (10, 2) else if (d.toNat : Int) = 120 then hexL l else (0, 0) := rfl
theorem partL_no {c : UInt8} {l : List UInt8} (h : (c.toNat : Int) < 32 ∨ 126 < (c.toNat : Int) ∨ (c.toNat : Int) = 34) : partL (c :: l) = (0, 0) := by
  rw [partL_cons, if_pos]
  by_cases h4 : (c.toNat : Int) = 34
  · exact .inl h4
  · exact .inr (decide_eq_false (by omega))
theorem partL_one {c : UInt8} {l : List UInt8} (h1 : 32 ≤ (c.toNat : Int)) (h2 : (c.toNat : Int) ≤ 126) (h3 : ¬ (c.toNat : Int) = 34) (h4 : ¬ (c.toNat : Int) = 92) : partL (c :: l) = ((c.toNat : Int), 1) := by
  rw [partL_cons, if_neg, if_pos h4]
  rintro (h | h)
  · exact h3 h
  · have := of_decide_eq_false h; omega
theorem partL_esc {c : UInt8} {l : List UInt8} (h4 : (c.toNat : Int) = 92) : partL (c :: l) = escL l := by
  rw [partL_cons, if_neg, if_neg (by omega)]
  rintro (h | h)
  · omega
  · have := of_decide_eq_false h; omega
theorem escL_self {d : UInt8} {l : List UInt8} (h : (d.toNat : Int) = 34 ∨ (d.toNat : Int) = 92) : escL (d :: l) = ((d.toNat : Int), 2) := if_pos h
theorem escL_n {d : UInt8} {l : List UInt8} (h : (d.toNat : Int) = 110) : escL (d :: l) = (10, 2) := by rw [escL_cons, if_neg (by omega), if_pos h]
theorem escL_x {d : UInt8} {l : List UInt8} (h : (d.toNat : Int) = 120) : escL (d :: l) = hexL l := by rw [escL_cons, if_neg (by omega), if_neg (by omega), if_pos h]
theorem escL_no {d : UInt8} {l : List UInt8} (h : ¬ (d.toNat : Int) = 34) (h2 : ¬ (d.toNat : Int) = 92) (h3 : ¬ (d.toNat : Int) = 110) (h4 : ¬ (d.toNat : Int) = 120) : escL (d :: l) = (0, 0) := by rw [escL_cons, if_neg (by omega), if_neg (by omega), if_neg (by omega)]
theorem hexL_yes {a b : UInt8} {l : List UInt8} (h : 0 ≤ sixV a) (h2 : 0 ≤ sixV b) : hexL (a :: b :: l) = (16 * sixV a + sixV b, 4) := if_pos ⟨h, h2⟩
theorem hexL_no {a b : UInt8} {l : List UInt8} (h : ¬ (0 ≤ sixV a ∧ 0 ≤ sixV b)) : hexL (a :: b :: l) = (0, 0) := if_neg h
theorem hexL_short {s : ByteArray} {k : Nat} (h : ¬ k + 1 < s.size) : hexL (s.toList.drop k) = (0, 0) := by
  have hl := drop_len s k
  generalize s.toList.drop k = l at hl
  match l with
  | [] => rfl
  | [_] => rfl
  | _ :: _ :: _ => simp at hl; omega
theorem byte_part (c : Int) : (c < 32 ∨ (32 ≤ c ∧ 126 < c) ∨ ((32 ≤ c ∧ c ≤ 126) ∧ c = 34)) ∨ ((32 ≤ c ∧ c ≤ 126) ∧ (c == 34) = false ∧ (c != 92) = true) ∨ c = 92 := by
  simp; omega
theorem byte_esc (c : Int) : c = 34 ∨ c = 92 ∨ c = 110 ∨ c = 120 ∨ ((c == 34) = false ∧ (c == 92) = false ∧ (c == 110) = false ∧ (c == 120) = false) := by
  simp; omega
theorem u8_in (v : Int) (h : 0 ≤ v) (h2 : v ≤ 255) : IntKind.u8.wrap v = v := by
  simp only [IntKind.wrap]; simp [IntKind.bits, IntKind.signed]; omega
theorem six_same (c : UInt8) (w : World) : Calls Tryd.prog 42 #[.int .u8 (c.toNat : Int)] w fun e w' => e = .returned (.int .i64 (sixV c)) ∧ w' = w := (six_any c w).mono fun _ _ h => ⟨h.1, h.2.symm⟩
set_option maxHeartbeats 1600000 in
theorem rpart_any (s : ByteArray) (k : Nat) (w : World) (hs : s.size ≤ 140737488355328) (hk : k < s.size) : Calls Tryd.prog 33 #[.string s, .int .i64 (k : Int)] w (PartP (partL (s.toList.drop k)) w) := by
  rw [drop_at s k hk]
  obtain ⟨c, hc⟩ : ∃ c : Int, (s[k].toNat : Int) = c := ⟨_, rfl⟩
  have HC := Lib.hid hc
  rcases byte_part c with h | ⟨⟨h1, h2⟩, h3, h4⟩ | h
  · have HP := Lib.hid (partL_no (l := s.toList.drop (k + 1)) (by rw [hc]; omega))
    rcases h with h | ⟨h1, h2⟩ | ⟨⟨h1, h2⟩, rfl⟩
    all_goals
      go_enter Tryd.func33, Tryd.ntmps33
      go_wp2_with fail
      go_ret2
      exact PartP.mk HP.out (by decide) ⟨0, rfl⟩
  · have HP := Lib.hid (partL_one (l := s.toList.drop (k + 1)) (by rw [hc]; exact h1) (by rw [hc]; exact h2) (by rw [hc]; simpa using h3) (by rw [hc]; simpa using h4))
    rw [hc] at HP
    go_enter Tryd.func33, Tryd.ntmps33
    go_wp2_with fail
    go_ret2
    exact PartP.mk HP.out (by decide) ⟨0, rfl⟩
  · subst h
    rw [partL_esc hc]
    by_cases hk1 : k + 1 < s.size
    · rw [drop_at s (k + 1) hk1]
      obtain ⟨d, hd⟩ : ∃ d : Int, (s[k + 1].toNat : Int) = d := ⟨_, rfl⟩
      have HD := Lib.hid hd
      rcases byte_esc d with rfl | rfl | rfl | rfl | ⟨h1, h2, h3, h4⟩
      · have HP := Lib.hid (escL_self (l := s.toList.drop (k + 1 + 1)) (.inl hd))
        rw [hd] at HP
        go_enter Tryd.func33, Tryd.ntmps33
        go_wp2_with fail
        go_ret2
        exact PartP.mk HP.out (by decide) ⟨0, rfl⟩
      · have HP := Lib.hid (escL_self (l := s.toList.drop (k + 1 + 1)) (.inr hd))
        rw [hd] at HP
        go_enter Tryd.func33, Tryd.ntmps33
        go_wp2_with fail
        go_ret2
        exact PartP.mk HP.out (by decide) ⟨0, rfl⟩
      · have HP := Lib.hid (escL_n (l := s.toList.drop (k + 1 + 1)) hd)
        go_enter Tryd.func33, Tryd.ntmps33
        go_wp2_with fail
        go_ret2
        exact PartP.mk HP.out (by decide) ⟨0, rfl⟩
      · rw [escL_x hd]
        by_cases hk3 : k + 3 < s.size
        · rw [drop_at s (k + 1 + 1) (by omega), drop_at s (k + 1 + 1 + 1) (by omega)]
          have hk2 : k + 2 < s.size := by omega
          have hxl := sixV_lo s[k + 2]
          have hyl := sixV_lo s[k + 3]
          obtain ⟨x1, x2⟩ := hxl
          obtain ⟨y1, y2⟩ := hyl
          have hpos : (0 ≤ sixV s[k + 2] ∧ 0 ≤ sixV s[k + 3]) ∨ sixV s[k + 2] < 0 ∨ (0 ≤ sixV s[k + 2] ∧ sixV s[k + 3] < 0) := by omega
          rcases hpos with ⟨p1, p2⟩ | p1 | ⟨p1, p2⟩
          · have HP : Hid (hexL (s[k + 1 + 1] :: s[k + 1 + 1 + 1] :: s.toList.drop (k + 1 + 1 + 1 + 1)) = (16 * sixV s[k + 2] + sixV s[k + 3], 4)) := hexL_yes p1 p2
            go_enter Tryd.func33, Tryd.ntmps33
            go_wp2_with (go_at_call 42; ((with_reducible refine (six_any _ _).mono ?_); rintro e w' ⟨rfl, rfl⟩))
            have e1 := IntWalk.i64_in ((k : Int) + 2) (by omega)
            have e2 := IntWalk.i64_in ((k : Int) + 3) (by omega)
            have e3 := IntWalk.i64_in (16 * sixV s[k + 2]) (by omega)
            have e4 := IntWalk.i64_in (16 * sixV s[k + 2] + sixV s[k + 3]) (by omega)
            have e5 := IntWalk.u8_in (16 * sixV s[k + 2] + sixV s[k + 3]) (by omega)
            have e6 : (0 : Int) ≤ (k : Int) + 2 := by omega
            have e7 : (0 : Int) ≤ (k : Int) + 3 := by omega
            have e8 : ((k : Int) + 2).toNat = k + 2 := by omega
            have e9 : ((k : Int) + 3).toNat = k + 3 := by omega
            go_quiet ((go_at_call 42; with_reducible exact Calls.quiet_of_same (six_same _ _)))
            go_wp2_with fail
            go_ret2
            exact PartP.mk HP.out (by decide) ⟨_, rfl⟩
          · have HP : Hid (hexL (s[k + 1 + 1] :: s[k + 1 + 1 + 1] :: s.toList.drop (k + 1 + 1 + 1 + 1)) = (0, 0)) := hexL_no (fun h => by have := h.1; have e : s[k + 1 + 1] = s[k + 2] := rfl; rw [e] at this; omega)
            go_enter Tryd.func33, Tryd.ntmps33
            go_wp2_with (go_at_call 42; ((with_reducible refine (six_any _ _).mono ?_); rintro e w' ⟨rfl, rfl⟩))
            go_ret2
            exact PartP.mk HP.out (by decide) ⟨0, rfl⟩
          · have HP : Hid (hexL (s[k + 1 + 1] :: s[k + 1 + 1 + 1] :: s.toList.drop (k + 1 + 1 + 1 + 1)) = (0, 0)) := hexL_no (fun h => by have := h.2; have e : s[k + 1 + 1 + 1] = s[k + 3] := rfl; rw [e] at this; omega)
            go_enter Tryd.func33, Tryd.ntmps33
            go_wp2_with (go_at_call 42; ((with_reducible refine (six_any _ _).mono ?_); rintro e w' ⟨rfl, rfl⟩))
            go_ret2
            exact PartP.mk HP.out (by decide) ⟨0, rfl⟩
        · have HP := Lib.hid (hexL_short (s := s) (k := k + 1 + 1) (by omega))
          go_enter Tryd.func33, Tryd.ntmps33
          go_wp2_with fail
          go_ret2
          exact PartP.mk HP.out (by decide) ⟨0, rfl⟩
      · have HP := Lib.hid (escL_no (l := s.toList.drop (k + 1 + 1)) (by rw [hd]; simpa using h1) (by rw [hd]; simpa using h2) (by rw [hd]; simpa using h3) (by rw [hd]; simpa using h4))
        by_cases hk3 : k + 3 < s.size
        all_goals
          go_enter Tryd.func33, Tryd.ntmps33
          go_wp2_with fail
          go_ret2
          exact PartP.mk HP.out (by decide) ⟨0, rfl⟩
    · rw [drop_end s (k + 1) hk1]
      have hk3 : ¬ k + 3 < s.size := by omega
      go_enter Tryd.func33, Tryd.ntmps33
      go_wp2_with fail
      go_ret2
      exact PartP.mk rfl (by decide) ⟨0, rfl⟩
end Go.Proofs.YtfhknnldkfngdaaDoor
