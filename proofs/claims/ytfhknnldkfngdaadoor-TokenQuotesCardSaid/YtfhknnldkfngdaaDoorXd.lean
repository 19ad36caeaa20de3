/- WALK of the reference's Next: numbers, names, signs. -/
import Derived.Test.YtfhknnldkfngdaaDoorXc
namespace Go.Proofs.YtfhknnldkfngdaaDoor
open Go.RowKit
set_option maxRecDepth 100000 in
set_option maxHeartbeats 4000000 in
theorem rnext_num (s : ByteArray) (p q : Nat) (w : World) (hs : s.size ≤ 140737488355328) (hp : p ≤ s.size) (hq : SkAt s false p q) (hlt : q < s.size) (hd : dgB s[q] = true) : Calls Tryd.prog 8 #[.string s, .int .i64 (p : Int)] w (NxP (nextL s.toList p) w) := by
  have HQ := Lib.hid hq
  obtain ⟨m, hm⟩ : ∃ m, rowN dgB (s.toList.drop q) = m := ⟨_, rfl⟩
  have hm0 : 0 < m := by rw [← hm, drop_at s q hlt, rowN_yes hd]; omega
  have hm1 : q + m ≤ s.size := by have := rowN_le dgB (s.toList.drop q); rw [drop_len] at this; omega
  have HRW : Hid (RwAt s dgB q m q) := Lib.hid (by rw [← hm]; exact RwAt.first)
  obtain ⟨V, hV⟩ : ∃ V, Nu.readV false ((s.toList.drop q).take m) = V := ⟨_, rfl⟩
  obtain ⟨E, hE⟩ : ∃ E, Nu.readE false ((s.toList.drop q).take m) = E := ⟨_, rfl⟩
  have hf : firstL (s.toList.drop q) = (if E = 2 then 20 else E, ⟨1, V, []⟩, m) := by
    rw [firstL_at hlt, if_pos hd]; unfold numberL; rw [hm]; dsimp only; rw [hV, hE]
  have hn := nextL_mid hq (by omega)
  rw [hf] at hn
  dsimp only at hn
  have hEc := readE_cases ((s.toList.drop q).take m)
  rw [hE] at hEc
  have HV := Lib.hid hV
  have HE := Lib.hid hE
  have HD := Lib.hid hd
  have HT : Hid (s.extract q (q + m) = bs ((s.toList.drop q).take m)) := Lib.hid (bs_ext (by rw [ext_cut, bs_list]))
  have HNE := Lib.hid (negS_at hlt hd hm0)
  have hz : (s.extract q (q + m)).size ≤ maxLen := by unfold maxLen; simp; omega
  have hq34 : ((s[q].toNat : Int) == 34) = false := by have := of_decide_eq_true hd; simp; omega
  have e1 : (q == s.size) = false := by simp; omega
  have e2 : ((q : Int) == (s.size : Int)) = false := by simp; omega
  clear hq hf hV hE hd hm
  rcases hEc with rfl | rfl | rfl
  all_goals
    have HN := Lib.hid hn
    clear hn
    go_enter Tryd.func8, Tryd.ntmps8
    go_wp2_with (first | (go_at_call 16; ((with_reducible refine (rskip_as s p q _ hs hp HQ).mono ?_); rintro e w' ⟨rfl, rfl⟩)) | (go_at_call 18; ((with_reducible refine (rdigit_as _ _ _ HD).mono ?_); rintro e w' ⟨rfl, rfl⟩)))
    go_loop [7] (fun i => ∃ k : Nat, k ≤ s.size ∧ i = .int .i64 k ∧ Hid (RwAt s dgB q m k)) (fun i => s.size - (intOf i).toNat)
    case atStart => exact ⟨q, by omega, rfl, HRW⟩
    case round =>
      obtain ⟨k, hk, rfl, hR⟩ := hrel
      by_cases hkl : k < s.size
      · cases hc : dgB s[k]
        · have HC := Lib.hid hc
          obtain rfl := hR.out.stop hkl hc
          clear hc
          go_wp2_with (first | (go_at_call 18; ((with_reducible refine (rdigit_as _ _ _ HC).mono ?_); rintro e w' ⟨rfl, rfl⟩)) | (go_at_call 19; ((with_reducible refine (rread_front _ _ V _ _ HT HNE hz HV HE).mono ?_); rintro e w' ⟨rfl, rfl⟩)))
          first
            | exact bodyPost_ret (v := .tuple #[.agg #[.int .i64 1, .int .i64 V, .string ⟨#[]⟩, .int .i64 (q : Int)], .int .i64 ((q + m : Nat) : Int), .int .i64 0]) (by simp [results, Tryd.results8, go_sem]) rfl ⟨by rw [HN.out]; rfl, bl_alloc (Below.refl _ _)⟩
            | exact bodyPost_ret (v := .tuple #[.agg #[.int .i64 0, .int .i64 0, .string ⟨#[]⟩, .int .i64 0], .int .i64 (q : Int), .int .i64 20]) (by simp [results, Tryd.results8, go_sem]) rfl ⟨by rw [HN.out]; rfl, bl_alloc (Below.refl _ _)⟩
            | exact bodyPost_ret (v := .tuple #[.agg #[.int .i64 0, .int .i64 0, .string ⟨#[]⟩, .int .i64 0], .int .i64 (q : Int), .int .i64 25]) (by simp [results, Tryd.results8, go_sem]) rfl ⟨by rw [HN.out]; rfl, bl_alloc (Below.refl _ _)⟩
        · have HC := Lib.hid hc
          have HS := Lib.hid (hR.out.step hkl hc)
          clear hc
          go_wp2_with (go_at_call 18; ((with_reducible refine (rdigit_as _ _ _ HC).mono ?_); rintro e w' ⟨rfl, rfl⟩))
          go_round
          case rel => exact ⟨k + 1, by omega, by go_num, HS⟩
          case measure => simp [intOf]; omega
      · obtain rfl := hR.out.end_ hkl
        go_wp2_with (go_at_call 19; ((with_reducible refine (rread_front _ _ V _ _ HT HNE hz HV HE).mono ?_); rintro e w' ⟨rfl, rfl⟩))
        first
          | exact bodyPost_ret (v := .tuple #[.agg #[.int .i64 1, .int .i64 V, .string ⟨#[]⟩, .int .i64 (q : Int)], .int .i64 ((q + m : Nat) : Int), .int .i64 0]) (by simp [results, Tryd.results8, go_sem]) rfl ⟨by rw [HN.out]; rfl, bl_alloc (Below.refl _ _)⟩
          | exact bodyPost_ret (v := .tuple #[.agg #[.int .i64 0, .int .i64 0, .string ⟨#[]⟩, .int .i64 0], .int .i64 (q : Int), .int .i64 20]) (by simp [results, Tryd.results8, go_sem]) rfl ⟨by rw [HN.out]; rfl, bl_alloc (Below.refl _ _)⟩
          | exact bodyPost_ret (v := .tuple #[.agg #[.int .i64 0, .int .i64 0, .string ⟨#[]⟩, .int .i64 0], .int .i64 (q : Int), .int .i64 25]) (by simp [results, Tryd.results8, go_sem]) rfl ⟨by rw [HN.out]; rfl, bl_alloc (Below.refl _ _)⟩
end Go.Proofs.YtfhknnldkfngdaaDoor
