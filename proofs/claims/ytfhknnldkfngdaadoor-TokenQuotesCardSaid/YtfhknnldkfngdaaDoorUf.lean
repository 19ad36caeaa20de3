/- WALK of the reference's Read. -/
import Derived.Test.YtfhknnldkfngdaaDoorUe
namespace Go.Proofs.YtfhknnldkfngdaaDoor.Nu
open Go.RowKit
theorem ne_empty {s : ByteArray} (h : 0 < s.size) : ¬ s = ByteArray.empty := by intro e; subst e; exact absurd h (by decide)
theorem ret_much {neg : Bool} {D : List UInt8} {n : Int} (h : formOk neg D = true) (h' : ¬ 16 < D.length) (hv : n = vr D) (hm : 9007199254740992 < n) : Ending.returned (.tuple #[.int .i64 0, .int .i64 25]) = .returned (.tuple #[.int .i64 (readV neg D), .int .i64 (readE neg D)]) := by
  have : inB (sgnV neg (vr D)) = false := by subst hv; cases neg <;> simp [sgnV] <;> exact inB_mkno (by omega)
  exact ret_two (by simp [readV, h, h', this, outV]) (by simp [readE, h, h', this, outE])
theorem ret_sgn {neg : Bool} {D : List UInt8} {n v : Int} (h : formOk neg D = true) (h' : ¬ 16 < D.length) (hn : n = vr D) (hv : v = sgnV neg n) (h0 : 0 ≤ n) (hm : n ≤ 9007199254740992) : Ending.returned (.tuple #[.int .i64 v, .int .i64 0]) = .returned (.tuple #[.int .i64 (readV neg D), .int .i64 (readE neg D)]) := by
  subst hn; subst hv
  have : inB (sgnV neg (vr D)) = true := by cases neg <;> simp [sgnV] <;> exact inB_mk (by omega) (by omega)
  exact ret_two (by simp [readV, h, h', this, outV]) (by simp [readE, h, h', this, outE])
theorem ret_plus {neg : Bool} {D : List UInt8} {n : Int} (h : formOk neg D = true) (h' : ¬ 16 < D.length) (hn : n = vr D) (hg : neg = decide ((0 : Nat) = 1)) (h0 : 0 ≤ n) (hm : n ≤ 9007199254740992) : Ending.returned (.tuple #[.int .i64 n, .int .i64 0]) = .returned (.tuple #[.int .i64 (readV neg D), .int .i64 (readE neg D)]) :=
  ret_sgn h h' hn (by subst hg; rfl) h0 hm
theorem ret_minus {neg : Bool} {D : List UInt8} {n : Int} (h : formOk neg D = true) (h' : ¬ 16 < D.length) (hn : n = vr D) (hg : neg = decide ((1 : Nat) = 1)) (h0 : 0 ≤ n) (hm : n ≤ 9007199254740992) : Ending.returned (.tuple #[.int .i64 (-n), .int .i64 0]) = .returned (.tuple #[.int .i64 (readV neg D), .int .i64 (readE neg D)]) :=
  ret_sgn h h' hn (by subst hg; rfl) h0 hm

set_option maxHeartbeats 4000000 in
theorem rread_0 (s d : ByteArray) (neg : Bool) (w : World) (hs : s.size ≤ maxLen) (ho : Off s d neg 0) (h0 : 0 < s.size) (h45 : ¬ (s[0].toNat : Int) = 45) :
    Calls Tryd.prog 19 #[.string s] w fun e w' => e = .returned (.tuple #[.int .i64 (readV neg d.data.toList), .int .i64 (readE neg d.data.toList)]) ∧ w = w' := by
  unfold maxLen at hs
  have HO := Lib.hid ho
  have hz : s.size = d.size + 0 := ho.size
  have hd1 : s.size ≤ d.size + 0 := by omega
  have hd2 : d.size + 0 ≤ s.size := by omega
  clear ho hz
  have hE1 := ne_empty h0
  have hE2 : ((s.size : Int) == 0) = false := by simp; exact hE1
  by_cases hf : 0 < s.size
  · by_cases h48 : (s[0].toNat : Int) = 48 ∧ (0 + 1 < s.size ∨ 0 = 1)
    · have HF := Lib.hid (HO.out.nought hf h48.1 h48.2)
      obtain ⟨h48, h1⟩ := h48
      have h1x : 1 < s.size := by omega
      clear h1
      go_enter Tryd.func19, Tryd.ntmps19
      go_wp2
      all_goals
        go_ret2
        exact ⟨ret_form HF.out, rfl⟩
    · have HL := Lib.hid (show ¬ (s[0].toNat : Int) = 48 ∨ (s.size ≤ 0 + 1 ∧ 0 ≠ 1) by omega)
      have hc : ((s[0].toNat : Int) = 48 ∧ ¬ 1 < s.size) ∨ ¬ (s[0].toNat : Int) = 48 := by omega
      clear h48
      rcases hc with ⟨h4, h1⟩ | h4
      all_goals
        go_enter Tryd.func19, Tryd.ntmps19
        go_wp2
        go_loop [5] (fun i => ∃ k : Nat, 0 ≤ k ∧ k ≤ s.size ∧ i = .int .i64 k ∧ upFrom s 0 k) (fun i => s.size - (intOf i).toNat)
        case atStart => exact ⟨0, by omega, by omega, rfl, upFrom_first s 0⟩
        case round =>
          obtain ⟨k, hfk, hk, rfl, hu⟩ := hrel
          have H := Lib.hid hu
          clear hu
          by_cases hlt : k < s.size
          · go_wp2
            all_goals first
              | (go_round
                 case rel => exact ⟨k + 1, by omega, by omega, by go_num, upFrom_succ H.out hlt (by omega) (by omega)⟩
                 case measure => simp [intOf]; omega)
              | (go_ret2
                 exact ⟨ret_form (HO.out.bad hfk hlt (by omega)), rfl⟩)
          · obtain rfl : k = s.size := by omega
            have HF := Lib.hid (HO.out.good hf HL.out H.out)
            by_cases hl : 16 < d.size
            · have HN := Lib.hid (show 16 < d.data.toList.length by rw [← size_list]; exact hl)
              go_wp2
              all_goals
                go_ret2
                exact ⟨ret_long HF.out HN.out, rfl⟩
            · have HN := Lib.hid (show ¬ 16 < d.data.toList.length by rw [← size_list]; exact hl)
              go_wp2
              go_loop [6, 7] (fun n i => ∃ (k : Nat) (n0 : Int), 0 ≤ k ∧ k ≤ s.size ∧ i = .int .i64 k ∧ n = .int .i64 n0 ∧ FromLeft s d 0 k n0) (fun _ i => s.size - (intOf i).toNat)
              case atStart => exact ⟨0, 0, by omega, by omega, rfl, rfl, FromLeft.first s d 0⟩
              case round =>
                obtain ⟨k, n, hfk, hk, rfl, rfl, hI⟩ := hrel
                have HI := Lib.hid hI
                obtain ⟨b1, b2⟩ := hI.bound (by omega)
                clear hI
                by_cases hlt : k < s.size
                · obtain ⟨g1, g2⟩ := upFrom_at H.out k hlt hfk
                  go_wp2
                  go_round
                  case rel => exact ⟨k + 1, _, by omega, by omega, by go_num, rfl, HI.out.step HO.out hlt g1 g2⟩
                  case measure => simp [intOf]; omega
                · obtain rfl : k = s.size := by omega
                  have HV := Lib.hid (HI.out.last HO.out)
                  have HG := Lib.hid HO.out.neg1
                  by_cases hm : 9007199254740992 < n
                  · go_wp2
                    go_ret2
                    exact ⟨ret_much HF.out HN.out HV.out hm, rfl⟩
                  · go_wp2
                    go_ret2
                    exact ⟨ret_plus HF.out HN.out HV.out HG.out b1 (by omega), rfl⟩
  · exact absurd h0 hf

set_option maxHeartbeats 4000000 in
theorem rread_1 (s d : ByteArray) (neg : Bool) (w : World) (hs : s.size ≤ maxLen) (ho : Off s d neg 1) (h0 : 0 < s.size) (h45 : (s[0].toNat : Int) = 45) :
    Calls Tryd.prog 19 #[.string s] w fun e w' => e = .returned (.tuple #[.int .i64 (readV neg d.data.toList), .int .i64 (readE neg d.data.toList)]) ∧ w = w' := by
  unfold maxLen at hs
  have HO := Lib.hid ho
  have hz : s.size = d.size + 1 := ho.size
  have hd1 : s.size ≤ d.size + 1 := by omega
  have hd2 : d.size + 1 ≤ s.size := by omega
  clear ho hz
  have hE1 := ne_empty h0
  have hE2 : ((s.size : Int) == 0) = false := by simp; exact hE1
  by_cases hf : 1 < s.size
  · have hE3 : ((s.size : Int) == 1) = false := by simp; omega
    by_cases h48 : (s[1].toNat : Int) = 48 ∧ (1 + 1 < s.size ∨ 1 = 1)
    · have HF := Lib.hid (HO.out.nought hf h48.1 h48.2)
      obtain ⟨h48, h1⟩ := h48
      clear h1
      go_enter Tryd.func19, Tryd.ntmps19
      go_wp2
      all_goals
        go_ret2
        exact ⟨ret_form HF.out, rfl⟩
    · have HL := Lib.hid (show ¬ (s[1].toNat : Int) = 48 ∨ (s.size ≤ 1 + 1 ∧ 1 ≠ 1) by omega)
      have hc : ¬ (s[1].toNat : Int) = 48 := by omega
      clear h48
      skip
      all_goals
        go_enter Tryd.func19, Tryd.ntmps19
        go_wp2
        go_loop [5] (fun i => ∃ k : Nat, 1 ≤ k ∧ k ≤ s.size ∧ i = .int .i64 k ∧ upFrom s 1 k) (fun i => s.size - (intOf i).toNat)
        case atStart => exact ⟨1, by omega, by omega, rfl, upFrom_first s 1⟩
        case round =>
          obtain ⟨k, hfk, hk, rfl, hu⟩ := hrel
          have H := Lib.hid hu
          clear hu
          by_cases hlt : k < s.size
          · go_wp2
            all_goals first
              | (go_round
                 case rel => exact ⟨k + 1, by omega, by omega, by go_num, upFrom_succ H.out hlt (by omega) (by omega)⟩
                 case measure => simp [intOf]; omega)
              | (go_ret2
                 exact ⟨ret_form (HO.out.bad hfk hlt (by omega)), rfl⟩)
          · obtain rfl : k = s.size := by omega
            have HF := Lib.hid (HO.out.good hf HL.out H.out)
            by_cases hl : 16 < d.size
            · have HN := Lib.hid (show 16 < d.data.toList.length by rw [← size_list]; exact hl)
              go_wp2
              all_goals
                go_ret2
                exact ⟨ret_long HF.out HN.out, rfl⟩
            · have HN := Lib.hid (show ¬ 16 < d.data.toList.length by rw [← size_list]; exact hl)
              go_wp2
              go_loop [6, 7] (fun n i => ∃ (k : Nat) (n0 : Int), 1 ≤ k ∧ k ≤ s.size ∧ i = .int .i64 k ∧ n = .int .i64 n0 ∧ FromLeft s d 1 k n0) (fun _ i => s.size - (intOf i).toNat)
              case atStart => exact ⟨1, 0, by omega, by omega, rfl, rfl, FromLeft.first s d 1⟩
              case round =>
                obtain ⟨k, n, hfk, hk, rfl, rfl, hI⟩ := hrel
                have HI := Lib.hid hI
                obtain ⟨b1, b2⟩ := hI.bound (by omega)
                clear hI
                by_cases hlt : k < s.size
                · obtain ⟨g1, g2⟩ := upFrom_at H.out k hlt hfk
                  go_wp2
                  go_round
                  case rel => exact ⟨k + 1, _, by omega, by omega, by go_num, rfl, HI.out.step HO.out hlt g1 g2⟩
                  case measure => simp [intOf]; omega
                · obtain rfl : k = s.size := by omega
                  have HV := Lib.hid (HI.out.last HO.out)
                  have HG := Lib.hid HO.out.neg1
                  by_cases hm : 9007199254740992 < n
                  · go_wp2
                    go_ret2
                    exact ⟨ret_much HF.out HN.out HV.out hm, rfl⟩
                  · go_wp2
                    go_ret2
                    exact ⟨ret_minus HF.out HN.out HV.out HG.out b1 (by omega), rfl⟩
  · have HF := Lib.hid (HO.out.empty hf)
    skip
    go_enter Tryd.func19, Tryd.ntmps19
    go_wp2
    go_ret2
    exact ⟨ret_form HF.out, rfl⟩

set_option maxHeartbeats 400000 in
theorem rread_nil (s d : ByteArray) (neg : Bool) (w : World) (HF : Hid (formOk neg d.data.toList = false)) (h0 : ¬ 0 < s.size) :
    Calls Tryd.prog 19 #[.string s] w fun e w' => e = .returned (.tuple #[.int .i64 (readV neg d.data.toList), .int .i64 (readE neg d.data.toList)]) ∧ w = w' := by
  have hE2 : ((s.size : Int) == 0) = true := by simp; exact ByteArray.size_eq_zero_iff.1 (by omega)
  have hE1 := ByteArray.size_eq_zero_iff.1 (show s.size = 0 by omega)
  go_enter Tryd.func19, Tryd.ntmps19
  go_wp2
  go_ret2
  exact ⟨ret_form HF.out, rfl⟩
theorem rread_any (s : ByteArray) (w : World) (hs : s.size ≤ maxLen) : Calls Tryd.prog 19 #[.string s] w fun e w' => e = .returned (.tuple #[.int .i64 (readV (negS s) (trimS s).data.toList), .int .i64 (readE (negS s) (trimS s).data.toList)]) ∧ w = w' := by
  by_cases h0 : 0 < s.size
  · have hg := neg_get s h0
    cases hn : negS s
    · have ho := Off.zero hn
      rw [hn] at ho hg
      exact rread_0 s _ false w hs ho h0 (by simpa using hg.symm)
    · have ho := Off.one hn
      rw [hn] at ho hg
      exact rread_1 s _ true w hs ho h0 (by simpa using hg.symm)
  · have hn : negS s = false := by cases e : negS s; rfl; exact absurd (neg_size e) h0
    have ho := Off.zero hn
    exact rread_nil s _ _ w (ho.empty (by omega)) h0

end Go.Proofs.YtfhknnldkfngdaaDoor.Nu
