/- WALKS of frame.Next: where a whole record stands. -/
import Derived.Test.YtnejahfeafllkaaFc
namespace Go.Proofs.Ytnejahfeafllkaa
open Go.RowKit
set_option maxRecDepth 100000 in
set_option maxHeartbeats 2000000 in
theorem next_sum (s : ByteArray) (p n c : Nat) (w : World) (hs : s.size ≤ 140737488355328) (hp : p < s.size) (hb : s[p].toNat = 165) (hg : gets (s.data.toList.drop (p + 1)) = (0, n, c)) (hn : n ≤ 65536) (hsh : p + 1 + c + n + 4 ≤ s.size) (hmk : ¬ markS (s.extract p (p + 1 + c + n)) = s.extract (p + 1 + c + n) (p + 1 + c + n + 4)) :
    Calls Try.prog 25 #[.string s, .int .i64 (p : Int)] w (NextIs w (⟨#[]⟩, 0, 7)) := by
  have h1 : ((p : Int) == (s.size : Int)) = false := by simp; omega
  have h2 : ((s[p].toNat : Int) != 165) = false := by simp; omega
  have h3 : ((s[p].toNat : Int) == 165) = true := by simp; omega
  obtain ⟨R, hR⟩ : ∃ R, s.extract (p + 1) s.size = R := ⟨_, rfl⟩
  have hRL : R.data.toList = s.data.toList.drop (p + 1) := by rw [← hR]; exact rest_is s (p + 1)
  have hRz : R.size = s.size - (p + 1) := by rw [← hR]; simp
  have hcl : c ≤ s.size - (p + 1) := by have := gets_len hg; simpa using this
  have HG := fun B W => Lib.hid (fun h => get_any B R 0 0 (s.data.toList.drop (p + 1)) W h (by rw [hRL]; rfl) (by omega) (by omega))
  rw [hg, nxt_ok rfl, Nat.zero_add] at HG
  have HE := fun B W => Lib.hid (fun h => err_any B R c 0 W h)
  have hni : ¬ (65536 : Int) < (n : Int) := by omega
  have HLf := fun B W => Lib.hid (fun h => left_any B R c 0 W h (by omega) (by omega))
  obtain ⟨m, hm⟩ : ∃ m, R.size - c = m := ⟨_, rfl⟩
  rw [hm] at HLf
  obtain ⟨b, hb'⟩ : ∃ b, b = p + 1 + c := ⟨_, rfl⟩
  obtain ⟨z, hz⟩ : ∃ z, z = b + n := ⟨_, rfl⟩
  obtain ⟨y, hy⟩ : ∃ y, y = z + 4 := ⟨_, rfl⟩
  have e1 : (s.size : Int) - (m : Int) = (b : Int) := by omega
  have e2 : (b : Int) + (n : Int) = (z : Int) := by omega
  have e3 : (z : Int) + 4 = (y : Int) := by omega
  have hfar : ¬ (s.size : Int) < (y : Int) := by omega
  have hpy : (p : Int) ≤ (y : Int) := by omega
  have HO := fun W => Lib.hid (open_any (s.extract p y) W (by simp; omega))
  rw [opn_part (show p ≤ z by omega) hy (by omega)] at HO
  subst hy hz hb'
  rw [if_neg hmk] at HO
  generalize hyy : p + 1 + c + n + 4 = y at *
  generalize hzz : p + 1 + c + n = z at *
  generalize hbb : p + 1 + c = b at *
  have HR := Lib.hid hR
  have hsl : (p : Int) + 1 ≤ (s.size : Int) := by omega
  clear hb hg hRL hRz hcl hm hyy hzz hbb hsh hn hmk
  go_enter Try.func25, Try.ntmps25
  go_wp2_with (first
    | (go_at_call 40; refine (new_any _ _).mono ?_; rintro e w1 ⟨rfl, hR1, hB1, hz1⟩; have HR1 := Lib.hid hR1; have HB1 := Lib.hid hB1; clear hR1 hB1)
    | (go_at_call 41; refine ((HG _ _).out (by have := HR1.out; first | exact this | (rw [HR.out] at this; exact this))).mono ?_; rintro e w2 ⟨rfl, hR2, hK2⟩; have HR2 := Lib.hid hR2; have HK2 := Lib.hid hK2; clear hR2 hK2)
    | (go_at_call 42; refine ((HE _ _).out HR2.out).mono ?_; rintro e w3 ⟨rfl, rfl⟩)
    | (go_at_call 43; refine ((HLf _ _).out HR2.out).mono ?_; rintro e w4 ⟨rfl, hR4, hK4⟩; have HR4 := Lib.hid hR4; have HK4 := Lib.hid hK4; clear hR4 hK4)
    | (go_at_call 44; refine (HO _).out.mono ?_; rintro e w5 ⟨rfl, hB5⟩; have HB5 := Lib.hid hB5; clear hB5))
  go_ret3
  exact NextIs.mk' rfl (by decide) (by decide) ((((HK2.out.trans HK4.out).below HB1.out (Nat.le_refl _) HB1.out.size)).trans (HB5.out.mono (by have := HB1.out.size; have := HK2.out.size; have := HK4.out.size; omega)))
set_option maxRecDepth 100000 in
set_option maxHeartbeats 2000000 in
theorem next_ok (s : ByteArray) (p n c : Nat) (w : World) (hs : s.size ≤ 140737488355328) (hp : p < s.size) (hb : s[p].toNat = 165) (hg : gets (s.data.toList.drop (p + 1)) = (0, n, c)) (hn : n ≤ 65536) (hsh : p + 1 + c + n + 4 ≤ s.size) (hmk : markS (s.extract p (p + 1 + c + n)) = s.extract (p + 1 + c + n) (p + 1 + c + n + 4)) :
    Calls Try.prog 25 #[.string s, .int .i64 (p : Int)] w (NextIs w (s.extract (p + 1 + c) (p + 1 + c + n), p + 1 + c + n + 4, 0)) := by
  have h1 : ((p : Int) == (s.size : Int)) = false := by simp; omega
  have h2 : ((s[p].toNat : Int) != 165) = false := by simp; omega
  have h3 : ((s[p].toNat : Int) == 165) = true := by simp; omega
  obtain ⟨R, hR⟩ : ∃ R, s.extract (p + 1) s.size = R := ⟨_, rfl⟩
  have hRL : R.data.toList = s.data.toList.drop (p + 1) := by rw [← hR]; exact rest_is s (p + 1)
  have hRz : R.size = s.size - (p + 1) := by rw [← hR]; simp
  have hcl : c ≤ s.size - (p + 1) := by have := gets_len hg; simpa using this
  have HG := fun B W => Lib.hid (fun h => get_any B R 0 0 (s.data.toList.drop (p + 1)) W h (by rw [hRL]; rfl) (by omega) (by omega))
  rw [hg, nxt_ok rfl, Nat.zero_add] at HG
  have HE := fun B W => Lib.hid (fun h => err_any B R c 0 W h)
  have hni : ¬ (65536 : Int) < (n : Int) := by omega
  have HLf := fun B W => Lib.hid (fun h => left_any B R c 0 W h (by omega) (by omega))
  obtain ⟨m, hm⟩ : ∃ m, R.size - c = m := ⟨_, rfl⟩
  rw [hm] at HLf
  obtain ⟨b, hb'⟩ : ∃ b, b = p + 1 + c := ⟨_, rfl⟩
  obtain ⟨z, hz⟩ : ∃ z, z = b + n := ⟨_, rfl⟩
  obtain ⟨y, hy⟩ : ∃ y, y = z + 4 := ⟨_, rfl⟩
  have e1 : (s.size : Int) - (m : Int) = (b : Int) := by omega
  have e2 : (b : Int) + (n : Int) = (z : Int) := by omega
  have e3 : (z : Int) + 4 = (y : Int) := by omega
  have hfar : ¬ (s.size : Int) < (y : Int) := by omega
  have hpy : (p : Int) ≤ (y : Int) := by omega
  have HO := fun W => Lib.hid (open_any (s.extract p y) W (by simp; omega))
  rw [opn_part (show p ≤ z by omega) hy (by omega)] at HO
  subst hy hz hb'
  rw [if_pos hmk] at HO
  have hX : (s.extract p (p + 1 + c + n)).extract (1 + c) (s.extract p (p + 1 + c + n)).size = s.extract (p + 1 + c) (p + 1 + c + n) := by
    rw [show (s.extract p (p + 1 + c + n)).size = 1 + c + n by simp; omega, part_part _ _ _ _ _ (by omega)]
    rw [show p + (1 + c) = p + 1 + c by omega, show p + (1 + c + n) = p + 1 + c + n by omega]
  have hXz : (s.extract p (p + 1 + c + n)).size = 1 + c + n := by simp; omega
  generalize hyy : p + 1 + c + n + 4 = y at *
  generalize hzz : p + 1 + c + n = z at *
  generalize hbb : p + 1 + c = b at *
  generalize s.extract p z = X at *
  obtain ⟨d, hd⟩ : ∃ d, d = 1 + c := ⟨_, rfl⟩
  rw [← hd] at hX
  have e4 : (b : Int) - (p : Int) = (d : Int) := by omega
  have hdX : (d : Int) ≤ (X.size : Int) := by omega
  have HX := Lib.hid hX
  have HR := Lib.hid hR
  have hsl : (p : Int) + 1 ≤ (s.size : Int) := by omega
  clear hb hg hRL hRz hcl hm hyy hzz hbb hsh hn hmk hX hd hXz
  go_enter Try.func25, Try.ntmps25
  go_wp2_with (first
    | (go_at_call 40; refine (new_any _ _).mono ?_; rintro e w1 ⟨rfl, hR1, hB1, hz1⟩; have HR1 := Lib.hid hR1; have HB1 := Lib.hid hB1; clear hR1 hB1)
    | (go_at_call 41; refine ((HG _ _).out (by have := HR1.out; first | exact this | (rw [HR.out] at this; exact this))).mono ?_; rintro e w2 ⟨rfl, hR2, hK2⟩; have HR2 := Lib.hid hR2; have HK2 := Lib.hid hK2; clear hR2 hK2)
    | (go_at_call 42; refine ((HE _ _).out HR2.out).mono ?_; rintro e w3 ⟨rfl, rfl⟩)
    | (go_at_call 43; refine ((HLf _ _).out HR2.out).mono ?_; rintro e w4 ⟨rfl, hR4, hK4⟩; have HR4 := Lib.hid hR4; have HK4 := Lib.hid hK4; clear hR4 hK4)
    | (go_at_call 44; refine (HO _).out.mono ?_; rintro e w5 ⟨rfl, hB5⟩; have HB5 := Lib.hid hB5; clear hB5))
  go_ret3
  rw [← HX.out]
  exact NextIs.mk' rfl (Int.natCast_nonneg _) (by decide) ((((HK2.out.trans HK4.out).below HB1.out (Nat.le_refl _) HB1.out.size)).trans (HB5.out.mono (by have := HB1.out.size; have := HK2.out.size; have := HK4.out.size; omega)))
/-- What Next answers at each place of each text. -/
theorem next_any (s : ByteArray) (p : Nat) (w : World) (hs : s.size ≤ 140737488355328) (hp : p ≤ s.size) : Calls Try.prog 25 #[.string s, .int .i64 (p : Int)] w (NextIs w (nx s p)) := by
  unfold nx
  by_cases h0 : p = s.size
  · rw [if_pos h0]; subst h0; exact next_end s w
  · have hlt : p < s.size := by omega
    have hd : s.data.toList.getD p 0 = s[p] := by
      have : p < s.data.toList.length := by simpa using hlt
      simp [List.getD, List.getElem?_eq_getElem this]; rfl
    rw [if_neg h0, hd]
    by_cases h1 : s[p] = 165
    · rw [if_neg (by simpa using h1)]
      have h1n : s[p].toNat = 165 := by rw [h1]; rfl
      obtain ⟨⟨a, n, c⟩, hg⟩ : ∃ g, gets (s.data.toList.drop (p + 1)) = g := ⟨_, rfl⟩
      rw [hg]
      unfold nxB
      by_cases ha : a = 0
      · subst ha
        rw [if_neg (by simp)]
        by_cases hn : 65536 < n
        · rw [if_pos hn]; exact next_long s p n c w hs hlt h1n hg hn
        · rw [if_neg hn]
          by_cases hsh : s.size < p + 1 + c + n + 4
          · rw [if_pos hsh]; exact next_short s p n c w hs hlt h1n hg (by omega) hsh
          · rw [if_neg hsh]
            by_cases hmk : markS (s.extract p (p + 1 + c + n)) = s.extract (p + 1 + c + n) (p + 1 + c + n + 4)
            · rw [if_neg (by simpa using hmk)]; exact next_ok s p n c w hs hlt h1n hg (by omega) (by omega) hmk
            · rw [if_pos hmk]; exact next_sum s p n c w hs hlt h1n hg (by omega) (by omega) hmk
      · rw [if_pos ha]; exact next_err s p a w hs hlt h1n (by rw [hg]) ha
    · rw [if_pos h1]
      exact next_form s p w hlt (fun h => h1 (UInt8.toNat_inj.1 h))
end Go.Proofs.Ytnejahfeafllkaa
