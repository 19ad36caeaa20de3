/- WALKS of the reference's Next: where a length stands. -/
import Derived.Test.YtnejahfeafllkaaFe
namespace Go.Proofs.Ytnejahfeafllkaa
open Go.RowKit
set_option maxRecDepth 100000 in
set_option maxHeartbeats 2000000 in
theorem rnext_long (s : ByteArray) (p n c : Nat) (w : World) (hs : s.size ≤ 140737488355328) (hp : p < s.size) (hb : s[p].toNat = 165) (hg : gets (s.data.toList.drop (p + 1)) = (0, n, c)) (hn : 65536 < n) :
    Calls Try.prog 26 #[.string s, .int .i64 (p : Int)] w (NextIs w (⟨#[]⟩, 0, 4)) := by
  have h1 : ((p : Int) == (s.size : Int)) = false := by simp; omega
  have h2 : ((s[p].toNat : Int) != 165) = false := by simp; omega
  have h3 : ((s[p].toNat : Int) == 165) = true := by simp; omega
  have hcl : c ≤ s.size - (p + 1) := by have := gets_len hg; simpa using this
  have HG := fun W => Lib.hid (rget_any s (p + 1) 0 (s.data.toList.drop (p + 1)) W rfl (by omega) hs)
  rw [hg, nxt_ok rfl] at HG
  unfold GetPost refR at HG
  obtain ⟨p1, hp1⟩ : ∃ p1, p1 = p + 1 := ⟨_, rfl⟩
  have e0 : (p : Int) + 1 = (p1 : Int) := by omega
  have hni : (65536 : Int) < (n : Int) := by omega
  rw [← hp1] at HG
  clear hb hg hcl hp1 hn
  go_enter Try.func26, Try.ntmps26
  go_wp2_with (
    (go_at_call 45; refine (HG _).out.mono ?_; rintro e w1 ⟨rfl, hB1⟩; have HB1 := Lib.hid hB1; clear hB1))
  go_ret3
  exact NextIs.mk' rfl (by decide) (by decide) (HB1.out.alloc HB1.out.size _)
set_option maxRecDepth 100000 in
set_option maxHeartbeats 2000000 in
theorem rnext_short (s : ByteArray) (p n c : Nat) (w : World) (hs : s.size ≤ 140737488355328) (hp : p < s.size) (hb : s[p].toNat = 165) (hg : gets (s.data.toList.drop (p + 1)) = (0, n, c)) (hn : n ≤ 65536) (hsh : s.size < p + 1 + c + n + 4) :
    Calls Try.prog 26 #[.string s, .int .i64 (p : Int)] w (NextIs w (⟨#[]⟩, 0, 3)) := by
  have h1 : ((p : Int) == (s.size : Int)) = false := by simp; omega
  have h2 : ((s[p].toNat : Int) != 165) = false := by simp; omega
  have h3 : ((s[p].toNat : Int) == 165) = true := by simp; omega
  have hcl : c ≤ s.size - (p + 1) := by have := gets_len hg; simpa using this
  have HG := fun W => Lib.hid (rget_any s (p + 1) 0 (s.data.toList.drop (p + 1)) W rfl (by omega) hs)
  rw [hg, nxt_ok rfl] at HG
  unfold GetPost refR at HG
  obtain ⟨p1, hp1⟩ : ∃ p1, p1 = p + 1 := ⟨_, rfl⟩
  have e0 : (p : Int) + 1 = (p1 : Int) := by omega
  have hni : ¬ (65536 : Int) < (n : Int) := by omega
  obtain ⟨z, hz⟩ : ∃ z, z = p + 1 + c + n := ⟨_, rfl⟩
  obtain ⟨y, hy⟩ : ∃ y, y = z + 4 := ⟨_, rfl⟩
  obtain ⟨b, hb'⟩ : ∃ b, b = p1 + c := ⟨_, rfl⟩
  have e2 : (b : Int) + (n : Int) = (z : Int) := by omega
  have e3 : (z : Int) + 4 = (y : Int) := by omega
  rw [← hp1, ← hb'] at HG
  have hfar : (s.size : Int) < (y : Int) := by omega
  have hy47 : (y : Int) ≤ 140737488555328 := by omega
  have hz47 : (z : Int) ≤ 140737488555328 := by omega
  clear hb hg hcl hp1 hb' hz hy hsh hn
  go_enter Try.func26, Try.ntmps26
  go_wp2_with (
    (go_at_call 45; refine (HG _).out.mono ?_; rintro e w1 ⟨rfl, hB1⟩; have HB1 := Lib.hid hB1; clear hB1))
  go_ret3
  exact NextIs.mk' rfl (by decide) (by decide) (HB1.out.alloc HB1.out.size _)
set_option maxRecDepth 100000 in
set_option maxHeartbeats 2000000 in
theorem rnext_sum (s : ByteArray) (p n c : Nat) (w : World) (hs : s.size ≤ 140737488355328) (hp : p < s.size) (hb : s[p].toNat = 165) (hg : gets (s.data.toList.drop (p + 1)) = (0, n, c)) (hn : n ≤ 65536) (hsh : p + 1 + c + n + 4 ≤ s.size) (hmk : ¬ markS (s.extract p (p + 1 + c + n)) = s.extract (p + 1 + c + n) (p + 1 + c + n + 4)) :
    Calls Try.prog 26 #[.string s, .int .i64 (p : Int)] w (NextIs w (⟨#[]⟩, 0, 7)) := by
  have h1 : ((p : Int) == (s.size : Int)) = false := by simp; omega
  have h2 : ((s[p].toNat : Int) != 165) = false := by simp; omega
  have h3 : ((s[p].toNat : Int) == 165) = true := by simp; omega
  have hcl : c ≤ s.size - (p + 1) := by have := gets_len hg; simpa using this
  have HG := fun W => Lib.hid (rget_any s (p + 1) 0 (s.data.toList.drop (p + 1)) W rfl (by omega) hs)
  rw [hg, nxt_ok rfl] at HG
  unfold GetPost refR at HG
  obtain ⟨p1, hp1⟩ : ∃ p1, p1 = p + 1 := ⟨_, rfl⟩
  have e0 : (p : Int) + 1 = (p1 : Int) := by omega
  have hni : ¬ (65536 : Int) < (n : Int) := by omega
  obtain ⟨z, hz⟩ : ∃ z, z = p + 1 + c + n := ⟨_, rfl⟩
  obtain ⟨y, hy⟩ : ∃ y, y = z + 4 := ⟨_, rfl⟩
  obtain ⟨b, hb'⟩ : ∃ b, b = p1 + c := ⟨_, rfl⟩
  have e2 : (b : Int) + (n : Int) = (z : Int) := by omega
  have e3 : (z : Int) + 4 = (y : Int) := by omega
  rw [← hp1, ← hb'] at HG
  have hfar : ¬ (s.size : Int) < (y : Int) := by omega
  have hpy : (p : Int) ≤ (z : Int) := by omega
  have hbz : (b : Int) ≤ (z : Int) := by omega
  have hzs : (z : Int) ≤ (s.size : Int) := by omega
  have hzy : (z : Int) ≤ (y : Int) := by omega
  have hyl : (y : Int) ≤ (s.size : Int) := by omega
  have e3w : IntKind.i64.wrap (y : Int) = (y : Int) := by rw [IntKind.wrap_i64]; omega
  have hbp : p + 1 + c = b := by omega
  have hzz : p + 1 + c + n = z := hz.symm
  have hyy : p + 1 + c + n + 4 = y := by omega
  have HO := fun W => Lib.hid (mark_any (s.extract p z) W (by simp; omega))
  rw [hyy, hzz] at hmk
  have HM := Lib.hid hmk
  generalize markS (s.extract p z) = mk at *
  have hne : (!mk.toList == (s.extract z y).toList) = true := by
    cases h : (!mk.toList == (s.extract z y).toList) with
    | true => rfl
    | false => exact absurd (ba_eq (by simpa using h)) hmk
  clear hb hg hcl hp1 hz hy hsh hn hmk hbp hzz hyy hb'
  go_enter Try.func26, Try.ntmps26
  go_wp2_with (
    (go_at_call 45; refine (HG _).out.mono ?_; rintro e w1 ⟨rfl, hB1⟩; have HB1 := Lib.hid hB1; clear hB1))
  go_region_with ((go_at_call 46; refine (HO _).out.mono ?_; rintro e w5 ⟨rfl, hB5⟩; have HB5 := Lib.hid hB5; have hc5 : w5.cell? ⟨w1.heap.size, 1, none⟩ = some (.int .i64 (b : Int)) := ((hB5.cell (p := ⟨w1.heap.size, 1, none⟩) (by simp)).trans (by simp [World.cell?_alloc_new])); clear hB5))
  go_wp2
  go_ret3
  exact NextIs.mk' rfl (by decide) (by decide) ((HB1.out.alloc HB1.out.size _).drew.trans (HB5.out.mono (by simp; have := HB1.out.size; omega)))
set_option maxRecDepth 100000 in
set_option maxHeartbeats 2000000 in
theorem rnext_ok (s : ByteArray) (p n c : Nat) (w : World) (hs : s.size ≤ 140737488355328) (hp : p < s.size) (hb : s[p].toNat = 165) (hg : gets (s.data.toList.drop (p + 1)) = (0, n, c)) (hn : n ≤ 65536) (hsh : p + 1 + c + n + 4 ≤ s.size) (hmk : markS (s.extract p (p + 1 + c + n)) = s.extract (p + 1 + c + n) (p + 1 + c + n + 4)) :
    Calls Try.prog 26 #[.string s, .int .i64 (p : Int)] w (NextIs w (s.extract (p + 1 + c) (p + 1 + c + n), p + 1 + c + n + 4, 0)) := by
  have h1 : ((p : Int) == (s.size : Int)) = false := by simp; omega
  have h2 : ((s[p].toNat : Int) != 165) = false := by simp; omega
  have h3 : ((s[p].toNat : Int) == 165) = true := by simp; omega
  have hcl : c ≤ s.size - (p + 1) := by have := gets_len hg; simpa using this
  have HG := fun W => Lib.hid (rget_any s (p + 1) 0 (s.data.toList.drop (p + 1)) W rfl (by omega) hs)
  rw [hg, nxt_ok rfl] at HG
  unfold GetPost refR at HG
  obtain ⟨p1, hp1⟩ : ∃ p1, p1 = p + 1 := ⟨_, rfl⟩
  have e0 : (p : Int) + 1 = (p1 : Int) := by omega
  have hni : ¬ (65536 : Int) < (n : Int) := by omega
  obtain ⟨z, hz⟩ : ∃ z, z = p + 1 + c + n := ⟨_, rfl⟩
  obtain ⟨y, hy⟩ : ∃ y, y = z + 4 := ⟨_, rfl⟩
  obtain ⟨b, hb'⟩ : ∃ b, b = p1 + c := ⟨_, rfl⟩
  have e2 : (b : Int) + (n : Int) = (z : Int) := by omega
  have e3 : (z : Int) + 4 = (y : Int) := by omega
  rw [← hp1, ← hb'] at HG
  have hfar : ¬ (s.size : Int) < (y : Int) := by omega
  have hpy : (p : Int) ≤ (z : Int) := by omega
  have hbz : (b : Int) ≤ (z : Int) := by omega
  have hzs : (z : Int) ≤ (s.size : Int) := by omega
  have hzy : (z : Int) ≤ (y : Int) := by omega
  have hyl : (y : Int) ≤ (s.size : Int) := by omega
  have e3w : IntKind.i64.wrap (y : Int) = (y : Int) := by rw [IntKind.wrap_i64]; omega
  have hbp : p + 1 + c = b := by omega
  have hzz : p + 1 + c + n = z := hz.symm
  have hyy : p + 1 + c + n + 4 = y := by omega
  have HO := fun W => Lib.hid (mark_any (s.extract p z) W (by simp; omega))
  rw [hyy, hzz] at hmk
  rw [hyy, hzz, hbp]
  have HM := Lib.hid hmk
  generalize markS (s.extract p z) = mk at *
  have hne : (!mk.toList == (s.extract z y).toList) = false := by rw [hmk]; simp
  clear hb hg hcl hp1 hz hy hsh hn hmk hbp hzz hyy hb'
  go_enter Try.func26, Try.ntmps26
  go_wp2_with (
    (go_at_call 45; refine (HG _).out.mono ?_; rintro e w1 ⟨rfl, hB1⟩; have HB1 := Lib.hid hB1; clear hB1))
  go_region_with ((go_at_call 46; refine (HO _).out.mono ?_; rintro e w5 ⟨rfl, hB5⟩; have HB5 := Lib.hid hB5; have hc5 : w5.cell? ⟨w1.heap.size, 1, none⟩ = some (.int .i64 (b : Int)) := ((hB5.cell (p := ⟨w1.heap.size, 1, none⟩) (by simp)).trans (by simp [World.cell?_alloc_new])); clear hB5))
  go_wp2
  go_ret3
  exact NextIs.mk' rfl (Int.natCast_nonneg _) (by decide) ((HB1.out.alloc HB1.out.size _).drew.trans (HB5.out.mono (by simp; have := HB1.out.size; omega)))
/-- What the reference's Next answers at each place of each text. -/
theorem rnext_any (s : ByteArray) (p : Nat) (w : World) (hs : s.size ≤ 140737488355328) (hp : p ≤ s.size) : Calls Try.prog 26 #[.string s, .int .i64 (p : Int)] w (NextIs w (nx s p)) := by
  unfold nx
  by_cases h0 : p = s.size
  · rw [if_pos h0]; subst h0; exact rnext_end s w
  · have hlt : p < s.size := by omega
    have hd : s.data.toList.getD p 0 = s[p] := by
      have : p < s.data.toList.length := by simpa using hlt
      simp [List.getD, List.getElem?_eq_getElem this]; rfl
    rw [if_neg h0, hd]
    by_cases h1 : s[p] = 165
    · rw [if_neg (by simpa using h1)]
      have h1n : s[p].toNat = 165 := by rw [h1]; rfl
      obtain ⟨⟨a, n, c⟩, hg⟩ : ∃ g, gets (s.data.toList.drop (p + 1)) = g := ⟨_, rfl⟩
      rw [hg]
      unfold nxB
      by_cases ha : a = 0
      · subst ha
        rw [if_neg (by simp)]
        by_cases hn : 65536 < n
        · rw [if_pos hn]; exact rnext_long s p n c w hs hlt h1n hg hn
        · rw [if_neg hn]
          by_cases hsh : s.size < p + 1 + c + n + 4
          · rw [if_pos hsh]; exact rnext_short s p n c w hs hlt h1n hg (by omega) hsh
          · rw [if_neg hsh]
            by_cases hmk : markS (s.extract p (p + 1 + c + n)) = s.extract (p + 1 + c + n) (p + 1 + c + n + 4)
            · rw [if_neg (by simpa using hmk)]; exact rnext_ok s p n c w hs hlt h1n hg (by omega) (by omega) hmk
            · rw [if_pos hmk]; exact rnext_sum s p n c w hs hlt h1n hg (by omega) (by omega) hmk
      · rw [if_pos ha]; exact rnext_err s p a w hs hlt h1n (by rw [hg]) ha
    · rw [if_pos h1]
      exact rnext_form s p w hlt (fun h => h1 (UInt8.toNat_inj.1 h))
end Go.Proofs.Ytnejahfeafllkaa
