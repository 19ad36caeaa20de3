/- WALK of treillagelaw02.NameSplits. -/
import Derived.Test.YtikhhkhkfaadlaaDoorS
import Derived.Test.YtikhhkhkfaadlaaDoorO
namespace Go.Proofs.YtikhhkhkfaadlaaDoor
open Go.RowKit

theorem rsplit_is (s : ByteArray) (n : Bool) (w : World) (hs : s.size ≤ 400) (hb : Hid (pathL (parts s.data.toList) = n)) : Calls Tryd.prog 17 #[.string s] w fun e w' =>
    ∃ a len cap, e = .returned (.slice a len cap) ∧ StrRow w' a len (splV s) ∧ (bif n then 0 < len else len = 0) ∧ Below w.heap.size w w' := by
  have e : splR s = splV s := by
    unfold splR splV
    rw [(spl_parts s).1]
  refine (rsplit_any s w hs).mono ?_
  rintro e' w' ⟨a, len, cap, rfl, hS, hB⟩
  refine ⟨a, len, cap, rfl, by rw [← e]; exact hS, ?_, hB⟩
  have hc := hS.count
  cases n
  · show len = 0
    rw [← hc]; unfold splR; rw [hb.out]; rfl
  · show 0 < len
    have h1 := (spl_parts s).2 hb.out
    have h2 := (pathL_parts hb.out).1
    rw [← hc]; unfold splR; rw [hb.out]
    rw [← h1] at h2
    have h3 : 1 ≤ (spl s).length := by simpa [bl] using h2
    rw [if_pos rfl]; exact h3
theorem rtext_is (a : Option Addr) (len cap : Nat) (xs : List ByteArray) (t : ByteArray) (w : World) (hS : StrRow w a len xs) (ht : Hid (textB xs = t)) : Calls Tryd.prog 19 #[.slice a len cap] w fun e w' => e = .returned (.string t) ∧ w = w' := by
  rw [← ht.out]; exact rtext_any a len cap xs w hS
theorem text_empty {xs : List ByteArray} (h : pathB xs = false) : (textB xs).toList = [] := by
  rw [Lib.toList_data]; simp [textB, h]
theorem text_full {xs : List ByteArray} (h : pathB xs = true) : ¬ (textB xs).toList = [] := by
  rw [Lib.toList_data]
  have hp := pathB_L xs
  rw [h] at hp
  have := jn_nonempty hp.symm
  simpa [textB, h] using this

theorem text_case {xs : List ByteArray} {b : Bool} {t : ByteArray} (h : pathB xs = b) (ht : textB xs = t) : bif b then (¬ t.toList = [] ∧ t.toList.isEmpty = false) else (t.toList = [] ∧ t.toList.isEmpty = true) := by
  subst ht
  cases b
  · have := text_empty h
    exact ⟨this, by rw [this]; rfl⟩
  · have := text_full h
    exact ⟨this, by cases e : (textB xs).toList <;> simp_all⟩

set_option maxHeartbeats 1000000 in
theorem nsplits_long (s : ByteArray) (a : Option Addr) (len cap : Nat) (xs : List ByteArray) (w : World) (hs : s.size ≤ 140737488355328) (hE : Env w) (hS : StrRow w a len xs) (h : 400 < s.size ∨ (¬ 400 < s.size ∧ fewB xs = false)) :
    Calls Tryd.prog 4 #[.string s, .slice a len cap] w fun e w' => e = .returned (.bool true) ∧ Below w.heap.size w w' := by
  have hmax := hS.max
  have HE := Lib.hid hE
  have HS := Lib.hid hS
  clear hE hS
  rcases h with h | ⟨h, hf⟩
  · go_enter Tryd.func4, Tryd.ntmps4
    go_wp2_with (go_at_call 7; refine (awake_any _ HE.out).mono ?_; rintro e w' ⟨rfl, hB⟩)
    go_ret
    exact ⟨rfl, hB⟩
  · have HF := Lib.hid hf
    clear hf
    go_enter Tryd.func4, Tryd.ntmps4
    go_wp2_with (first
      | (go_at_call 6; refine (few_as _ _ _ _ _ _ HS.out HF).mono ?_; rintro e w' ⟨rfl, rfl⟩)
      | (go_at_call 7; refine (awake_any _ HE.out).mono ?_; rintro e w' ⟨rfl, hB⟩))
    go_ret
    exact ⟨rfl, hB⟩

set_option maxHeartbeats 4000000 in
theorem nsplits_short (s : ByteArray) (a : Option Addr) (len cap : Nat) (xs : List ByteArray) (w : World) (hE : Env w) (hS : StrRow w a len xs) (hcap : len ≤ cap) (h : ¬ 400 < s.size) (hf : fewB xs = true) :
    Calls Tryd.prog 4 #[.string s, .slice a len cap] w fun e w' => e = .returned (.bool true) ∧ Below w.heap.size w w' := by
  have hmax := hS.max
  have K0 := Lib.hid (Keep.first hE hS)
  have HF := Lib.hid hf
  have HC := Lib.hid hcap
  clear hE hS hf hcap
  obtain ⟨t, ht⟩ : ∃ t, textB xs = t := ⟨_, rfl⟩
  have HT := Lib.hid ht
  cases b1 : pathL (parts s.data.toList) <;> cases b2 : pathB xs
  all_goals
    have B1 := Lib.hid b1
    have B2 := Lib.hid b2
    obtain ⟨g1, g2⟩ := text_case b2 ht
    clear b1 b2 ht
    go_enter Tryd.func4, Tryd.ntmps4
    go_wp2_with (first
      | (go_at_call 6; refine (few_as _ _ _ _ _ _ K0.out.row HF).mono ?_; rintro e w' ⟨rfl, rfl⟩)
      | (go_at_call 16; (with_reducible refine (split_is _ _ _ K0.out.env (by omega) B1).mono ?_); rintro e w1 ⟨a1, l1, c1, rfl, hS1, hc1, hB⟩; have K1 := Lib.hid (K0.out.next hB); have S1 := Lib.hid hS1; clear hB hS1 hc1)
      | (go_at_call 17; (with_reducible refine (rsplit_is _ _ _ (by omega) B1).mono ?_); rintro e w2 ⟨a2, l2, c2, rfl, hS2, hl2, hB⟩; (first | (have hl3 : 0 < l2 := hl2) | (obtain rfl : l2 = 0 := hl2)); have K2 := Lib.hid (K1.out.next hB); have S2 := Lib.hid hS2; have S1b := Lib.hid (S1.out.below hB); clear hB hS2; try clear hl2)
      | (go_at_call 18; (with_reducible refine (ntext_is _ _ _ _ _ _ _ K2.out.env K2.out.row HC.out HT B2).mono ?_); rintro e w3 ⟨rfl, hB⟩; have K3 := Lib.hid (K2.out.next hB); have S1c := Lib.hid (S1b.out.below hB); have S2c := Lib.hid (S2.out.below hB); clear hB)
      | (go_at_call 19; (with_reducible refine (rtext_is _ _ _ _ _ _ K3.out.row HT).mono ?_); rintro e w4 ⟨rfl, rfl⟩)
      | (go_at_call 7; refine (awake_any _ K3.out.env).mono ?_; rintro e w5 ⟨rfl, hB⟩; have K5 := Lib.hid (K3.out.next hB); have S1d := Lib.hid (S1c.out.below hB); have S2d := Lib.hid (S2c.out.below hB); clear hB)
      | (go_at_call 20; (with_reducible refine (same_is _ _ _ _ _ _ _ _ _ S1d.out S2d.out (Lib.hid rfl)).mono ?_); rintro e w6 ⟨rfl, hB⟩; have K6 := Lib.hid (K5.out.next hB); clear hB))
    go_ret
    exact ⟨rfl, K6.out.bel⟩
theorem nsplits_walk (s : ByteArray) (a : Option Addr) (len cap : Nat) (xs : List ByteArray) (w : World) (hs : s.size ≤ 140737488355328) (hE : Env w) (hS : StrRow w a len xs) (hcap : len ≤ cap) :
    Calls Tryd.prog 4 #[.string s, .slice a len cap] w fun e w' => e = .returned (.bool true) ∧ Below w.heap.size w w' := by
  by_cases h : 400 < s.size
  · exact nsplits_long s a len cap xs w hs hE hS (.inl h)
  · cases hf : fewB xs
    · exact nsplits_long s a len cap xs w hs hE hS (.inr ⟨h, hf⟩)
    · exact nsplits_short s a len cap xs w hE hS hcap h hf
end Go.Proofs.YtikhhkhkfaadlaaDoor
