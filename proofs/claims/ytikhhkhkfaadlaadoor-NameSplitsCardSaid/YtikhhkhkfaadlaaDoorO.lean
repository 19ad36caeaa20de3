/- WALK of treillagelaw02.NameBack. -/
import Derived.Test.YtikhhkhkfaadlaaDoorN
import Derived.Test.YtikhhkhkfaadlaaDoorG
namespace Go.Proofs.YtikhhkhkfaadlaaDoor
open Go.RowKit

theorem split_is (s : ByteArray) (b : Bool) (w : World) (hE : Env w) (hs : s.size < 4294967281) (h : Hid (pathL (parts s.data.toList) = b)) : Calls Tryd.prog 16 #[.string s] w fun e w' =>
    ∃ a len cap, e = .returned (.tuple #[.slice a len cap, .bool b]) ∧ StrRow w' a len (splV s) ∧ len ≤ cap ∧ Below w.heap.size w w' := by
  rw [← h.out]; exact split_two s w hE hs
theorem ntext_is (a : Option Addr) (len cap : Nat) (xs : List ByteArray) (t : ByteArray) (b : Bool) (w : World) (hE : Env w) (hS : StrRow w a len xs) (hcap : len ≤ cap) (ht : Hid (textB xs = t)) (hb : Hid (pathB xs = b)) :
    Calls Tryd.prog 18 #[.slice a len cap] w fun e w' => e = .returned (.tuple #[.string t, .bool b]) ∧ Below w.heap.size w w' := by
  rw [← ht.out, ← hb.out]; exact ntext_any a len cap xs w hE hS hcap
theorem same_is (a a' : Option Addr) (len cap len' cap' : Nat) (xs ys : List ByteArray) (w : World) (hS : StrRow w a len xs) (hT : StrRow w a' len' ys) (h : Hid (bl xs = bl ys)) : Calls Tryd.prog 20 #[.slice a len cap, .slice a' len' cap'] w fun e w' => e = .returned (.bool true) ∧ Below w.heap.size w w' := by
  have e : sameB xs ys = true := decide_eq_true h.out
  rw [← e]; exact same_any a a' len cap len' cap' xs ys w hS hT
/-- What is split is put together as it was. -/
theorem back_split {s : ByteArray} (h : pathL (parts s.data.toList) = true) : textB (splV s) = s ∧ pathB (splV s) = true := by
  obtain ⟨h1, h2⟩ := spl_parts s
  rw [h] at h1
  have e : splV s = spl s := by simp [splV, h1]
  rw [e]
  refine ⟨?_, h1⟩
  unfold textB
  rw [if_pos h1, h2 h, jn_parts]
/-- What is put together is split as it was. -/
theorem back_text {xs : List ByteArray} (h : pathB xs = true) : pathL (parts (textB xs).data.toList) = true ∧ bl (splV (textB xs)) = bl xs ∧ (textB xs).size ≤ 400 := by
  have hp := pathB_L xs
  rw [h] at hp
  obtain ⟨h1, h2, h3⟩ := pathL_parts hp.symm
  have ht : (textB xs).data.toList = jn (bl xs) := by simp [textB, h]
  have hne : bl xs ≠ [] := by intro q; rw [q] at h1; simp at h1
  have hq := parts_jn (bl xs) hne fun x hx => right_nodot (h3 x hx)
  have e1 : parts (textB xs).data.toList = bl xs := by rw [ht, hq]
  have e2 : pathL (parts (textB xs).data.toList) = true := by rw [e1]; exact hp.symm
  obtain ⟨g1, g2⟩ := spl_parts (textB xs)
  rw [e2] at g1
  have e : splV (textB xs) = spl (textB xs) := by simp [splV, g1]
  refine ⟨e2, by rw [e, g2 e2, e1], ?_⟩
  have := jn_len (bl xs) fun x hx => right_len (h3 x hx)
  rw [size_list, Lib.toList_data, ht]; omega

set_option maxHeartbeats 1000000 in
theorem nback_long (s : ByteArray) (a : Option Addr) (len cap : Nat) (xs : List ByteArray) (w : World) (hs : s.size ≤ 140737488355328) (hE : Env w) (hS : StrRow w a len xs) (h : 400 < s.size ∨ (¬ 400 < s.size ∧ fewB xs = false)) :
    Calls Tryd.prog 5 #[.string s, .slice a len cap] w fun e w' => e = .returned (.bool true) ∧ Below w.heap.size w w' := by
  have hmax := hS.max
  have HE := Lib.hid hE
  have HS := Lib.hid hS
  clear hE hS
  rcases h with h | ⟨h, hf⟩
  · go_enter Tryd.func5, Tryd.ntmps5
    go_wp2_with (go_at_call 7; refine (awake_any _ HE.out).mono ?_; rintro e w' ⟨rfl, hB⟩)
    go_ret
    exact ⟨rfl, hB⟩
  · have HF := Lib.hid hf
    clear hf
    go_enter Tryd.func5, Tryd.ntmps5
    go_wp2_with (first
      | (go_at_call 6; refine (few_as _ _ _ _ _ _ HS.out HF).mono ?_; rintro e w' ⟨rfl, rfl⟩)
      | (go_at_call 7; refine (awake_any _ HE.out).mono ?_; rintro e w' ⟨rfl, hB⟩))
    go_ret
    exact ⟨rfl, hB⟩

set_option maxHeartbeats 4000000 in
theorem nback_short (s : ByteArray) (a : Option Addr) (len cap : Nat) (xs : List ByteArray) (w : World) (hE : Env w) (hS : StrRow w a len xs) (hcap : len ≤ cap) (h : ¬ 400 < s.size) (hf : fewB xs = true) :
    Calls Tryd.prog 5 #[.string s, .slice a len cap] w fun e w' => e = .returned (.bool true) ∧ Below w.heap.size w w' := by
  have hmax := hS.max
  have K0 := Lib.hid (Keep.first hE hS)
  have HF := Lib.hid hf
  have HC := Lib.hid hcap
  clear hE hS hf hcap
  obtain ⟨t, ht⟩ : ∃ t, textB xs = t := ⟨_, rfl⟩
  have HT := Lib.hid ht
  cases b1 : pathL (parts s.data.toList) <;> cases b2 : pathB xs
  all_goals
    have B1 := Lib.hid b1
    have B2 := Lib.hid b2
    have F1 : Hid (pathL (parts s.data.toList) = true → textB (splV s) = s ∧ pathB (splV s) = true) := back_split
    have F2 : Hid (pathB xs = true → pathL (parts t.data.toList) = true ∧ bl (splV t) = bl xs ∧ t.size ≤ 400) := by rw [← ht]; exact back_text
    clear b1 b2
  all_goals clear ht
  · go_enter Tryd.func5, Tryd.ntmps5
    go_wp2_with (first
      | (go_at_call 6; refine (few_as _ _ _ _ _ _ K0.out.row HF).mono ?_; rintro e w' ⟨rfl, rfl⟩)
      | (go_at_call 16; (with_reducible refine (split_is _ _ _ K0.out.env (by omega) B1).mono ?_); rintro e w1 ⟨a1, l1, c1, rfl, hS1, hc1, hB⟩; have K1 := Lib.hid (K0.out.next hB); clear hB hS1 hc1)
      | (go_at_call 18; (with_reducible refine (ntext_is _ _ _ _ _ _ _ K1.out.env K1.out.row HC.out HT B2).mono ?_); rintro e w2 ⟨rfl, hB⟩; have K2 := Lib.hid (K1.out.next hB); clear hB)
      | (go_at_call 7; refine (awake_any _ K2.out.env).mono ?_; rintro e w5 ⟨rfl, hB⟩; have K5 := Lib.hid (K2.out.next hB); clear hB))
    go_ret
    exact ⟨rfl, K5.out.bel⟩
  · go_enter Tryd.func5, Tryd.ntmps5
    have f2 := F2.out B2.out
    have G1 := Lib.hid f2.1
    have G2 := Lib.hid f2.2.1
    have hts := f2.2.2
    clear f2
    go_wp2_with (first
      | (go_at_call 6; refine (few_as _ _ _ _ _ _ K0.out.row HF).mono ?_; rintro e w' ⟨rfl, rfl⟩)
      | (go_at_call 16; (with_reducible refine (split_is _ _ _ K0.out.env (by omega) B1).mono ?_); rintro e w1 ⟨a1, l1, c1, rfl, hS1, hc1, hB⟩; have K1 := Lib.hid (K0.out.next hB); clear hB hS1 hc1)
      | (go_at_call 18; (with_reducible refine (ntext_is _ _ _ _ _ _ _ K1.out.env K1.out.row HC.out HT B2).mono ?_); rintro e w2 ⟨rfl, hB⟩; have K2 := Lib.hid (K1.out.next hB); clear hB)
      | (go_at_call 16; (with_reducible refine (split_is _ _ _ K2.out.env (by omega) G1).mono ?_); rintro e w3 ⟨a3, l3, c3, rfl, hS3, hc3, hB⟩; have K3 := Lib.hid (K2.out.next hB); have S3 := Lib.hid hS3; clear hB hS3 hc3)
      | (go_at_call 20; (with_reducible refine (same_is _ _ _ _ _ _ _ _ _ S3.out K3.out.row G2).mono ?_); rintro e w4 ⟨rfl, hB⟩; have K4 := Lib.hid (K3.out.next hB); clear hB)
      | (go_at_call 7; refine (awake_any _ K4.out.env).mono ?_; rintro e w5 ⟨rfl, hB⟩; have K5 := Lib.hid (K4.out.next hB); clear hB))
    go_ret
    exact ⟨rfl, K5.out.bel⟩
  · have f1 := F1.out B1.out
    have E1 := Lib.hid f1.1
    have E2 := Lib.hid f1.2
    clear f1
    go_enter Tryd.func5, Tryd.ntmps5
    go_wp2_with (first
      | (go_at_call 6; refine (few_as _ _ _ _ _ _ K0.out.row HF).mono ?_; rintro e w' ⟨rfl, rfl⟩)
      | (go_at_call 16; (with_reducible refine (split_is _ _ _ K0.out.env (by omega) B1).mono ?_); rintro e w1 ⟨a1, l1, c1, rfl, hS1, hc1, hB⟩; have K1 := Lib.hid (K0.out.next hB); have S1 := Lib.hid hS1; have C1 := Lib.hid hc1; clear hB hS1 hc1)
      | (go_at_call 18; (with_reducible refine (ntext_is _ _ _ _ _ _ _ K1.out.env S1.out C1.out E1 E2).mono ?_); rintro e w2 ⟨rfl, hB⟩; have K2 := Lib.hid (K1.out.next hB); clear hB)
      | (go_at_call 18; (with_reducible refine (ntext_is _ _ _ _ _ _ _ K2.out.env K2.out.row HC.out HT B2).mono ?_); rintro e w6 ⟨rfl, hB⟩; have K6 := Lib.hid (K2.out.next hB); clear hB)
      | (go_at_call 7; refine (awake_any _ K6.out.env).mono ?_; rintro e w5 ⟨rfl, hB⟩; have K5 := Lib.hid (K6.out.next hB); clear hB))
    go_ret
    exact ⟨rfl, K5.out.bel⟩
  · have f1 := F1.out B1.out
    have E1 := Lib.hid f1.1
    have E2 := Lib.hid f1.2
    clear f1
    have f2 := F2.out B2.out
    have G1 := Lib.hid f2.1
    have G2 := Lib.hid f2.2.1
    have hts := f2.2.2
    clear f2
    go_enter Tryd.func5, Tryd.ntmps5
    go_wp2_with (first
      | (go_at_call 6; refine (few_as _ _ _ _ _ _ K0.out.row HF).mono ?_; rintro e w' ⟨rfl, rfl⟩)
      | (go_at_call 16; (with_reducible refine (split_is _ _ _ K0.out.env (by omega) B1).mono ?_); rintro e w1 ⟨a1, l1, c1, rfl, hS1, hc1, hB⟩; have K1 := Lib.hid (K0.out.next hB); have S1 := Lib.hid hS1; have C1 := Lib.hid hc1; clear hB hS1 hc1)
      | (go_at_call 18; (with_reducible refine (ntext_is _ _ _ _ _ _ _ K1.out.env S1.out C1.out E1 E2).mono ?_); rintro e w2 ⟨rfl, hB⟩; have K2 := Lib.hid (K1.out.next hB); clear hB)
      | (go_at_call 18; (with_reducible refine (ntext_is _ _ _ _ _ _ _ K2.out.env K2.out.row HC.out HT B2).mono ?_); rintro e w6 ⟨rfl, hB⟩; have K6 := Lib.hid (K2.out.next hB); clear hB)
      | (go_at_call 16; (with_reducible refine (split_is _ _ _ K6.out.env (by omega) G1).mono ?_); rintro e w3 ⟨a3, l3, c3, rfl, hS3, hc3, hB⟩; have K3 := Lib.hid (K6.out.next hB); have S3 := Lib.hid hS3; clear hB hS3 hc3)
      | (go_at_call 20; (with_reducible refine (same_is _ _ _ _ _ _ _ _ _ S3.out K3.out.row G2).mono ?_); rintro e w4 ⟨rfl, hB⟩; have K4 := Lib.hid (K3.out.next hB); clear hB)
      | (go_at_call 7; refine (awake_any _ K4.out.env).mono ?_; rintro e w5 ⟨rfl, hB⟩; have K5 := Lib.hid (K4.out.next hB); clear hB))
    go_ret
    exact ⟨rfl, K5.out.bel⟩
theorem nback_walk (s : ByteArray) (a : Option Addr) (len cap : Nat) (xs : List ByteArray) (w : World) (hs : s.size ≤ 140737488355328) (hE : Env w) (hS : StrRow w a len xs) (hcap : len ≤ cap) :
    Calls Tryd.prog 5 #[.string s, .slice a len cap] w fun e w' => e = .returned (.bool true) ∧ Below w.heap.size w w' := by
  by_cases h : 400 < s.size
  · exact nback_long s a len cap xs w hs hE hS (.inl h)
  · cases hf : fewB xs
    · exact nback_long s a len cap xs w hs hE hS (.inr ⟨h, hf⟩)
    · exact nback_short s a len cap xs w hE hS hcap h hf
end Go.Proofs.YtikhhkhkfaadlaaDoor
