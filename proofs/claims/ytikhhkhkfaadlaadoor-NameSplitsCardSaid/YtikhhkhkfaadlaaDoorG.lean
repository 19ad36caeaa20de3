/- WALK of treillagelaw02.NameRights. -/
import Derived.Test.YtikhhkhkfaadlaaDoorF
namespace Go.Proofs.YtikhhkhkfaadlaaDoor
open Go.RowKit

theorem few_as (a : Option Addr) (len cap : Nat) (xs : List ByteArray) (b : Bool) (w : World) (hS : StrRow w a len xs) (hb : Hid (fewB xs = b)) : Calls Tryd.prog 6 #[.slice a len cap] w fun e w' => e = .returned (.bool b) ∧ w = w' := by
  rw [← hb.out]; exact few_any a len cap xs w hS
/-- Both at once, for a walk that makes memory again and again. -/
structure Keep (w w' : World) (a : Option Addr) (len : Nat) (xs : List ByteArray) : Prop where
  env : Env w'
  row : StrRow w' a len xs
  bel : Below w.heap.size w w'
theorem Keep.first {w : World} {a : Option Addr} {len : Nat} {xs : List ByteArray} (hE : Env w) (hS : StrRow w a len xs) : Keep w w a len xs := ⟨hE, hS, Below.refl _ _⟩
theorem Keep.next {w w1 w2 : World} {a : Option Addr} {len : Nat} {xs : List ByteArray} (h : Keep w w1 a len xs) (hb : Below w1.heap.size w1 w2) : Keep w w2 a len xs :=
  ⟨h.env.below hb, h.row.below hb, h.bel.trans (hb.mono h.bel.size)⟩

set_option maxHeartbeats 1000000 in
theorem rights_long (s : ByteArray) (a : Option Addr) (len cap : Nat) (xs : List ByteArray) (w : World) (hs : s.size ≤ 140737488355328) (hE : Env w) (hS : StrRow w a len xs) (h : 400 < s.size ∨ (¬ 400 < s.size ∧ fewB xs = false)) :
    Calls Tryd.prog 3 #[.string s, .slice a len cap] w fun e w' => e = .returned (.bool true) ∧ Below w.heap.size w w' := by
  have hmax := hS.max
  have HE := Lib.hid hE
  have HS := Lib.hid hS
  clear hE hS
  rcases h with h | ⟨h, hf⟩
  · go_enter Tryd.func3, Tryd.ntmps3
    go_wp2_with (go_at_call 7; refine (awake_any _ HE.out).mono ?_; rintro e w' ⟨rfl, hB⟩)
    go_ret
    exact ⟨rfl, hB⟩
  · have HF := Lib.hid hf
    clear hf
    go_enter Tryd.func3, Tryd.ntmps3
    go_wp2_with (first
      | (go_at_call 6; refine (few_as _ _ _ _ _ _ HS.out HF).mono ?_; rintro e w' ⟨rfl, rfl⟩)
      | (go_at_call 7; refine (awake_any _ HE.out).mono ?_; rintro e w' ⟨rfl, hB⟩))
    go_ret
    exact ⟨rfl, hB⟩

set_option maxHeartbeats 2000000 in
theorem rights_short (s : ByteArray) (a : Option Addr) (len cap : Nat) (xs : List ByteArray) (w : World) (hE : Env w) (hS : StrRow w a len xs) (h : ¬ 400 < s.size) (hf : fewB xs = true) :
    Calls Tryd.prog 3 #[.string s, .slice a len cap] w fun e w' => e = .returned (.bool true) ∧ Below w.heap.size w w' := by
  have hmax := hS.max
  have K0 := Lib.hid (Keep.first hE hS)
  have HF := Lib.hid hf
  clear hE hS hf
  go_enter Tryd.func3, Tryd.ntmps3
  go_wp2_with (first
    | (go_at_call 6; refine (few_as _ _ _ _ _ _ K0.out.row HF).mono ?_; rintro e w' ⟨rfl, rfl⟩)
    | (go_at_call 7; refine (awake_any _ K0.out.env).mono ?_; rintro e w1 ⟨rfl, hB⟩; have K1 := Lib.hid (K0.out.next hB); clear hB)
    | (go_at_call 8; refine (word_any _ _ K1.out.env).mono ?_; rintro e w' ⟨rfl, rfl⟩)
    | (go_at_call 9; refine (rword_any _ _).mono ?_; rintro e w' ⟨rfl, rfl⟩)
    | (go_at_call 10; refine (right_any _ _ K1.out.env (by unfold maxLen; omega)).mono ?_; rintro e w2 ⟨rfl, hB⟩; have K2 := Lib.hid (K1.out.next hB); clear hB)
    | (go_at_call 11; refine (rright_any _ _ (by unfold maxLen; omega)).mono ?_; rintro e w' ⟨rfl, rfl⟩)
    | (go_at_call 12; refine (path_any _ _ _ _ _ K2.out.env K2.out.row).mono ?_; rintro e w3 ⟨rfl, hB⟩; have K3 := Lib.hid (K2.out.next hB); clear hB)
    | (go_at_call 13; refine (rpath_any _ _ _ _ _ K3.out.row).mono ?_; rintro e w' ⟨rfl, rfl⟩)
    | (go_at_call 14; refine (rising_any _ _ _ _ _ K3.out.env K3.out.row).mono ?_; rintro e w4 ⟨rfl, hB⟩; have K4 := Lib.hid (K3.out.next hB); clear hB)
    | (go_at_call 15; refine (rrising_any _ _ _ _ _ K4.out.row).mono ?_; rintro e w5 ⟨rfl, hB⟩; have K5 := Lib.hid (K4.out.next hB); clear hB))
  go_ret
  exact ⟨rfl, K5.out.bel⟩
theorem rights_walk (s : ByteArray) (a : Option Addr) (len cap : Nat) (xs : List ByteArray) (w : World) (hs : s.size ≤ 140737488355328) (hE : Env w) (hS : StrRow w a len xs) :
    Calls Tryd.prog 3 #[.string s, .slice a len cap] w fun e w' => e = .returned (.bool true) ∧ Below w.heap.size w w' := by
  by_cases h : 400 < s.size
  · exact rights_long s a len cap xs w hs hE hS (.inl h)
  · cases hf : fewB xs
    · exact rights_long s a len cap xs w hs hE hS (.inr ⟨h, hf⟩)
    · exact rights_short s a len cap xs w hE hS h hf
end Go.Proofs.YtikhhkhkfaadlaaDoor
