/- WALK of num.Read. -/
import Derived.Test.YtfhknnldkfngdaaDoorUc
namespace Go.Proofs.YtfhknnldkfngdaaDoor.Nu
open Go.RowKit

def sgnV (neg : Bool) (v : Int) : Int := bif neg then -v else v
def readV (neg : Bool) (D : List UInt8) : Int := bif formOk neg D then (if 16 < D.length then 0 else outV true (inB (sgnV neg (vr D))) (sgnV neg (vr D))) else 0
def readE (neg : Bool) (D : List UInt8) : Int := bif formOk neg D then (if 16 < D.length then 25 else outE true (inB (sgnV neg (vr D)))) else 2
theorem ret_form {neg : Bool} {D : List UInt8} (h : formOk neg D = false) : Ending.returned (.tuple #[.int .i64 0, .int .i64 2]) = .returned (.tuple #[.int .i64 (readV neg D), .int .i64 (readE neg D)]) :=
  ret_two (by simp [readV, h]) (by simp [readE, h])
theorem ret_long {neg : Bool} {D : List UInt8} (h : formOk neg D = true) (h' : 16 < D.length) : Ending.returned (.tuple #[.int .i64 0, .int .i64 25]) = .returned (.tuple #[.int .i64 (readV neg D), .int .i64 (readE neg D)]) :=
  ret_two (by simp [readV, h, h']) (by simp [readE, h, h'])
theorem ret_val {neg : Bool} {D : List UInt8} {v : Int} (h : formOk neg D = true) (h' : ¬ 16 < D.length) (hv : v = sgnV neg (vr D)) : Ending.returned (.tuple #[.int .i64 (outV true (inB v) v), .int .i64 (outE true (inB v))]) = .returned (.tuple #[.int .i64 (readV neg D), .int .i64 (readE neg D)]) :=
  ret_two (by simp [readV, h, h', hv]) (by simp [readE, h, h', hv])
theorem trim_as (s d : ByteArray) (w : World) (hs : s.size ≤ maxLen) (hd : Hid (d = trimS s)) : Calls Tryd.prog 43 #[.string s, .string { data := #[45] }] w fun e w' => e = .returned (.string d) ∧ w = w' := by
  rw [hd.out]; exact trim_any s w hs
theorem natural_as (s : ByteArray) (b : Bool) (w : World) (hs : s.size ≤ maxLen) (hb : Hid (natL s.data.toList = b)) : Calls Tryd.prog 44 #[.string s] w fun e w' => e = .returned (.bool b) ∧ w = w' := by
  rw [← hb.out]; exact natural_any s w hs

theorem FromEnd.bound16 {s : ByteArray} {k : Nat} {n p : Int} (h : FromEnd s k n p) (hk : k ≤ 16) : 0 ≤ n ∧ n ≤ 10000000000000000 := by
  have h1 : (10 : Nat) ^ k ≤ 10 ^ 16 := Nat.pow_le_pow_right (by decide) hk
  have h3 : ((10 : Int) ^ k) = ((10 ^ k : Nat) : Int) := by simp
  have := h.pow; have := h.lo; have := h.hi
  omega

set_option maxHeartbeats 4000000 in
theorem read_nat (s d : ByteArray) (neg : Bool) (w : World) (hs : s.size ≤ maxLen) (hds : d.size ≤ s.size) (hN : Hid (d = trimS s)) (hn : (neg = true ∧ d.size < s.size) ∨ (neg = false ∧ ¬ d.size < s.size)) (hb : natL d.data.toList = true) :
    Calls Tryd.prog 35 #[.string s] w fun e w' => e = .returned (.tuple #[.int .i64 (readV neg d.data.toList), .int .i64 (readE neg d.data.toList)]) ∧ w = w' := by
  unfold maxLen at hs
  by_cases hz : neg = true ∧ (d.toList == [48]) = true
  · obtain ⟨rfl, hz⟩ := hz
    have HF := Lib.hid (form_zero hz)
    have HB := Lib.hid hb
    have hn' : d.size < s.size := by rcases hn with h | h; exact h.2; exact absurd h.1 (by decide)
    clear hb hn
    go_enter Tryd.func35, Tryd.ntmps35
    go_wp2_with (first | (go_at_call 43; refine (trim_as _ d _ (by unfold maxLen; omega) hN).mono ?_; rintro e w' ⟨rfl, rfl⟩) | (go_at_call 44; refine (natural_as _ _ _ (by unfold maxLen; omega) HB).mono ?_; rintro e w' ⟨rfl, rfl⟩))
    go_ret2
    exact ⟨ret_form HF.out, rfl⟩
  · have HF : Hid (formOk neg d.data.toList = true) := by
      cases neg
      · exact form_pos hb
      · exact form_neg (by simpa using hz) hb
    have HB := Lib.hid hb
    have hn' : (neg = true ∧ d.size < s.size ∧ (d.toList == [48]) = false) ∨ (neg = false ∧ ¬ d.size < s.size) := by
      cases neg
      · right; simpa using hn
      · left; refine ⟨rfl, by simpa using hn, by simpa using hz⟩
    clear hn hz hb
    by_cases hl : 16 < d.size
    · have HL := Lib.hid (show 16 < d.data.toList.length by rw [← size_list]; exact hl)
      rcases hn' with ⟨rfl, hn', hz⟩ | ⟨rfl, hn'⟩
      all_goals
        go_enter Tryd.func35, Tryd.ntmps35
        go_wp2_with (first | (go_at_call 43; refine (trim_as _ d _ (by unfold maxLen; omega) hN).mono ?_; rintro e w' ⟨rfl, rfl⟩) | (go_at_call 44; refine (natural_as _ _ _ (by unfold maxLen; omega) HB).mono ?_; rintro e w' ⟨rfl, rfl⟩))
        go_ret2
        exact ⟨ret_long HF.out HL.out, rfl⟩
    · have HL := Lib.hid (show ¬ 16 < d.data.toList.length by rw [← size_list]; exact hl)
      rcases hn' with ⟨rfl, hn', hz⟩ | ⟨rfl, hn'⟩
      all_goals
        go_enter Tryd.func35, Tryd.ntmps35
        go_wp2_with (first | (go_at_call 43; refine (trim_as _ d _ (by unfold maxLen; omega) hN).mono ?_; rintro e w' ⟨rfl, rfl⟩) | (go_at_call 44; refine (natural_as _ _ _ (by unfold maxLen; omega) HB).mono ?_; rintro e w' ⟨rfl, rfl⟩))
        go_loop [6, 7, 31] (fun n p i => ∃ (k : Nat) (n0 p0 : Int), k ≤ d.size ∧ i = .int .i64 k ∧ n = .int .i64 n0 ∧ p = .int .i64 p0 ∧ FromEnd d k n0 p0) (fun _ _ i => d.size - (intOf i).toNat)
        case atStart => exact ⟨0, _, _, by omega, rfl, rfl, rfl, FromEnd.first d⟩
        case round =>
          obtain ⟨k, n, p, hk, rfl, rfl, rfl, hI⟩ := hrel
          have H := Lib.hid hI
          by_cases hlt : k < d.size
          · obtain ⟨b1, b2, b3, b4⟩ := hI.bound (by omega)
            clear hI
            obtain ⟨i, hi, hik⟩ : ∃ i : Nat, ∃ hi : i < d.size, (d.size : Int) - 1 - k = i := ⟨d.size - 1 - k, by omega, by omega⟩
            obtain ⟨g1, g2⟩ := all_get HB.out i hi
            obtain ⟨m1, m2⟩ := digit_mul (d[i].toNat : Int) p g1 g2 (by omega)
            go_wp2
            go_round
            case rel => exact ⟨k + 1, _, _, by omega, by go_num, rfl, rfl, H.out.step hlt hi (by omega) g1 g2⟩
            case measure => simp [intOf]; omega
          · obtain rfl : k = d.size := by omega
            obtain ⟨b1, b2⟩ := hI.bound16 (by omega)
            clear hI
            go_wp2_with (go_at_call 45; refine (within_any _ _).mono ?_; rintro e w' ⟨rfl, rfl⟩)
            go_ret2
            exact ⟨ret_val HF.out HL.out (by rw [H.out.last]; rfl), rfl⟩

set_option maxHeartbeats 1000000 in
theorem read_as (s d : ByteArray) (neg : Bool) (w : World) (hs : s.size ≤ maxLen) (hds : d.size ≤ s.size) (hN : Hid (d = trimS s)) (hn : (neg = true ∧ d.size < s.size) ∨ (neg = false ∧ ¬ d.size < s.size)) : Calls Tryd.prog 35 #[.string s] w fun e w' => e = .returned (.tuple #[.int .i64 (readV neg d.data.toList), .int .i64 (readE neg d.data.toList)]) ∧ w = w' := by
  unfold maxLen at hs
  cases hb : natL d.data.toList
  · have hf := form_nat (neg := neg) hb
    have HB := Lib.hid hb
    have HF := Lib.hid hf
    clear hb hf
    rcases hn with ⟨rfl, hn⟩ | ⟨rfl, hn⟩
    all_goals
      go_enter Tryd.func35, Tryd.ntmps35
      go_wp2_with (first | (go_at_call 43; refine (trim_as _ d _ (by unfold maxLen; omega) hN).mono ?_; rintro e w' ⟨rfl, rfl⟩) | (go_at_call 44; refine (natural_as _ _ _ (by unfold maxLen; omega) HB).mono ?_; rintro e w' ⟨rfl, rfl⟩))
      go_ret2
      exact ⟨ret_form HF.out, rfl⟩
  · exact read_nat s d neg w hs hds hN hn hb

theorem read_any (s : ByteArray) (w : World) (hs : s.size ≤ maxLen) : Calls Tryd.prog 35 #[.string s] w fun e w' => e = .returned (.tuple #[.int .i64 (readV (negS s) (trimS s).data.toList), .int .i64 (readE (negS s) (trimS s).data.toList)]) ∧ w = w' := by
  cases hn : negS s
  · exact read_as s (trimS s) false w hs (by rw [trim_pos hn]; exact Nat.le_refl _) rfl (.inr ⟨rfl, by rw [trim_pos hn]; exact Nat.lt_irrefl _⟩)
  · have h1 := trim_size_neg hn
    have h2 := neg_size hn
    exact read_as s (trimS s) true w hs (by omega) rfl (.inl ⟨rfl, by omega⟩)

end Go.Proofs.YtfhknnldkfngdaaDoor.Nu
