/- WALK of num.Text. -/
import Derived.Test.YtikhhkhkfaadlaaB
import Derived.Test.YtikhhkhkfaadlaaQ
import Derived.KernelRfl
namespace Go.Proofs.Ytikhhkhkfaadlaa
open Go.RowKit

theorem low_u64 {N k left : Nat} {L : List UInt8} (h : Wrote N k left L) : left < 10000000000000000000 := by
  have h1 : (10 : Nat) ^ (19 - k) ≤ 10 ^ 19 := Nat.pow_le_pow_right (by decide) (by omega)
  have := h.low
  omega

theorem slice_tail (W : World) (b i m : Nat) (hi : i < 20) (hm : m = 20 - i) : (Instr.sliceAt 44 (.pointer (some ⟨b, 0, none⟩)) (some (.int .i64 i)) none none).run Try.prog W = .ok (.slice (some ⟨b, i, none⟩) m m) W := by
  subst hm
  have ha : Try.prog.arrayLen 44 = 20 := by kernel_rfl
  have h := run_sliceAt_array_l (P := Try.prog) W 44 ⟨b, 0, none⟩ (by kernel_rfl) .i64 i (by omega) (by rw [ha]; omega)
  rw [h, ha]
  have hs : ((sizeOf (Try.prog.elem 44)).run Try.prog W) = .ok 1 W := by kernel_rfl
  rw [hs]
  simp only [Result.andThen, slicedAt, Int.toNat_natCast, if_neg (show ¬ 20 = i by omega)]
  simp [Addr.add]
  exact fun e => e.symm
theorem convert_tail (w : World) (cs : Array Value) (L : List UInt8) (i m : Nat) (hi : i + L.length = 20) (hm : m = L.length) (h : TailIs cs L) :
    (convert 45 9 (.slice (some ⟨w.heap.size, i, none⟩) m m)).run Try.prog (w.alloc (.cells cs 44)) = .ok (.string ⟨L.toArray⟩) (w.alloc (.cells cs 44)) := by
  subst hm
  refine run_convert_bytes_back _ 45 9 5 _ _ L (by kernel_rfl) (by kernel_rfl) (by kernel_rfl) fun j hj => ?_
  have := h.at_ j hj
  rw [show 20 - L.length = i by omega] at this
  by_cases hj0 : j = 0
  · subst hj0; simpa [Addr.add, go_sem] using this
  · simpa [Addr.add, go_sem, hj0] using this

set_option maxHeartbeats 1000000 in
theorem text_pos (n : Int) (w : World) (h0 : 0 ≤ n) (h1 : n ≤ 9223372036854775807) : Calls Try.prog 19 #[.int .i64 n] w fun e w' => e = .returned (.string (textS n)) ∧ Below w.heap.size w w' := by
  go_enter Try.func19, Try.ntmps19
  go_wp2_with (go_at_call 22; refine (mag_any _ _ (by omega) (by omega)).mono ?_; rintro e w' ⟨rfl, rfl⟩)
  have hN := Lib.hid (show n.natAbs < 10000000000000000000 by omega)
  clear h1
  go_loopw [4, 5, 8] (fun a l c wr => ∃ (k i lf : Nat) (L : List UInt8) (cs : Array Value), i + k = 19 ∧ a = .int .i64 ((i : Int) + 1) ∧ l = .int .u64 lf ∧ c = .int .i64 k ∧ wr = w.alloc (.cells cs 44) ∧ Wrote n.natAbs k lf L ∧ TailIs cs L) (fun _ _ c _ => (20 - (intOf c)).toNat)
  case atStart => exact ⟨0, 19, _, _, _, by omega, rfl, rfl, rfl, rfl, Wrote.first _ hN.out, TailIs.first _ rfl⟩
  case round =>
    obtain ⟨k, i, lf, L, cs, hik, rfl, rfl, rfl, hwr, hI, hT⟩ := hrel
    subst hwr
    have hk := hI.k18
    have hlow := low_u64 hI
    have hcs := hT.size
    have hL := hI.len
    have hT' := hT.step (digC lf) (48 + (lf : Int) % 10) i (by rw [digC_nat]; omega) (by omega)
    have H := Lib.hid hI
    clear hI hT
    obtain ⟨x, hx⟩ : ∃ x, cs[i]? = some x := ⟨cs[i], by rw [Array.getElem?_eq_getElem]⟩
    cases hz : ((lf : Int) / 10 == 0)
    · have HT := Lib.hid hT'
      clear hT' hL
      go_wp2
      go_roundw
      case rel => exact ⟨k + 1, i - 1, lf / 10, _, _, by omega, by go_num, by go_num, by go_num, rfl, H.out.step (by simp at hz; omega), HT.out⟩
      case measure => simp [intOf]; omega
    · obtain ⟨m, hm⟩ : ∃ m, m = (digC lf :: L).length := ⟨_, rfl⟩
      have hs := fun W => slice_tail W w.heap.size i m (by omega) (by rw [hm]; simp; omega)
      have hc := convert_tail w _ _ i m (by simp; omega) hm hT'
      have ht := Lib.hid (H.out.last (by simp at hz; omega))
      clear hT' hL hm
      go_wp2
      go_ret
      refine ⟨ret_str ?_, (Below.refl _ _).alloc (Nat.le_refl _) _⟩
      rw [← ht.out]
      simp [textS, textL_pos (show ¬ n < 0 by omega)]
set_option maxHeartbeats 1000000 in
theorem text_neg (n : Int) (w : World) (h0 : n < 0) (h1 : -9223372036854775808 ≤ n) : Calls Try.prog 19 #[.int .i64 n] w fun e w' => e = .returned (.string (textS n)) ∧ Below w.heap.size w w' := by
  go_enter Try.func19, Try.ntmps19
  go_wp2_with (go_at_call 22; refine (mag_any _ _ (by omega) (by omega)).mono ?_; rintro e w' ⟨rfl, rfl⟩)
  have hN := Lib.hid (show n.natAbs < 10000000000000000000 by omega)
  clear h1
  go_loopw [4, 5, 8] (fun a l c wr => ∃ (k i lf : Nat) (L : List UInt8) (cs : Array Value), i + k = 19 ∧ a = .int .i64 ((i : Int) + 1) ∧ l = .int .u64 lf ∧ c = .int .i64 k ∧ wr = w.alloc (.cells cs 44) ∧ Wrote n.natAbs k lf L ∧ TailIs cs L) (fun _ _ c _ => (20 - (intOf c)).toNat)
  case atStart => exact ⟨0, 19, _, _, _, by omega, rfl, rfl, rfl, rfl, Wrote.first _ hN.out, TailIs.first _ rfl⟩
  case round =>
    obtain ⟨k, i, lf, L, cs, hik, rfl, rfl, rfl, hwr, hI, hT⟩ := hrel
    subst hwr
    have hk := hI.k18
    have hlow := low_u64 hI
    have hcs := hT.size
    have hL := hI.len
    have hT' := hT.step (digC lf) (48 + (lf : Int) % 10) i (by rw [digC_nat]; omega) (by omega)
    have H := Lib.hid hI
    clear hI hT
    obtain ⟨x, hx⟩ : ∃ x, cs[i]? = some x := ⟨cs[i], by rw [Array.getElem?_eq_getElem]⟩
    cases hz : ((lf : Int) / 10 == 0)
    · have HT := Lib.hid hT'
      clear hT' hL
      go_wp2
      go_roundw
      case rel => exact ⟨k + 1, i - 1, lf / 10, _, _, by omega, by go_num, by go_num, by go_num, rfl, H.out.step (by simp at hz; omega), HT.out⟩
      case measure => simp [intOf]; omega
    · obtain ⟨j, rfl⟩ : ∃ j, i = j + 1 := ⟨i - 1, by omega⟩
      obtain ⟨y, hy⟩ : ∃ y, cs[j]? = some y := ⟨cs[j], by rw [Array.getElem?_eq_getElem]⟩
      obtain ⟨y2, hy2⟩ : ∃ y, (cs.setIfInBounds (j + 1) (.int .u8 (48 + (lf : Int) % 10)))[j]? = some y := ⟨y, by rw [Array.getElem?_setIfInBounds_ne (by omega)]; exact hy⟩
      have hT2 := hT'.step 45 45 j rfl (by simp; omega)
      obtain ⟨m, hm⟩ : ∃ m, m = ((45 : UInt8) :: digC lf :: L).length := ⟨_, rfl⟩
      have hs := fun W => slice_tail W w.heap.size j m (by omega) (by rw [hm]; simp; omega)
      have hc := convert_tail w _ _ j m (by simp; omega) hm hT2
      have ht := Lib.hid (H.out.last (by simp at hz; omega))
      clear hT' hT2 hL hm
      go_wp2
      go_ret
      refine ⟨ret_str ?_, (Below.refl _ _).alloc (Nat.le_refl _) _⟩
      rw [textS, textL_neg h0, ← ht.out]

theorem text_any (n : Int) (w : World) (h0 : -9223372036854775808 ≤ n) (h1 : n ≤ 9223372036854775807) : Calls Try.prog 19 #[.int .i64 n] w fun e w' => e = .returned (.string (textS n)) ∧ Below w.heap.size w w' := by
  by_cases h : n < 0
  · exact text_neg n w h h0
  · exact text_pos n w (by omega) h1
end Go.Proofs.Ytikhhkhkfaadlaa
