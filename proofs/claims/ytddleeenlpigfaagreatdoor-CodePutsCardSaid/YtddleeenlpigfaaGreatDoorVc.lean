/- WALKS of vint.Put, vint.unsigned, vint.PutInt, vint.PutText. -/
import Derived.Test.YtddleeenlpigfaaGreatDoorVb
import Derived.Lib.ConvBytes
namespace Go.Proofs.YtddleeenlpigfaaGreatDoor.Vn
open Go.RowKit
structure TailIs (cs : Array Value) (L : List UInt8) : Prop where
  size : cs.size = 10
  len : L.length ≤ 10
  at_ : ∀ j (h : j < L.length), cs[10 - L.length + j]? = some (.int .u8 (L[j].toNat : Int))
theorem TailIs.first (cs : Array Value) (h : cs.size = 10) : TailIs cs [] := ⟨h, by simp, fun j h => by simp at h⟩
theorem TailIs.step {cs : Array Value} {L : List UInt8} (h : TailIs cs L) (c : UInt8) (v : Int) (i : Nat) (hv : v = (c.toNat : Int)) (hi : i + L.length = 9) : TailIs (cs.setIfInBounds i (.int .u8 v)) (c :: L) := by
  subst hv
  obtain ⟨h1, h2, h3⟩ := h
  refine ⟨by simp [h1], by simp; omega, fun j hj => ?_⟩
  have e : 10 - (c :: L).length = i := by simp; omega
  rw [e]
  cases j with
  | zero => rw [Nat.add_zero, Array.getElem?_setIfInBounds_self, if_pos (by omega)]; rfl
  | succ j =>
    rw [Array.getElem?_setIfInBounds_ne (by omega)]
    have := h3 j (by simpa using hj)
    rw [show 10 - L.length + j = i + (j + 1) by omega] at this
    simpa using this
theorem tail_start {v : Int} {c : UInt8} (hv : v = (c.toNat : Int)) : TailIs #[.int .u8 0, .int .u8 0, .int .u8 0, .int .u8 0, .int .u8 0, .int .u8 0, .int .u8 0, .int .u8 0, .int .u8 0, .int .u8 v] [c] := by
  subst hv
  refine ⟨rfl, by simp, fun j hj => ?_⟩
  obtain rfl : j = 0 := by simpa using hj
  rfl
theorem slice_tail (W : World) (b i m : Nat) (hi : i < 10) (hm : m = 10 - i) : (Instr.sliceAt 142 (.pointer (some ⟨b, 0, none⟩)) (some (.int .i64 i)) none none).run Tryz.prog W = .ok (.slice (some ⟨b, i, none⟩) m m) W := by
  subst hm
  have ha : Tryz.prog.arrayLen 142 = 10 := by kernel_rfl
  have h := run_sliceAt_array_l (P := Tryz.prog) W 142 ⟨b, 0, none⟩ (by kernel_rfl) .i64 i (by omega) (by rw [ha]; omega)
  rw [h, ha]
  have hs : ((sizeOf (Tryz.prog.elem 142)).run Tryz.prog W) = .ok 1 W := by kernel_rfl
  rw [hs]
  simp only [Result.andThen, slicedAt, Int.toNat_natCast, if_neg (show ¬ 10 = i by omega)]
  simp [Addr.add]
  exact fun e => e.symm
theorem tail_row {w : World} {cs : Array Value} {L : List UInt8} {i : Nat} (h : TailIs cs L) (hi : i + L.length = 10) : SRow (w.alloc (.cells cs 142)) (some ⟨w.heap.size, i, none⟩) L := by
  refine .inr ⟨_, rfl, fun _ => by simp, fun j hj => ?_⟩
  have ha : (⟨w.heap.size, i, none⟩ : Addr).add j = ⟨w.heap.size, i + j, none⟩ := by unfold Addr.add; split <;> simp_all
  rw [ha, cell_of_row _ _ _ _ 142 (0, 0) (heap_alloc_new w _)]
  have := h.at_ j hj
  rwa [show 10 - L.length = i by omega] at this
theorem two_segs {w : World} {a1 a2 : Option Addr} {c1 c2 : Nat} {L1 L2 : List UInt8} {v1 v2 : Value} (h1 : SRow w a1 L1) (h2 : SRow w a2 L2) (n1 : a1 = none → c1 = 0) (n2 : a2 = none → c2 = 0)
    (e1 : v1 = .slice a1 L1.length c1) (e2 : v2 = .slice a2 L2.length c2) : Segs (w.alloc (.cells #[v1, v2] 74)) w.heap.size 0 [(a1, c1, L1), (a2, c2, L2)] := by
  subst e1 e2
  have hb : Below w.heap.size w (w.alloc (.cells #[.slice a1 L1.length c1, .slice a2 L2.length c2] 74)) := (Below.refl _ w).alloc (Nat.le_refl _) _
  refine ⟨by simp, fun i s hs => ?_⟩
  rw [cell_of_row _ _ _ _ 74 (0, 0) (heap_alloc_new w _)]
  match i, hs with
  | 0, hs => simp at hs; subst hs; exact ⟨rfl, h1.below hb, n1⟩
  | 1, hs => simp at hs; subst hs; exact ⟨rfl, h2.below hb, n2⟩
theorem three_segs {w : World} {a1 a2 a3 : Option Addr} {c1 c2 c3 : Nat} {L1 L2 L3 : List UInt8} {v1 v2 v3 : Value} (h1 : SRow w a1 L1) (h2 : SRow w a2 L2) (h3 : SRow w a3 L3) (n1 : a1 = none → c1 = 0) (n2 : a2 = none → c2 = 0) (n3 : a3 = none → c3 = 0)
    (e1 : v1 = .slice a1 L1.length c1) (e2 : v2 = .slice a2 L2.length c2) (e3 : v3 = .slice a3 L3.length c3) : Segs (w.alloc (.cells #[v1, v2, v3] 74)) w.heap.size 0 [(a1, c1, L1), (a2, c2, L2), (a3, c3, L3)] := by
  subst e1 e2 e3
  have hb : Below w.heap.size w (w.alloc (.cells #[.slice a1 L1.length c1, .slice a2 L2.length c2, .slice a3 L3.length c3] 74)) := (Below.refl _ w).alloc (Nat.le_refl _) _
  refine ⟨by simp, fun i s hs => ?_⟩
  rw [cell_of_row _ _ _ _ 74 (0, 0) (heap_alloc_new w _)]
  match i, hs with
  | 0, hs => simp at hs; subst hs; exact ⟨rfl, h1.below hb, n1⟩
  | 1, hs => simp at hs; subst hs; exact ⟨rfl, h2.below hb, n2⟩
  | 2, hs => simp at hs; subst hs; exact ⟨rfl, h3.below hb, n3⟩
theorem SRow.none_ {w : World} {L : List UInt8} (h : SRow w none L) : L = [] := by
  rcases h with h | ⟨ad, h, _⟩
  · exact h.2
  · cases h
/-- What Put answers: a slice of these bytes. -/
def PutsS (L : List UInt8) (w : World) (e : Ending) (w' : World) : Prop := ∃ a c, e = .returned (.slice a L.length c) ∧ SRow w' a L ∧ (a = none → c = 0) ∧ Below w.heap.size w w'
theorem ofNat_lo (m : Nat) : ((UInt8.ofNat (m % 128)).toNat : Int) = (m : Int) % 128 := by rw [UInt8.toNat_ofNat']; omega
theorem ofNat_hi (m : Nat) : ((UInt8.ofNat (m % 128 + 128)).toNat : Int) = (m : Int) % 128 + 128 := by rw [UInt8.toNat_ofNat']; omega
theorem hi_step {i m : Nat} {L N : List UInt8} (hm : 0 < m) (h : hi (i + 1) m ++ L = N) : hi i (m / 128) ++ (UInt8.ofNat (m % 128 + 128) :: L) = N := by
  rw [← h]; simp only [hi]; rw [if_neg (by omega)]; simp
theorem hi_stop {i : Nat} {L N : List UInt8} (h : hi i 0 ++ L = N) : L = N := by
  rw [← h]; cases i <;> simp [hi]
set_option maxRecDepth 100000 in
set_option maxHeartbeats 2000000 in
theorem put_any (a : Option Addr) (cap q n : Nat) (L0 : List UInt8) (w : World) (hq : L0.length = q) (hR : SRow w a L0) (hnil : a = none → cap = 0) (hq47 : q ≤ 70368744177664) (hn : n < 18446744073709551616) :
    Calls Tryz.prog 93 #[.slice a q cap, .int .u64 n] w (PutsS (L0 ++ nb n) w) := by
  have HR := Lib.hid hR
  have HNil := Lib.hid hnil
  have HQ := Lib.hid hq
  clear hR hnil hq
  go_enter Tryz.func93, Tryz.ntmps93
  go_wp2
  go_loopw [1, 6] (fun v t wr => ∃ (i m : Nat) (L : List UInt8) (cs : Array Value), i + L.length = 10 ∧ i ≤ 9 ∧ m < 128 ^ i ∧ v = .int .u64 m ∧ t = .int .i64 i ∧ wr = w.alloc (.cells cs 142) ∧ hi i m ++ L = nb n ∧ TailIs cs L) (fun _ t _ => (intOf t).toNat)
  case atStart => exact ⟨9, n / 128, [UInt8.ofNat (n % 128)], _, rfl, by omega, by omega, by go_num, rfl, rfl, rfl, tail_start (ofNat_lo n).symm⟩
  case round =>
    obtain ⟨i, m, L, cs, hiL, hi9, hm, rfl, rfl, rfl, hI, hT⟩ := hrel
    have HI := Lib.hid hI
    have HT := Lib.hid hT
    have hcs := hT.size
    clear hI hT
    by_cases hm0 : 0 < m
    · obtain ⟨j, rfl⟩ : ∃ j, i = j + 1 := ⟨i - 1, by
        cases i with
        | zero => simp at hm; omega
        | succ i => omega⟩
      have hm1 : m / 128 < 128 ^ j := by rw [Nat.pow_succ] at hm; omega
      have hm64 : m < 18446744073709551616 := Nat.lt_of_lt_of_le hm (Nat.le_trans (Nat.pow_le_pow_right (by decide) hi9) (by decide))
      have HI2 := Lib.hid (hi_step hm0 HI.out)
      have HT2 := Lib.hid (HT.out.step (UInt8.ofNat (m % 128 + 128)) _ j (ofNat_hi m).symm (by omega))
      have HM := Lib.hid hm1
      have HL := Lib.hid hiL
      obtain ⟨y, hy⟩ : ∃ y, cs[j]? = some y := ⟨cs[j], by rw [Array.getElem?_eq_getElem]⟩
      clear hm hm1 hiL
      go_wp2
      go_roundw
      case rel => exact ⟨j, m / 128, _, _, by simpa using (by have := HL.out; omega : j + (L.length + 1) = 10), by omega, HM.out, by go_num, by go_num, rfl, HI2.out, HT2.out⟩
      case measure => simp [intOf]
    · obtain rfl : m = 0 := by omega
      have HLn := Lib.hid (hi_stop HI.out)
      obtain ⟨t, ht⟩ : ∃ t, t = 10 - i := ⟨_, rfl⟩
      have hsl := fun W => slice_tail W w.heap.size i t (by omega) ht
      have HTR := Lib.hid (tail_row (w := w) HT.out hiL)
      have HTL := Lib.hid (show L.length = t by omega)
      have hb := (Below.refl w.heap.size w).alloc (Nat.le_refl _) (.cells cs 142)
      have HS2 := Lib.hid (two_segs (v1 := .slice a q cap) (v2 := .slice (some ⟨w.heap.size, i, none⟩) t t) (HR.out.below hb) HTR.out HNil.out (fun h => by cases h) (by rw [HQ.out]) (by rw [HTL.out]))
      have htot : tot [(a, cap, L0), (some ⟨w.heap.size, i, none⟩, t, L)] = L0 ++ nb n := by rw [← HLn.out]; simp [tot]
      have hc := concat_any _ 0 2 2 _ _ rfl (by decide) HS2.out (by rw [htot, List.length_append, ← HLn.out, HTL.out]; omega) (by rw [htot, List.length_append, ← HLn.out, HTL.out, HQ.out]; omega)
      rw [htot, World.size_alloc] at hc
      have HC := Lib.hid hc
      clear hb ht hm hiL hc htot
      have HNe := Lib.hid (show L0 ++ nb n ≠ [] by simp [nb])
      generalize L0 ++ nb n = N at *
      go_wp2_with (go_at_call 128; refine HC.out.mono ?_; rintro e w1 ⟨a1, c1, rfl, hR1, hB1⟩; have HR1 := Lib.hid hR1; have HB1 := Lib.hid hB1; clear hR1 hB1)
      go_ret
      refine ⟨a1, c1, rfl, HR1.out, fun e => ?_, (((Below.refl _ w).alloc (Nat.le_refl _) _).alloc (by simp) _).trans (HB1.out.mono (by simp; omega))⟩
      subst e
      exact absurd (SRow.none_ HR1.out) HNe.out
theorem u64_sg {n : Int} (h : n < 0) (h1 : -9223372036854775808 ≤ n) : ((sgn n : Nat) : Int) = 2 * (-(n + 1)) + 1 := by unfold sgn; rw [if_pos h]; omega
theorem u64_sg' {n : Int} (h : ¬ n < 0) : ((sgn n : Nat) : Int) = 2 * n := by unfold sgn; rw [if_neg h]; omega
set_option maxHeartbeats 1000000 in
theorem unsigned_any (n : Int) (w : World) (h1 : -9223372036854775808 ≤ n) (h2 : n ≤ 9223372036854775807) : Calls Tryz.prog 129 #[.int .i64 n] w fun e w' => e = .returned (.int .u64 ((sgn n : Nat) : Int)) ∧ w = w' := by
  by_cases h : n < 0
  · have H := Lib.hid (u64_sg h h1)
    go_enter Tryz.func129, Tryz.ntmps129
    go_wp2
    go_ret
    exact ⟨ret_int H.out.symm, rfl⟩
  · have H := Lib.hid (u64_sg' h)
    go_enter Tryz.func129, Tryz.ntmps129
    go_wp2
    go_ret
    exact ⟨ret_int H.out.symm, rfl⟩
set_option maxHeartbeats 1000000 in
theorem sign_any (n : Int) (w : World) (h1 : -9223372036854775808 ≤ n) (h2 : n ≤ 9223372036854775807) : Calls Tryz.prog 99 #[.int .i64 n] w fun e w' => e = .returned (.int .u64 ((sgn n : Nat) : Int)) ∧ w = w' := by
  by_cases h : n < 0
  · have H := Lib.hid (u64_sg h h1)
    go_enter Tryz.func99, Tryz.ntmps99
    go_wp2
    go_ret
    exact ⟨ret_int H.out.symm, rfl⟩
  · have H := Lib.hid (u64_sg' h)
    go_enter Tryz.func99, Tryz.ntmps99
    go_wp2
    go_ret
    exact ⟨ret_int H.out.symm, rfl⟩
end Go.Proofs.YtddleeenlpigfaaGreatDoor.Vn
