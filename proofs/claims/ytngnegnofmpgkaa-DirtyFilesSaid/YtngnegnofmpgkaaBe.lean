/- WALK of DirtyFiles. -/
import Derived.Test.YtngnegnofmpgkaaBd
import Derived.Test.YtngnegnofmpgkaaAi
namespace Go.Proofs.Ytngnegnofmpgkaa.Gr
open Go.RowKit Go.Maps Go.Sort
open Go.Proofs.Ytngnegnofmpgkaa.Nm (StrRow)
theorem line_ok {w : World} {a : Option Addr} {len : Nat} {xs : List Sr} (h : LineRow w a len xs) : ∀ x ∈ xs, okS (sNm x) := fun x hx => by
  obtain ⟨i, hi, e⟩ := List.getElem_of_mem hx
  exact (h.each i x (by rw [← e]; exact List.getElem?_eq_getElem hi)).1
/-- What has changed, as the reference lists it, is handed back. -/
theorem filesS_row (w0 : World) (a : Option Addr) (len cap : Nat) (a2 : Option Addr) (len2 cap2 : Nat) (xs ys : List Sr) (w : World) (hX : LineRow w0 a len xs) (hY : LineRow w0 a2 len2 ys) (hl : len ≤ 100000) (hl2 : len2 ≤ 100000)
    (hnx : (xs.map sNm).Nodup) (hny : (ys.map sNm).Nodup) (hB : Below w0.heap.size w0 w) : Calls Try.prog 9 #[.slice a len cap, .slice a2 len2 cap2] w (RowR (rcL sNm qS xs ys) w) := by
  refine (filesS_any w0 a len cap a2 len2 cap2 xs ys w hX hY hl hl2 hnx hny hB).mono ?_
  rintro e w' ⟨l, hT, hs, hm⟩
  exact set_row hT hs (rcL_set (line_ok hX) (line_ok hY)) (by omega)
theorem rcS_same {xs : List Sr} (h : ∀ x ∈ xs, okS (sNm x)) : rcL sNm qS xs xs = [] := by
  have hs := rcL_set (q := qS) h h
  refine List.eq_nil_iff_forall_not_mem.2 fun s hm => ?_
  have := ((hs.2 s).1 hm).2
  rw [chS_none qS_refl] at this
  cases this
set_option maxRecDepth 100000 in
set_option maxHeartbeats 16000000 in
theorem dirtyF_walk (a : Option Addr) (len cap : Nat) (a2 : Option Addr) (len2 cap2 : Nat) (xs ys : List Sr) (w : World) (hX : LineRow w a len xs) (hY : LineRow w a2 len2 ys) : Calls Try.prog 3 #[.slice a len cap, .slice a2 len2 cap2] w (BoolP true w) := by
  have HX := Lib.hid hX
  have HY := Lib.hid hY
  have HCX := Lib.hid hX.count
  have HCY := Lib.hid hY.count
  clear hX hY
  go_enter Try.func3, Try.ntmps3
  go_wp2_with fail
  go_at_call 5; refine (light_any a len cap xs w HX.out).mono ?_; rintro e w1 ⟨b1, rfl, hB1, hf1⟩
  have HB1 := Lib.hid hB1
  have HX1 := Lib.hid (HX.out.below hB1)
  have HY1 := Lib.hid (HY.out.below hB1)
  have HF1 := Lib.hid hf1
  clear hB1 hf1
  cases b1
  · clear HF1
    go_wp2_with fail
    go_at_call 7; refine (awakeD_any _).mono ?_; rintro e w9 ⟨rfl, hB9⟩
    have HB9 := Lib.hid (below_step HB1.out hB9)
    clear hB9
    go_wp2_with fail
    go_ret
    exact ⟨rfl, HB9.out⟩
  · have HOK1 := Lib.hid (HF1.out rfl)
    clear HF1
    go_wp2_with fail
    go_at_call 5; refine (light_any a2 len2 cap2 ys w1 HY1.out).mono ?_; rintro e w2 ⟨b2, rfl, hB2, hf2⟩
    have HB2 := Lib.hid (below_step HB1.out hB2)
    have HX2 := Lib.hid (HX1.out.below hB2)
    have HY2 := Lib.hid (HY1.out.below hB2)
    have HF2 := Lib.hid hf2
    clear hB2 hf2 HB1 HX1 HY1
    cases b2
    · clear HF2
      go_wp2_with fail
      go_at_call 7; refine (awakeD_any _).mono ?_; rintro e w9 ⟨rfl, hB9⟩
      have HB9 := Lib.hid (below_step HB2.out hB9)
      clear hB9
      go_wp2_with fail
      go_ret
      exact ⟨rfl, HB9.out⟩
    · have HOK2 := Lib.hid (HF2.out rfl)
      clear HF2
      go_wp2_with fail
      go_at_call 6; refine (unlike_any a len cap xs w2 HX2.out).mono ?_; rintro e w3 ⟨b3, rfl, hB3, hr3⟩
      have HB3 := Lib.hid (below_step HB2.out hB3)
      have HX3 := Lib.hid (HX2.out.below hB3)
      have HY3 := Lib.hid (HY2.out.below hB3)
      have HR3 := Lib.hid hr3
      clear hB3 hr3 HB2 HX2 HY2
      cases b3
      · clear HR3
        go_wp2_with fail
        go_at_call 7; refine (awakeD_any _).mono ?_; rintro e w9 ⟨rfl, hB9⟩
        have HB9 := Lib.hid (below_step HB3.out hB9)
        clear hB9
        go_wp2_with fail
        go_ret
        exact ⟨rfl, HB9.out⟩
      · have HNX := Lib.hid (HR3.out rfl)
        clear HR3
        go_wp2_with fail
        go_at_call 6; refine (unlike_any a2 len2 cap2 ys w3 HY3.out).mono ?_; rintro e w4 ⟨b4, rfl, hB4, hr4⟩
        have HB4 := Lib.hid (below_step HB3.out hB4)
        have HX4 := Lib.hid (HX3.out.below hB4)
        have HY4 := Lib.hid (HY3.out.below hB4)
        have HR4 := Lib.hid hr4
        clear hB4 hr4 HB3 HX3 HY3
        cases b4
        · clear HR4
          go_wp2_with fail
          go_at_call 7; refine (awakeD_any _).mono ?_; rintro e w9 ⟨rfl, hB9⟩
          have HB9 := Lib.hid (below_step HB4.out hB9)
          clear hB9
          go_wp2_with fail
          go_ret
          exact ⟨rfl, HB9.out⟩
        · have HNY := Lib.hid (HR4.out rfl)
          clear HR4
          have hl1 : len ≤ 40 := by have := HOK1.out; have := HCX.out; omega
          have hl2 : len2 ≤ 40 := by have := HOK2.out; have := HCY.out; omega
          go_wp2_with fail
          go_at_call 7; refine (awakeD_any _).mono ?_; rintro e w5 ⟨rfl, hB5⟩
          have HB5 := Lib.hid (below_step HB4.out hB5)
          have HX5 := Lib.hid (HX4.out.below hB5)
          have HY5 := Lib.hid (HY4.out.below hB5)
          clear hB5 HB4 HX4 HY4
          go_wp2_with fail
          go_at_call 9; refine (filesS_row w5 a len cap a2 len2 cap2 xs ys w5 HX5.out HY5.out (by omega) (by omega) HNX.out HNY.out (Below.refl _ _)).mono ?_; rintro e w6 ⟨a6, c6, rfl, hS6, hB6⟩
          have HB6 := Lib.hid (below_step HB5.out hB6)
          have HX6 := Lib.hid (HX5.out.below hB6)
          have HY6 := Lib.hid (HY5.out.below hB6)
          have HS6 := Lib.hid hS6
          clear hS6 hB6 HB5 HX5 HY5
          go_wp2_with fail
          go_at_call 10; refine (rfilesS_any a len cap a2 len2 cap2 xs ys w6 HX6.out HY6.out (by omega) (by omega) HNY.out).mono ?_; rintro e w7 ⟨a7, c7, rfl, hS7, hB7⟩
          have HB7 := Lib.hid (below_step HB6.out hB7)
          have HY7 := Lib.hid (HY6.out.below hB7)
          have HQ := Lib.hid (same_yes (cap := c6) (cap' := c7) (HS6.out.below hB7) hS7)
          obtain ⟨rl, hrl⟩ : ∃ rl, rcL sNm qS xs ys = rl := ⟨_, rfl⟩
          rw [hrl] at HQ ⊢
          clear hS7 hB7 HB6 HX6 HY6 HS6 hrl
          go_wp2_with fail
          go_at_call 8; refine HQ.out.mono ?_; rintro e w8 ⟨rfl, hB8⟩
          have HB8 := Lib.hid (below_step HB7.out hB8)
          have HY8 := Lib.hid (HY7.out.below hB8)
          clear hB8 HB7 HY7 HQ
          go_wp2_with fail
          go_at_call 9; refine (filesS_row w8 a2 len2 cap2 a2 len2 cap2 ys ys w8 HY8.out HY8.out (by omega) (by omega) HNY.out HNY.out (Below.refl _ _)).mono ?_; rw [rcS_same (line_ok HY8.out)]; rintro e w12 ⟨a12, c12, rfl, hS12, hB12⟩
          have HB12 := Lib.hid (below_step HB8.out hB12)
          clear hS12 hB12 HB8 HY8
          rw [List.length_nil]
          go_wp2_with fail
          go_ret
          exact ⟨rfl, HB12.out⟩
end Go.Proofs.Ytngnegnofmpgkaa.Gr
