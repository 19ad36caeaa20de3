/- WALK of DirtyNames. -/
import Derived.Test.YtngnegnofmpgkaaAi
namespace Go.Proofs.Ytngnegnofmpgkaa.Gr
open Go.RowKit Go.Maps Go.Sort
open Go.Proofs.Ytngnegnofmpgkaa.Nm (StrRow)
/-- The same names are handed back. -/
theorem reads_same {ls : List Ln2} {P : ByteArray → Bool} {ns l r r' : List ByteArray} (hr : Rise r) (hr' : Rise r') (hm : ∀ k, k ∈ r ↔ Rc (inL ls) P l k ∧ k ∈ ns) (hm' : ∀ k, k ∈ r' ↔ Rc (inL ls) P l k ∧ k ∈ ns) : r = r' :=
  rise_unique hr hr' fun k => (hm k).trans (hm' k).symm
set_option maxRecDepth 100000 in
set_option maxHeartbeats 16000000 in
theorem dirtyN_walk (a : Option Addr) (len cap : Nat) (a2 : Option Addr) (len2 cap2 n : Nat) (xs ys : List Nd) (w : World) (hX : NodeRow w n a len xs) (hY : NodeRow w n a2 len2 ys) : Calls Try.prog 4 #[.slice a len cap, .slice a2 len2 cap2] w (BoolP true w) := by
  have HX := Lib.hid hX
  have HY := Lib.hid hY
  have HCX := Lib.hid hX.count
  have HCY := Lib.hid hY.count
  clear hX hY
  go_enter Try.func4, Try.ntmps4
  go_wp2_with fail
  go_at_call 11; refine (few_nodes a len cap n xs w HX.out).mono ?_; rintro e w1 ⟨b1, rfl, hB1, hf1⟩
  have HB1 := Lib.hid hB1
  have HX1 := Lib.hid (HX.out.below hB1)
  have HY1 := Lib.hid (HY.out.below hB1)
  have HF1 := Lib.hid hf1
  clear hB1 hf1
  cases b1
  · clear HF1
    go_wp2_with fail
    go_at_call 7; refine (awakeD_any _).mono ?_; rintro e w9 ⟨rfl, hB9⟩
    have HB9 := Lib.hid (below_step HB1.out hB9)
    clear hB9
    go_wp2_with fail
    go_ret
    exact ⟨rfl, HB9.out⟩
  · have HOK1 := Lib.hid (HF1.out rfl)
    clear HF1
    go_wp2_with fail
    go_at_call 11; refine (few_nodes a2 len2 cap2 n ys w1 HY1.out).mono ?_; rintro e w2 ⟨b2, rfl, hB2, hf2⟩
    have HB2 := Lib.hid (below_step HB1.out hB2)
    have HX2 := Lib.hid (HX1.out.below hB2)
    have HY2 := Lib.hid (HY1.out.below hB2)
    have HF2 := Lib.hid hf2
    clear hB2 hf2 HB1 HX1 HY1
    cases b2
    · clear HF2
      go_wp2_with fail
      go_at_call 7; refine (awakeD_any _).mono ?_; rintro e w9 ⟨rfl, hB9⟩
      have HB9 := Lib.hid (below_step HB2.out hB9)
      clear hB9
      go_wp2_with fail
      go_ret
      exact ⟨rfl, HB9.out⟩
    · have HOK2 := Lib.hid (HF2.out rfl)
      clear HF2
      go_wp2_with fail
      go_at_call 12; refine (right_nodes a len cap n xs w2 HX2.out (by have := HOK1.out.1; have := HCX.out; omega) (fun x hx e he => by have := (HOK1.out.2 x hx).2.2 e he; omega)).mono ?_; rintro e w3 ⟨b3, rfl, hB3, hr3⟩
      have HB3 := Lib.hid (below_step HB2.out hB3)
      have HX3 := Lib.hid (HX2.out.below hB3)
      have HY3 := Lib.hid (HY2.out.below hB3)
      have HR3 := Lib.hid hr3
      clear hB3 hr3 HB2 HX2 HY2
      cases b3
      · clear HR3
        go_wp2_with fail
        go_at_call 7; refine (awakeD_any _).mono ?_; rintro e w9 ⟨rfl, hB9⟩
        have HB9 := Lib.hid (below_step HB3.out hB9)
        clear hB9
        go_wp2_with fail
        go_ret
        exact ⟨rfl, HB9.out⟩
      · have HFX := Lib.hid (fine_of HX3.out HOK1.out (HR3.out rfl))
        clear HR3 HOK1
        go_wp2_with fail
        go_at_call 12; refine (right_nodes a2 len2 cap2 n ys w3 HY3.out (by have := HOK2.out.1; have := HCY.out; omega) (fun x hx e he => by have := (HOK2.out.2 x hx).2.2 e he; omega)).mono ?_; rintro e w4 ⟨b4, rfl, hB4, hr4⟩
        have HB4 := Lib.hid (below_step HB3.out hB4)
        have HX4 := Lib.hid (HX3.out.below hB4)
        have HY4 := Lib.hid (HY3.out.below hB4)
        have HR4 := Lib.hid hr4
        clear hB4 hr4 HB3 HX3 HY3
        cases b4
        · clear HR4
          go_wp2_with fail
          go_at_call 7; refine (awakeD_any _).mono ?_; rintro e w9 ⟨rfl, hB9⟩
          have HB9 := Lib.hid (below_step HB4.out hB9)
          clear hB9
          go_wp2_with fail
          go_ret
          exact ⟨rfl, HB9.out⟩
        · have HFY := Lib.hid (fine_of HY4.out HOK2.out (HR4.out rfl))
          clear HR4 HOK2
          have hl1 : len ≤ 40 := by have := HFX.out.len; have := HCX.out; omega
          have hl2 : len2 ≤ 40 := by have := HFY.out.len; have := HCY.out; omega
          go_wp2_with fail
          go_at_call 7; refine (awakeD_any _).mono ?_; rintro e w5 ⟨rfl, hB5⟩
          have HB5 := Lib.hid (below_step HB4.out hB5)
          have HX5 := Lib.hid (HX4.out.below hB5)
          have HY5 := Lib.hid (HY4.out.below hB5)
          clear hB5 HB4 HX4 HY4
          go_wp2_with fail
          go_at_call 13; refine (namesN_row w5 a len cap a2 len2 cap2 n xs ys w5 HX5.out HY5.out (by omega) (by omega) HFX.out.nodup HFY.out.nodup (Below.refl _ _)).mono ?_; rintro e w6 ⟨a6, c6, rfl, hS6, hB6⟩
          have HB6 := Lib.hid (below_step HB5.out hB6)
          have HX6 := Lib.hid (HX5.out.below hB6)
          have HY6 := Lib.hid (HY5.out.below hB6)
          have HS6 := Lib.hid hS6
          clear hS6 hB6 HB5 HX5 HY5
          go_wp2_with fail
          go_at_call 14; refine (rnamesN_any a len cap a2 len2 cap2 n xs ys w6 HX6.out HY6.out (by omega) (by omega) HFY.out.nodup).mono ?_; rintro e w7 ⟨a7, c7, rfl, hS7, hB7⟩
          have HB7 := Lib.hid (below_step HB6.out hB7)
          have HX7 := Lib.hid (HX6.out.below hB7)
          have HY7 := Lib.hid (HY6.out.below hB7)
          have HQ := Lib.hid (same_yes (cap := c6) (cap' := c7) (HS6.out.below hB7) hS7)
          obtain ⟨rl, hrl⟩ : ∃ rl, rcL Nd.name qN xs ys = rl := ⟨_, rfl⟩
          rw [hrl] at HQ ⊢
          clear hS7 hB7 HB6 HX6 HY6 HS6 hrl
          go_wp2_with fail
          go_at_call 8; refine HQ.out.mono ?_; rintro e w8 ⟨rfl, hB8⟩
          have HB8 := Lib.hid (below_step HB7.out hB8)
          have HX8 := Lib.hid (HX7.out.below hB8)
          have HY8 := Lib.hid (HY7.out.below hB8)
          clear hB8 HB7 HX7 HY7 HQ
          go_wp2_with fail
          go_at_call 15; refine (nodesN_any a len cap a2 len2 cap2 n xs ys w8 HX8.out HY8.out hl1 hl2 HFX.out.nodup HFY.out.nodup HFY.out.few HFY.out.lines).mono ?_; rintro e w9 hR9
          obtain ⟨r9, ⟨a9, c9, rfl, hS9, hB9⟩, hr9, hm9, -, -⟩ := reads_row hR9
          have HB9 := Lib.hid (below_step HB8.out hB9)
          have HX9 := Lib.hid (HX8.out.below hB9)
          have HY9 := Lib.hid (HY8.out.below hB9)
          have HS9 := Lib.hid hS9
          have HM9 := Lib.hid (And.intro hr9 hm9)
          clear hR9 hS9 hB9 hr9 hm9 HB8 HX8 HY8
          go_wp2_with fail
          go_at_call 16; refine (rnodesN_any a len cap a2 len2 cap2 n xs ys w9 HX9.out HY9.out hl1 HFY.out).mono ?_; rintro e w10 hR10
          obtain ⟨r10, ⟨a10, c10, rfl, hS10, hB10⟩, hr10, hm10, -, -⟩ := reads_row hR10
          obtain rfl := reads_same HM9.out.1 hr10 HM9.out.2 hm10
          have HB10 := Lib.hid (below_step HB9.out hB10)
          have HY10 := Lib.hid (HY9.out.below hB10)
          have HQ := Lib.hid (same_yes (cap := c9) (cap' := c10) (HS9.out.below hB10) hS10)
          clear hR10 hS10 hB10 hr10 hm10 HB9 HX9 HY9 HS9 HM9
          go_wp2_with fail
          go_at_call 8; refine HQ.out.mono ?_; rintro e w11 ⟨rfl, hB11⟩
          have HB11 := Lib.hid (below_step HB10.out hB11)
          have HY11 := Lib.hid (HY10.out.below hB11)
          clear hB11 HB10 HY10 HQ
          go_wp2_with fail
          go_at_call 15; refine (nodesN_any a2 len2 cap2 a2 len2 cap2 n ys ys w11 HY11.out HY11.out hl2 hl2 HFY.out.nodup HFY.out.nodup HFY.out.few HFY.out.lines).mono ?_; rintro e w12 hR12
          rw [rcL_same (row_of_mem HY11.out)] at hR12
          obtain ⟨r12, ⟨a12, c12, rfl, hS12, hB12⟩, hr12, hm12, -, -⟩ := reads_row hR12
          obtain rfl : r12 = [] := List.eq_nil_iff_forall_not_mem.2 fun k hk => rc_none ((hm12 k).1 hk).1
          have HB12 := Lib.hid (below_step HB11.out hB12)
          clear hR12 hS12 hB12 hr12 hm12 HB11 HY11
          rw [List.length_nil]
          go_wp2_with fail
          go_ret
          exact ⟨rfl, HB12.out⟩
end Go.Proofs.Ytngnegnofmpgkaa.Gr
