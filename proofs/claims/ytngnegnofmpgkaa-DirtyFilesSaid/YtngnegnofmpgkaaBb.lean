/- WALK of dirty's changed at files. -/
import Derived.Test.YtngnegnofmpgkaaBa
namespace Go.Proofs.Ytngnegnofmpgkaa.Gr
open Go.RowKit Go.Maps Go.Sort
open Go.Proofs.Ytngnegnofmpgkaa.Nm (StrRow)
/-- Have two files the same text? -/
def qS (x y : Sr) : Bool := x.2.toList == y.2.toList
theorem qS_refl (x : Sr) : qS x x = true := by unfold qS; simp
theorem sameS_any (s t s2 t2 : ByteArray) (w : World) : Calls Try.prog 19 #[.agg #[.string s, .string t], .agg #[.string s2, .string t2]] w (BoolP (t.toList == t2.toList) w) := by
  go_enter Try.func19, Try.ntmps19
  go_wp2
  go_ret
  exact ⟨rfl, ((Below.refl _ _).alloc (Nat.le_refl _) _).alloc (by simp) _⟩
set_option maxRecDepth 100000 in
set_option maxHeartbeats 16000000 in
theorem changedS_any (w0 : World) (a : Option Addr) (len cap : Nat) (a2 : Option Addr) (len2 cap2 : Nat) (xs ys : List Sr) (w : World) (hX : LineRow w0 a len xs) (hY : LineRow w0 a2 len2 ys) (hl : len ≤ 100000) (hl2 : len2 ≤ 100000)
    (hnx : (xs.map sNm).Nodup) (hny : (ys.map sNm).Nodup) (hB : Below w0.heap.size w0 w) : Calls Try.prog 17 #[.slice a len cap, .slice a2 len2 cap2, .func (.func 18) #[] #[], .func (.func 19) #[] #[]] w (SetR (chS sNm qS xs ys) 200000 w) := by
  have HN1 := Lib.hid (namedS_any w0 a len cap xs w hX (by omega) hnx hB)
  have HN2 := fun W (hW : Below w.heap.size w W) => Lib.hid (namedS_any w0 a2 len2 cap2 ys W hY (by omega) hny (hB.trans (hW.mono hB.size)))
  have HB := Lib.hid hB
  have HNX := Lib.hid hnx
  have HNY := Lib.hid hny
  have hcx := hX.count
  have hcy := hY.count
  obtain ⟨i0, hi, hz0, hz1, hz2⟩ := info_parts info9
  clear hX hY hnx hny hB
  go_enter Try.func17, Try.ntmps17
  go_wp2_with fail
  go_at_call 34; refine HN1.out.mono ?_; rintro e w1 ⟨b1, D1, rfl, hb1, hV1, hB1⟩
  have HV1 := Lib.hid hV1
  have HB1 := Lib.hid hB1
  have HL1 := Lib.hid hb1
  clear hV1 hB1 HN1 hb1
  go_wp2_with fail
  go_at_call 34; refine (HN2 _ HB1.out).out.mono ?_; rintro e w2 ⟨b2, D2, rfl, hb2, hV2, hB2⟩
  have HV2 := Lib.hid hV2
  have HB2 := Lib.hid (HB1.out.trans (hB2.mono HB1.out.size))
  have HV1b := Lib.hid (HV1.out.below hB2)
  have hown1 := HV1b.out.own
  have hbl2 := HV2.out.own.lt
  have hbl1 := HV1b.out.own.lt
  have hsz1 := HV1b.out.siz
  have hsz2 := HV2.out.siz
  have HBL := Lib.hid (show b1 < w2.heap.size ∧ b2 < w2.heap.size from ⟨hbl1, hbl2⟩)
  have HBW := Lib.hid (Nat.le_trans HB1.out.size hB2.size)
  clear hV2 hB2 HN2 HV1 HB1 HL1 hb2 hbl2 hbl1
  go_wp2_with (first
    | (at_range; refine wpList_range_own _ rfl _ 57 rfl 9 34 law9 Try.underlying57 _ b1 _ _ rfl hown1 ?_; intro wq hrg0 hg0 hs0)
    | go_in)
  go_frame
  go_loopw [11] (fun v wr => ∃ (left : Lit → Bool) (cnt : Nat) (ss acc : List (List UInt8)), wr.ranges Try.prog 9 RhS b1 w2.heap.size (Maps.size D1) D1 left cnt ∧ Hid (Collected D1 left ss) ∧ ss.length + cnt ≤ Maps.size D1 ∧ Hid (wr.ownsRow (w2.heap.size + 1) 9 1 v acc.length (acc.map encStr)) ∧ Hid (acc = ss.filter (fstB sNm qS xs ys)) ∧ Hid (w2.grownBy wr none) ∧ w2.heap.size + 1 ≤ wr.heap.size)
    (fun _ wr => wr.rangeLeft b1 w2.heap.size)
  case atStart => exact ⟨_, _, [], [], hrg0, Lib.hid (Collected.start D1), by simp, Lib.hid (World.ownsRow_nil _ _ _ _), Lib.hid rfl, Lib.hid hg0, by omega⟩
  case round =>
    obtain ⟨left, cnt, ss, acc, hrg, hC, hn, hO, hF, hG, hws⟩ := hrel
    rename World => wr
    have HC := Lib.hid hC.out
    have HO := Lib.hid hO.out
    have HF := Lib.hid hF.out
    have HG := Lib.hid hG.out
    have HAL := Lib.hid (show acc.length ≤ ss.length by rw [hF.out]; exact List.length_filter_le _ _)
    clear hC hO hF hG
    go_wp2_with (first
      | (at_next; refine wpList_next_ranges _ rfl _ rfl 9 law9 RhS encStr (fun c : ByteArray × ByteArray => .agg #[.string c.1, .string c.2]) (fun key kl hk => by obtain ⟨x, hx, _⟩ := Maps.keyOf_str Try.underlying9 hk; exact ⟨x, hx⟩) (fun v y hv => rhS_inv hv) b1 w2.heap.size _ _ _ _ rfl hrg ?_ ?_)
      | go_in)
    · intro _ hl0
      have hown2 : wr.ownsMap Try.prog 9 RhS b2 (Maps.size D2) D2 := (HV2.out.kept HG.out (by simp)).own
      have HCF := Lib.hid (And.intro HC.out hl0)
      have HN0 := Lib.hid (show ss.length ≤ Maps.size D1 by omega)
      have HRW := Lib.hid hws
      clear hrg HC hn hws hrg0 hg0 hs0
      go_wp2_with (first
        | (at_range; refine wpList_range_own _ rfl _ 57 rfl 9 34 law9 Try.underlying57 _ b2 _ _ rfl hown2 ?_; intro wp hrg2 hg2 hs2)
        | go_in)
      go_frame
      have hs2b := hs2
      have HRP := Lib.hid (show wr.heap.size + 1 ≤ wp.heap.size by omega)
      clear hs2 hs2b
      go_loopw [11] (fun v wt => ∃ (left : Lit → Bool) (cnt : Nat) (tt acc2 : List (List UInt8)), wt.ranges Try.prog 9 RhS b2 wr.heap.size (Maps.size D2) D2 left cnt ∧ Hid (Collected D2 left tt) ∧ tt.length + cnt ≤ Maps.size D2 ∧ Hid (wt.ownsRow (w2.heap.size + 1) 9 1 v acc2.length (acc2.map encStr)) ∧ Hid (acc2 = acc ++ tt.filter (sndB sNm xs)) ∧ Hid (w2.grownBy wt none) ∧ wr.heap.size + 1 ≤ wt.heap.size)
        (fun _ wt => wt.rangeLeft b2 wr.heap.size)
      case atStart => exact ⟨_, _, [], acc, hrg2, Lib.hid (Collected.start D2), by simp, Lib.hid (HO.out.kept hg2 (own_none _)), Lib.hid (by simp), Lib.hid (HG.out.andThen hg2 (by simp)), HRP.out⟩
      case round =>
        clear HO HG
        obtain ⟨left2, cnt2, tt, acc2, hrgt, hCt, hnt, hOt, hFt, hGt, hwt⟩ := hrel
        rename World => wt
        have HC := Lib.hid hCt.out
        have HO := Lib.hid hOt.out
        have HF2 := Lib.hid hFt.out
        have HG := Lib.hid hGt.out
        have HALT := Lib.hid (show acc2.length ≤ ss.length + tt.length by
          rw [hFt.out, List.length_append]
          have := List.length_filter_le (sndB sNm xs) tt
          have := HAL.out
          omega)
        clear hCt hOt hFt hGt hrg2 hg2
        go_wp2_with (first
          | (at_next; refine wpList_next_ranges _ rfl _ rfl 9 law9 RhS encStr (fun c : ByteArray × ByteArray => .agg #[.string c.1, .string c.2]) (fun key kl hk => by obtain ⟨x, hx, _⟩ := Maps.keyOf_str Try.underlying9 hk; exact ⟨x, hx⟩) (fun v y hv => rhS_inv hv) b2 wr.heap.size _ _ _ _ rfl hrgt ?_ ?_)
          | go_in)
        · intro _ hl2
          have hset : SetL (chS sNm qS xs ys) ((acc2.mergeSort leB).map mk) := by
            rw [HF2.out, HF.out]
            exact ch_set HCF.out.1 HC.out HCF.out.2 hl2 HV1b.out.has HV2.out.has HV1b.out.kok HV2.out.kok
          have HSET := Lib.hid hset
          have hlen : acc2.length ≤ 200000 := by have := HALT.out; have := HN0.out; omega
          have HGO := Lib.hid HG.out
          rcases HO.out.2 with ⟨rfl, h0⟩ | ⟨g, cap, cur, rfl, hbase, hb, h1, h2, h3, h4⟩
          · obtain rfl : acc2 = [] := List.eq_nil_of_length_eq_zero h0
            clear HO HC HG hrgt hset
            go_wp2_with (go_at_call 35; refine (Try.slices_Sort_string_none _ _ _).mono ?_; rintro e w9 ⟨rfl, rfl⟩)
            go_ret
            exact ⟨[], ⟨_, rfl, World.ownsRow_nil _ _ _ _, (HB2.out).trans ((below_none HGO.out).mono HBW.out)⟩, by simpa using HSET.out, by simp⟩
          · have hS := Lib.hid (Try.slices_Sort_string g 0 cap acc2 wt (holds_of_block hb (by simpa using h4)) (Array.getElem?_eq_some_iff.1 hb).1 (by omega))
            have HBK := Lib.hid (And.intro hb (And.intro h1 (And.intro h2 h3)))
            clear HO HC HG hrgt hset hb h1 h2 h3 h4
            go_wp2_with (go_at_call 35; refine hS.out.mono ?_; rintro e w9 ⟨rfl, nn, os, rfl⟩)
            go_ret
            have hl2 : (acc2.mergeSort leB).length = acc2.length := by simp
            have hrow := ownsRow_sorted (ts := acc2.mergeSort leB) (n := nn) (os := os) hl2 hbase HBK.out.1 HBK.out.2.1 HBK.out.2.2.1 HBK.out.2.2.2
            refine ⟨(acc2.mergeSort leB).map mk, ⟨_, rfl, ?_, ?_⟩, HSET.out, by simpa using hlen⟩
            · rw [← row_map, List.length_map, hl2]
              exact owns_up hrow (by have := HBW.out; omega)
            · exact HB2.out.trans ((below_none (grown_none HGO.out (grownBy_sorted _) (by omega))).mono HBW.out)
        · intro x cs ct kl yd yp w4 cnt1 hkey hlk hv hat hrg1 hlt hg1 hs1 hen
          obtain ⟨x', ex, rfl, hlx⟩ := Maps.keyOf_str Try.underlying9 hkey
          obtain rfl : x = x' := encStr_inj ex
          obtain ⟨yo, hyo, hnm, hVx, hokx⟩ := vm_entry HV2.out hv hat
          have HC1 := Lib.hid (HC.out.step hlk hat)
          have hri := row_ne_iter HO.out hrgt
          have HO1 := Lib.hid (HO.out.kept hg1 (.inr hri.symm))
          have HG1 := Lib.hid (grown_none HG.out hg1 (by have := HRW.out; omega))
          have hrl := hrgt.left_eq
          have HZ1 := Lib.hid (show wr.heap.size + 1 ≤ w4.heap.size by omega)
          have hV4 := HV1b.out.kept HG1.out (by simp)
          obtain ⟨v2, y2, hR2, hlk2⟩ := hV4.look_any (T := 57) Try.underlying57 (zeroS _) (rhS_yes ⟨⟨#[]⟩, ⟨#[]⟩⟩) (s := mk x) hokx
          obtain ⟨⟨s2, r2⟩, rfl⟩ := rhS_inv hR2
          dsimp only at hlk2
          obtain ⟨q, hq⟩ : ∃ q, inB (mk x) (xs.map sNm) = q := ⟨_, rfl⟩
          rw [hq] at hlk2
          have hlk3 : (Instr.lookup 57 (.map (some b1)) (encStr x) true).run Try.prog w4 = .ok (.tuple #[.agg #[.string s2, .string r2], .bool q]) w4 := hlk2
          have HPQ := Lib.hid (show sndB sNm xs x = !q by unfold sndB; rw [hq])
          have hrg6 := hrg1.alloc (.cells #[.string s2, .string r2] 34)
          have HO6 := Lib.hid (HO1.out.alloc (.cells #[.string s2, .string r2] 34))
          have HG6 := Lib.hid (HG1.out.andThen (World.grownBy_alloc w4 (.cells #[.string s2, .string r2] 34) none) (by simp))
          obtain ⟨W6, hW6⟩ : ∃ W6, W6 = w4.alloc (.cells #[.string s2, .string r2] 34) := ⟨_, rfl⟩
          rw [← hW6] at hrg6 HO6 HG6
          have HZ6 := Lib.hid (show wr.heap.size + 1 ≤ W6.heap.size by rw [hW6]; simp; have := HZ1.out; omega)
          have HW6 := Lib.hid hW6
          have hALT := HALT.out
          have hN0 := HN0.out
          clear hs1 hwt hkey hlk hv hat hrgt hg1 hri ex hyo hnm hokx hVx HC HO HG hlk2 hR2 hq hW6 hrg1 HO1 HG1 hV4 HALT
          go_upto_region 13 with fail
          rw [← HW6.out]
          clear hlk3
          cases q
          · go_wp2_with (first
              | (at_builtin; refine wpList_append_own_at _ rfl _ _ 26 rfl (w2.heap.size + 1) 9 i0 (.string ByteArray.empty) 1 16 Try.underlying26 hi hz0 hz1 hz2 rfl (by decide) _ acc2.length (acc2.map encStr) rfl (HO6.out.alloc _) ⟨W6.heap.size, 0, none⟩ 1 1 [encStr x] rfl rfl (cell_one_new _ _ _) (by intro v hv; simp at hv; subst hv; rfl) (by unfold maxLen; omega) (by omega) (by have := HZ6.out; have := HRW.out; simp; omega) ?_; intro v' w8 hown' hgrow8 hnil8 hat8; have HO8 := Lib.hid hown'; have HG8 := Lib.hid (grown_row (HG6.out.andThen (World.grownBy_alloc W6 (.cells #[encStr x] 9) none) (by simp)) hgrow8 (fun g hg => by have := ((HO6.out.alloc (.cells #[encStr x] 9)).lt g hg).1; omega)); have hrg8 := (hrg6.alloc (.cells #[encStr x] 9)).kept hgrow8 (row_ne_low (HO6.out.alloc (.cells #[encStr x] 9)) (by have := HBL.out; omega)) (row_ne_iter (HO6.out.alloc (.cells #[encStr x] 9)) (hrg6.alloc (.cells #[encStr x] 9))); have HZ8 := Lib.hid (show wr.heap.size + 1 ≤ w8.heap.size by have h1 := hgrow8.size; have h2 := HZ6.out; simp at h1; omega); clear hown' hgrow8 hnil8 hat8 hrg6)
              | go_in)
            go_roundw
            case rel => exact ⟨_, cnt1, tt ++ [x], acc2 ++ [x], hrg8, HC1, by simp; omega, by rw [List.length_append, List.map_append]; exact HO8, Lib.hid (filt_yes2 HF2.out HPQ.out), HG8, HZ8.out⟩
            case measure => rw [hrg8.left_eq, hrl]; exact hlt
          · go_wp2
            go_roundw
            case rel => exact ⟨_, cnt1, tt ++ [x], acc2, hrg6, HC1, by simp; omega, HO6, Lib.hid (filt_no2 HF2.out HPQ.out), HG6, HZ6.out⟩
            case measure => rw [hrg6.left_eq, hrl]; exact hlt
    · intro x cs ct kl yd yp w4 cnt1 hkey hlk hv hat hrg1 hlt hg1 hs1 hen
      obtain ⟨x', ex, rfl, hlx⟩ := Maps.keyOf_str Try.underlying9 hkey
      obtain rfl : x = x' := encStr_inj ex
      obtain ⟨xo, hxo, hnm, hVx, hokx⟩ := vm_entry HV1b.out hv hat
      have hag := hVx
      unfold VS at hag
      simp only [Value.agg.injEq, Array.mk.injEq, List.cons.injEq, Value.string.injEq, and_true] at hag
      obtain ⟨hg1a, hg2a⟩ := hag
      have HCT := Lib.hid hg2a
      have HC1 := Lib.hid (HC.out.step hlk hat)
      have hri := row_ne_iter HO.out hrg
      have HO1 := Lib.hid (HO.out.kept hg1 (.inr hri.symm))
      have HG1 := Lib.hid (grown_none HG.out hg1 (Nat.le_refl _))
      have hrl := hrg.left_eq
      have HZ1 := Lib.hid (show w2.heap.size + 1 ≤ w4.heap.size by omega)
      have HAL1 := Lib.hid (show acc.length ≤ ss.length by rw [HF.out]; exact List.length_filter_le _ _)
      have HP := Lib.hid (fstB_in (q := qS) (now := ys) HNX.out hxo hnm)
      have HOKX := Lib.hid hokx
      have HNM := Lib.hid hnm
      clear hs1 hws hkey hlk hv hat hrg hg1 hri ex hxo hnm hokx HC HO HG hg1a hg2a hVx HAL
      obtain ⟨W5, hW5⟩ : ∃ W5, W5 = w4.alloc (.cells #[.string cs, .string ct] 34) := ⟨_, rfl⟩
      have HV5 := Lib.hid (show VM RhS sNm VS W5 b2 ys.length D2 ys by rw [hW5]; exact (HV2.out.kept HG1.out (by simp)).below ((Below.refl _ _).alloc (Nat.le_refl _) _))
      have HB5 := Lib.hid (show Below w0.heap.size w0 W5 by rw [hW5]; exact ((HB.out.trans (HB2.out.mono HB.out.size)).trans ((below_none HG1.out).mono (Nat.le_trans HB.out.size HBW.out))).alloc (Nat.le_trans (Nat.le_trans HB.out.size HBW.out) (by have := HG1.out.size; exact this)) _)
      have hrg5 := hrg1.alloc (.cells #[.string cs, .string ct] 34)
      have HO5 := Lib.hid (HO1.out.alloc (.cells #[.string cs, .string ct] 34))
      have HG5 := Lib.hid (HG1.out.andThen (World.grownBy_alloc w4 (.cells #[.string cs, .string ct] 34) none) (by simp))
      rw [← hW5] at hrg5 HO5 HG5
      have d5 : W5.heap[w4.heap.size]? = some (.cells #[.string cs, .string ct] 34) := by rw [hW5]; exact World.alloc_heap_new _ _
      have hz5 : W5.heap.size = w4.heap.size + 1 := by rw [hW5]; simp
      have HD5 := Lib.hid d5
      have HZ5 := Lib.hid hz5
      have HW5 := Lib.hid hW5
      clear hrg1 HO1 HG1 d5 hz5
      cases hib : inB (mk x) (ys.map sNm)
      · obtain ⟨v2, y2, hR2, hlk2⟩ := HV5.out.look_any (T := 57) Try.underlying57 (zeroS _) (rhS_yes ⟨⟨#[]⟩, ⟨#[]⟩⟩) (s := mk x) HOKX.out
        obtain ⟨⟨s2, r2⟩, rfl⟩ := rhS_inv hR2
        dsimp only at hlk2
        rw [hib] at hlk2
        have hlk3 : (Instr.lookup 57 (.map (some b2)) (encStr x) true).run Try.prog (w4.alloc (.cells #[.string cs, .string ct] 34)) = .ok (.tuple #[.agg #[.string s2, .string r2], .bool false]) (w4.alloc (.cells #[.string cs, .string ct] 34)) := by rw [← hW5]; exact hlk2
        have HPT := Lib.hid (HP.out.trans (chB_out (q := qS) (nm := sNm) (x := xo) (by rw [HNM.out]; intro hm; rw [inB_iff.2 hm] at hib; cases hib)))
        clear hlk2 hR2 hib hW5
        have hrg6 := hrg5.alloc (.cells #[.string s2, .string r2] 34)
        have HO6 := Lib.hid (HO5.out.alloc (.cells #[.string s2, .string r2] 34))
        have HG6 := Lib.hid (HG5.out.andThen (World.grownBy_alloc W5 (.cells #[.string s2, .string r2] 34) none) (by simp))
        obtain ⟨W6, hW6⟩ : ∃ W6, W6 = W5.alloc (.cells #[.string s2, .string r2] 34) := ⟨_, rfl⟩
        rw [← hW6] at hrg6 HO6 HG6
        have HZ6 := Lib.hid (show w2.heap.size + 1 ≤ W6.heap.size by rw [hW6]; simp; have := HZ5.out; have := HZ1.out; omega)
        have HAL := HAL1.out
        have HW6 := Lib.hid (show W6 = (w4.alloc (.cells #[.string cs, .string ct] 34)).alloc (.cells #[.string s2, .string r2] 34) by rw [hW6, HW5.out])
        clear hW6 hrg5
        go_upto_region 7 with fail
        rw [← HW6.out]
        clear hlk3
        go_wp2_with (first
          | (at_builtin; refine wpList_append_own_at _ rfl _ _ 26 rfl (w2.heap.size + 1) 9 i0 (.string ByteArray.empty) 1 16 Try.underlying26 hi hz0 hz1 hz2 rfl (by decide) _ acc.length (acc.map encStr) rfl (HO6.out.alloc _) ⟨W6.heap.size, 0, none⟩ 1 1 [encStr x] rfl rfl (cell_one_new _ _ _) (by intro v hv; simp at hv; subst hv; rfl) (by unfold maxLen; omega) (by omega) (by have := HZ6.out; simp; omega) ?_; intro v' w8 hown' hgrow8 hnil8 hat8; have HO8 := Lib.hid hown'; have HG8 := Lib.hid (grown_row (HG6.out.andThen (World.grownBy_alloc W6 (.cells #[encStr x] 9) none) (by simp)) hgrow8 (fun g hg => by have := ((HO6.out.alloc (.cells #[encStr x] 9)).lt g hg).1; omega)); have hrg8 := (hrg6.alloc (.cells #[encStr x] 9)).kept hgrow8 (row_ne_low (HO6.out.alloc (.cells #[encStr x] 9)) (by have := HBL.out; omega)) (row_ne_iter (HO6.out.alloc (.cells #[encStr x] 9)) (hrg6.alloc (.cells #[encStr x] 9))); have HZ8 := Lib.hid (show w2.heap.size + 1 ≤ w8.heap.size by have h1 := hgrow8.size; have h2 := HZ6.out; simp at h1; omega); clear hown' hgrow8 hnil8 hat8 hrg6)
          | go_in)
        go_roundw
        case rel => exact ⟨_, cnt1, ss ++ [x], acc ++ [x], hrg8, HC1, by simp; omega, by rw [List.length_append, List.map_append]; exact HO8, Lib.hid (filt_yes HF.out HPT.out), HG8, HZ8.out⟩
        case measure => rw [hrg8.left_eq, hrl]; exact hlt
      · obtain ⟨y0, hy0, hye⟩ := List.mem_map.1 (inB_iff.1 hib)
        obtain ⟨v2, hv2, hlk2⟩ := HV5.out.look_in (T := 57) Try.underlying57 (zeroS _) (rhS_yes ⟨⟨#[]⟩, ⟨#[]⟩⟩) hy0 (by rw [hye]; exact HOKX.out)
        obtain rfl : v2 = .agg #[.string y0.1, .string y0.2] := hv2
        obtain ⟨s2, hs2⟩ : ∃ s2, y0.1 = s2 := ⟨_, rfl⟩
        obtain ⟨r2, hr2⟩ : ∃ r2, y0.2 = r2 := ⟨_, rfl⟩
        have hlk3 : (Instr.lookup 57 (.map (some b2)) (encStr x) true).run Try.prog (w4.alloc (.cells #[.string cs, .string ct] 34)) = .ok (.tuple #[.agg #[.string s2, .string r2], .bool true]) (w4.alloc (.cells #[.string cs, .string ct] 34)) := by
          rw [hye, hr2, show y0.1 = mk x from hye] at hlk2
          rw [← hs2, show y0.1 = mk x from hye, ← hW5]
          exact hlk2
        have HPT := Lib.hid (HP.out.trans (chB_in (q := qS) HNY.out hy0 (hye.trans HNM.out.symm)))
        have HR2 := Lib.hid hr2
        clear hlk2 hib hW5 hs2 hr2 hy0 hye
        have hrg6 := hrg5.alloc (.cells #[.string s2, .string r2] 34)
        have HO6 := Lib.hid (HO5.out.alloc (.cells #[.string s2, .string r2] 34))
        have HG6 := Lib.hid (HG5.out.andThen (World.grownBy_alloc W5 (.cells #[.string s2, .string r2] 34) none) (by simp))
        obtain ⟨W6, hW6⟩ : ∃ W6, W6 = W5.alloc (.cells #[.string s2, .string r2] 34) := ⟨_, rfl⟩
        rw [← hW6] at hrg6 HO6 HG6
        have HZ6 := Lib.hid (show w2.heap.size + 1 ≤ W6.heap.size by rw [hW6]; simp; have := HZ5.out; have := HZ1.out; omega)
        have HAL := HAL1.out
        have HW6 := Lib.hid (show W6 = (w4.alloc (.cells #[.string cs, .string ct] 34)).alloc (.cells #[.string s2, .string r2] 34) by rw [hW6, HW5.out])
        have f5 : W6.heap[w4.heap.size]? = some (.cells #[.string cs, .string ct] 34) := by rw [hW6]; exact (Below.heap_alloc _ _ _ (by have := HZ5.out; omega)).trans HD5.out
        have f6 : W6.heap[w4.heap.size + 1]? = some (.cells #[.string s2, .string r2] 34) := by rw [hW6, ← HZ5.out]; exact World.alloc_heap_new _ _
        have HS := Lib.hid (sameS_any cs ct s2 r2 W6)
        have e0 : W6.cell? ⟨w4.heap.size, 0, none⟩ = some (.string cs) := by simp [World.cell?, f5]
        have e1 : W6.cell? ⟨w4.heap.size, 1, none⟩ = some (.string ct) := by simp [World.cell?, f5]
        have e3 : W6.cell? ⟨w4.heap.size + 1, 0, none⟩ = some (.string s2) := by simp [World.cell?, f6]
        have e4 : W6.cell? ⟨w4.heap.size + 1, 1, none⟩ = some (.string r2) := by simp [World.cell?, f6]
        obtain ⟨q, hq⟩ : ∃ q, (ct.toList == r2.toList) = q := ⟨_, rfl⟩
        rw [hq] at HS
        have HPQ := Lib.hid (HPT.out.trans (show (!qS xo y0) = !q by unfold qS; rw [← HCT.out, HR2.out, hq]))
        clear hW6 hrg5 f5 f6 hq HPT
        go_upto_region 7 with fail
        rw [← HW6.out]
        clear hlk3
        cases q
        · go_wp2_with (first
            | (go_at_call 19; refine HS.out.mono ?_; rintro e w7 ⟨rfl, hB7⟩; have hg7 := grow_of hB7; replace hrg6 := hrg6.kept hg7 (by simp) (by simp); replace HO6 := Lib.hid (HO6.out.kept hg7 (own_none _)); replace HG6 := Lib.hid (HG6.out.andThen hg7 (by simp)); replace HZ6 := Lib.hid (Nat.le_trans HZ6.out hg7.size); clear hB7 hg7 e0 e1 e3 e4)
            | (at_builtin; refine wpList_append_own_at _ rfl _ _ 26 rfl (w2.heap.size + 1) 9 i0 (.string ByteArray.empty) 1 16 Try.underlying26 hi hz0 hz1 hz2 rfl (by decide) _ acc.length (acc.map encStr) rfl (HO6.out.alloc _) ⟨w7.heap.size, 0, none⟩ 1 1 [encStr x] rfl rfl (cell_one_new _ _ _) (by intro v hv; simp at hv; subst hv; rfl) (by unfold maxLen; omega) (by omega) (by have := HZ6.out; simp; omega) ?_; intro v' w8 hown' hgrow8 hnil8 hat8; have HO8 := Lib.hid hown'; have HG8 := Lib.hid (grown_row (HG6.out.andThen (World.grownBy_alloc w7 (.cells #[encStr x] 9) none) (by simp)) hgrow8 (fun g hg => by have := ((HO6.out.alloc (.cells #[encStr x] 9)).lt g hg).1; omega)); have hrg8 := (hrg6.alloc (.cells #[encStr x] 9)).kept hgrow8 (row_ne_low (HO6.out.alloc (.cells #[encStr x] 9)) (by have := HBL.out; omega)) (row_ne_iter (HO6.out.alloc (.cells #[encStr x] 9)) (hrg6.alloc (.cells #[encStr x] 9))); have HZ8 := Lib.hid (show w2.heap.size + 1 ≤ w8.heap.size by have h1 := hgrow8.size; have h2 := HZ6.out; simp at h1; omega); clear hown' hgrow8 hnil8 hat8 hrg6)
            | go_in)
          go_roundw
          case rel => exact ⟨_, cnt1, ss ++ [x], acc ++ [x], hrg8, HC1, by simp; omega, by rw [List.length_append, List.map_append]; exact HO8, Lib.hid (filt_yes HF.out HPQ.out), HG8, HZ8.out⟩
          case measure => rw [hrg8.left_eq, hrl]; exact hlt
        · go_wp2_with (go_at_call 19; refine HS.out.mono ?_; rintro e w7 ⟨rfl, hB7⟩; have hg7 := grow_of hB7; replace hrg6 := hrg6.kept hg7 (by simp) (by simp); replace HO6 := Lib.hid (HO6.out.kept hg7 (own_none _)); replace HG6 := Lib.hid (HG6.out.andThen hg7 (by simp)); replace HZ6 := Lib.hid (Nat.le_trans HZ6.out hg7.size); clear hB7 hg7 e0 e1 e3 e4)
          go_roundw
          case rel => exact ⟨_, cnt1, ss ++ [x], acc, hrg6, HC1, by simp; omega, HO6, Lib.hid (filt_no HF.out HPQ.out), HG6, HZ6.out⟩
          case measure => rw [hrg6.left_eq, hrl]; exact hlt
end Go.Proofs.Ytngnegnofmpgkaa.Gr
