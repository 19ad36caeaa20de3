/- WALKS of the law's unlike, the reference's Files. -/
import Derived.Test.YtngnegnofmpgkaaBc
import Derived.Test.YtngnegnofmpgkaaAf
namespace Go.Proofs.Ytngnegnofmpgkaa.Gr
open Go.RowKit Go.Maps Go.Sort
open Go.Proofs.Ytngnegnofmpgkaa.Nm (StrRow)
def UnlikeR (xs : List Sr) (w : World) (e : Ending) (w' : World) : Prop := ∃ b : Bool, e = .returned (.bool b) ∧ Below w.heap.size w w' ∧ (b = true → (xs.map sNm).Nodup)
set_option maxRecDepth 100000 in
set_option maxHeartbeats 8000000 in
theorem unlike_any (a : Option Addr) (len cap : Nat) (xs : List Sr) (w : World) (hX : LineRow w a len xs) : Calls Try.prog 6 #[.slice a len cap] w (UnlikeR xs w) := by
  have HX := Lib.hid hX
  have hcx := hX.count
  have hmx := hX.max
  clear hX
  go_enter Try.func6, Try.ntmps6
  go_upto_region 2 with fail
  go_loopw [3] (fun i wr => ∃ (k : Nat), k ≤ len ∧ i = .int .i64 k ∧ Hid (((xs.take k).map sNm).Nodup) ∧ Hid (Below w.heap.size w wr)) (fun i _ => len - (intOf i).toNat)
  case atStart => exact ⟨0, by omega, rfl, Lib.hid (by simp), Lib.hid (Below.refl _ _)⟩
  case round =>
    obtain ⟨k, hk, rfl, hO, hB⟩ := hrel
    rename World => wr
    have HO := Lib.hid hO.out
    have HB := Lib.hid hB.out
    clear hO hB
    by_cases hlt : k < len
    · obtain ⟨b0, off, rfl, hb, hc⟩ := HX.out.at_ (by omega)
      obtain ⟨x, hx⟩ : ∃ x, xs[k]? = some x := ⟨xs[k]'(by rw [hcx]; exact hlt), List.getElem?_eq_getElem _⟩
      have HC := Lib.hid hc
      have HBL := Lib.hid hb
      have HX1 := Lib.hid hx
      clear hx hc hb
      go_upto_region 5 with fail
      go_loopw [4] (fun j wt => ∃ (m : Nat), m ≤ k ∧ j = .int .i64 m ∧ Hid (∀ q, q < m → ∀ y, xs[q]? = some y → ¬ sNm y = sNm x) ∧ Hid (Below w.heap.size w wt)) (fun j _ => k - (intOf j).toNat)
      case atStart => exact ⟨0, by omega, rfl, Lib.hid (fun q hq => absurd hq (by omega)), HB⟩
      case round =>
        clear HB
        obtain ⟨m, hm, rfl, hA, hB⟩ := hrel
        rename World => wt
        have HA := Lib.hid hA.out
        have HB := Lib.hid hB.out
        clear hA hB
        by_cases hlt2 : m < k
        · obtain ⟨y, hy⟩ : ∃ y, xs[m]? = some y := ⟨xs[m]'(by rw [hcx]; omega), List.getElem?_eq_getElem _⟩
          have c0 : wt.cell? ⟨b0, off + k * 2, none⟩ = some (.string x.1) := (HB.out.cell (p := ⟨b0, off + k * 2, none⟩) HBL.out).trans (HC.out k x HX1.out).1
          have d0 : wt.cell? ⟨b0, off + m * 2, none⟩ = some (.string y.1) := (HB.out.cell (p := ⟨b0, off + m * 2, none⟩) HBL.out).trans (HC.out m y hy).1
          obtain ⟨nx, hnx⟩ : ∃ nx, x.1 = nx := ⟨_, rfl⟩
          obtain ⟨ny, hny⟩ : ∃ ny, y.1 = ny := ⟨_, rfl⟩
          rw [hnx] at c0
          rw [hny] at d0
          have HNX := Lib.hid hnx
          have HNY := Lib.hid hny
          have HY := Lib.hid hy
          have hk0 : (0 : Int) ≤ (k : Int) := by omega
          have hki : (k : Int) < (len : Int) := by omega
          have hm0 : (0 : Int) ≤ (m : Int) := by omega
          have hmi : (m : Int) < (len : Int) := by omega
          have hmk : (m : Int) < (k : Int) := by omega
          clear hnx hny hy
          cases hr : (nx.toList == ny.toList)
          · have HR := Lib.hid hr
            go_upto_region 7 with fail
            go_quiet (fail)
            go_wp2
            go_roundw
            case rel => exact ⟨m + 1, by omega, by go_num, Lib.hid (fun q hq z hz => by
              by_cases e : q = m
              · subst e
                rw [HY.out] at hz
                injection hz with hz
                subst hz
                exact fun h => text_ne HR.out (by rw [← HNX.out, ← HNY.out]; exact h.symm)
              · exact HA.out q (by omega) z hz), Lib.hid (below_drewN HB.out _)⟩
            case measure => simp [intOf]; omega
          · go_upto_region 7 with fail
            go_quiet (fail)
            go_wp2
            go_ret
            exact ⟨false, rfl, below_drewN HB.out _, fun h => absurd h (by decide)⟩
        · have hmk : ¬ (m : Int) < (k : Int) := by omega
          obtain rfl : m = k := by omega
          have HN2 := Lib.hid (show ((xs.take (m + 1)).map sNm).Nodup by
            rw [map_at sNm HX1.out]
            refine List.nodup_append.2 ⟨HO.out, by simp, fun s hs t ht e => ?_⟩
            obtain rfl := List.mem_singleton.1 ht
            obtain ⟨z, hz, hze⟩ := List.mem_map.1 hs
            obtain ⟨q, hq, hqe⟩ := List.getElem_of_mem hz
            have hq2 : q < m := by have := hq; simp at this; omega
            refine HA.out q hq2 z ?_ (hze.trans e)
            rw [← hqe, List.getElem_take]
            exact List.getElem?_eq_getElem _)
          go_wp2
          go_roundw
          case rel => exact ⟨m + 1, by omega, by go_num, HN2, HB⟩
          case measure => simp [intOf]; omega
    · have hki : ¬ (k : Int) < (len : Int) := by omega
      obtain rfl : k = len := by omega
      have HE := Lib.hid (show xs.take k = xs from List.take_of_length_le (by omega))
      rw [HE.out] at HO
      go_wp2
      go_ret
      exact ⟨true, rfl, HB.out, fun _ => HO.out⟩
set_option maxRecDepth 100000 in
set_option maxHeartbeats 16000000 in
theorem rfilesS_any (a : Option Addr) (len cap : Nat) (a2 : Option Addr) (len2 cap2 : Nat) (xs ys : List Sr) (w : World) (hX : LineRow w a len xs) (hY : LineRow w a2 len2 ys) (hl : len ≤ 100000) (hl2 : len2 ≤ 100000) (hny : (ys.map sNm).Nodup) :
    Calls Try.prog 10 #[.slice a len cap, .slice a2 len2 cap2] w (RowR (rcL sNm qS xs ys) w) := by
  have HX := Lib.hid hX
  have HY := Lib.hid hY
  have hcx := hX.count
  have hcy := hY.count
  have HNY := Lib.hid hny
  have HN := Lib.hid (show StrRow w none 0 [] from ⟨rfl, by omega, fun i x h => by simp at h, fun h => absurd h (by omega)⟩)
  clear hX hY hny
  obtain ⟨f1, hf1⟩ : ∃ f1, rcG sNm (chB sNm qS ys) = f1 := ⟨_, rfl⟩
  obtain ⟨f2, hf2⟩ : ∃ f2, rcG sNm (fun y => !inB (sNm y) (xs.map sNm)) = f2 := ⟨_, rfl⟩
  have HF1 := Lib.hid hf1
  have HF2 := Lib.hid hf2
  have HL1 := Lib.hid (show ∀ l : List Sr, (l.foldl f1 []).length ≤ l.length from fun l => by
    have := rcG_len sNm (chB sNm qS ys) l []
    rw [hf1, List.length_nil] at this
    omega)
  have HL2 := Lib.hid (show ∀ (l : List Sr) (z : List ByteArray), (l.foldl f2 z).length ≤ z.length + l.length from fun l z => by
    have := rcG_len sNm (fun y => !inB (sNm y) (xs.map sNm)) l z
    rw [hf2] at this
    exact this)
  have HR := Lib.hid (show rcL sNm qS xs ys = ys.foldl f2 (xs.foldl f1 []) by unfold rcL; rw [hf1, hf2])
  clear hf1 hf2
  go_enter Try.func10, Try.ntmps10
  go_upto_region 3 with fail
  go_loopw [5, 6] (fun v i wr => ∃ (k : Nat) (b : Option Addr) (cp : Nat), k ≤ len ∧ i = .int .i64 k ∧ v = .slice b ((xs.take k).foldl f1 []).length cp ∧ Hid (StrRow wr b ((xs.take k).foldl f1 []).length ((xs.take k).foldl f1 [])) ∧ Hid (Below w.heap.size w wr)) (fun _ i _ => len - (intOf i).toNat)
  case atStart => exact ⟨0, none, 0, by omega, rfl, rfl, HN, Lib.hid (Below.refl _ _)⟩
  case round =>
    obtain ⟨k, b, cp, hk, rfl, rfl, hO, hB⟩ := hrel
    rename World => wr
    have HO := Lib.hid hO.out
    have HB := Lib.hid hB.out
    clear hO hB
    by_cases hlt : k < len
    · obtain ⟨b0, off, rfl, hb, hc⟩ := HX.out.at_ (by omega)
      obtain ⟨x, hx⟩ : ∃ x, xs[k]? = some x := ⟨xs[k]'(by rw [hcx]; exact hlt), List.getElem?_eq_getElem _⟩
      have c0 : wr.cell? ⟨b0, off + k * 2, none⟩ = some (.string x.1) := (HB.out.cell (p := ⟨b0, off + k * 2, none⟩) hb).trans (hc k x hx).1
      have c1 : wr.cell? ⟨b0, off + k * 2 + 1, none⟩ = some (.string x.2) := (HB.out.cell (p := ⟨b0, off + k * 2 + 1, none⟩) hb).trans (hc k x hx).2
      have hok : okS x.1 := (HX.out.each k x hx).1
      have HE := Lib.hid (fold_at f1 [] hx)
      have hll := HL1.out (xs.take k)
      rw [List.length_take] at hll
      obtain ⟨acc, hacc⟩ : ∃ acc, (xs.take k).foldl f1 [] = acc := ⟨_, rfl⟩
      rw [hacc] at HO HE hll ⊢
      obtain ⟨nm, hnm⟩ : ∃ nm, x.1 = nm := ⟨_, rfl⟩
      obtain ⟨tx, htx⟩ : ∃ tx, x.2 = tx := ⟨_, rfl⟩
      rw [hnm] at c0 hok
      rw [htx] at c1
      have HNM := Lib.hid (show sNm x = nm from hnm)
      have HTX := Lib.hid htx
      have HOK := Lib.hid hok
      have HP := fun W (hW : Below wr.heap.size wr W) => Lib.hid (rput_any b acc.length cp acc nm W (HO.out.below hW) hok (by omega))
      have HFD := Lib.hid (rfile_any a2 len2 cap2 ys nm wr (HY.out.below HB.out))
      have hbw : b0 < wr.heap.size := Nat.lt_of_lt_of_le hb HB.out.size
      clear hx hc hb hacc hnm htx hok
      go_upto_region 6 with (go_at_call 20; refine HFD.out.mono ?_; rintro e w2 ⟨⟨i, rfl, hfnd⟩, rfl⟩; have HFN := Lib.hid hfnd; clear hfnd)
      have hfn := HFN.out
      rcases hfn with ⟨rfl, hout⟩ | ⟨m, y, rfl, hy, hye⟩
      · have HCH := Lib.hid (chB_out (q := qS) (nm := sNm) (now := ys) (x := x) (by rw [HNM.out]; exact hout))
        clear HFN hout
        have hm1 : ((-1 : Int) < 0) := by omega
        have hm2 : decide ((-1 : Int) < 0) = true := by decide
        have HE2 := Lib.hid (HE.out.trans (show f1 acc x = putL nm acc by rw [← HF1.out, ← HNM.out]; exact if_pos HCH.out))
        go_quiet (fail)
        go_wp2_with (go_at_call 21; refine (HP _ (by first | exact KW1.out | exact (Below.refl _ _).drew | exact below_drewN (Below.refl _ _) _)).out.mono ?_; rintro e w3 ⟨b2, cp2, rfl, hS2, hB2⟩; have HS2 := Lib.hid hS2; have HB2 := Lib.hid (HB.out.trans ((below_step (show RowKit.Below wr.heap.size wr _ from by first | exact KW1.out | exact (Below.refl _ _).drew | exact below_drewN (Below.refl _ _) _) hB2).mono HB.out.size)); clear hS2 hB2)
        go_roundw
        case rel => exact ⟨k + 1, b2, cp2, by omega, by go_num, by rw [HE2.out], by rw [HE2.out]; exact HS2, HB2⟩
        case measure => simp [intOf]; omega
      · have HCH := Lib.hid (chB_in (q := qS) HNY.out (List.mem_of_getElem? hy) (hye.trans HNM.out.symm))
        have hml : m < len2 := by have := (List.getElem?_eq_some_iff.1 hy).1; omega
        obtain ⟨b1, off1, rfl, hb1, hc1⟩ := HY.out.at_ (by omega)
        have d0 : wr.cell? ⟨b1, off1 + m * 2, none⟩ = some (.string y.1) := (HB.out.cell (p := ⟨b1, off1 + m * 2, none⟩) hb1).trans (hc1 m y hy).1
        have d1 : wr.cell? ⟨b1, off1 + m * 2 + 1, none⟩ = some (.string y.2) := (HB.out.cell (p := ⟨b1, off1 + m * 2 + 1, none⟩) hb1).trans (hc1 m y hy).2
        have hbw1 : b1 < wr.heap.size := Nat.lt_of_lt_of_le hb1 HB.out.size
        obtain ⟨ty, hty⟩ : ∃ ty, y.2 = ty := ⟨_, rfl⟩
        rw [hty] at d1
        obtain ⟨z, hz⟩ : ∃ z, (ty.toList == tx.toList) = z := ⟨_, rfl⟩
        have hzn : (ty.toList != tx.toList) = !z := by rw [← hz]; rfl
        have HCZ := Lib.hid (HCH.out.trans (show (!qS x y) = !z by unfold qS; rw [HTX.out, hty, BEq.comm, hz]))
        have hm0 : (0 : Int) ≤ (m : Int) := by omega
        have hmi : (m : Int) < (len2 : Int) := by omega
        have hm2 : decide ((m : Int) < 0) = false := by rw [decide_eq_false_iff_not]; omega
        have hk0 : (0 : Int) ≤ (k : Int) := by omega
        have hki : (k : Int) < (len : Int) := by omega
        clear HFN hy hye hb1 hc1 hty HCH
        go_quiet (fail)
        cases z
        · have HE2 := Lib.hid (HE.out.trans (show f1 acc x = putL nm acc by rw [← HF1.out, ← HNM.out]; exact if_pos HCZ.out))
          go_wp2_with (go_at_call 21; refine (HP _ (by first | exact KW1.out | exact (Below.refl _ _).drew | exact below_drewN (Below.refl _ _) _)).out.mono ?_; rintro e w3 ⟨b2, cp2, rfl, hS2, hB2⟩; have HS2 := Lib.hid hS2; have HB2 := Lib.hid (HB.out.trans ((below_step (show RowKit.Below wr.heap.size wr _ from by first | exact KW1.out | exact (Below.refl _ _).drew | exact below_drewN (Below.refl _ _) _) hB2).mono HB.out.size)); clear hS2 hB2)
          go_roundw
          case rel => exact ⟨k + 1, b2, cp2, by omega, by go_num, by rw [HE2.out], by rw [HE2.out]; exact HS2, HB2⟩
          case measure => simp [intOf]; omega
        · have HE2 := Lib.hid (HE.out.trans (show f1 acc x = acc by rw [← HF1.out]; exact if_neg (by rw [HCZ.out]; decide)))
          go_wp2
          go_roundw
          case rel => exact ⟨k + 1, b, cp, by omega, by go_num, by rw [HE2.out], by rw [HE2.out]; exact Lib.hid (HO.out.below (below_drewN (Below.refl _ _) _)), Lib.hid (below_step HB.out (below_drewN (Below.refl _ _) _))⟩
          case measure => simp [intOf]; omega
    · have hki : ¬ (k : Int) < (len : Int) := by omega
      obtain rfl : k = len := by omega
      have HE := Lib.hid (show xs.take k = xs from List.take_of_length_le (by omega))
      rw [HE.out] at HO ⊢
      have hlz := HL1.out xs
      obtain ⟨z0, hz0⟩ : ∃ z0, xs.foldl f1 [] = z0 := ⟨_, rfl⟩
      rw [hz0] at HO hlz HR ⊢
      clear hz0 HE
      go_upto_region 9 with fail
      go_loopw [5, 8] (fun v i wt => ∃ (j : Nat) (b : Option Addr) (cp : Nat), j ≤ len2 ∧ i = .int .i64 j ∧ v = .slice b ((ys.take j).foldl f2 z0).length cp ∧ Hid (StrRow wt b ((ys.take j).foldl f2 z0).length ((ys.take j).foldl f2 z0)) ∧ Hid (Below w.heap.size w wt)) (fun _ i _ => len2 - (intOf i).toNat)
      case atStart => exact ⟨0, b, cp, by omega, rfl, rfl, HO, HB⟩
      case round =>
        clear HO HB
        obtain ⟨j, b, cp, hj, rfl, rfl, hO, hB⟩ := hrel
        rename World => wt
        have HO := Lib.hid hO.out
        have HB := Lib.hid hB.out
        clear hO hB
        by_cases hlt2 : j < len2
        · obtain ⟨b0, off, rfl, hb, hc⟩ := HY.out.at_ (by omega)
          obtain ⟨y, hy⟩ : ∃ y, ys[j]? = some y := ⟨ys[j]'(by rw [hcy]; exact hlt2), List.getElem?_eq_getElem _⟩
          have c0 : wt.cell? ⟨b0, off + j * 2, none⟩ = some (.string y.1) := (HB.out.cell (p := ⟨b0, off + j * 2, none⟩) hb).trans (hc j y hy).1
          have hok : okS y.1 := (HY.out.each j y hy).1
          have HE := Lib.hid (fold_at f2 z0 hy)
          have hll := HL2.out (ys.take j) z0
          rw [List.length_take] at hll
          obtain ⟨acc, hacc⟩ : ∃ acc, (ys.take j).foldl f2 z0 = acc := ⟨_, rfl⟩
          rw [hacc] at HO HE hll ⊢
          obtain ⟨nm, hnm⟩ : ∃ nm, y.1 = nm := ⟨_, rfl⟩
          rw [hnm] at c0 hok
          have HNM := Lib.hid (show sNm y = nm from hnm)
          have HP := Lib.hid (rput_any b acc.length cp acc nm wt HO.out hok (by omega))
          have HFD := Lib.hid (rfile_any a k cap xs nm wt (HX.out.below HB.out))
          clear hy hc hb hacc hnm hok
          go_wp2_with fail
          go_at_call 20; refine HFD.out.mono ?_; rintro e w2 ⟨⟨i, rfl, hfnd⟩, rfl⟩
          rcases hfnd with ⟨rfl, hout⟩ | ⟨m, x, rfl, hx, hxe⟩
          · have HE2 := Lib.hid (HE.out.trans (show f2 acc y = putL nm acc by
              rw [← HF2.out, ← HNM.out]
              refine if_pos (show (!inB (sNm y) (xs.map sNm)) = true from ?_)
              cases hib : inB (sNm y) (xs.map sNm) with
              | false => rfl
              | true => rw [HNM.out] at hib; exact absurd (inB_iff.1 hib) hout))
            have hm1 : ((-1 : Int) < 0) := by omega
            clear hout
            go_wp2_with (go_at_call 21; refine HP.out.mono ?_; rintro e w3 ⟨b2, cp2, rfl, hS2, hB2⟩; have HS2 := Lib.hid hS2; have HB2 := Lib.hid (HB.out.trans (hB2.mono HB.out.size)); clear hS2 hB2)
            go_roundw
            case rel => exact ⟨j + 1, b2, cp2, by omega, by go_num, by rw [HE2.out], by rw [HE2.out]; exact HS2, HB2⟩
            case measure => simp [intOf]; omega
          · have HE2 := Lib.hid (HE.out.trans (show f2 acc y = acc by
              rw [← HF2.out]
              refine if_neg (show ¬ (!inB (sNm y) (xs.map sNm)) = true from ?_)
              rw [HNM.out, ← hxe, inB_iff.2 (List.mem_map.2 ⟨x, List.mem_of_getElem? hx, rfl⟩)]
              decide))
            have hm2 : ¬ ((m : Int) < 0) := by omega
            clear hx hxe
            go_wp2
            go_roundw
            case rel => exact ⟨j + 1, b, cp, by omega, by go_num, by rw [HE2.out], by rw [HE2.out]; exact HO, HB⟩
            case measure => simp [intOf]; omega
        · have hki : ¬ (j : Int) < (len2 : Int) := by omega
          obtain rfl : j = len2 := by omega
          have HE := Lib.hid (show ys.take j = ys from List.take_of_length_le (by omega))
          rw [HE.out] at HO ⊢
          go_wp2
          go_ret
          rw [HR.out]
          exact ⟨b, cp, rfl, HO.out, HB.out⟩
end Go.Proofs.Ytngnegnofmpgkaa.Gr
