/- Kl, La, Lb, Lc, Ld -/
import Derived.Test.YtdlcpnpmmmpccaaZ14
import Derived.WalkMore
import Derived.Deep.RegionLaw
import Derived.Test.YtdlcpnpmmmpccaaZ19
import Derived.Test.YtdlcpnpmmmpccaaZ21
import Derived.Test.YtdlcpnpmmmpccaaX0
import Derived.Test.YtdlcpnpmmmpccaaX2
/- WALK of graph's Order. -/
namespace Go.Proofs.Ytdlcpnpmmmpccaa.Gr
open Go.RowKit Go.Maps Go.Sort
open Go.Proofs.Ytdlcpnpmmmpccaa.Nm (StrRow)
/-- What Order hands out. -/
def OrderP (P : ByteArray → Bool) (ls : List Ln2) (w : World) (e : Ending) (w' : World) : Prop := ∃ pts v1 v2, SetL P pts ∧ e = .returned (.tuple #[v1, v2]) ∧ w'.ownsRow w.heap.size 9 1 v1 (ordL pts ls).length ((ordL pts ls).map Value.string) ∧ w'.ownsRow w.heap.size 9 1 v2 (pts.filter fun p => !inB p (ordL pts ls)).length ((pts.filter fun p => !inB p (ordL pts ls)).map Value.string) ∧ Below w.heap.size w w'
set_option maxRecDepth 100000 in
set_option maxHeartbeats 16000000 in
theorem order_any {w : World} {base G m : Nat} {P : ByteArray → Bool} {ls : List Ln2} (h : GR w base G m P (inL ls)) (hm : m ≤ 300000) (hPL : ∀ y ∈ ls, P y.1 = true ∧ P y.2 = true) (hLn : ∀ y ∈ ls, okS y.1 ∧ okS y.2) : Calls Try.prog 25 #[.pointer (some ⟨G, 0, none⟩)] w (OrderP P ls w) := by
  have HG := Lib.hid h
  have HLP := Lib.hid hPL
  have HLN := Lib.hid hLn
  have HPT := Lib.hid (points_any h (by omega))
  have hmm := @run_makeMap Try.prog
  obtain ⟨i0, hi, hz0, hz1, hz2⟩ := info_parts info9
  clear h hPL hLn
  go_enter Try.func25, Try.ntmps25
  go_wp2_with fail
  go_at_call 18; refine HPT.out.mono ?_; rintro e w2 ⟨pts, ⟨v2, rfl, hr2, hB2⟩, hS2, hl2⟩
  obtain ⟨a2, c2, rfl, hR2⟩ := str_row hr2 (by omega) (fun y hy => ((hS2.2 y).1 hy).1)
  have HS2 := Lib.hid hS2
  have HL2 := Lib.hid (show pts.length ≤ 300000 by omega)
  have HY := Lib.hid (show ∀ y ∈ ls, y.2 ∈ pts from fun y hy => (hS2.2 _).2 ⟨(HLN.out y hy).2, (HLP.out y hy).2⟩)
  have hbelow2 : Below w2.heap.size w2 (w2.alloc (.map #[] 0)) := (Below.refl _ _).alloc (Nat.le_refl _) _
  have HA0 := Lib.hid (show AB w w2.heap.size pts ls (.slice a2 pts.length c2) 0 (fun _ => nilS) (w2.alloc (.map #[] 0)) from
    ⟨below_step hB2 hbelow2, hB2.size, by simp, (chg_of (grow_of hbelow2)).row hr2 (fun _ _ => by simp), fun e => by have := (hr2.lt _ e).2; omega, MS.made w2 pts, fun j x _ hj => absurd hj (by omega)⟩)
  clear hr2 hB2 hR2 hS2 hl2 hbelow2 HPT
  go_wp2_with fail
  go_loopw [21] (fun i wr => ∃ (k : Nat) (FA : ByteArray → Value), k ≤ pts.length ∧ i = .int .i64 k ∧ Hid (AB w w2.heap.size pts ls (.slice a2 pts.length c2) k FA wr)) (fun i _ => pts.length - (intOf i).toNat)
  case atStart => exact ⟨0, _, by omega, rfl, HA0⟩
  case round =>
    obtain ⟨k, FA, hk, rfl, hA⟩ := hrel
    rename World => wr
    have HA := Lib.hid hA.out
    clear hA HA0
    have hpl := HL2.out
    by_cases hlt : k < pts.length
    · obtain ⟨x, hx⟩ : ∃ x, pts[k]? = some x := ⟨pts[k], List.getElem?_eq_getElem _⟩
      have hxm := List.mem_of_getElem? hx
      obtain ⟨g, cap', hv, hgb, hgl⟩ := HA.out.prow.form (by omega)
      injection hv with e1 e2 e3
      subst e1 e3
      have hc : wr.cell? ⟨g, k, none⟩ = some (.string x) := by
        rw [HA.out.prow.cellAt k (by simpa using hlt)]
        simp [hx]
      have hok := ((HS2.out.2 x).1 hxm).1
      have HTo := Lib.hid (to_any (HG.out.below HA.out.below) (by omega) hok)
      have HX := Lib.hid hx
      have HXM := Lib.hid hxm
      have HOK := Lib.hid hok
      have HWL := Lib.hid HA.out.lt
      clear hx hxm hok hgb hgl e2
      go_wp2_with fail
      go_at_call 21; refine HTo.out.mono ?_; rintro e w4 ⟨tl, hT4, hS4, hl4⟩
      obtain rfl := toP_set HS2.out HY.out hS4
      obtain ⟨a4, c4, rfl, hA4, hB4⟩ := ah_of hT4 HWL.out (by omega) (fun y hy => ((hS4.2 y).1 hy).1)
      obtain ⟨w5, hrun5, hM5, hg5⟩ := (HA.out.map.below hB4).put HS2.out.1 (fun s hs => ((HS2.out.2 s).1 hs).1) HXM.out (by have := HL2.out; omega) a4 (toP pts ls x).length c4
      have HN := Lib.hid (HA.out.more HX.out hB4 hA4 hM5 hg5)
      clear hT4 hS4 hl4 hA4 hB4 hM5 hg5
      go_wp2_with fail
      go_roundw
      case rel => exact ⟨k + 1, _, by omega, by go_num, HN⟩
      case measure => simp [intOf]; omega
    · have hki : ¬ (k : Int) < (pts.length : Int) := by omega
      obtain rfl : k = pts.length := by omega
      rename World => w1
      have HOK := Lib.hid (show ∀ x ∈ pts, okS x from fun x hx => ((HS2.out.2 x).1 hx).1)
      have HM0 := Lib.hid (OM.begin HA.out HOK.out (by omega))
      have HO0 := Lib.hid (OI.begin (ls := ls) (T := toP pts ls) HS2.out.1.nodup)
      go_wp2_with fail
      go_loopg [2, 11] 300001 (fun gk u2 u11 wr => ∃ l hs opx FA FW AH WT vh a11 n11 c11, u11 = .slice a11 n11 c11 ∧ n11 ≤ 300000 ∧ Hid (n11 = opx.length) ∧ Hid (pts.length < gk + l.length) ∧ Hid (OM w1 w2.heap.size w1.heap.size (w1.heap.size + 1 + 1) (w1.heap.size + 1) (w1.heap.size + 1 + 1 + 1 + 1) pts wr l hs opx FA FW AH WT vh u2 (.slice a11 n11 c11)) ∧ Hid (OI pts ls (toP pts ls) l hs opx AH WT))
      case atStart => exact ⟨_, _, _, _, _, _, _, _, a2, _, c2, rfl, hpl, Lib.hid rfl, Lib.hid (by simp; omega), HM0, HO0⟩
      case round =>
        obtain ⟨l, hs, opx, FA, FW, AH, WT, vh, a11, n11, c11, rfl, hn, hno, hgk, hM, hO⟩ := hrel
        have HNO := Lib.hid hno.out
        have HGK := Lib.hid hgk.out
        have HM := Lib.hid hM.out
        have HO := Lib.hid hO.out
        clear hno hgk hM hO HM0 HO0
        go_wp2_with fail
        go_step3
        go_wp2_with fail
        go_step3
        go_wp2_with fail
        go_loopw [38] (fun i wr => ∃ (k : Nat) (hs : List ByteArray) (FA FW : ByteArray → Value) (AH WT : ByteArray → List ByteArray) (vh : Value), k ≤ n11 ∧ i = .int .i64 k ∧ Hid (OM w1 w2.heap.size w1.heap.size (w1.heap.size + 1 + 1) (w1.heap.size + 1) (w1.heap.size + 1 + 1 + 1 + 1) pts wr l hs opx FA FW AH WT vh u2 (.slice a11 n11 c11)) ∧ Hid (OI pts ls (toP pts ls) l hs (opx.drop k) AH WT)) (fun i _ => n11 - (intOf i).toNat)
        case atStart => exact ⟨0, hs, FA, FW, AH, WT, vh, by omega, rfl, HM, HO⟩
        case round =>
          clear HM HO
          obtain ⟨k, hs, FA, FW, AH, WT, vh, hk, rfl, hM, hO⟩ := hrel
          have HM := Lib.hid hM.out
          have HO := Lib.hid hO.out
          clear hM hO
          by_cases hlt : k < n11
          · have hnn := HNO.out
            obtain ⟨a', c', e', hS⟩ := HM.out.opened
            injection e' with e1 e2 e3
            subst e1 e3
            obtain ⟨b0, off, rfl, hb, hc⟩ := hS.at_ (by omega)
            obtain ⟨p, hp⟩ : ∃ p, opx[k]? = some p := ⟨opx[k]'(by omega), List.getElem?_eq_getElem _⟩
            have hcell : wr.cell? ⟨b0, off + k, none⟩ = some (.string p) := hc k p hp
            have hdr : opx.drop k = p :: opx.drop (k + 1) := by
              obtain ⟨hlt2, e⟩ := List.getElem?_eq_some_iff.1 hp
              rw [List.drop_eq_getElem_cons hlt2, e]
            rw [hdr] at HO
            have hpm : p ∈ pts := HO.out.sub p (by simp)
            have hok := HOK.out p hpm
            have HPM := Lib.hid hpm
            have HOKP := Lib.hid hok
            have hlen : (AH p).length < 300001 := by
              obtain ⟨d, e, -⟩ := HO.out.ahd p hpm
              have h1 := congrArg List.length e
              have h2 := List.length_filter_le (fun t => inL ls p t) pts
              unfold toP at h1
              rw [List.length_append] at h1
              omega
            have HLEN := Lib.hid hlen
            clear e2 hb hc hp hS hdr hpm hok hlen hnn
            go_wp2_with fail
            go_loopg [] 300001 (fun gk wr => ∃ FA AH, Hid ((AH p).length < gk) ∧ Hid (OM w1 w2.heap.size w1.heap.size (w1.heap.size + 1 + 1) (w1.heap.size + 1) (w1.heap.size + 1 + 1 + 1 + 1) pts wr l hs opx FA FW AH WT vh u2 (.slice (some ⟨b0, off, none⟩) n11 c11)) ∧ Hid (OI pts ls (toP pts ls) l hs (p :: opx.drop (k + 1)) AH WT))
            case atStart => exact ⟨FA, AH, HLEN, HM, HO⟩
            case round =>
              clear HM HO hcell HLEN
              obtain ⟨FA, AH, hgk4, hM, hO⟩ := hrel
              have HG4 := Lib.hid hgk4.out
              have HM := Lib.hid hM.out
              have HO := Lib.hid hO.out
              clear hgk4 hM hO
              rename World => wr
              obtain ⟨aA, cA, eA, hcA, hSA, hbA⟩ := HM.out.rowsA p HPM.out
              have hlA := HM.out.ahead.look HOKP.out
              rw [eA] at hlA
              have HEA := Lib.hid eA
              have HFEW := Lib.hid HO.out.few
              cases hAp : AH p with
              | nil =>
                rw [hAp, List.length_nil] at hlA
                have HAP := Lib.hid hAp
                have HPU := Lib.hid (hpush_any HM.out.heap HM.out.isH (by have := HFEW.out; omega) HM.out.base.size HOKP.out)
                clear hAp eA hcA hSA hbA
                go_wp2_with fail
                go_at_call 54; refine HPU.out.mono ?_; rintro e w5 ⟨rfl, vh', hs', hp', hi', hH', hst'⟩
                have HN := Lib.hid (HM.out.heapS hst' hH' hi')
                have HN2 := Lib.hid (HO.out.push (fun p t h => (toP_mem HY.out).2 h) HAP.out hp')
                clear hp' hi' hH' hst' HPU HAP HEA
                go_wp2_with fail
                go_roundw
                case rel => exact ⟨k + 1, hs', FA, FW, AH, WT, vh', by omega, by go_num, HN, HN2⟩
                case measure => simp [intOf]; omega
              | cons t r =>
                rw [hAp, List.length_cons] at hlA hSA hcA
                obtain ⟨g, off2, rfl, -, -⟩ := hSA.at_ (by omega)
                have hAw := ((chg_of HM.out.base).texts (c := cA) hSA (fun g hg hm => hbA g (by rw [eA, hAp]; exact hg) (by simpa using hm)))
                obtain ⟨g', off', e', -, hc2⟩ := hAw.at_ (by omega)
                injection e' with e'
                injection e' with e1 e2
                subst e1 e2
                have hc0 : wr.cell? ⟨g, off2, none⟩ = some (.string t) := hc2 0 t rfl
                have hmt : t ∈ toP pts ls p := by
                  obtain ⟨d, e, -⟩ := HO.out.ahd p HPM.out
                  rw [e, hAp]; simp
                have htm : t ∈ pts := (List.mem_filter.1 hmt).1
                have hokt := HOK.out t htm
                have hciB := HM.out.ins.1
                have hlI := HM.out.ins.2.look hokt
                have HAP := Lib.hid hAp
                have HTM := Lib.hid htm
                have HOKT := Lib.hid hokt
                obtain ⟨nA, hnA⟩ : ∃ n, r.length + 1 = n := ⟨_, rfl⟩
                have hposA : 0 < nA := by omega
                have HAH : Hid (AhP w1 w2.heap.size (.slice (some ⟨g, off2, none⟩) nA cA) (t :: r)) := Lib.hid (by
                  rw [← hnA]
                  exact ⟨some ⟨g, off2, none⟩, cA, by simp, by simpa using hcA, hSA, fun q hq => hbA q (by rw [eA, hAp]; exact hq)⟩)
                rw [hnA] at hlA
                have HNA := Lib.hid hnA
                clear hAp eA hcA hSA hbA hAw hc2 hmt htm hokt hnA
                cases hin : inB t l with
                | true =>
                  rw [hin] at hlI
                  obtain ⟨v', hrunT, hAv⟩ := run_tailA (w := wr) HAH.out
                  have hAv2 := hAv
                  obtain ⟨a5, c5, rfl, -⟩ := hAv2
                  obtain ⟨w5, hrun5, hM5, hg5⟩ := HM.out.ahead.put HS2.out.1 HOK.out HPM.out (by omega) a5 r.length c5
                  have HN := Lib.hid (HM.out.drop hM5 hg5 hAv)
                  have HN2 := Lib.hid (HO.out.drop HAP.out (inB_iff.1 hin))
                  have HL5 := Lib.hid (show r.length + 1 < gk by have := HG4.out; rw [HAP.out] at this; simpa using this)
                  clear hin hAv hM5 hg5
                  go_wp2_with fail
                  go_roundg (r.length + 1)
                  case measure => exact HL5.out
                  case rel => exact ⟨_, _, Lib.hid (by simp), HN, HN2⟩
                | false =>
                  rw [hin] at hlI
                  have htl : t ∉ l := fun hm => by rw [inB_iff.2 hm] at hin; cases hin
                  have HIN := Lib.hid hin
                  have hlW := HM.out.wait.look HOKT.out
                  have rowW := HM.out.rowsW t HTM.out htl
                  obtain ⟨aw, cw, eW⟩ := (qrow_of rowW).slice
                  rw [List.length_map] at eW
                  have hwl := HO.out.fewW htl
                  obtain ⟨v', w5, hrunA, hR5, hg5, hat5⟩ := run_own (news := [p]) (rowW.alloc (.cells #[.string p] 9)) (one_row wr HOKP.out) (c := 1) (by rw [List.length_singleton]; omega) (by have := HM.out.base.size; simp; omega) 22
                  obtain ⟨a5, c5, rfl⟩ := (qrow_of hR5).slice
                  rw [List.length_map] at hrunA hR5 hat5
                  rw [List.length_singleton] at hrunA
                  have hsepT := HM.out.sep (.wt t) ⟨HTM.out, htl⟩
                  have hbW : ∀ q, (FW t).ownBlock = some q → q ≠ w1.heap.size + 1 := fun q hq e => (hsepT q hq).1 (by simp [e])
                  have hWlt := (HM.out.far (w1.heap.size + 1) (by simp)).2
                  have cA1 : Chg wr (wr.alloc (.cells #[.string p] 9)) [] := chg_of (World.grownBy_alloc wr (.cells #[.string p] 9) none)
                  have hMS5 := (chg_of hg5).ms (cA1.ms HM.out.wait (by simp)) (fun hm => hbW _ (by simpa using hm) rfl)
                  obtain ⟨w6, hrun6, hM6, hg6⟩ := hMS5.put HS2.out.1 HOK.out HTM.out (by omega) a5 (WT t ++ [p]).length c5
                  have hcc : Chg wr w6 ((w1.heap.size + 1) :: (FW t).ownBlock.toList) := ((cA1.trans (chg_of hg5)).trans (chg_of hg6)).sub (fun x hx => by
                    simp at hx
                    rcases hx with hx | hx
                    · exact .inl (by simp [hx])
                    · exact .inl (by simp [hx]))
                  have hat6 : (Value.slice a5 (WT t ++ [p]).length c5).ownBlock = (FW t).ownBlock ∨ ∃ g, (Value.slice a5 (WT t ++ [p]).length c5).ownBlock = some g ∧ wr.heap.size ≤ g := by
                    rcases hat5 with h5 | h5
                    · exact .inl h5
                    · exact .inr ⟨_, h5, by simp⟩
                  have hR6 := (chg_of hg6).row hR5 (fun q hq hm => by
                    have hm : q = w1.heap.size + 1 := by simpa using hm
                    rcases hat6 with h5 | ⟨q2, h5, h6⟩
                    · exact hbW q (by rw [← h5]; exact hq) hm
                    · rw [h5] at hq; injection hq with hq; omega)
                  have HN := Lib.hid (HM.out.waitS HTM.out htl hcc hR6 hat6 hM6)
                  have HN2 := Lib.hid (HO.out.wait (fun p t h => (toP_mem HY.out).1 h) HAP.out htl)
                  rw [eW] at hlW hrunA
                  obtain ⟨nW, hnW⟩ : ∃ n, (WT t ++ [p]).length = n := ⟨_, rfl⟩
                  rw [hnW] at hrunA hrun6 HN
                  clear hnW
                  clear hin htl rowW eW hR5 hg5 hat5 hsepT hbW hWlt cA1 hMS5 hM6 hg6 hcc hat6 hR6 hwl
                  go_wp2_with (at_builtin; refine Lib.wpList_append_run _ rfl _ _ _ _ rfl _ _ rfl rfl _ _ hrunA ?_)
                  go_roundw
                  case rel => exact ⟨k + 1, hs, _, _, _, _, vh, by omega, by go_num, HN, HN2⟩
                  case measure => simp [intOf]; omega
          · obtain rfl : k = n11 := by omega
            have hdr : opx.drop k = [] := List.drop_of_length_le (by have := HNO.out; omega)
            rw [hdr] at HO
            obtain ⟨ah, ch, rfl⟩ := HM.out.heap.shape
            have hcH := HM.out.heap.cell
            have HFEW := Lib.hid HO.out.few
            by_cases hs0 : hs = []
            · subst hs0
              have HL := Lib.hid HO.out.done
              have c1 := chg_of HM.out.base
              have hpw : wr.ownsRow w.heap.size 9 1 (.slice a2 pts.length c2) pts.length (pts.map Value.string) := c1.row HA.out.prow (fun q hq hm => HA.out.apart (by rw [hq]; congr; simpa using hm))
              have hv2 : ∀ q, (Value.slice a2 pts.length c2).ownBlock = some q → q < w1.heap.size := fun q hq => (HA.out.prow.lt q hq).2
              have HD := Lib.hid (delete_any 58 enters58 hpw HOK.out HM.out.ins (tells58 _ _ _ _) (fun e => by have := hv2 _ e; omega) (fun e => by have := hv2 _ e; omega))
              have HV2 := Lib.hid hv2
              have hB5 : Below w.heap.size w wr := HA.out.below.grown HM.out.base HA.out.below.size (fun r e => by injection e with e; have := HA.out.low; omega)
              have HB5 := Lib.hid hB5
              have HPW := Lib.hid hpw
              clear hdr c1 hpw hv2 hB5
              rw [List.length_nil] at hcH
              go_wp2_with fail
              go_at_call 55; refine (hlen_any _ _ _ _).mono ?_; rintro e w6 ⟨rfl, rfl⟩
              go_wp2_with fail
              rw [Exit.noGoto_exit]
              go_wp2_with fail
              go_at_call 57; refine HD.out.mono ?_; rintro e w6 ⟨v6, rfl, hr6, hg6⟩
              have HZ := Lib.hid (And.intro hr6 hg6)
              clear hr6 hg6
              go_wp2_with fail
              go_ret2
              obtain ⟨hr6, hg6⟩ := HZ.out
              have hl := HL.out
              have hrl := (chg_of hg6).row HM.out.row (fun q hq hm => by
                have h1 := own_base HM.out.row q hq
                cases hb : (Value.slice a2 pts.length c2).ownBlock with
                | none => rw [hb] at hm; simp at hm
                | some q2 => rw [hb] at hm; have := HV2.out q2 hb; simp at hm; omega)
              have h1 := HA.out.below.size
              refine ⟨pts, u2, v6, HS2.out, rfl, ?_, ?_, HB5.out.grown hg6 (by have := HB5.out.size; omega) (fun r e => own_base HPW.out r e)⟩
              · rw [← hl]; exact owns_up hrl h1
              · rw [← hl]
                exact hr6
            · have hpos : 0 < hs.length := by
                cases hs with
                | nil => exact absurd rfl hs0
                | cons x xs => simp
              have HPOP := Lib.hid (hpop_any HM.out.heap HM.out.isH (by have := HFEW.out; omega) hpos)
              have HLEAST := Lib.hid HM.out.isH.least
              obtain ⟨kk, hkk⟩ : ∃ kk, gE hs 0 = kk := ⟨_, rfl⟩
              unfold HPopP at HPOP
              rw [hkk] at HPOP HLEAST
              obtain ⟨nh, hnh⟩ : ∃ n, hs.length = n := ⟨_, rfl⟩
              rw [hnh] at HM hcH HPOP hpos
              have HNH := Lib.hid hnh
              have hne : ¬ (nh : Int) = 0 := by omega
              clear hdr hs0 hkk hnh
              go_wp2_with fail
              go_at_call 55; refine (hlen_any _ _ _ _).mono ?_; rintro e w6 ⟨rfl, rfl⟩
              go_wp2_with fail
              go_at_call 56; refine HPOP.out.mono ?_; rintro e w5 ⟨rfl, vh', hs', hp', hi', hH', hst'⟩
              have hM5 := HM.out.heapS hst' hH' hi'
              have hkh : kk ∈ hs := hp'.mem_iff.1 (by simp)
              have hkp : kk ∈ pts := HO.out.sub kk (by simp [hkh])
              have hkl : kk ∉ l := fun hm => by
                have h1 := HO.out.nd
                rw [List.nodup_append] at h1
                exact h1.2.2 kk hm kk (by simp [hkh]) rfl
              have hokk := HOK.out kk hkp
              have HN2 := Lib.hid (HO.out.pop HS2.out.1 hp' (fun q hq => by
                obtain ⟨i, hi, e⟩ := List.getElem_of_mem hq
                have := HLEAST.out i (by have := HNH.out; omega)
                unfold gE at this
                rw [List.getD_eq_getElem?_getD, List.getElem?_eq_getElem hi] at this
                rw [← e]
                exact this))
              have hwl := HO.out.fewW hkl
              have chg0 : Chg w5 (World.drew w5) [] := chg_of (grow_of ((Below.refl w5.heap.size w5).drew))
              have hrow := chg0.row hM5.row (fun _ _ => by simp)
              obtain ⟨v6, w6, hrun6, hR6, hg6, hat6⟩ := run_own (news := [kk]) (hrow.alloc (.cells #[.string kk] 9)) (one_row (World.drew w5) hokk) (c := 1) (by rw [List.length_singleton]; have := HFEW.out; omega) (by have h1 := hM5.base.size; have h2 := chg0.size; simp; omega) 22
              rw [List.length_singleton] at hrun6
              have cA1 : Chg (World.drew w5) ((World.drew w5).alloc (.cells #[.string kk] 9)) [] := chg_of (World.grownBy_alloc (World.drew w5) (.cells #[.string kk] 9) none)
              have c6 := (chg0.trans cA1).trans (chg_of hg6)
              have hsepL := hM5.sep .ls trivial
              have hxl : ∀ z ∈ [w2.heap.size, w1.heap.size, w1.heap.size + 1 + 1, w1.heap.size + 1, w1.heap.size + 1 + 1 + 1 + 1], z ∉ ([] ++ [] ++ u2.ownBlock.toList) := fun z hz hm => (hsepL z (by simpa [bkT] using hm)).1 hz
              have hin6 := c6.clm hM5.ins (hxl _ (by simp)) (hxl _ (by simp))
              obtain ⟨w7, hrun7, hM7, hg7⟩ := hin6.2.put hokk (by have := HFEW.out; omega)
              have hcD : (World.drew w5).cell? ⟨w1.heap.size + 1 + 1, 0, none⟩ = some (.map (some w1.heap.size)) := (chg0.clm hM5.ins (by simp) (by simp)).1
              have hcA : ((World.drew w5).alloc (.cells #[.string kk] 9)).cell? ⟨w1.heap.size + 1 + 1, 0, none⟩ = some (.map (some w1.heap.size)) := ((chg0.trans cA1).clm hM5.ins (by simp) (by simp)).1
              have hcA2 : (World.drew (w5.alloc (.cells #[.string kk] 9))).cell? ⟨w1.heap.size + 1 + 1, 0, none⟩ = some (.map (some w1.heap.size)) := hcA
              have hc6 := hin6.1
              have c7 : Chg w5 w7 (w1.heap.size :: u2.ownBlock.toList) := (c6.trans (chg_of hg7)).sub (fun x hx => by
                simp at hx
                rcases hx with hx | hx
                · exact .inl (by simp [hx])
                · exact .inl (by simp [hx]))
              have hat7 : v6.ownBlock = u2.ownBlock ∨ ∃ g, v6.ownBlock = some g ∧ w5.heap.size ≤ g := by
                rcases hat6 with h5 | h5
                · exact .inl h5
                · exact .inr ⟨_, h5, (chg0.trans cA1).size⟩
              have hbI := (hM5.far w1.heap.size (by simp)).2
              have hR7 := (chg_of hg7).row hR6 (fun q hq hm => by
                have hm : q = w1.heap.size := by simpa using hm
                rcases hat7 with h5 | ⟨q2, h5, h6⟩
                · exact (hsepL q (by simp only [bkT]; rw [← h5]; exact hq)).1 (by simp [hm])
                · rw [h5] at hq; injection hq with hq; omega)
              have hClM : ClM w7 (w1.heap.size + 1 + 1) w1.heap.size (l ++ [kk]).length (fun s => inB s (l ++ [kk])) := by
                refine ⟨?_, ?_⟩
                · have hltB : w1.heap.size + 1 + 1 < w6.heap.size := World.block_lt_of_cell? _ _ hc6
                  rw [World.cell?_of_block (w := w6) (a := ⟨w1.heap.size + 1 + 1, 0, none⟩) (hg7.block _ hltB (by simp; omega))]
                  exact hc6
                · have : (fun s => inB s (l ++ [kk])) = fun s => inB s l || decide (s = kk) := by
                    funext s
                    simp [inB, eq_comm]
                  rw [this, List.length_append]
                  exact hM7
              have HN := Lib.hid (hM5.next hkp hkl (fun x hx => HOK.out x (HO.out.wt kk x hkl hx).1) (by omega) c7 hR7 hat7 hClM)
              have hlW := HN.out.wait.look hokk
              obtain ⟨aK, cK, eK, -⟩ := HN.out.opened
              rw [eK] at hlW HN
              have hass := run_assert kk w5
              have HRUN := Lib.hid hrun6
              have HGR := Lib.hid (show pts.length - l.length < gk ∧ pts.length < (pts.length - l.length) + (l ++ [kk]).length from by
                have h1 := HFEW.out
                have h2 := HGK.out
                rw [List.length_append, List.length_singleton]
                omega)
              clear hp' hi' hH' hst' hM5 hkh hkp hkl hokk chg0 hrow hR6 hg6 hat6 cA1 c6 hsepL hxl hin6 hM7 hg7 c7 hat7 hbI hR7 hClM eK hrun6
              go_upto_region 23 with fail
              go_region_law (refine step_append_run (by rfl) _ _ _ _ (by rfl) _ _ (by rfl) (by rfl) _ _ HRUN.out ?_)
              all_goals
                go_wp2_with fail
                rw [Exit.noGoto_normal]
                go_wp2_with fail
                go_roundg (pts.length - l.length)
                case measure => exact HGR.out.1
                case rel => exact ⟨l ++ [kk], hs', WT kk, FA, FW, AH, WT, vh', aK, _, cK, rfl, by omega, Lib.hid rfl, Lib.hid HGR.out.2, HN, HN2⟩
end Go.Proofs.Ytdlcpnpmmmpccaa.Gr
/- WALK of the graph laws' awake: the page's example. -/
namespace Go.Proofs.Ytdlcpnpmmmpccaa.Gr
open Go.RowKit Go.Maps Go.Sort
open Go.Proofs.Ytdlcpnpmmmpccaa.Nm (StrRow)
def tD : ByteArray := ⟨#[100]⟩
theorem okD : okS tD := by unfold okS; decide
def lsA : List Ln2 := [(tA, tB), (tC, tB), (tD, tD)]
theorem str_lit3 {w : World} {s t u : ByteArray} (hs : okS s) (ht : okS t) (hu : okS u) : StrRow (w.alloc (.cells #[.string s, .string t, .string u] 9)) (some ⟨w.heap.size, 0, none⟩) 3 [s, t, u] := by
  have hh : (w.alloc (.cells #[.string s, .string t, .string u] 9)).heap[w.heap.size]? = some (.cells #[.string s, .string t, .string u] 9) := by rw [hp_alloc, if_pos rfl]
  refine ⟨rfl, by omega, fun i x h => ?_, fun _ => ⟨w.heap.size, 0, rfl, by simp, fun i x h => ?_⟩⟩
  · have := List.mem_of_getElem? h
    simp at this
    rcases this with rfl | rfl | rfl <;> assumption
  · match i, h with
    | 0, h => injection h with h; subst h; simp only [World.cell?, hh]; simp
    | 1, h => injection h with h; subst h; simp only [World.cell?, hh]; simp
    | 2, h => injection h with h; subst h; simp only [World.cell?, hh]; simp
    | _ + 3, h => simp at h
theorem dec_comm (a b : ByteArray) : decide (a = b) = decide (b = a) := decide_eq_decide.2 ⟨Eq.symm, Eq.symm⟩
abbrev PA : ByteArray → Bool := fun x => (((fun x => (((fun x => (((fun s => inB s [tA]) x || decide (x = tA)) || decide (x = tB))) x || decide (x = tC)) || decide (x = tB))) x || decide (x = tD)) || decide (x = tD))
theorem lsA_in : (fun x y => ((fun x y => ((fun x y => ((fun _ _ => false) x y || (decide (x = tA) && decide (y = tB)))) x y || (decide (x = tC) && decide (y = tB)))) x y || (decide (x = tD) && decide (y = tD)))) = inL lsA := by
  funext x y
  unfold inL lsA
  simp only [List.any_cons, List.any_nil, Bool.or_false, Bool.false_or, Bool.or_assoc, dec_comm tA x, dec_comm tB y, dec_comm tC x, dec_comm tD x, dec_comm tD y]
theorem ptsA_set : SetL PA [tA, tB, tC, tD] := by
  refine ⟨by unfold Rise; decide, fun s => ?_⟩
  simp [PA, inB]
  constructor
  · rintro (rfl | rfl | rfl | rfl)
    · exact ⟨okA, by simp⟩
    · exact ⟨okB, by simp⟩
    · exact ⟨okC, by simp⟩
    · exact ⟨okD, by simp⟩
  · rintro ⟨-, h⟩
    by_cases e1 : s = tA <;> by_cases e2 : s = tB <;> by_cases e3 : s = tC <;> by_cases e4 : s = tD <;> simp_all
theorem ordA : ordL [tA, tB, tC, tD] lsA = [tB, tA, tC] := by kernel_rfl
theorem ordA_rest : ([tA, tB, tC, tD].filter fun p => !inB p (ordL [tA, tB, tC, tD] lsA)) = [tD] := by kernel_rfl
theorem order_lit {w : World} {base G m : Nat} (h : GR w base G m PA (inL lsA)) (hm : m ≤ 300000) : Calls Try.prog 25 #[.pointer (some ⟨G, 0, none⟩)] w (fun e w' => ∃ a1 c1 a2 c2, e = .returned (.tuple #[.slice a1 3 c1, .slice a2 1 c2]) ∧ StrRow w' a1 3 [tB, tA, tC] ∧ StrRow w' a2 1 [tD] ∧ Below w.heap.size w w') := by
  refine (order_any h hm (fun y hy => ?_) (fun y hy => ?_)).mono ?_
  · simp [lsA] at hy
    rcases hy with rfl | rfl | rfl <;> exact ⟨by decide, by decide⟩
  · simp [lsA] at hy
    rcases hy with rfl | rfl | rfl
    · exact ⟨okA, okB⟩
    · exact ⟨okC, okB⟩
    · exact ⟨okD, okD⟩
  · rintro e w' ⟨pts, v1, v2, hS, rfl, h1, h2, hB⟩
    obtain rfl := set_unique hS ptsA_set fun _ _ => rfl
    rw [ordA_rest] at h2
    rw [ordA] at h1
    obtain ⟨a1, c1, rfl, r1⟩ := str_row h1 (by simp) (fun y hy => by
      simp at hy
      rcases hy with rfl | rfl | rfl
      · exact okB
      · exact okA
      · exact okC)
    obtain ⟨a2, c2, rfl, r2⟩ := str_row h2 (by simp) (fun y hy => by simp at hy; subst hy; exact okD)
    exact ⟨a1, c1, a2, c2, rfl, r1, r2, hB⟩
set_option maxRecDepth 100000 in
set_option maxHeartbeats 4000000 in
theorem gawake_any (w : World) : Calls Try.prog 11 #[] w (BoolP true w) := by
  have HNEW := Lib.hid (new_any (some ⟨w.heap.size, 0, none⟩) 1 1 [tA] (w.alloc (.cells #[.string tA] 9)) (str_lit okA) (by omega))
  have HB0 := Lib.hid (show Below w.heap.size w (w.alloc (.cells #[.string tA] 9)) from (Below.refl _ _).alloc (Nat.le_refl _) _)
  go_enter Try.func11, Try.ntmps11
  go_wp2_with fail
  refine HNEW.out.mono ?_; rintro e w1 ⟨G, rfl, hG1, hB1⟩
  have HB1 := Lib.hid (below_step HB0.out hB1)
  have HL := Lib.hid (link_any hG1 okA okB (by simp))
  clear hG1 hB1 HNEW HB0
  go_wp2_with fail
  refine HL.out.mono ?_; rintro e w2 ⟨rfl, hG2, hB2⟩
  have HB2 := Lib.hid (And.intro HB1.out hB2)
  have HL2 := Lib.hid (link_any hG2 okC okB (by simp))
  clear hG2 hB2 HL HB1
  go_wp2_with fail
  refine HL2.out.mono ?_; rintro e w3 ⟨rfl, hG3, hB3⟩
  have HB3 := Lib.hid (And.intro HB2.out hB3)
  have HL3 := Lib.hid (link_any hG3 okD okD (by simp))
  clear hG3 hB3 HL2 HB2
  go_wp2_with fail
  refine HL3.out.mono ?_; rintro e w4 ⟨rfl, hG4, hB4⟩
  rw [lsA_in] at hG4
  have HB4 := Lib.hid (And.intro HB3.out hB4)
  have HO := Lib.hid (order_lit hG4 (by simp))
  clear hG4 hB4 HL3 HB3
  go_wp2_with fail
  refine HO.out.mono ?_; rintro e w5 ⟨a1, c1, a2, c2, rfl, r1, r2, hB5⟩
  have HB5 := Lib.hid (And.intro HB4.out hB5)
  have hb5 : Below w5.heap.size w5 (w5.alloc (.cells #[.string tB, .string tA, .string tC] 9)) := (Below.refl _ _).alloc (Nat.le_refl _) _
  have HS := Lib.hid (same_yes (cap := c1) (cap' := 3) (r1.below hb5) (str_lit3 (w := w5) okB okA okC))
  have HR2 := Lib.hid (r2.below hb5)
  have HB6 := Lib.hid hb5
  clear r1 r2 hB5 hb5 HO HB4
  go_wp2_with fail
  refine HS.out.mono ?_; rintro e w6 ⟨rfl, hB7⟩
  have hb7 : Below w6.heap.size w6 (w6.alloc (.cells #[.string tD] 9)) := (Below.refl _ _).alloc (Nat.le_refl _) _
  have HS2 := Lib.hid (same_yes (cap := c2) (cap' := 1) (HR2.out.below (below_step hB7 hb7)) (str_lit (w := w6) okD))
  have HB7 := Lib.hid (And.intro hB7 hb7)
  clear hB7 hb7 HS HR2
  go_wp2_with fail
  refine HS2.out.mono ?_; rintro e w7 ⟨rfl, hB8⟩
  have HB8 := Lib.hid hB8
  clear hB8 HS2
  go_wp2_with fail
  go_ret
  obtain ⟨⟨⟨⟨h1, h2⟩, h3⟩, h4⟩, h5⟩ := HB5.out
  obtain ⟨h7, h8⟩ := HB7.out
  have hle : w.heap.size ≤ (w.alloc (.cells #[.string tA] 9)).heap.size := by simp
  have g4 := ((h1.trans (h2.mono hle)).trans (h3.mono hle)).trans (h4.mono hle)
  exact ⟨rfl, below_step (below_step (below_step (below_step (below_step g4 h5) HB6.out) h7) h8) HB8.out⟩
end Go.Proofs.Ytdlcpnpmmmpccaa.Gr
/- WALKS of the graph laws' few, of. -/
namespace Go.Proofs.Ytdlcpnpmmmpccaa.Gr
open Go.RowKit Go.Maps Go.Sort
open Go.Proofs.Ytdlcpnpmmmpccaa.Nm (StrRow)
def GFewP (len len2 : Nat) (w : World) (e : Ending) (w' : World) : Prop := ∃ b, e = .returned (.bool b) ∧ (b = true → len ≤ 30 ∧ len2 ≤ 60) ∧ w = w'
set_option maxRecDepth 100000 in
set_option maxHeartbeats 4000000 in
theorem gfew_any (a : Option Addr) (len cap : Nat) (l : List ByteArray) (a2 : Option Addr) (len2 cap2 : Nat) (ls : List Ln2) (w : World) (hX : StrRow w a len l) (hL : LineRow w a2 len2 ls) : Calls Try.prog 10 #[.slice a len cap, .slice a2 len2 cap2] w (GFewP len len2 w) := by
  have HX := Lib.hid hX
  have HL := Lib.hid hL
  have hcx := hX.count
  have hcl := hL.count
  have hm1 := hX.max
  have hm2 := hL.max
  clear hX hL
  go_enter Try.func10, Try.ntmps10
  by_cases h1 : len ≤ 30
  · by_cases h2 : len2 ≤ 60
    · have k1 : ¬ (30 : Int) < (len : Int) := by omega
      have k2 : ¬ (60 : Int) < (len2 : Int) := by omega
      go_wp2_with fail
      go_loop [5] (fun i => ∃ k : Nat, k ≤ len ∧ i = .int .i64 k) (fun i => len - (intOf i).toNat)
      case atStart => exact ⟨0, by omega, rfl⟩
      case round =>
        obtain ⟨k, hk, rfl⟩ := hrel
        by_cases hlt : k < len
        · obtain ⟨b0, off, rfl, hb, hc⟩ := HX.out.at_ (by omega)
          obtain ⟨x, hx⟩ : ∃ x, l[k]? = some x := ⟨l[k]'(by omega), List.getElem?_eq_getElem _⟩
          have hcell : w.cell? ⟨b0, off + k, none⟩ = some (.string x) := hc k x hx
          clear hc hb hx
          by_cases hs : x.size ≤ 100
          · have hs2 : ¬ (100 : Int) < (x.size : Int) := by omega
            go_wp2_with fail
            go_round
            case rel => exact ⟨k + 1, by omega, by go_num⟩
            case measure => simp [intOf]; omega
          · have hs2 : (100 : Int) < (x.size : Int) := by omega
            go_wp2_with fail
            go_ret
            exact ⟨false, rfl, fun h => (by cases h), rfl⟩
        · have hki : ¬ (k : Int) < (len : Int) := by omega
          obtain rfl : k = len := by omega
          go_wp2_with fail
          go_loop [6] (fun i => ∃ k : Nat, k ≤ len2 ∧ i = .int .i64 k) (fun i => len2 - (intOf i).toNat)
          case atStart => exact ⟨0, by omega, rfl⟩
          case round =>
            obtain ⟨j, hj, rfl⟩ := hrel
            by_cases hlt2 : j < len2
            · obtain ⟨b0, off, rfl, hb, hc⟩ := HL.out.at_ (by omega)
              obtain ⟨⟨x, y⟩, hx⟩ : ∃ x, ls[j]? = some x := ⟨ls[j]'(by omega), List.getElem?_eq_getElem _⟩
              have hc1 : w.cell? ⟨b0, off + j * 2, none⟩ = some (.string x) := (hc j _ hx).1
              have hc2 : w.cell? ⟨b0, off + j * 2 + 1, none⟩ = some (.string y) := (hc j _ hx).2
              clear hc hb hx
              by_cases hs : x.size ≤ 100
              · have hs2 : ¬ (100 : Int) < (x.size : Int) := by omega
                by_cases ht : y.size ≤ 100
                · have ht2 : ¬ (100 : Int) < (y.size : Int) := by omega
                  go_wp2_with fail
                  go_round
                  case rel => exact ⟨j + 1, by omega, by go_num⟩
                  case measure => simp [intOf]; omega
                · have ht2 : (100 : Int) < (y.size : Int) := by omega
                  go_wp2_with fail
                  go_ret
                  exact ⟨false, rfl, fun h => (by cases h), rfl⟩
              · have hs2 : (100 : Int) < (x.size : Int) := by omega
                go_wp2_with fail
                go_ret
                exact ⟨false, rfl, fun h => (by cases h), rfl⟩
            · have hki : ¬ (j : Int) < (len2 : Int) := by omega
              obtain rfl : j = len2 := by omega
              go_wp2_with fail
              go_ret
              exact ⟨true, rfl, fun _ => ⟨h1, h2⟩, rfl⟩
    · have k1 : ¬ (30 : Int) < (len : Int) := by omega
      have k2 : (60 : Int) < (len2 : Int) := by omega
      go_wp2_with fail
      go_ret
      exact ⟨false, rfl, fun h => (by cases h), rfl⟩
  · have k1 : (30 : Int) < (len : Int) := by omega
    go_wp2_with fail
    go_ret
    exact ⟨false, rfl, fun h => (by cases h), rfl⟩
/-- The points: those handed in, and the ends of the lines. -/
def QG (ns : List ByteArray) (ls : List Ln2) : ByteArray → Bool := fun s => inB s ns || ls.any fun l => decide (s = l.1) || decide (s = l.2)
/-- The graph of points and lines. -/
def OfGP (l : List ByteArray) (ls : List Ln2) (w : World) (e : Ending) (w' : World) : Prop := ∃ G m, e = .returned (.pointer (some ⟨G, 0, none⟩)) ∧ m ≤ l.length + 3 * ls.length ∧ GR w' w.heap.size G m (QG l ls) (inL ls) ∧ Below w.heap.size w w'
theorem GR.iff {w : World} {base G m : Nat} {P P' : ByteArray → Bool} {L L' : ByteArray → ByteArray → Bool} (h : GR w base G m P L) (hP : ∀ s, P s = P' s) (hL : ∀ s t, L s t = L' s t) : GR w base G m P' L' := by
  obtain rfl : P = P' := funext hP
  obtain rfl : L = L' := funext fun s => funext fun t => hL s t
  exact h
theorem QG_snoc (l : List ByteArray) (ls : List Ln2) (x y s : ByteArray) : QG l (ls ++ [(x, y)]) s = ((QG l ls s || decide (s = x)) || decide (s = y)) := by
  unfold QG
  simp [Bool.or_assoc]
theorem inL_snoc (ls : List Ln2) (x y s t : ByteArray) : inL (ls ++ [(x, y)]) s t = (inL ls s t || (decide (s = x) && decide (t = y))) := by
  unfold inL
  simp [dec_comm x s, dec_comm y t]
set_option maxRecDepth 100000 in
set_option maxHeartbeats 4000000 in
theorem ofg_any (a : Option Addr) (len cap : Nat) (l : List ByteArray) (a2 : Option Addr) (len2 cap2 : Nat) (ls : List Ln2) (w : World) (hX : StrRow w a len l) (hL : LineRow w a2 len2 ls) (h1 : len ≤ 1000000) (h2 : len2 ≤ 1000000) : Calls Try.prog 12 #[.slice a len cap, .slice a2 len2 cap2] w (OfGP l ls w) := by
  have HL := Lib.hid hL
  have hcx := hX.count
  have hcl := hL.count
  have HN := Lib.hid (new_any a len cap l w hX h1)
  clear hX hL
  go_enter Try.func12, Try.ntmps12
  go_wp2_with fail
  go_at_call 50; refine HN.out.mono ?_; rintro e w1 ⟨G, rfl, hG1, hB1⟩
  have HG1 := Lib.hid (show GR w1 w.heap.size G (l.length + 3 * 0) (QG l (ls.take 0)) (inL (ls.take 0)) from hG1.iff (fun s => by simp [QG]) (fun s t => by simp [inL]))
  have HB1 := Lib.hid hB1
  clear hG1 hB1 HN
  go_wp2_with fail
  go_loopw [6] (fun i wr => ∃ k : Nat, k ≤ len2 ∧ i = .int .i64 k ∧ Hid (GR wr w.heap.size G (l.length + 3 * k) (QG l (ls.take k)) (inL (ls.take k))) ∧ Hid (Below w.heap.size w wr)) (fun i _ => len2 - (intOf i).toNat)
  case atStart => exact ⟨0, by omega, rfl, HG1, HB1⟩
  case round =>
    clear HG1 HB1
    obtain ⟨k, hk, rfl, hG, hB⟩ := hrel
    have HG := Lib.hid hG.out
    have HB := Lib.hid hB.out
    rename World => wr
    clear hG hB
    by_cases hlt : k < len2
    · obtain ⟨b0, off, rfl, hb, hc⟩ := HL.out.at_ (by omega)
      obtain ⟨⟨x, y⟩, hx⟩ : ∃ x, ls[k]? = some x := ⟨ls[k]'(by omega), List.getElem?_eq_getElem _⟩
      have hbd := (Below.refl wr.heap.size wr).drew
      have hB7 := below_step HB.out hbd
      have hc1 : (World.drew wr).cell? ⟨b0, off + k * 2, none⟩ = some (.string x) := (hB7.cell (p := ⟨b0, off + k * 2, none⟩) hb).trans (hc k _ hx).1
      have hc2 : (World.drew wr).cell? ⟨b0, off + k * 2 + 1, none⟩ = some (.string y) := (hB7.cell (p := ⟨b0, off + k * 2 + 1, none⟩) hb).trans (hc k _ hx).2
      obtain ⟨hk1, hk2⟩ := HL.out.each k _ hx
      have HLK := Lib.hid (link_any (HG.out.below hbd) hk1 hk2 (by omega))
      have HTK := Lib.hid (show ls.take (k + 1) = ls.take k ++ [(x, y)] by
        obtain ⟨hlt3, e⟩ := List.getElem?_eq_some_iff.1 hx
        rw [List.take_succ_eq_append_getElem hlt3, e])
      have HB7 := Lib.hid hB7
      clear hb hc hx hbd hB7 hk1 hk2
      go_upto_region 5 with fail
      go_region_with (go_at_call 24; refine HLK.out.mono ?_; rintro e w4 ⟨rfl, hG4, hB4⟩)
      all_goals
        have HG4 := Lib.hid hG4
        have HB4 := Lib.hid hB4
        clear hG4 hB4
        go_wp2_with fail
        go_roundw
        case rel => exact ⟨k + 1, by omega, by go_num, Lib.hid (by rw [HTK.out]; exact HG4.out.iff (fun s => (QG_snoc _ _ _ _ _).symm) (fun s t => (inL_snoc _ _ _ _ _).symm)), Lib.hid (HB7.out.trans HB4.out)⟩
        case measure => simp [intOf]; omega
    · have hki : ¬ (k : Int) < (len2 : Int) := by omega
      obtain rfl : k = len2 := by omega
      go_wp2_with fail
      go_ret
      refine ⟨G, _, rfl, Nat.le_refl _, ?_, HB.out⟩
      have := HG.out
      rw [List.take_of_length_le (by omega)] at this
      rw [hcl]
      exact this
end Go.Proofs.Ytdlcpnpmmmpccaa.Gr
/- WALK of GraphReaches. -/
namespace Go.Proofs.Ytdlcpnpmmmpccaa.Gr
open Go.RowKit Go.Maps Go.Sort
open Go.Proofs.Ytdlcpnpmmmpccaa.Nm (StrRow)
theorem ptsG_set {l : List ByteArray} {ls : List Ln2} (hn : ∀ s ∈ l, okS s) (hl : ∀ y ∈ ls, okS y.1 ∧ okS y.2) : SetL (QG l ls) (ptsL l ls) := by
  have h0 := (strs_fold ByteArray.empty l [] List.Pairwise.nil).1
  have hmem : ∀ s, s ∈ ptsL l ls ↔ s ∈ l ∨ ∃ y ∈ ls, s = y.1 ∨ s = y.2 := fun s => by
    unfold ptsL
    rw [(pts_fold s _ _ h0).2, (strs_fold s l [] List.Pairwise.nil).2]
    simp
  refine ⟨(pts_fold ByteArray.empty _ _ h0).1, fun s => ?_⟩
  rw [hmem]
  unfold QG
  rw [Bool.or_eq_true, inB_iff, List.any_eq_true]
  constructor
  · rintro (h | ⟨y, hy, h⟩)
    · exact ⟨hn s h, .inl h⟩
    · refine ⟨by rcases h with rfl | rfl; exact (hl y hy).1; exact (hl y hy).2, .inr ⟨y, hy, by simpa using h⟩⟩
  · rintro ⟨-, h | ⟨y, hy, h⟩⟩
    · exact .inl h
    · exact .inr ⟨y, hy, by simpa using h⟩
theorem QG_ends {l : List ByteArray} {ls : List Ln2} : ∀ y ∈ ls, QG l ls y.1 = true ∧ QG l ls y.2 = true := by
  intro y hy
  unfold QG
  constructor <;> rw [Bool.or_eq_true, List.any_eq_true]
  · exact .inr ⟨y, hy, by simp⟩
  · exact .inr ⟨y, hy, by simp⟩
theorem ptsL_len (l : List ByteArray) (ls : List Ln2) : (ptsL l ls).length ≤ l.length + 2 * ls.length := by
  have h2 := pts_fold_len ls (l.foldl (fun acc x => putL x acc) [])
  have h3 := strs_fold_len l []
  simp only [List.length_nil, Nat.zero_add] at h3
  unfold ptsL
  omega
theorem rows_ok {w : World} {a : Option Addr} {len : Nat} {xs : List ByteArray} (h : StrRow w a len xs) : ∀ s ∈ xs, okS s := by
  intro x hx
  obtain ⟨i, hi, e⟩ := List.getElem_of_mem hx
  exact h.each i x (by rw [← e]; exact List.getElem?_eq_getElem hi)
theorem lines_ok {w : World} {a : Option Addr} {len : Nat} {xs : List Ln2} (h : LineRow w a len xs) : ∀ y ∈ xs, okS y.1 ∧ okS y.2 := by
  intro x hx
  obtain ⟨i, hi, e⟩ := List.getElem_of_mem hx
  exact h.each i x (by rw [← e]; exact List.getElem?_eq_getElem hi)
theorem line0 (w : World) : LineRow w none 0 [] := ⟨rfl, by omega, fun i x h => by simp at h, fun h => absurd h (by omega)⟩
/-- What a law over points and lines holds. -/
structure GW (l : List ByteArray) (a : Option Addr) (ls : List Ln2) (a2 : Option Addr) (w wr : World) : Prop where
  below : Below w.heap.size w wr
  pts : StrRow wr a l.length l
  lines : LineRow wr a2 ls.length ls
theorem GW.step {l : List ByteArray} {a : Option Addr} {ls : List Ln2} {a2 : Option Addr} {w wr w' : World} (h : GW l a ls a2 w wr) (hb : Below wr.heap.size wr w') : GW l a ls a2 w w' :=
  ⟨below_step h.below hb, h.pts.below hb, h.lines.below hb⟩
theorem rc_of {L : ByteArray → ByteArray → Bool} {P P' : ByteArray → Bool} {l : List ByteArray} {k : ByteArray} (hP : ∀ s ∈ l, P s = true → P' s = true) (h : Rc L P l k) : Rc L P' l k := by
  induction h with
  | base h1 h2 => exact .base h1 (hP _ h1 h2)
  | step _ h2 ih => exact .step ih h2
set_option maxRecDepth 100000 in
set_option maxHeartbeats 16000000 in
theorem reaches_walk (a a2 a3 : Option Addr) (len cap len2 cap2 len3 cap3 : Nat) (l fr : List ByteArray) (ls : List Ln2) (w : World) (hX : StrRow w a len l) (hL : LineRow w a2 len2 ls) (hF : StrRow w a3 len3 fr) : Calls Try.prog 4 #[.slice a len cap, .slice a2 len2 cap2, .slice a3 len3 cap3] w (BoolP true w) := by
  have hcx := hX.count
  have hcl := hL.count
  have hcf := hF.count
  subst hcx hcl hcf
  have HH := Lib.hid (show GW l a ls a2 w w from ⟨Below.refl _ _, hX, hL⟩)
  have HF := Lib.hid hF
  have H10 := Lib.hid (gfew_any a l.length cap l a2 ls.length cap2 ls w hX hL)
  have H10b := Lib.hid (gfew_any a3 fr.length cap3 fr none 0 0 [] w hF (line0 w))
  have HAW := fun W => Lib.hid (gawake_any W)
  have HPN := Lib.hid (rows_ok hX)
  have HPL := Lib.hid (lines_ok hL)
  have HSET := Lib.hid (ptsG_set HPN.out HPL.out)
  clear hX hL hF
  go_enter Try.func4, Try.ntmps4
  go_wp2_with fail
  go_at_call 10; refine H10.out.mono ?_; rintro e w1 ⟨b, rfl, hb, hw⟩; subst hw
  cases b with
  | false =>
    have HAW := HAW w
    clear H10 H10b hb
    go_wp2_with fail
    go_at_call 11; refine HAW.out.mono ?_; rintro e w2 ⟨rfl, hB⟩
    go_wp2_with fail
    go_ret
    exact ⟨rfl, hB⟩
  | true =>
    obtain ⟨hl, hls⟩ := hb rfl
    have HLN := Lib.hid (show l.length ≤ 30 ∧ ls.length ≤ 60 from ⟨hl, hls⟩)
    clear hb hl hls H10
    go_wp2_with fail
    go_at_call 10; refine H10b.out.mono ?_; rintro e w1 ⟨b, rfl, hb, hw⟩; subst hw
    cases b with
    | false =>
      have HAW := HAW w
      clear H10b hb
      go_wp2_with fail
      go_at_call 11; refine HAW.out.mono ?_; rintro e w2 ⟨rfl, hB⟩
      go_wp2_with fail
      go_ret
      exact ⟨rfl, hB⟩
    | true =>
      have HFN := Lib.hid (hb rfl).1
      have H13 := Lib.hid (rpoints_any a l.length cap l a2 ls.length cap2 ls w HH.out.pts HH.out.lines (by have := HLN.out; omega) (by have := HLN.out; omega))
      clear hb H10b
      go_wp2_with fail
      go_at_call 13; refine H13.out.mono ?_; rintro e w2 ⟨a7, c7, rfl, hR, hB⟩
      have HR := Lib.hid hR
      have HH2 := Lib.hid (HH.out.step hB)
      have HF2 := Lib.hid (HF.out.below hB)
      have HAW := HAW w2
      clear hR hB H13 HH HF
      generalize hpp : ptsL l ls = pp at *
      have HPP := Lib.hid hpp
      clear hpp
      go_wp2_with fail
      go_at_call 11; refine HAW.out.mono ?_; rintro e w3 ⟨rfl, hB⟩
      have HR3 := Lib.hid (HR.out.below hB)
      have HH3 := Lib.hid (HH2.out.step hB)
      have HF3 := Lib.hid (HF2.out.below hB)
      have H12 := Lib.hid (ofg_any a l.length cap l a2 ls.length cap2 ls w3 HH3.out.pts HH3.out.lines (by have := HLN.out; omega) (by have := HLN.out; omega))
      clear hB HR HH2 HF2 HAW
      go_wp2_with fail
      go_at_call 12; refine H12.out.mono ?_; rintro e w4 ⟨G, m, rfl, hm, hG, hB⟩
      have HR4 := Lib.hid (HR3.out.below hB)
      have HH4 := Lib.hid (HH3.out.step hB)
      have HF4 := Lib.hid (HF3.out.below hB)
      have H26 := Lib.hid (reach_any hG (by have := HLN.out; omega) QG_ends HPL.out (by have := HLN.out; omega) a3 fr.length cap3 fr HF4.out (by have := HFN.out; omega))
      clear hB hm hG HR3 HH3 HF3 H12
      go_wp2_with fail
      go_at_call 26; refine H26.out.mono ?_; rintro e w5 ⟨r, hT, hrise, hmem, hok, hlen⟩
      obtain ⟨a8, c8, rfl, hR8, hB, -⟩ := row_new hT (by omega) hok
      have HR5 := Lib.hid (HR4.out.below hB)
      have HH5 := Lib.hid (HH4.out.step hB)
      have HF5 := Lib.hid (HF4.out.below hB)
      have HR8 := Lib.hid hR8
      have HM := Lib.hid (And.intro hrise hmem)
      have HLS : ∀ y ∈ ls, y.2 ∈ pp := fun y hy => (HSET.out.2 _).2 ⟨(HPL.out y hy).2, (QG_ends y hy).2⟩
      have H27 := Lib.hid (rreach_any a7 a2 a3 c7 cap2 cap3 pp fr ls w5 HR5.out HH5.out.lines HF5.out HLS (by rw [← HPP.out]; have := ptsL_len l ls; have := HLN.out; omega))
      have HE := Lib.hid (show r = reachL pp ls fr from by
        obtain ⟨h1, h2⟩ := reach_set (pts := pp) (l := fr) (ls := ls) (fun y hy => inB_iff.2 (HLS y hy))
        refine rise_unique HM.out.1 h1 fun k => ?_
        have hk : ∀ s ∈ fr, (QG l ls s = true ↔ inB s pp = true) := fun s hs => by
          rw [inB_iff, HSET.out.2]
          exact ⟨fun h => ⟨rows_ok HF4.out s hs, h⟩, fun h => h.2⟩
        rw [HM.out.2, h2]
        exact ⟨rc_of fun s hs => (hk s hs).1, rc_of fun s hs => (hk s hs).2⟩)
      clear hT hrise hmem hok hR8 hB H26 HR4 HH4 HF4 HLS
      go_wp2_with fail
      go_at_call 27; refine H27.out.mono ?_; rintro e w6 ⟨a9, c9, rfl, hR9, hB⟩
      have HS := Lib.hid (same_yes (cap := c8) (cap' := c9) (HR8.out.below hB) (show StrRow w6 a9 (reachL pp ls fr).length r from by rw [HE.out] at *; exact hR9))
      have HH6 := Lib.hid (HH5.out.step hB)
      clear hR9 hB H27 HR5 HH5 HF5 HR8
      go_wp2_with fail
      go_at_call 17; refine HS.out.mono ?_; rintro e w7 ⟨rfl, hB⟩
      have HB := Lib.hid (below_step HH6.out.below hB)
      clear hB HS
      go_wp2_with fail
      go_ret
      exact ⟨rfl, HB.out⟩
end Go.Proofs.Ytdlcpnpmmmpccaa.Gr
/- THE FRAME: a list of lines that came in. -/
namespace Go.Proofs.Ytdlcpnpmmmpccaa
open Go.Joins Go.ChangeShapes Go.WideShapes Go.ChangeAt Go.RowKit Go.Deep
theorem cells53 : Try.prog.cellsOf 53 = 2 := by kernel_rfl
theorem bytes53 : Try.prog.bytesOf 53 = 32 := by kernel_rfl
section
variable {H : Type} {enc : TypeId × Value → H} {w : World} {base : Nat} {spare : Nat → Bool} {held : Bool}
open Gr in
set_option maxRecDepth 100000 in
/-- A list of lines that came in. -/
theorem open_lines {r : Reach} {b0 : Nat} {v : Value} {d : DataW H} {p : List MemPlace} (hv : Value.okWide Try.prog w r b0 23 v) (h : DataW.Trod enc Try.prog w base spare held 23 v d p) (hw : Wt 23 d) :
    ∃ (a : Option Addr) (l c : Nat) (ls : List Ln2), v = .slice a l c ∧ LineRow w a l ls := by
  obtain ⟨fuel, hf⟩ := h
  obtain ⟨a, l, c, hcs, hm, hby, hel⟩ := slice_cells_w Try.underlying23 cells53 (by decide) hf hw
  rw [bytes53] at hby
  have one : ∀ i, i < l → ∃ z : Ln2, ∃ b off, a = some ⟨b, off, none⟩ ∧ b < w.heap.size ∧ w.cell? ⟨b, off + i * 2, none⟩ = some (.string z.1) ∧ w.cell? ⟨b, off + i * 2 + 1, none⟩ = some (.string z.2) ∧ okS z.1 ∧ okS z.2 := fun i hi => by
    obtain ⟨b, off, n2, cs', y, hn, e, hb, hl, hc, ht, hwy⟩ := hel i hi
    obtain ⟨ys, n4, hn4, hy2, _, hyl, hg⟩ := DataW.trod_struct Try.underlying53 ht
    match cs', hl with
    | [u0, u1], _ =>
      match ys, hyl with
      | [z0, z1], _ =>
        have g0 : DataW.trod enc Try.prog w base spare held n4 9 [u0] = some z0 := by have := hg 0 _ rfl; simpa [cells9] using this
        have g1 : DataW.trod enc Try.prog w base spare held n4 9 [u1] = some z1 := by have := hg 1 _ rfl; simpa [cells9] using this
        rw [hy2] at hwy
        obtain ⟨nm, rfl, hz⟩ := text_w g0 (wt_part Try.underlying53 hwy (i := 0) rfl rfl)
        obtain ⟨nn, rfl, hz2⟩ := text_w g1 (wt_part Try.underlying53 hwy (i := 1) rfl rfl)
        exact ⟨(nm, nn), b, off, e, hb, hc 0 (by omega), hc 1 (by omega), hz, hz2⟩
  have : Inhabited ByteArray := ⟨⟨#[]⟩⟩
  obtain ⟨f, hfn⟩ := pick_lt one
  have hcs' : v = .slice a l c := by
    obtain ⟨a', l', c', rfl⟩ := okWide_slice Try.underlying23 hv
    simpa [Value.cells] using hcs
  refine ⟨a, l, c, (List.range l).map f, hcs', by simp, by unfold reachBytes at hby; omega, fun i x hx => ?_, fun h0 => ?_⟩
  · obtain ⟨hi, rfl⟩ := List.getElem?_eq_some_iff.1 hx
    have hi' : i < l := by simpa using hi
    obtain ⟨b2, off2, e2, _, _, _, h1, h2⟩ := hfn i hi'
    exact ⟨by simpa using h1, by simpa using h2⟩
  · obtain ⟨b, off, e, hb, _⟩ := hfn 0 h0
    refine ⟨b, off, e, hb, fun i x hx => ?_⟩
    obtain ⟨hi, rfl⟩ := List.getElem?_eq_some_iff.1 hx
    have hi' : i < l := by simpa using hi
    obtain ⟨b2, off2, e2, _, h1, h2, _, _⟩ := hfn i hi'
    rw [e] at e2
    injection e2 with e3
    injection e3 with e4 e5
    subst e4 e5
    exact ⟨by simpa using h1, by simpa using h2⟩
end
end Go.Proofs.Ytdlcpnpmmmpccaa
