/- Ih -/
import Derived.Test.YtngnegnofmpgkaaZ16
/- WALK of graph's Reach. -/
namespace Go.Proofs.Ytngnegnofmpgkaa.Gr
open Go.RowKit Go.Maps Go.Sort
open Go.Proofs.Ytngnegnofmpgkaa.Nm (StrRow)
set_option maxRecDepth 100000 in
theorem run_cut (w : World) (g n m cap : Nat) (h : m ≤ cap) : (Instr.slice 26 (.slice (some ⟨g, 0, none⟩) n cap) none (some (.int .i64 (m : Int))) none).run Try.prog w = .ok (.slice (some ⟨g, 0, none⟩) m cap) w := by
  have hs := run_slice_h (P := Try.prog) w 26 (some ⟨g, 0, none⟩) n cap Try.underlying26 .i64 (m : Int) (by omega) (by omega)
  rw [hs, show Try.prog.elem 26 = 9 by kernel_rfl, Try.sizeOf9]
  simp only [Result.andThen, sliced]
  by_cases hc : cap = 0 <;> simp [hc, Addr.add]
theorem snoc_of {l : List ByteArray} (h : 0 < l.length) : ∃ ol k, l = ol ++ [k] := by
  rcases List.eq_nil_or_concat l with rfl | ⟨ol, k, rfl⟩
  · simp at h
  · exact ⟨ol, k, by simp⟩
set_option maxRecDepth 100000 in
/-- Texts appended to a row of one's own. -/
theorem run_own {w : World} {base : Nat} {v : Value} {xs news : List ByteArray} (hq : w.ownsRow base 9 1 v xs.length (xs.map Value.string)) {a : Option Addr} {c : Nat} (hn : StrRow w a news.length news) (hl : xs.length + news.length ≤ 1000000) (hb : base ≤ w.heap.size) (ty : TypeId) :
    ∃ v' w', (Builtin.append_ #[26, 26] ty #[v, .slice a news.length c]).run Try.prog w = .ok v' w' ∧ w'.ownsRow base 9 1 v' (xs ++ news).length ((xs ++ news).map Value.string) ∧ w.grownBy w' v.ownBlock ∧ (v'.ownBlock = v.ownBlock ∨ v'.ownBlock = some w.heap.size) := by
  obtain ⟨i0, hi, hz0, hz1, hz2⟩ := info_parts info9
  by_cases h0 : 0 < news.length
  · obtain ⟨b, off, rfl, hlt, hc⟩ := hn.at_ h0
    obtain ⟨v', w', hr, h1, h2, -, h4⟩ := run_append_own_at (P := Try.prog) w base 26 ty 9 i0 _ 1 16 Try.underlying26 hi hz0 hz1 hz2 rfl (by decide) v xs.length (xs.map Value.string) hq ⟨b, off, none⟩ news.length c (news.map Value.string) (by simp) (fun j u hj => by
      rw [List.getElem?_map] at hj
      cases hx : news[j]? with
      | none => rw [hx] at hj; cases hj
      | some x =>
        rw [hx] at hj
        injection hj with hj
        subst hj
        rw [Addr.add_lit]
        exact hc j x hx) (fun u hu => by
      obtain ⟨x, -, rfl⟩ := List.mem_map.1 hu
      rfl) (by unfold maxLen; omega) (by omega) hb
    exact ⟨v', w', hr, by rw [List.length_append, List.map_append]; exact h1, h2, h4⟩
  · obtain rfl : news = [] := List.eq_nil_of_length_eq_zero (by omega)
    refine ⟨v, w, ?_, by simpa using hq, ⟨rfl, rfl, rfl, Nat.le_refl _, fun _ _ _ => rfl⟩, .inl rfl⟩
    rcases hq.2 with ⟨rfl, -⟩ | ⟨g, cap, cur, rfl, -, -, hcap, -⟩
    · cases a <;> simp [Builtin.append_, run_underlying Try.underlying26, sizeOf, typeInfo, hi, Builtin.lenOf, Builtin.firstCells, loadCells, loadCellsFrom]
    · cases a <;> simp [Builtin.append_, run_underlying Try.underlying26, sizeOf, typeInfo, hi, hcap, Builtin.lenOf, Builtin.firstCells, loadCells, loadCellsFrom, storeCells]
set_option maxRecDepth 100000 in
set_option maxHeartbeats 16000000 in
theorem reach_any {w : World} {base G m : Nat} {P : ByteArray → Bool} {ls : List Ln2} (h : GR w base G m P (inL ls)) (hm : m ≤ 1000000) (hPL : ∀ y ∈ ls, P y.1 = true ∧ P y.2 = true) (hLn : ∀ y ∈ ls, okS y.1 ∧ okS y.2) (hls : ls.length ≤ 300000)
    (a : Option Addr) (len cap : Nat) (l : List ByteArray) (hS : StrRow w a len l) (hl : len ≤ 100000) : Calls Try.prog 49 #[.pointer (some ⟨G, 0, none⟩), .slice a len cap] w (ReachP (inL ls) P l w) := by
  have hcx := hS.count
  subst hcx
  have HG := Lib.hid h
  have HLP := Lib.hid hPL
  have HLN := Lib.hid hLn
  have HLS := Lib.hid hls
  have HMK := Lib.hid (SM.made w)
  have hB0 : Below w.heap.size w (w.alloc (.map #[] 0)) := (Below.refl _ _).alloc (Nat.le_refl _) _
  have HCL := Lib.hid (clone_any (cap := cap) (hS.below hB0) (by omega))
  have HOL := Lib.hid hS.each
  have HB0 := Lib.hid hB0
  have hmm := @run_makeMap Try.prog
  obtain ⟨i0, hi, hz0, hz1, hz2⟩ := info_parts info9
  clear h hPL hLn hls hS hB0
  go_enter Try.func49, Try.ntmps49
  go_wp2_with fail
  go_at_call 74; refine HCL.out.mono ?_; rintro e w5 ⟨v7, rfl, hr7, hB5⟩
  obtain ⟨a7, c7, rfl⟩ := (qrow_of hr7).slice
  rw [List.length_map] at hr7
  have hsa : (w.alloc (.map #[] 0)).heap.size = w.heap.size + 1 := by simp
  have HD0 := Lib.hid (show RW w (w.heap.size + 1) ls P l w5 (.slice none 0 0) (.slice a7 l.length c7) (fun _ => false) [] l 0 from by
    have hsz := hB5.size
    refine ⟨below_step HB0.out hB5, by omega, by omega, HMK.out.below hB5, World.ownsRow_nil _ _ _ _, by rw [← hsa]; exact hr7, (fun g hg => by cases hg), RI.begin, (fun x hx => by simp at hx), fun x hx => ?_, ?_, by simp⟩
    · obtain ⟨i, hi, e⟩ := List.getElem_of_mem hx
      exact HOL.out i x (by rw [← e]; exact List.getElem?_eq_getElem hi)
    · have h2 := fresh_le ls (fun _ => false)
      have := HLS.out
      omega)
  rw [List.length_map]
  clear hr7 hB5 hsa HCL HB0 HMK HOL
  go_wp2_with fail
  go_loopg [5, 7] 500001 (fun gk s5 s7 wr => ∃ v5 a7 n7 c7 S rl ol c, s5 = v5 ∧ s7 = .slice a7 n7 c7 ∧ n7 ≤ 500000 ∧ Hid (n7 = ol.length) ∧ Hid (ol.length + freshL ls S ≤ gk) ∧ Hid (RW w (w.heap.size + 1) ls P l wr v5 (.slice a7 n7 c7) S rl ol c))
  case atStart => exact ⟨_, a7, _, c7, _, _, l, _, rfl, rfl, by have := HD0.out.few; omega, Lib.hid rfl, Lib.hid (by have := HD0.out.few; omega), HD0⟩
  case round =>
    obtain ⟨v5, a7, n7, c7, S, rl, ol, c, rfl, rfl, hn7, hln, hgk, hD⟩ := hrel
    have HLL := Lib.hid hln.out
    have HGK := Lib.hid hgk.out
    have HD := Lib.hid hD.out
    clear hD HD0 hln hgk
    by_cases hpos : 0 < n7
    · obtain ⟨ol, k, rfl⟩ := snoc_of (by have := HLL.out; omega : 0 < ol.length)
      have hD := HD.out
      have hnn := HLL.out
      rw [List.length_append, List.length_singleton] at hnn
      obtain ⟨g, cap', hv, hgb, hgl⟩ := hD.opened.form (by simp)
      injection hv with e1 e2 e3
      subst e1 e3
      have hr := hD.opened
      rw [List.length_append, List.length_singleton, ← hnn] at hr
      have hcap : ol.length ≤ c7 := by
        rcases hr.2 with ⟨h1, -⟩ | ⟨g', cp, cur, hv, -, -, hle, -⟩
        · cases h1
        · injection hv with _ _ e3
          omega
      have hc : wr.cell? ⟨g, ol.length, none⟩ = some (.string k) := by
        rw [hr.cellAt ol.length (by omega)]
        simp
      have HQ := Lib.hid (own_cut hnn hr)
      have hrunC := run_cut wr g n7 ol.length c7 hcap
      have hok := hD.oko k (by simp)
      have hlS := hD.map.look hok
      have HK := Lib.hid (has_any (HG.out.below hD.below) hok)
      have HOK := Lib.hid hok
      have hn1 : (n7 : Int) - 1 = (ol.length : Int) := by omega
      have hlt : ol.length < n7 := by omega
      have HCC := Lib.hid (show c ≤ 500000 ∧ rl.length ≤ 500000 by
        have h1 := hD.few
        have h2 := hD.less
        omega)
      have HSZ := Lib.hid hD.size
      clear hD hnn e2 hr hgb hgl hok hcap
      have hskip : (P k = true → S k = true) → Hid (RW w (w.heap.size + 1) ls P l wr u5 (.slice (some ⟨g, 0, none⟩) ol.length c7) S rl ol c) := fun hk => Lib.hid (HD.out.skip hk (fun j t h => (HLP.out _ (inL_iff.1 h)).2) HQ.out rfl)
      have HSK := Lib.hid hskip
      clear hskip
      have HGM := Lib.hid (show ol.length + freshL ls S < gk by have h1 := HGK.out; rw [List.length_append, List.length_singleton] at h1; omega)
      cases hP : P k with
      | false =>
        rw [hP] at HK
        have HR := HSK.out (fun h => by rw [hP] at h; cases h)
        clear hP HSK hlS
        go_wp2_with fail
        go_at_call 75; refine HK.out.mono ?_; rintro e w8 ⟨rfl, hw⟩; subst hw
        go_wp2_with fail
        go_roundg (ol.length + freshL ls S)
        case measure => exact HGM.out
        case rel => exact ⟨_, _, _, c7, S, rl, ol, c, rfl, rfl, by omega, Lib.hid rfl, Lib.hid (Nat.le_refl _), HR⟩
      | true =>
        rw [hP] at HK
        have HPK := Lib.hid hP
        clear hP
        cases hSk : S k with
        | true =>
          rw [hSk] at hlS
          have HR := HSK.out (fun _ => hSk)
          clear hSk HSK
          go_wp2_with fail
          go_at_call 75; refine HK.out.mono ?_; rintro e w8 ⟨rfl, hw⟩; subst hw
          go_wp2_with fail
          go_roundg (ol.length + freshL ls S)
          case measure => exact HGM.out
          case rel => exact ⟨_, _, _, c7, S, rl, ol, c, rfl, rfl, by omega, Lib.hid rfl, Lib.hid (Nat.le_refl _), HR⟩
        | false =>
          rw [hSk] at hlS
          have HS0 := Lib.hid hSk
          obtain ⟨w4, hrun4, hM4, hg4⟩ := HD.out.map.put HOK.out (by have := HCC.out; omega)
          have HM4 := Lib.hid hM4
          have HG4 := Lib.hid hg4
          have HZ4 := Lib.hid hg4.size
          have HR4 := Lib.hid (HD.out.reached.kept hg4 (by
            cases hb : u5.ownBlock with
            | none => exact .inl rfl
            | some g => exact .inr (by have := own_base HD.out.reached g hb; intro e; injection e with e; omega)))
          clear hSk HSK hM4 hg4
          go_wp2_with fail
          go_at_call 75; refine HK.out.mono ?_; rintro e w8 ⟨rfl, hw⟩; subst hw
          go_wp2_with (at_builtin; refine wpList_append_own_at _ rfl _ _ 26 rfl (w.heap.size + 1) 9 i0 (.string ByteArray.empty) 1 16 Try.underlying26 hi hz0 hz1 hz2 rfl (by decide) _ rl.length (rl.map Value.string) rfl (HR4.out.alloc _) ⟨w4.heap.size, 0, none⟩ 1 1 [.string k] rfl rfl (cell_one_new _ _ _) (by intro v hv; simp at hv; subst hv; rfl) (by unfold maxLen; have := HCC.out; omega) (by have := HCC.out; omega) (by have := HSZ.out; have := HZ4.out; simp; omega) ?_; intro v6 w6 hown6 hgrow6 hnil6 hat6; have HO6 := Lib.hid hown6; have HG6 := Lib.hid hgrow6; have HA6 := Lib.hid hat6; clear hown6 hgrow6 hnil6 hat6)
          have hB6 : Below w.heap.size w w6 := ((HD.out.below.grown HG4.out (by have := HD.out.below.size; omega) (fun r e => by injection e with e; omega)).alloc (by have := HD.out.below.size; have := HZ4.out; omega) _).grown HG6.out (by have := HD.out.below.size; have := HZ4.out; simp; omega) (fun r e => by have := own_base HD.out.reached r e; omega)
          have HTo := Lib.hid (to_any (HG.out.below hB6) hm HOK.out)
          have HB6 := Lib.hid hB6
          clear hB6
          go_at_call 73; refine HTo.out.mono ?_; rintro e w7 hT7
          obtain ⟨tl, hT7, hS7, hl7⟩ := hT7
          have hfm := fresh_more ls S k HS0.out tl hS7.1.nodup (fun t ht => inL_iff.1 ((hS7.2 t).1 ht).2)
          have HFM := Lib.hid (show ol.length + tl.length ≤ 500000 by
            have h1 := HD.out.few
            rw [List.length_append] at h1
            omega)
          have HFM2 := Lib.hid hfm
          obtain ⟨a7, c7', rfl, hR7, hB7, -⟩ := row_new hT7 (by have := HFM.out; omega) (fun y hy => ((hS7.2 y).1 hy).1)
          have hw8 := HZ4.out
          have hw6 := HG6.out.size
          have hap : (Value.slice (some ⟨g, 0, none⟩) ol.length c7).ownBlock = some g := rfl
          have hgl := (HQ.out.lt g rfl)
          have hq7 : w7.ownsRow (w.heap.size + 1) 9 1 (.slice (some ⟨g, 0, none⟩) ol.length c7) ol.length (ol.map Value.string) := (((HQ.out.kept HG4.out (.inr (by rw [hap]; intro e; injection e with e; omega))).alloc (.cells #[.string k] 9)).kept HG6.out (.inr (by rw [hap]; intro e; exact HD.out.apart g e.symm rfl))).kept (grow_of hB7) (.inr (by simp [hap]))
          obtain ⟨v8, w8', hrun8, hq8, hg8, hat8⟩ := run_own hq7 hR7 (c := c7') (by have := HFM.out; omega) (by have := HSZ.out; have := hB7.size; simp at hw6; omega) 22
          obtain ⟨a8, c8, rfl⟩ := (qrow_of hq8).slice
          rw [List.length_map, List.length_append] at hrun8 hq8 hat8
          have HN := Lib.hid (HD.out.more HPK.out HS0.out HQ.out rfl HM4.out HG4.out HO6.out HG6.out HA6.out hS7 HLN.out hB7 (by rw [List.length_append]; exact hq8) hg8 hat8)
          clear hT7 hS7 hl7 hfm hR7 hB7 hq7 hq8 hg8 hat8 hw8 hw6 hap hgl
          go_wp2_with (at_builtin; refine Lib.wpList_append_run _ rfl _ _ _ _ rfl _ _ rfl rfl _ _ hrun8 ?_)
          go_roundg ((ol ++ tl).length + freshL ls (fun x => S x || decide (x = k)))
          case measure => have h1 := HGM.out; have h2 := HFM2.out; rw [List.length_append]; omega
          case rel => exact ⟨_, a8, _, c8, _, rl ++ [k], ol ++ tl, c + 1, rfl, rfl, by have := HFM.out; omega, Lib.hid (by rw [List.length_append]), Lib.hid (Nat.le_refl _), HN⟩
    · obtain rfl : n7 = 0 := by omega
      obtain rfl : ol = [] := List.eq_nil_of_length_eq_zero HLL.out.symm
      have HSO := Lib.hid (sort_own HD.out.reached HD.out.inv.nodup HD.out.okr (by have := HD.out.less; have := HD.out.few; omega))
      go_wp2_with fail
      go_at_call 35; refine HSO.out.mono ?_; rintro e w6 ⟨rfl, r6, hS6, hl6, hr6, hg6⟩
      go_wp2_with fail
      go_ret
      have hD := HD.out
      have hbase := own_base hD.reached
      refine ⟨r6, ⟨_, rfl, owns_up hr6 (by omega), hD.below.grown hg6 (by have := hD.below.size; omega) (fun r e => by have := hbase r e; omega)⟩, hS6.1, fun k => ?_, fun k hk => ((hS6.2 k).1 hk).1, ?_⟩
      · rw [← hD.inv.done k, hS6.2, inB_iff]
        exact ⟨fun h => h.2, fun h => ⟨hD.okr k h, h⟩⟩
      · have h1 := hD.less
        have h2 := hD.few
        omega
end Go.Proofs.Ytngnegnofmpgkaa.Gr
