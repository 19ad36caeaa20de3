/- Hi, Hj -/
import Derived.Deep.RegionLaw
import Derived.Lib.AppendZeros
import Derived.Test.YtngnegnofmpgkaaZ13
/- WALKS of the reference's Lines, Points of nodes. -/
namespace Go.Proofs.Ytngnegnofmpgkaa.Gr
open Go.RowKit Go.Maps Go.Sort
open Go.Proofs.Ytngnegnofmpgkaa.Nm (StrRow)
theorem step_append_run {P : Program} {w : World} {ops : Array Oper} {o : Oper} {a : Act} {K : Act → World → Prop} {Q : Exit → Act → World → Prop} {E : Prop} (hgd : o.guard = none) (s x : Operand) (t tn : TypeId)
    (ho : o.op = .call { callee := .builtin .append, args := #[s, x], argTypes := #[t, tn] }) (vs vx : Value) (hs : a.eval s = vs) (hx : a.eval x = vx)
    (v' : Value) (w' : World) (hr : (Builtin.append_ #[t, tn] o.type #[vs, vx]).run P w = .ok v' w') (h : K (a.put o.dst v') w') : if Region.wanted o (yielded ops a.tmps) = true then Oper.wp P o a w K Q else E := by
  have hw : Region.wanted o (yielded ops a.tmps) = true := by simp [Region.wanted, hgd]
  rw [if_pos hw]
  exact Lib.wp_append_run w s x t tn ho vs vx hs hx v' w' hr h
theorem info53 : (Try.prog.info? 101).map (fun i => (i.zero, i.size, i.bytes)) = some (some (.agg #[.string ByteArray.empty, .string ByteArray.empty]), 2, 32) := by kernel_rfl
/-- Lines as they lie. -/
def lnV (ls : List Ln2) : List Value := ls.flatMap fun l => [.string l.1, .string l.2]
theorem lnV_at : ∀ (ls : List Ln2) (i : Nat) (x : Ln2), ls[i]? = some x → (lnV ls)[i * 2]? = some (.string x.1) ∧ (lnV ls)[i * 2 + 1]? = some (.string x.2)
  | [], _, _, h => by simp at h
  | l :: ls, 0, x, h => by
    injection h with h
    subst h
    exact ⟨rfl, rfl⟩
  | l :: ls, i + 1, x, h => by
    have := lnV_at ls i x (by simpa using h)
    rw [show (i + 1) * 2 = i * 2 + 1 + 1 by omega]
    exact this
theorem lnV_snoc (ls : List Ln2) (s t : ByteArray) : lnV (ls ++ [(s, t)]) = lnV ls ++ [.string s, .string t] := by
  unfold lnV
  rw [List.flatMap_append]
  rfl
def LinesP (ls : List Ln2) (w : World) (e : Ending) (w' : World) : Prop := ∃ v, e = .returned v ∧ w'.ownsRow w.heap.size 101 2 v ls.length (lnV ls) ∧ Below w.heap.size w w'
theorem line_row {w : World} {base : Nat} {v : Value} {ls : List Ln2} (h : w.ownsRow base 101 2 v ls.length (lnV ls)) (hl : ls.length ≤ 140737488355328) (hs : ∀ y ∈ ls, okS y.1 ∧ okS y.2) :
    ∃ a c, v = .slice a ls.length c ∧ LineRow w a ls.length ls := by
  rcases h.2 with ⟨rfl, hn0⟩ | ⟨g, cap, cur, rfl, hb, hg, hcap, hm, hsz, htake⟩
  · have h0 : ls.length = 0 := hn0
    refine ⟨none, 0, by rw [h0], rfl, hl, fun i x hx => hs x (List.mem_of_getElem? hx), fun h1 => by omega⟩
  · refine ⟨_, cap, rfl, rfl, hl, fun i x hx => hs x (List.mem_of_getElem? hx), fun h1 => ⟨g, 0, rfl, (Array.getElem?_eq_some_iff.1 hg).1, fun i x hx => ?_⟩⟩
    obtain ⟨e1, e2⟩ := lnV_at ls i x hx
    have h2 := h.cells (g := g) rfl _ _ e1
    have h3 := h.cells (g := g) rfl _ _ e2
    rw [show (⟨g, 0, none⟩ : Addr).add (i * 2) = ⟨g, 0 + i * 2, none⟩ by unfold Addr.add; split <;> simp_all] at h2
    rw [show (⟨g, 0, none⟩ : Addr).add (i * 2 + 1) = ⟨g, 0 + i * 2 + 1, none⟩ by unfold Addr.add; split <;> simp_all <;> omega] at h3
    exact ⟨h2, h3⟩
/-- A line more. -/
theorem line_grow {w : World} {base : Nat} {v : Value} {ls : List Ln2} (h : w.ownsRow base 101 2 v ls.length (lnV ls)) (hl : ls.length ≤ 1000000) (hb : base ≤ w.heap.size) (s t : ByteArray) :
    ∃ v' w', (Builtin.append_ #[78, 78] 78 #[v, .slice (some ⟨w.heap.size, 0, none⟩) 1 1]).run Try.prog (w.alloc (.cells #[.string s, .string t] 101)) = .ok v' w' ∧ w'.ownsRow base 101 2 v' (ls ++ [(s, t)]).length (lnV (ls ++ [(s, t)])) ∧ (w.alloc (.cells #[.string s, .string t] 101)).grownBy w' v.ownBlock ∧ (v'.ownBlock = v.ownBlock ∨ v'.ownBlock = some (w.heap.size + 1)) := by
  obtain ⟨i0, hi, hz0, hz1, hz2⟩ := info_parts info53
  obtain ⟨v', w', hrun, hown, hg, -, hat⟩ := run_append_own_at (P := Try.prog) (w.alloc (.cells #[.string s, .string t] 101)) base 78 78 101 i0 _ 2 32 Try.underlying78 hi hz0 hz1 hz2 rfl (by decide) v ls.length _ (h.alloc _) ⟨w.heap.size, 0, none⟩ 1 1 [.string s, .string t] rfl (fun j u hu => by
    have e0 : (⟨w.heap.size, 0, none⟩ : Addr).add j = ⟨w.heap.size, j, none⟩ := by unfold Addr.add; split <;> simp_all
    have hn : (w.alloc (.cells #[.string s, .string t] 101)).heap[w.heap.size]? = some (.cells #[.string s, .string t] 101) := World.alloc_heap_new w _
    rw [e0]
    simp only [World.cell?]
    rw [hn]
    rcases j with _ | _ | j
    · simpa using hu
    · simpa using hu
    · simp at hu) (by simp [Value.oneCell']) (by unfold maxLen; omega) (by omega) (by simp; omega)
  exact ⟨v', w', hrun, by rw [lnV_snoc, List.length_append]; exact hown, hg, by simpa using hat⟩
theorem own_base53 {W : World} {base e size k : Nat} {v : Value} {xs : List Value} (hr : W.ownsRow base e size v k xs) : ∀ g, v.ownBlock = some g → base ≤ g := fun g hg => (hr.lt g hg).1
set_option maxRecDepth 100000 in
set_option maxHeartbeats 16000000 in
theorem rlines_any (a : Option Addr) (len cap n : Nat) (xs : List Nd) (w : World) (hX : NodeRow w n a len xs) (hl : len ≤ 100000) (hF : FewN n xs) (hT : ∀ x ∈ xs, ∀ e ∈ x.defs, tN n e ≤ 1000000) : Calls Try.prog 54 #[.slice a len cap] w (LinesP (lnL n xs) w) := by
  have HX := Lib.hid hX
  have hcx := hX.count
  have HF := Lib.hid hF
  have HT := Lib.hid hT
  clear hX hF hT
  go_enter Try.func54, Try.ntmps54
  go_upto_region 3 with fail
  go_loopw [3, 4] (fun v i wr => ∃ (k : Nat), k ≤ len ∧ i = .int .i64 k ∧ Hid (wr.ownsRow w.heap.size 101 2 v (lnL n (xs.take k)).length (lnV (lnL n (xs.take k)))) ∧ Hid (Below w.heap.size w wr)) (fun _ i _ => len - (intOf i).toNat)
  case atStart => exact ⟨0, by omega, rfl, Lib.hid (World.ownsRow_nil _ _ _ _), Lib.hid (Below.refl _ _)⟩
  case round =>
    obtain ⟨k, hk, rfl, hR, hB⟩ := hrel
    rename World => wr
    have HR := Lib.hid hR.out
    have HB := Lib.hid hB.out
    clear hR hB
    by_cases hlt : k < len
    · obtain ⟨b0, off, rfl, hb, hc⟩ := HX.out.at_ (by omega)
      obtain ⟨x, hx⟩ : ∃ x, xs[k]? = some x := ⟨xs[k]'(by rw [hcx]; exact hlt), List.getElem?_eq_getElem _⟩
      obtain ⟨a', dl, dc, hN⟩ := hc k x hx
      have hN2 := hN.below HB.out hb
      obtain ⟨c0, c1, c2, hok, hds⟩ := hN2
      have HE := Lib.hid (lnL_at (n := n) hx)
      have hxm := List.mem_of_getElem? hx
      have HLL := Lib.hid (show (lnL n (xs.take k)).length + (ofL n x.defs).length ≤ 300000 by
        have h1 := lnL_len (n := n) xs (k + 1)
        rw [HE.out, List.length_append] at h1
        have h2 := HF.out.lines
        have : (ln1 x.name (ofL n x.defs)).length = (ofL n x.defs).length := by unfold ln1; rw [List.length_map]
        omega)
      have HOF := fun (r0 : Bool) => Lib.hid (rof_any wr n x.name r0 a' dl dc x.defs hds (HF.out.refs x hxm) (HT.out x hxm))
      have HSM := Lib.hid (ofL_small hds)
      have HC0 := Lib.hid (show ∀ W, Below w.heap.size w W → W.cell? ⟨b0, off + k * 3, none⟩ = some (.string x.name) from fun W hW => (hN.below hW hb).c0)
      obtain ⟨ls, hls⟩ : ∃ ls, lnL n (xs.take k) = ls := ⟨_, rfl⟩
      rw [hls] at HR HE HLL
      obtain ⟨nm, rs, dsx⟩ := x
      dsimp only at c0 c1 c2 hok HE HLL HOF HSM HC0
      have HLT := HLL.out
      have HQ := HOF rs
      clear hx hc hb hN hds hls HOF hxm
      go_wp2_with fail
      go_at_call 78
      generalize ofL n dsx = ts at *
      refine HQ.out.mono ?_; rintro e w3 hT3
      obtain ⟨a3, cap3, rfl, hR3, hB3, hN3⟩ := row_new hT3 (by omega) HSM.out
      obtain ⟨g, hg⟩ : ∃ g, 0 < ts.length → a3 = some ⟨g, 0, none⟩ ∧ wr.heap.size ≤ g ∧ g < w3.heap.size := by
        by_cases h0 : 0 < ts.length
        · obtain ⟨g, h1⟩ := hN3 h0
          exact ⟨g, fun _ => h1⟩
        · exact ⟨0, fun h => absurd h h0⟩
      have HGa := Lib.hid (show 0 < ts.length → a3 = some ⟨g, 0, none⟩ from fun h0 => (hg h0).1)
      have HGv := Lib.hid (show 0 < ts.length → some g ≠ u3.ownBlock ∧ g < w3.heap.size from fun h0 => ⟨fun e => by have := (HR.out.lt g e.symm).2; have := (hg h0).2.1; omega, (hg h0).2.2⟩)
      have HX3 := Lib.hid hR3
      have HR3 := Lib.hid (show w3.ownsRow w.heap.size 101 2 u3 (ls ++ ln1 nm (ts.take 0)).length (lnV (ls ++ ln1 nm (ts.take 0))) by
        have h1 : ls ++ ln1 nm (ts.take 0) = ls := by simp [ln1]
        rw [h1]
        exact HR.out.kept (grow_of hB3) (by cases u3.ownBlock <;> simp))
      have HB3 := Lib.hid (HB.out.trans (hB3.mono HB.out.size))
      clear HR HB HQ hT3 hR3 hB3 hN3 hg c0 c1 c2
      go_upto_region 7 with fail
      go_loopw [3, 6] (fun v i wr => ∃ (j : Nat), j ≤ ts.length ∧ i = .int .i64 j ∧ Hid (wr.ownsRow w.heap.size 101 2 v (ls ++ ln1 nm (ts.take j)).length (lnV (ls ++ ln1 nm (ts.take j)))) ∧ Hid (Below w.heap.size w wr) ∧ Hid (0 < ts.length → some g ≠ v.ownBlock ∧ g < wr.heap.size) ∧ Hid (StrRow wr a3 ts.length ts)) (fun _ i _ => ts.length - (intOf i).toNat)
      case atStart => exact ⟨0, by omega, rfl, HR3, HB3, HGv, HX3⟩
      case round =>
        clear HR3 HB3 HGv HX3
        obtain ⟨j, hj, rfl, hR, hB, hG, hX⟩ := hrel
        rename World => wr
        have HR := Lib.hid hR.out
        have HB := Lib.hid hB.out
        have HGv := Lib.hid hG.out
        have HX4 := Lib.hid hX.out
        clear hR hB hG hX
        have htl : ts.length ≤ 300000 := by omega
        by_cases hlt2 : j < ts.length
        · have ha3 := HGa.out (by omega)
          subst ha3
          obtain ⟨hgv, hgw⟩ := HGv.out (by omega)
          obtain ⟨b4, off4, e4, hb4, hc4⟩ := HX4.out.at_ (by omega)
          injection e4 with e4
          injection e4 with e5 e6
          subst e5
          obtain rfl : off4 = 0 := e6.symm
          obtain ⟨t, ht⟩ : ∃ x, ts[j]? = some x := ⟨ts[j], List.getElem?_eq_getElem _⟩
          have hbd := (Below.refl wr.heap.size wr).drew
          have hc2 : (World.drew wr).cell? ⟨g, j, none⟩ = some (.string t) := (hbd.cell (p := ⟨g, j, none⟩) hgw).trans (by have := hc4 j _ ht; rwa [Nat.zero_add] at this)
          have hc1 : (World.drew wr).cell? ⟨b0, off + k * 3, none⟩ = some (.string nm) := HC0.out _ (below_step HB.out hbd)
          have HE3 := Lib.hid (show ls ++ ln1 nm (ts.take (j + 1)) = (ls ++ ln1 nm (ts.take j)) ++ [(nm, t)] by rw [ln1_at ht, List.append_assoc])
          have HLJ := Lib.hid (show (ls ++ ln1 nm (ts.take j)).length ≤ 300000 by
            have : (ln1 nm (ts.take j)).length ≤ j := by unfold ln1; rw [List.length_map, List.length_take]; omega
            rw [List.length_append]; omega)
          obtain ⟨lj, hlj⟩ : ∃ lj, ls ++ ln1 nm (ts.take j) = lj := ⟨_, rfl⟩
          rw [hlj] at HR HE3 HLJ
          have hrd : (World.drew wr).ownsRow w.heap.size 101 2 u3 lj.length (lnV lj) := HR.out.kept (grow_of hbd) (by cases u3.ownBlock <;> simp)
          have hws := HB.out.size
          have hdz : w.heap.size ≤ (World.drew wr).heap.size := Nat.le_trans HB.out.size hbd.size
          have hge : (World.drew wr).heap[g]? = wr.heap[g]? := hbd.block g hgw
          have hgd : g < (World.drew wr).heap.size := Nat.lt_of_lt_of_le hgw hbd.size
          obtain ⟨v', w6, hrun, hown6, hg6, hat6⟩ := line_grow hrd (by have := HLJ.out; omega) hdz nm t
          have hal5 := World.grownBy_alloc (World.drew wr) (.cells #[.string nm, .string t] 101) none
          have hrb := own_base53 hrd
          have HO6 := Lib.hid hown6
          have HB6 := Lib.hid (((below_step HB.out hbd).alloc hdz (.cells #[.string nm, .string t] 101)).grown hg6 (by simp; omega) (fun r e => hrb r e))
          have HX6 := Lib.hid (keep_row HX4.out (fun _ => rfl) ((hg6.block g (by simp; omega) (fun e => hgv e)).trans ((hal5.block g hgd (by simp)).trans hge)) (by have h1 := hg6.size; have h2 := hbd.size; simp at h1; omega))
          have HGv6 := Lib.hid (show 0 < ts.length → some g ≠ v'.ownBlock ∧ g < w6.heap.size from fun _ => ⟨fun e => by
            rcases hat6 with h5 | h5
            · rw [h5] at e; exact hgv e
            · rw [h5] at e; injection e with e; omega, by have h1 := hg6.size; simp at h1; omega⟩)
          have HRUN := Lib.hid hrun
          clear ht hc4 e6 hb4 hlj hrd hws hdz hge hgd hown6 hg6 hat6 hal5 hrb hrun hgv hgw HGv hbd
          go_upto_region 9 with fail
          go_region_law (refine step_append_run (by rfl) _ _ _ _ (by rfl) _ _ (by rfl) (by rfl) _ _ HRUN.out ?_)
          all_goals
            go_wp2_with fail
            go_roundw
            case rel => exact ⟨j + 1, by omega, by go_num, by rw [HE3.out]; exact HO6, HB6, HGv6, HX6⟩
            case measure => simp [intOf]; omega
        · have hki : ¬ (j : Int) < (ts.length : Int) := by omega
          obtain rfl : j = ts.length := by omega
          rw [List.take_length, ← HE.out] at HR
          go_wp2
          go_roundw
          case rel => exact ⟨k + 1, by omega, by go_num, HR, HB⟩
          case measure => simp [intOf]; omega
    · have hki : ¬ (k : Int) < (len : Int) := by omega
      obtain rfl : k = len := by omega
      have HE := Lib.hid (show xs.take k = xs from List.take_of_length_le (by omega))
      go_wp2
      go_ret
      rw [HE.out] at HR
      exact ⟨_, rfl, HR.out, HB.out⟩
end Go.Proofs.Ytngnegnofmpgkaa.Gr
/- WALKS of the reference's Points, Missing of nodes. -/
namespace Go.Proofs.Ytngnegnofmpgkaa.Gr
open Go.RowKit Go.Maps Go.Sort
open Go.Proofs.Ytngnegnofmpgkaa.Nm (StrRow)
theorem lnL_ok {w : World} {n : Nat} {a : Option Addr} {len : Nat} {xs : List Nd} (h : NodeRow w n a len xs) : ∀ y ∈ lnL n xs, okS y.1 ∧ okS y.2 := by
  intro y hy
  obtain ⟨x, hx, hy2⟩ := List.mem_flatMap.1 hy
  obtain ⟨t, ht, rfl⟩ := List.mem_map.1 hy2
  obtain ⟨i, hi, e⟩ := List.getElem_of_mem hx
  obtain ⟨b, off, -, -, hc⟩ := h.at_ (by rw [← h.count]; omega)
  obtain ⟨a', dl, dc, hN⟩ := hc i x (by rw [← e]; exact List.getElem?_eq_getElem hi)
  exact ⟨hN.ok, ofL_small hN.ds t ht⟩
abbrev npL (n : Nat) (xs : List Nd) : List ByteArray := ptsL (nmL false xs) (lnL n xs)
theorem nmL_len (res : Bool) (xs : List Nd) : (nmL res xs).length ≤ xs.length := by
  have := nm_len res xs []
  simpa [nmL] using this
set_option maxRecDepth 100000 in
set_option maxHeartbeats 16000000 in
theorem npoints_any (a : Option Addr) (len cap n : Nat) (xs : List Nd) (w : World) (hX : NodeRow w n a len xs) (hl : len ≤ 100000) (hF : FewN n xs) (hT : ∀ x ∈ xs, ∀ e ∈ x.defs, tN n e ≤ 1000000) : Calls Try.prog 52 #[.slice a len cap] w (RowR (npL n xs) w) := by
  have HX := Lib.hid hX
  have hcx := hX.count
  have HF := Lib.hid hF
  have HT := Lib.hid hT
  have H1 := Lib.hid (rnames_any a len cap n xs false w hX (by omega))
  have HLK := Lib.hid (lnL_ok hX)
  have HLL := Lib.hid hF.lines
  have hnl := nmL_len false xs
  have HNL := Lib.hid (show (nmL false xs).length ≤ 300000 by omega)
  clear hX hF hT hnl
  go_enter Try.func52, Try.ntmps52
  go_wp2_with fail
  go_at_call 77; refine H1.out.mono ?_; rintro e w1 ⟨a1, c1, rfl, hS1, hB1⟩
  have HS1 := Lib.hid hS1
  have HB1 := Lib.hid hB1
  have H2 := Lib.hid (rlines_any a len cap n xs w1 (HX.out.below hB1) hl HF.out HT.out)
  clear hS1 hB1 H1
  go_wp2_with fail
  go_at_call 54; refine H2.out.mono ?_; rintro e w2 ⟨v2, rfl, hO2, hB2⟩
  obtain ⟨a2, c2, rfl, hL2⟩ := line_row hO2 (by have := HLL.out; omega) HLK.out
  have H3 := Lib.hid (rpoints_any a1 _ c1 _ a2 _ c2 _ w2 (HS1.out.below hB2) hL2 HNL.out HLL.out)
  have HB2 := Lib.hid (HB1.out.trans (hB2.mono HB1.out.size))
  clear hO2 hB2 hL2 H2 HS1 HB1
  go_wp2_with fail
  go_at_call 76; refine H3.out.mono ?_; rintro e w3 ⟨a3, c3, rfl, hS3, hB3⟩
  have HS3 := Lib.hid hS3
  have HB3 := Lib.hid (HB2.out.trans (hB3.mono HB2.out.size))
  clear hS3 hB3 H3 HB2
  go_wp2_with fail
  go_ret
  exact ⟨a3, c3, rfl, HS3.out, HB3.out⟩
theorem npL_len (n : Nat) (xs : List Nd) : (npL n xs).length ≤ xs.length + 2 * (lnL n xs).length := by
  have h1 := nmL_len false xs
  have h2 := pts_fold_len (lnL n xs) ((nmL false xs).foldl (fun acc x => putL x acc) [])
  have h3 := strs_fold_len (nmL false xs) []
  simp only [List.length_nil, Nat.zero_add] at h3
  unfold npL ptsL
  omega
end Go.Proofs.Ytngnegnofmpgkaa.Gr
