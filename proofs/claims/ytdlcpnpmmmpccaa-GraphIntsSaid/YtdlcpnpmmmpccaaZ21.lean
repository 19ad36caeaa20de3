/- Iq, Ir, Is -/
import Derived.Test.YtdlcpnpmmmpccaaZ19
import Derived.Test.YtdlcpnpmmmpccaaZ20
/- WALKS of the reference's Reads, Touched. -/
namespace Go.Proofs.Ytdlcpnpmmmpccaa.Gr
open Go.RowKit Go.Maps Go.Sort
open Go.Proofs.Ytdlcpnpmmmpccaa.Nm (StrRow)
theorem PG_pts {n : Nat} {xs : List Nd} (h : Fine n xs) : (fun s => inB s (npL n xs)) = PG (xs.map Nd.name) (lnL n xs) := by
  funext s
  have hs := npL_fine h
  rw [Bool.eq_iff_iff, inB_iff, hs.2 s]
  refine ⟨fun h => h.2, fun hp => ⟨?_, hp⟩⟩
  unfold PG at hp
  rw [Bool.or_eq_true, inB_iff, List.any_eq_true] at hp
  rcases hp with hp | ⟨y, hy, hp⟩
  · exact h.names s hp
  · rw [of_decide_eq_true hp]; exact (h.lines y hy).2
theorem ends_in {n : Nat} {xs : List Nd} (h : Fine n xs) : ∀ y ∈ lnL n xs, y.1 ∈ npL n xs ∧ y.2 ∈ npL n xs := by
  intro y hy
  have hp := PG_ends (lnL_from (n := n) (xs := xs)) y hy
  rw [← PG_pts h] at hp
  exact ⟨inB_iff.1 hp.1, inB_iff.1 hp.2⟩
theorem only_false (xs : List Nd) (l : List ByteArray) : onlyL false xs l = l.filter fun s => inB s (xs.map Nd.name) := by
  unfold onlyL
  congr 1
  funext s
  cases inB s (xs.map Nd.name) <;> rfl
/-- What the reference's Reads hands back. -/
theorem readp_of {n : Nat} {xs : List Nd} (h : Fine n xs) {ls : List Ln2} (hls : ∀ y ∈ ls, y.2 ∈ npL n xs) (l : List ByteArray) {w w0 w' : World} {e : Ending} (hT : TxtsP (onlyL false xs (reachL (npL n xs) ls l)) w0 e w') (hb : Below w.heap.size w w0) : ReadP ls (PG (xs.map Nd.name) (lnL n xs)) (xs.map Nd.name) l w e w' := by
  obtain ⟨v, rfl, hr, hB⟩ := hT
  obtain ⟨h1, h2⟩ := reach_set (pts := npL n xs) (l := l) (ls := ls) (fun y hy => inB_iff.2 (hls y hy))
  have hg : ∀ k ∈ reachL (npL n xs) ls l, k ∈ npL n xs := fun k hk => by
    have := (h2 k).1 hk
    cases this with
    | base _ h => exact inB_iff.1 h
    | step _ h => exact hls _ (inL_iff.1 h)
  rw [only_false] at hr
  have hpl := npL_len n xs
  have hlx := h.few.lines
  have hxl := h.len
  refine ⟨_, ⟨v, rfl, owns_up hr hb.size, below_step hb hB⟩, h1.sublist List.filter_sublist, fun k => ?_, fun k hk => npL_small h k (hg k (List.mem_filter.1 hk).1), ?_⟩
  · rw [List.mem_filter, h2, inB_iff, PG_pts h]
  · refine Nat.le_trans (List.length_filter_le _ _) (Nat.le_trans (nodup_le _ _ h1.nodup hg) (by omega))
set_option maxRecDepth 100000 in
set_option maxHeartbeats 16000000 in
theorem rreads_any (a : Option Addr) (len cap n : Nat) (xs : List Nd) (a2 : Option Addr) (cap2 : Nat) (l : List ByteArray) (w : World) (hX : NodeRow w n a len xs) (hF : Fine n xs) (hS : StrRow w a2 l.length l) :
    Calls Try.prog 47 #[.slice a len cap, .slice a2 l.length cap2] w (ReadP (lnL n xs) (PG (xs.map Nd.name) (lnL n xs)) (xs.map Nd.name) l w) := by
  have hcx := hX.count
  have HX := Lib.hid hX
  have HS := Lib.hid hS
  have HF := Lib.hid hF
  have hl : len ≤ 40 := by have := hF.len; omega
  have hpl := npL_len n xs
  have hlx := hF.few.lines
  have HEI := Lib.hid (fun y hy => (ends_in hF y hy).2)
  obtain ⟨pts, hpts⟩ : ∃ pts, npL n xs = pts := ⟨_, rfl⟩
  obtain ⟨ls, hls⟩ : ∃ ls, lnL n xs = ls := ⟨_, rfl⟩
  have HNP := Lib.hid (npoints_any a len cap n xs w hX (by omega) hF.few hF.tN)
  have HRO := Lib.hid (fun (W W' : World) (e : Ending) (hT : TxtsP (onlyL false xs (reachL (npL n xs) (lnL n xs) l)) W e W') (hb : Below w.heap.size w W) => readp_of hF (fun y hy => (ends_in hF y hy).2) l hT hb)
  rw [hpts, hls] at hpl HEI HRO
  rw [hls] at hlx
  have HPT := Lib.hid hpts
  have HLS := Lib.hid hls
  clear hX hS hF hpts hls hcx
  go_enter Try.func47, Try.ntmps47
  go_wp2_with fail
  go_at_call 35; refine HNP.out.mono ?_; rw [HPT.out]; rintro e w1 ⟨a1, c1, rfl, hS1, hB1⟩
  have HS1 := Lib.hid hS1
  have HB1 := Lib.hid hB1
  clear hS1 hB1 HNP
  go_wp2_with fail
  go_at_call 36; refine (rlines_any a len cap n xs w1 (HX.out.below HB1.out) (by omega) HF.out.few HF.out.tN).mono ?_; rw [HLS.out]; rintro e w2 ⟨v2, rfl, hr2, hB2⟩
  obtain ⟨a3, c3, rfl, hR2⟩ := line_row hr2 (by omega) (by rw [← HLS.out]; exact HF.out.lines)
  have HB2 := Lib.hid (below_step HB1.out hB2)
  have HP2 := Lib.hid (HS1.out.below hB2)
  have HR2 := Lib.hid hR2
  clear hr2 hB2 hR2 HS1 HB1
  go_wp2_with fail
  go_at_call 27; refine (rreach_any a1 a3 a2 c1 c3 cap2 pts l ls w2 HP2.out HR2.out (HS.out.below HB2.out) HEI.out (by have := HF.out.len; omega)).mono ?_; rintro e w3 ⟨a4, c4, rfl, hS3, hB3⟩
  have HB3 := Lib.hid (below_step HB2.out hB3)
  have HS3 := Lib.hid hS3
  have HLN := Lib.hid (show (reachL pts ls l).length ≤ 1000000 by
    obtain ⟨h1, h2⟩ := reach_set (pts := pts) (l := l) (ls := ls) (fun y hy => inB_iff.2 (HEI.out y hy))
    refine Nat.le_trans (nodup_le _ pts h1.nodup fun k hk => ?_) (by have := HF.out.len; omega)
    have := (h2 k).1 hk
    cases this with
    | base _ h => exact inB_iff.1 h
    | step _ h => exact HEI.out _ (inL_iff.1 h))
  clear hS3 hB3 HP2 HR2
  go_wp2_with fail
  go_at_call 74; refine (ronly_any a a4 len cap _ c4 n xs _ false w3 (HX.out.below HB3.out) HS3.out HLN.out).mono ?_; rintro e w4 hT4
  obtain ⟨r, ⟨v, rfl, hr, hB⟩, rest⟩ := HRO.out w3 w4 e hT4 HB3.out
  have HZ := Lib.hid (And.intro hr (And.intro hB rest))
  clear hT4 hr hB rest
  go_wp2_with fail
  go_ret
  rw [HLS.out]
  exact ⟨r, ⟨v, rfl, HZ.out.1, HZ.out.2.1⟩, HZ.out.2.2⟩
set_option maxRecDepth 100000 in
set_option maxHeartbeats 16000000 in
theorem rtouched_any (a : Option Addr) (len cap n : Nat) (xs : List Nd) (a2 : Option Addr) (cap2 : Nat) (l : List ByteArray) (w : World) (hX : NodeRow w n a len xs) (hF : Fine n xs) (hS : StrRow w a2 l.length l) :
    Calls Try.prog 49 #[.slice a len cap, .slice a2 l.length cap2] w (ReadP (turnL (lnL n xs)) (PG (xs.map Nd.name) (lnL n xs)) (xs.map Nd.name) l w) := by
  have hcx := hX.count
  have HX := Lib.hid hX
  have HS := Lib.hid hS
  have HF := Lib.hid hF
  have hl : len ≤ 40 := by have := hF.len; omega
  have hpl := npL_len n xs
  have hlx := hF.few.lines
  have HEI := Lib.hid (show ∀ y ∈ turnL (lnL n xs), y.2 ∈ npL n xs from fun y hy => by
    obtain ⟨z, hz, rfl⟩ := List.mem_map.1 hy
    exact (ends_in hF z hz).1)
  have HTO := Lib.hid (turn_ok (P := okS) hF.lines)
  obtain ⟨pts, hpts⟩ : ∃ pts, npL n xs = pts := ⟨_, rfl⟩
  obtain ⟨ls, hls⟩ : ∃ ls, lnL n xs = ls := ⟨_, rfl⟩
  have HNP := Lib.hid (npoints_any a len cap n xs w hX (by omega) hF.few hF.tN)
  have HRO := Lib.hid (fun (W W' : World) (e : Ending) (hT : TxtsP (onlyL false xs (reachL (npL n xs) (turnL (lnL n xs)) l)) W e W') (hb : Below w.heap.size w W) => readp_of hF HEI.out l hT hb)
  rw [hpts, hls] at hpl HEI HRO
  rw [hls] at HTO
  have htl : (turnL ls).length = ls.length := by unfold turnL; rw [List.length_map]
  have HTL := Lib.hid htl
  rw [hls] at hlx
  have HPT := Lib.hid hpts
  have HLS := Lib.hid hls
  clear hX hS hF hpts hls hcx htl
  go_enter Try.func49, Try.ntmps49
  go_wp2_with fail
  go_at_call 35; refine HNP.out.mono ?_; rw [HPT.out]; rintro e w1 ⟨a1, c1, rfl, hS1, hB1⟩
  have HS1 := Lib.hid hS1
  have HB1 := Lib.hid hB1
  clear hS1 hB1 HNP
  go_wp2_with fail
  go_at_call 36; refine (rlines_any a len cap n xs w1 (HX.out.below HB1.out) (by omega) HF.out.few HF.out.tN).mono ?_; rw [HLS.out]; rintro e w2 ⟨v2, rfl, hr2, hB2⟩
  obtain ⟨a3, c3, rfl, hR2⟩ := line_row hr2 (by omega) (by rw [← HLS.out]; exact HF.out.lines)
  have HB2 := Lib.hid (below_step HB1.out hB2)
  have HP2 := Lib.hid (HS1.out.below hB2)
  have HR2 := Lib.hid hR2
  clear hr2 hB2 hR2 HS1 HB1
  go_wp2_with fail
  go_at_call 15; refine (rturned_any a3 ls.length c3 ls w2 HR2.out (by omega)).mono ?_; rintro e w5 ⟨v5, rfl, hr5, hB5⟩
  obtain ⟨a5, c5, rfl, hR5⟩ := line_row hr5 (by have := HTL.out; omega) HTO.out
  have HB5 := Lib.hid (below_step HB2.out hB5)
  have HP5 := Lib.hid (HP2.out.below hB5)
  have HR5 := Lib.hid hR5
  obtain ⟨tl, htle⟩ : ∃ tl, turnL ls = tl := ⟨_, rfl⟩
  rw [htle] at HEI HRO HTL HR5
  rw [htle]
  have HTE := Lib.hid htle
  clear hr5 hB5 hR5 HP2 HR2 HB2 htle
  go_wp2_with fail
  go_at_call 27; refine (rreach_any a1 a5 a2 c1 c5 cap2 pts l tl w5 HP5.out HR5.out (HS.out.below HB5.out) HEI.out (by have := HF.out.len; omega)).mono ?_; rintro e w3 ⟨a4, c4, rfl, hS3, hB3⟩
  have HB3 := Lib.hid (below_step HB5.out hB3)
  have HS3 := Lib.hid hS3
  have HLN := Lib.hid (show (reachL pts tl l).length ≤ 1000000 by
    obtain ⟨h1, h2⟩ := reach_set (pts := pts) (l := l) (ls := tl) (fun y hy => inB_iff.2 (HEI.out y hy))
    refine Nat.le_trans (nodup_le _ pts h1.nodup fun k hk => ?_) (by have := HF.out.len; omega)
    have := (h2 k).1 hk
    cases this with
    | base _ h => exact inB_iff.1 h
    | step _ h => exact HEI.out _ (inL_iff.1 h))
  clear hS3 hB3 HP5 HR5
  go_wp2_with fail
  go_at_call 74; refine (ronly_any a a4 len cap _ c4 n xs _ false w3 (HX.out.below HB3.out) HS3.out HLN.out).mono ?_; rintro e w4 hT4
  obtain ⟨r, ⟨v, rfl, hr, hB⟩, rest⟩ := HRO.out w3 w4 e hT4 HB3.out
  have HZ := Lib.hid (And.intro hr (And.intro hB rest))
  clear hT4 hr hB rest
  go_wp2_with fail
  go_ret
  rw [HLS.out, HTE.out]
  exact ⟨r, ⟨v, rfl, HZ.out.1, HZ.out.2.1⟩, HZ.out.2.2⟩
end Go.Proofs.Ytdlcpnpmmmpccaa.Gr
/- WALK of RefsHang. -/
namespace Go.Proofs.Ytdlcpnpmmmpccaa.Gr
open Go.RowKit Go.Maps Go.Sort
open Go.Proofs.Ytdlcpnpmmmpccaa.Nm (StrRow)
theorem dp_line {ls : List Ln2} {T : ByteArray → Bool} {s k : ByteArray} (h : Dp (inL ls) T s k) : ∃ y ∈ ls, y.2 = k := by
  cases h with
  | base h => exact ⟨_, inL_iff.1 h, rfl⟩
  | step _ _ _ h => exact ⟨_, inL_iff.1 h, rfl⟩
/-- A row that Deps hands back. -/
theorem deps_row {n : Nat} {xs : List Nd} (h : Fine n xs) {s : ByteArray} {w w' : World} {e : Ending} (hd : DepsP (inL (lnL n xs)) (fun t => inB t (resL xs)) s w e w') : ∃ r, RowR r w e w' ∧ Rise r ∧ (∀ k, k ∈ r ↔ (Dp (inL (lnL n xs)) (fun t => inB t (resL xs)) s k ∧ k ≠ s ∧ inB k (resL xs) = true)) ∧ (∀ k ∈ r, okS k) ∧ r.length ≤ 300000 := by
  obtain ⟨r, hT, hr, hm⟩ := hd
  have hok : ∀ k ∈ r, okS k := fun k hk => by
    obtain ⟨y, hy, e⟩ := dp_line ((hm k).1 hk).1
    rw [← e]
    exact (h.lines y hy).2
  have hl : r.length ≤ 300000 := by
    refine Nat.le_trans (nodup_le r ((lnL n xs).map (·.2)) hr.nodup fun k hk => ?_) (by rw [List.length_map]; exact h.few.lines)
    obtain ⟨y, hy, e⟩ := dp_line ((hm k).1 hk).1
    exact List.mem_map.2 ⟨y, hy, e⟩
  exact ⟨r, row_of hT (by omega) hok, hr, hm, hok, hl⟩
theorem reads_row {ls : List Ln2} {P : ByteArray → Bool} {ns l : List ByteArray} {w w' : World} {e : Ending} (h : ReadP ls P ns l w e w') : ∃ r, RowR r w e w' ∧ Rise r ∧ (∀ k, k ∈ r ↔ Rc (inL ls) P l k ∧ k ∈ ns) ∧ (∀ k ∈ r, okS k) ∧ r.length ≤ 1000000 := by
  obtain ⟨r, hT, hr, hm, hok, hl⟩ := h
  exact ⟨r, row_of hT (by omega) hok, hr, hm, hok, hl⟩
/-- What the law holds. -/
structure HW (n : Nat) (xs : List Nd) (a : Option Addr) (len : Nat) (l : List ByteArray) (a2 : Option Addr) (w wr : World) : Prop where
  below : Below w.heap.size w wr
  nodes : NodeRow wr n a len xs
  names : StrRow wr a2 l.length l
theorem HW.step {n : Nat} {xs : List Nd} {a : Option Addr} {len : Nat} {l : List ByteArray} {a2 : Option Addr} {w wr w' : World} (h : HW n xs a len l a2 w wr) (hb : Below wr.heap.size wr w') : HW n xs a len l a2 w w' :=
  ⟨below_step h.below hb, h.nodes.below hb, h.names.below hb⟩
set_option maxRecDepth 100000 in
set_option maxHeartbeats 16000000 in
theorem hang_walk (a : Option Addr) (len cap n : Nat) (xs : List Nd) (s : ByteArray) (a2 : Option Addr) (c2 : Nat) (l : List ByteArray) (w : World) (hX : NodeRow w n a len xs) (hs : okS s) (hS : StrRow w a2 l.length l) : Calls Try.prog 8 #[.slice a len cap, .string s, .slice a2 l.length c2] w (BoolP true w) := by
  have HH := Lib.hid (show HW n xs a len l a2 w w from ⟨Below.refl _ _, hX, hS⟩)
  have HCX := Lib.hid hX.count
  have HOS := Lib.hid hs
  have hm2 := hS.max
  have hsz : s.size ≤ 140737488355328 := hs
  clear hX hs hS
  go_enter Try.func8, Try.ntmps8
  go_wp2_with fail
  go_at_call 32; refine (few_nodes a len cap n xs w HH.out.nodes).mono ?_; rintro e w1 ⟨b1, rfl, hB1, hf⟩
  have HH1 := Lib.hid (HH.out.step hB1)
  have HF := Lib.hid hf
  clear hB1 hf HH
  cases b1
  · clear HF
    go_wp2_with fail
    go_at_call 34; refine (awake_any _).mono ?_; rintro e w9 ⟨rfl, hB9⟩
    have HB9 := Lib.hid (below_step HH1.out.below hB9)
    clear hB9
    go_wp2_with fail
    go_ret
    exact ⟨rfl, HB9.out⟩
  · have HOK := Lib.hid (HF.out rfl)
    clear HF
    go_wp2_with fail
    go_at_call 33; refine (right_nodes a len cap n xs w1 HH1.out.nodes (by have := HOK.out.1; have := HCX.out; omega) (fun x hx e he => by have := (HOK.out.2 x hx).2.2 e he; omega)).mono ?_; rintro e w2 ⟨b2, rfl, hB2, hr⟩
    have HH2 := Lib.hid (HH1.out.step hB2)
    have HR := Lib.hid hr
    clear hB2 hr HH1
    cases b2
    · clear HR
      go_wp2_with fail
      go_at_call 34; refine (awake_any _).mono ?_; rintro e w9 ⟨rfl, hB9⟩
      have HB9 := Lib.hid (below_step HH2.out.below hB9)
      clear hB9
      go_wp2_with fail
      go_ret
      exact ⟨rfl, HB9.out⟩
    · have HFI := Lib.hid (fine_of HH2.out.nodes HOK.out (HR.out rfl))
      clear HR HOK
      by_cases hcond : l.length ≤ 20 ∧ s.size ≤ 100
      · obtain ⟨hl20, hs100⟩ := hcond
        go_wp2_with fail
        go_loopw [7] (fun i wr => ∃ k : Nat, k ≤ l.length ∧ i = .int .i64 k ∧ Hid (HW n xs a len l a2 w wr)) (fun i _ => l.length - (intOf i).toNat)
        case atStart => exact ⟨0, by omega, rfl, HH2⟩
        case round =>
          clear HH2
          obtain ⟨k, hk, rfl, hH⟩ := hrel
          rename World => wr
          have HH2 := Lib.hid hH.out
          clear hH
          by_cases hlt : k < l.length
          · obtain ⟨b1, off1, t, rfl, hb1, hc1, ht, hokt⟩ := str_at HH2.out.names hlt
            have htz : t.size ≤ 140737488355328 := hokt
            clear ht hb1 hokt
            by_cases hbig : 100 < t.size
            · go_wp2_with fail
              go_at_call 34; refine (awake_any _).mono ?_; rintro e w9 ⟨rfl, hB9⟩
              have HB9 := Lib.hid (below_step HH2.out.below hB9)
              clear hB9
              go_wp2_with fail
              go_ret
              exact ⟨rfl, HB9.out⟩
            · go_wp2_with fail
              go_roundw
              case rel => exact ⟨k + 1, by omega, by go_num, HH2⟩
              case measure => simp [intOf]; omega
          · go_wp2_with fail
            go_at_call 44; refine (deps_any a len cap n xs s wr HH2.out.nodes (by have := HFI.out.len; have := HCX.out; omega) HFI.out.few HFI.out.nodup HOS.out HFI.out.lines).mono ?_; rintro e w3 hD3
            obtain ⟨r3, ⟨a3, c3, rfl, hR3, hB3⟩, hr3, hm3, -, -⟩ := deps_row HFI.out hD3
            have HH3 := Lib.hid (HH2.out.step hB3)
            have HR3 := Lib.hid hR3
            have HM3 := Lib.hid (And.intro hr3 hm3)
            clear hD3 hR3 hB3 hr3 hm3 HH2
            go_wp2_with fail
            go_at_call 45; refine (rdeps_any a len cap n xs s w3 HH3.out.nodes HFI.out HOS.out).mono ?_; rintro e w4 hD4
            obtain ⟨r4, ⟨a4, c4, rfl, hR4, hB4⟩, hr4, hm4, -, -⟩ := deps_row HFI.out hD4
            have HH4 := Lib.hid (HH3.out.step hB4)
            have HR4 := Lib.hid (HR3.out.below hB4)
            have hE := rise_unique hr4 HM3.out.1 (fun k => (hm4 k).trans (HM3.out.2 k).symm)
            subst hE
            have HS4 := Lib.hid hR4
            clear hD4 hR4 hB4 hr4 hm4 HH3 HR3 HM3
            go_wp2_with fail
            go_at_call 17; refine (same_yes HR4.out HS4.out).mono ?_; rintro e w5 ⟨rfl, hB5⟩
            have HH5 := Lib.hid (HH4.out.step hB5)
            clear hB5 HH4 HR4 HS4
            go_wp2_with fail
            go_at_call 46; refine (reads_any a len cap n xs a2 l.length c2 l w5 HH5.out.nodes (by have := HFI.out.len; have := HCX.out; omega) HFI.out.few HFI.out.lines HH5.out.names (by omega)).mono ?_; rintro e w6 hD6
            obtain ⟨r6, ⟨a6, c6, rfl, hR6, hB6⟩, hr6, hm6, -, -⟩ := reads_row hD6
            have HH6 := Lib.hid (HH5.out.step hB6)
            have HR6 := Lib.hid hR6
            have HM6 := Lib.hid (And.intro hr6 hm6)
            clear hD6 hR6 hB6 hr6 hm6 HH5
            go_wp2_with fail
            go_at_call 47; refine (rreads_any a len cap n xs a2 c2 l w6 HH6.out.nodes HFI.out HH6.out.names).mono ?_; rintro e w7 hD7
            obtain ⟨r7, ⟨a7, c7, rfl, hR7, hB7⟩, hr7, hm7, -, -⟩ := reads_row hD7
            have HH7 := Lib.hid (HH6.out.step hB7)
            have HR7 := Lib.hid (HR6.out.below hB7)
            have hE := rise_unique hr7 HM6.out.1 (fun k => (hm7 k).trans (HM6.out.2 k).symm)
            subst hE
            have HS7 := Lib.hid hR7
            clear hD7 hR7 hB7 hr7 hm7 HH6 HR6 HM6
            go_wp2_with fail
            go_at_call 17; refine (same_yes HR7.out HS7.out).mono ?_; rintro e w8 ⟨rfl, hB8⟩
            have HH8 := Lib.hid (HH7.out.step hB8)
            clear hB8 HH7 HR7 HS7
            go_wp2_with fail
            go_at_call 34; refine (awake_any _).mono ?_; rintro e w9 ⟨rfl, hB9⟩
            have HH9 := Lib.hid (HH8.out.step hB9)
            clear hB9 HH8
            go_wp2_with fail
            go_at_call 48; refine (touched_any a len cap n xs a2 l.length c2 l w9 HH9.out.nodes (by have := HFI.out.len; have := HCX.out; omega) HFI.out.few HFI.out.lines HH9.out.names (by omega)).mono ?_; rintro e w10 hD6
            obtain ⟨r6, ⟨a6, c6, rfl, hR6, hB6⟩, hr6, hm6, -, -⟩ := reads_row hD6
            have HH6 := Lib.hid (HH9.out.step hB6)
            have HR6 := Lib.hid hR6
            have HM6 := Lib.hid (And.intro hr6 hm6)
            clear hD6 hR6 hB6 hr6 hm6 HH9
            go_wp2_with fail
            go_at_call 49; refine (rtouched_any a len cap n xs a2 c2 l w10 HH6.out.nodes HFI.out HH6.out.names).mono ?_; rintro e w11 hD7
            obtain ⟨r7, ⟨a7, c7, rfl, hR7, hB7⟩, hr7, hm7, -, -⟩ := reads_row hD7
            have HH7 := Lib.hid (HH6.out.step hB7)
            have HR7 := Lib.hid (HR6.out.below hB7)
            have hE := rise_unique hr7 HM6.out.1 (fun k => (hm7 k).trans (HM6.out.2 k).symm)
            subst hE
            have HS7 := Lib.hid hR7
            clear hD7 hR7 hB7 hr7 hm7 HH6 HR6 HM6
            go_wp2_with fail
            go_at_call 17; refine (same_yes HR7.out HS7.out).mono ?_; rintro e w12 ⟨rfl, hB8⟩
            have HB9 := Lib.hid (below_step HH7.out.below hB8)
            clear hB8
            go_wp2_with fail
            go_ret
            exact ⟨rfl, HB9.out⟩
      · by_cases h20 : 20 < l.length
        · go_wp2_with fail
          go_at_call 34; refine (awake_any _).mono ?_; rintro e w9 ⟨rfl, hB9⟩
          have HB9 := Lib.hid (below_step HH2.out.below hB9)
          clear hB9
          go_wp2_with fail
          go_ret
          exact ⟨rfl, HB9.out⟩
        · have h100 : 100 < s.size := by omega
          clear hcond
          go_wp2_with fail
          go_at_call 34; refine (awake_any _).mono ?_; rintro e w9 ⟨rfl, hB9⟩
          have HB9 := Lib.hid (below_step HH2.out.below hB9)
          clear hB9
          go_wp2_with fail
          go_ret
          exact ⟨rfl, HB9.out⟩
end Go.Proofs.Ytdlcpnpmmmpccaa.Gr
/- WALK of RefsApart. -/
namespace Go.Proofs.Ytdlcpnpmmmpccaa.Gr
open Go.RowKit Go.Maps Go.Sort
open Go.Proofs.Ytdlcpnpmmmpccaa.Nm (StrRow)
theorem rc_trans {L : ByteArray → ByteArray → Bool} {P : ByteArray → Bool} {l : List ByteArray} {j m : ByteArray} (h : Rc L P l j) (k : Rc L P [j] m) : Rc L P l m := by
  induction k with
  | base h1 _ => rw [List.mem_singleton.1 h1]; exact h
  | step _ h2 ih => exact .step ih h2
theorem rc_turn {ls : List Ln2} {P : ByteArray → Bool} (hP : ∀ y ∈ ls, P y.1 = true ∧ P y.2 = true) {a k : ByteArray} (ha : P a = true) (h : Rc (inL ls) P [a] k) : Rc (inL (turnL ls)) P [k] a := by
  induction h with
  | base h1 _ => rw [List.mem_singleton.1 h1]; exact .base (by simp) ha
  | step _ h2 ih =>
    have hy := inL_iff.1 h2
    exact rc_trans (.step (.base (by simp) (hP _ hy).2) (inL_iff.2 (List.mem_map.2 ⟨_, hy, rfl⟩))) ih
theorem turn_turn (ls : List Ln2) : turnL (turnL ls) = ls := by
  unfold turnL
  rw [List.map_map]
  exact List.map_id _
theorem dp_rc {ls : List Ln2} {T P : ByteArray → Bool} {a k : ByteArray} (ha : P a = true) (h : Dp (inL ls) T a k) : Rc (inL ls) P [a] k := by
  induction h with
  | base h => exact .step (.base (by simp) ha) h
  | step _ _ _ h ih => exact .step ih h
theorem PG_of_name {ns : List ByteArray} {ls : List Ln2} {s : ByteArray} (h : s ∈ ns) : PG ns ls s = true := by
  unfold PG
  rw [inB_iff.2 h]
  rfl
theorem res_name {xs : List Nd} {k : ByteArray} (h : inB k (resL xs) = true) : k ∈ xs.map Nd.name := by
  have h := inB_iff.1 h
  unfold resL at h
  obtain ⟨y, hy, e⟩ := List.mem_map.1 h
  exact List.mem_map.2 ⟨y, (List.mem_filter.1 hy).1, e⟩
/-- What the law holds. -/
structure AW (n : Nat) (xs : List Nd) (a : Option Addr) (len : Nat) (rd : List ByteArray) (a5 : Option Addr) (dp : List ByteArray) (a6 : Option Addr) (w wr : World) : Prop where
  below : Below w.heap.size w wr
  nodes : NodeRow wr n a len xs
  reads : StrRow wr a5 rd.length rd
  deps : StrRow wr a6 dp.length dp
theorem AW.step {n : Nat} {xs : List Nd} {a : Option Addr} {len : Nat} {rd dp : List ByteArray} {a5 a6 : Option Addr} {w wr w' : World} (h : AW n xs a len rd a5 dp a6 w wr) (hb : Below wr.heap.size wr w') : AW n xs a len rd a5 dp a6 w w' :=
  ⟨below_step h.below hb, h.nodes.below hb, h.reads.below hb, h.deps.below hb⟩
/-- Has(reads, b) and Has(touched, a) are the same. -/
theorem touch_iff {n : Nat} {xs : List Nd} {s t : ByteArray} (hs : s ∈ xs.map Nd.name) (ht : t ∈ xs.map Nd.name) {rd tc : List ByteArray} (h1 : ∀ k, k ∈ rd ↔ Rc (inL (lnL n xs)) (PG (xs.map Nd.name) (lnL n xs)) [s] k ∧ k ∈ xs.map Nd.name)
    (h2 : ∀ k, k ∈ tc ↔ Rc (inL (turnL (lnL n xs))) (PG (xs.map Nd.name) (lnL n xs)) [t] k ∧ k ∈ xs.map Nd.name) : inB t rd = inB s tc := by
  have he := PG_ends (lnL_from (n := n) (xs := xs))
  rw [Bool.eq_iff_iff, inB_iff, inB_iff, h1, h2]
  constructor
  · rintro ⟨h, -⟩
    exact ⟨rc_turn he (PG_of_name hs) h, hs⟩
  · rintro ⟨h, -⟩
    have := rc_turn (ls := turnL (lnL n xs)) (turn_ok (P := fun s => PG (xs.map Nd.name) (lnL n xs) s = true) he) (PG_of_name ht) h
    rw [turn_turn] at this
    exact ⟨this, ht⟩
set_option maxRecDepth 100000 in
set_option maxHeartbeats 16000000 in
theorem apart_walk (a : Option Addr) (len cap n : Nat) (xs : List Nd) (w : World) (hX : NodeRow w n a len xs) : Calls Try.prog 9 #[.slice a len cap] w (BoolP true w) := by
  have HH := Lib.hid (show HW n xs a len [] none w w from ⟨Below.refl _ _, hX, str0 _⟩)
  have HCX := Lib.hid hX.count
  have hmx := hX.max
  clear hX
  go_enter Try.func9, Try.ntmps9
  go_wp2_with fail
  go_at_call 32; refine (few_nodes a len cap n xs w HH.out.nodes).mono ?_; rintro e w1 ⟨b1, rfl, hB1, hf⟩
  have HH1 := Lib.hid (HH.out.step hB1)
  have HF := Lib.hid hf
  clear hB1 hf HH
  cases b1
  · clear HF
    go_wp2_with fail
    go_at_call 34; refine (awake_any _).mono ?_; rintro e w9 ⟨rfl, hB9⟩
    have HB9 := Lib.hid (below_step HH1.out.below hB9)
    clear hB9
    go_wp2_with fail
    go_ret
    exact ⟨rfl, HB9.out⟩
  · have HOK := Lib.hid (HF.out rfl)
    clear HF
    go_wp2_with fail
    go_at_call 33; refine (right_nodes a len cap n xs w1 HH1.out.nodes (by have := HOK.out.1; have := HCX.out; omega) (fun x hx e he => by have := (HOK.out.2 x hx).2.2 e he; omega)).mono ?_; rintro e w2 ⟨b2, rfl, hB2, hr⟩
    have HH2 := Lib.hid (HH1.out.step hB2)
    have HR := Lib.hid hr
    clear hB2 hr HH1
    cases b2
    · clear HR
      go_wp2_with fail
      go_at_call 34; refine (awake_any _).mono ?_; rintro e w9 ⟨rfl, hB9⟩
      have HB9 := Lib.hid (below_step HH2.out.below hB9)
      clear hB9
      go_wp2_with fail
      go_ret
      exact ⟨rfl, HB9.out⟩
    · have HFI := Lib.hid (fine_of HH2.out.nodes HOK.out (HR.out rfl))
      clear HR HOK
      have hl40 : len ≤ 40 := by have := HFI.out.len; have := HCX.out; omega
      by_cases h20 : 20 < len
      · go_wp2_with fail
        go_at_call 34; refine (awake_any _).mono ?_; rintro e w9 ⟨rfl, hB9⟩
        have HB9 := Lib.hid (below_step HH2.out.below hB9)
        clear hB9
        go_wp2_with fail
        go_ret
        exact ⟨rfl, HB9.out⟩
      · go_wp2_with fail
        go_loopw [3] (fun i wr => ∃ k : Nat, k ≤ len ∧ i = .int .i64 k ∧ Hid (HW n xs a len [] none w wr)) (fun i _ => len - (intOf i).toNat)
        case atStart => exact ⟨0, by omega, rfl, HH2⟩
        case round =>
          clear HH2
          obtain ⟨i, hil, rfl, hH⟩ := hrel
          rename World => wr
          have HH := Lib.hid hH.out
          clear hH
          by_cases hlt : i < len
          · obtain ⟨b0, off, x, a', dl, dc, e0, hb, hx, hN⟩ := node_at HH.out.nodes hlt
            subst e0
            have hxn : x.name ∈ xs.map Nd.name := List.mem_map.2 ⟨x, List.mem_of_getElem? hx, rfl⟩
            obtain ⟨c0, c1, c2, hok, hds⟩ := hN
            obtain ⟨s, hs⟩ : ∃ s, x.name = s := ⟨_, rfl⟩
            rw [hs] at hxn c0 hok
            have HSN := Lib.hid hxn
            have HOS := Lib.hid hok
            clear hx hb hds c1 c2 hxn hok hs x
            go_wp2_with fail
            have hb0 : Below wr.heap.size wr (wr.alloc (.cells #[.string s] 9)) := (Below.refl _ _).alloc (Nat.le_refl _) _
            have HA := Lib.hid (HH.out.step hb0)
            have HS1 := Lib.hid (str_lit (w := wr) HOS.out)
            clear hb0
            go_at_call 46; refine (reads_any _ len cap n xs _ 1 1 [s] _ HA.out.nodes (by omega) HFI.out.few HFI.out.lines HS1.out (by omega)).mono ?_; rintro e w3 hD3
            obtain ⟨rd, ⟨a5, c5, rfl, hR3, hB3⟩, hr3, hm3, -, hrl⟩ := reads_row hD3
            have HR3 := Lib.hid hR3
            have HA3 := Lib.hid (HA.out.step hB3)
            have HM3 := Lib.hid hm3
            clear hD3 hR3 hB3 hr3 hm3 HS1
            go_wp2_with fail
            go_at_call 44; refine (deps_any _ len cap n xs s w3 HA3.out.nodes (by omega) HFI.out.few HFI.out.nodup HOS.out HFI.out.lines).mono ?_; rintro e w4 hD4
            obtain ⟨dp, ⟨a6, c6, rfl, hR4, hB4⟩, hr4, hm4, -, hdl⟩ := deps_row HFI.out hD4
            have HD := Lib.hid hm4
            have hw4 := HA3.out.step hB4
            have HW4 := Lib.hid (show AW n xs (some ⟨b0, off, none⟩) len rd a5 dp a6 w w4 from ⟨hw4.below, hw4.nodes, HR3.out.below hB4, hR4⟩)
            clear hD4 hR4 hB4 hr4 hm4 hw4 HA HA3 HR3 HH
            go_wp2_with fail
            go_loopw [7] (fun i wr => ∃ k : Nat, k ≤ len ∧ i = .int .i64 k ∧ Hid (AW n xs (some ⟨b0, off, none⟩) len rd a5 dp a6 w wr)) (fun i _ => len - (intOf i).toNat)
            case atStart => exact ⟨0, by omega, rfl, HW4⟩
            case round =>
              clear HW4 c0
              obtain ⟨k, hk, rfl, hH⟩ := hrel
              rename World => wr
              have HH := Lib.hid hH.out
              clear hH
              by_cases hlt2 : k < len
              · obtain ⟨b1, off1, y, a'', dl', dc', e1, hb1, hy, hN1⟩ := node_at HH.out.nodes hlt2
                injection e1 with e1
                injection e1 with e1 e2
                subst e1 e2
                have hyn : y.name ∈ xs.map Nd.name := List.mem_map.2 ⟨y, List.mem_of_getElem? hy, rfl⟩
                obtain ⟨d0, d1, d2, hok1, hds1⟩ := hN1
                obtain ⟨t, ht⟩ : ∃ t, y.name = t := ⟨_, rfl⟩
                rw [ht] at hyn d0 hok1
                have HTN := Lib.hid hyn
                have HOT := Lib.hid hok1
                have HHS := Lib.hid (rhas_any a5 rd.length c5 rd t wr HH.out.reads)
                clear hy hb1 hds1 d1 d2 hyn hok1 ht y
                go_wp2_with fail
                go_at_call 20; refine HHS.out.mono ?_; rintro e w5 ⟨rfl, rfl⟩
                have hb0 : Below wr.heap.size wr (wr.alloc (.cells #[.string t] 9)) := (Below.refl _ _).alloc (Nat.le_refl _) _
                have HA := Lib.hid (HH.out.step hb0)
                have HS1 := Lib.hid (str_lit (w := wr) HOT.out)
                obtain ⟨hb, hbe⟩ : ∃ hb, inB t rd = hb := ⟨_, rfl⟩
                rw [hbe]
                have HBE := Lib.hid hbe
                clear hb0 hbe HHS HH d0
                go_wp2_with fail
                go_at_call 48; refine (touched_any _ len cap n xs _ 1 1 [t] _ HA.out.nodes (by omega) HFI.out.few HFI.out.lines HS1.out (by omega)).mono ?_; rintro e w6 hD6
                obtain ⟨tc, ⟨a7, c7, rfl, hR6, hB6⟩, hr6, hm6, -, -⟩ := reads_row hD6
                have HA6 := Lib.hid (HA.out.step hB6)
                have HTI := Lib.hid (touch_iff HSN.out HTN.out HM3.out hm6)
                have HHS := Lib.hid (rhas_any a7 tc.length c7 tc s w6 hR6)
                rw [← HTI.out, HBE.out] at HHS
                clear hD6 hR6 hB6 hr6 hm6 HA HS1
                go_wp2_with fail
                go_at_call 20; refine HHS.out.mono ?_; rintro e w7 ⟨rfl, rfl⟩
                clear HHS HTI HBE
                cases hb
                all_goals
                  go_wp2_with fail
                  go_roundw
                  case rel => exact ⟨k + 1, by omega, by go_num, HA6⟩
                  case measure => simp [intOf]; omega
              · go_wp2_with fail
                go_loopw [9] (fun i wr => ∃ k : Nat, k ≤ dp.length ∧ i = .int .i64 k ∧ Hid (AW n xs (some ⟨b0, off, none⟩) len rd a5 dp a6 w wr)) (fun i _ => dp.length - (intOf i).toNat)
                case atStart => exact ⟨0, by omega, rfl, HH⟩
                case round =>
                  clear HH hlt2 hk
                  obtain ⟨k, hk, rfl, hH⟩ := hrel
                  rename World => wr
                  have HH := Lib.hid hH.out
                  clear hH
                  by_cases hlt2 : k < dp.length
                  · obtain ⟨b1, off1, d, e1, hb1, hc1, hd, hokd⟩ := str_at HH.out.deps hlt2
                    subst e1
                    have hdd := (HD.out d).1 (List.mem_of_getElem? hd)
                    have HRD := Lib.hid (show Rc (inL (lnL n xs)) (PG (xs.map Nd.name) (lnL n xs)) [s] d from dp_rc (PG_of_name HSN.out) hdd.1)
                    have hdr : inB d rd = true := inB_iff.2 ((HM3.out d).2 ⟨HRD.out, res_name hdd.2.2⟩)
                    have HDP := Lib.hid (PG_of_name (ls := lnL n xs) (res_name hdd.2.2))
                    have heq : (d.toList == s.toList) = false := by rw [← Bool.not_eq_true, eq_list]; exact hdd.2.1
                    have HHS := Lib.hid (rhas_any a5 rd.length c5 rd d wr HH.out.reads)
                    rw [hdr] at HHS
                    have HOD := Lib.hid hokd
                    clear hd hb1 hokd hdd hdr
                    go_wp2_with fail
                    go_at_call 20; refine HHS.out.mono ?_; rintro e w5 ⟨rfl, rfl⟩
                    clear HHS
                    go_wp2_with fail
                    go_at_call 44; refine (deps_any _ len cap n xs d wr HH.out.nodes (by omega) HFI.out.few HFI.out.nodup HOD.out HFI.out.lines).mono ?_; rintro e w6 hD6
                    obtain ⟨mo, ⟨a7, c7, rfl, hR6, hB6⟩, hr6, hm6, -, hml⟩ := deps_row HFI.out hD6
                    have HA6 := Lib.hid (HH.out.step hB6)
                    have HR6 := Lib.hid hR6
                    have HMO := Lib.hid (show ∀ k ∈ mo, inB k rd = true from fun k hk => by
                      have h := (hm6 k).1 hk
                      exact inB_iff.2 ((HM3.out k).2 ⟨rc_trans HRD.out (dp_rc HDP.out h.1), res_name h.2.2⟩))
                    clear hD6 hR6 hB6 hr6 hm6 HH
                    go_wp2_with fail
                    go_loopw [11] (fun i wr => ∃ m : Nat, m ≤ mo.length ∧ i = .int .i64 m ∧ Hid (AW n xs (some ⟨b0, off, none⟩) len rd a5 dp (some ⟨b1, off1, none⟩) w wr) ∧ Hid (StrRow wr a7 mo.length mo)) (fun i _ => mo.length - (intOf i).toNat)
                    case atStart => exact ⟨0, by omega, rfl, HA6, HR6⟩
                    case round =>
                      clear HA6 HR6 hc1
                      obtain ⟨m, hm, rfl, hH, hR⟩ := hrel
                      rename World => wr
                      have HH := Lib.hid hH.out
                      have HR := Lib.hid hR.out
                      clear hH hR
                      by_cases hlt3 : m < mo.length
                      · obtain ⟨b2, off2, q, e2, hb2, hc2, hq, hokq⟩ := str_at HR.out hlt3
                        subst e2
                        have HHS := Lib.hid (rhas_any a5 rd.length c5 rd q wr HH.out.reads)
                        rw [HMO.out q (List.mem_of_getElem? hq)] at HHS
                        clear hq hb2 hokq
                        go_wp2_with fail
                        go_at_call 20; refine HHS.out.mono ?_; rintro e w5 ⟨rfl, rfl⟩
                        clear HHS
                        go_wp2_with fail
                        go_roundw
                        case rel => exact ⟨m + 1, by omega, by go_num, HH, HR⟩
                        case measure => simp [intOf]; omega
                      · go_wp2_with fail
                        go_roundw
                        case rel => exact ⟨k + 1, by omega, by go_num, HH⟩
                        case measure => simp [intOf]; omega
                  · go_wp2_with fail
                    go_roundw
                    case rel => exact ⟨i + 1, by omega, by go_num, Lib.hid ⟨HH.out.below, HH.out.nodes, str0 _⟩⟩
                    case measure => simp [intOf]; omega
          · go_wp2_with fail
            go_at_call 34; refine (awake_any _).mono ?_; rintro e w9 ⟨rfl, hB9⟩
            have HB9 := Lib.hid (below_step HH.out.below hB9)
            clear hB9
            go_wp2_with fail
            go_ret
            exact ⟨rfl, HB9.out⟩
end Go.Proofs.Ytdlcpnpmmmpccaa.Gr
