/- WALK of plain. -/
import Derived.Test.YtngikbimlhoigaaDoorXi

namespace Go.Proofs.YtngikbimlhoigaaDoor
open Go.RowKit
set_option maxRecDepth 100000 in
set_option maxHeartbeats 16000000 in
theorem plain_step (n : Nat) (ih : ∀ (W : World) (h : Hd) (y : Ex), InX W n h y → Slim n y → Calls Tryd.prog 22 #[h.agg] W (CopyP W n y)) (w : World) (h : Hd) (x : Ex) (hx : InX w (n + 1) h x) (hs : Slim (n + 1) x) : Calls Tryd.prog 22 #[h.agg] w (CopyP w (n + 1) x) := by
  obtain ⟨op, nn, s, p, pl, pc, q, ql, qc, o, k, kl, kc⟩ := h
  obtain ⟨xop, xn, xs, pa, ps, xo, ks⟩ := x
  obtain ⟨h1, h2, h3, h4, hz, hpa, hps, hks⟩ := hx
  dsimp only at h1 h2 h3 h4 hpa hps hks
  subst h1 h2 h3 h4
  obtain rfl := hpa.count
  obtain rfl := hps.count
  obtain rfl := hks.count
  have HPA := Lib.hid hpa
  have HPS := Lib.hid hps
  have HKS := Lib.hid hks
  have HSL := Lib.hid hs
  have HZ := Lib.hid hz
  have IH := Lib.hid ih
  clear hpa hps hks hs hz ih
  unfold Hd.agg
  dsimp only
  go_enter Tryd.func22, Tryd.ntmps22
  go_upto_region 3 with fail
  obtain ⟨A5, hA5⟩ : ∃ A5 : World, ((w.alloc (.cells #[.int .i64 op, .int .i64 nn, .string s, .slice p pa.length pc, .slice q ps.length qc, .bool o, .slice k ks.length kc] 26)).alloc (.cells #[.int .i64 0, .int .i64 0, .string ⟨#[]⟩, .slice none 0 0, .slice none 0 0, .bool false, .slice none 0 0] 26)).alloc (.cells #[.int .i64 op, .int .i64 nn, .string s, .slice none 0 0, .slice none 0 0, .bool o, .slice none 0 0] 26) = A5 := ⟨_, rfl⟩
  have hz5 : A5.heap.size = w.heap.size + 3 := by rw [← hA5]; simp
  have hb5 : Below w.heap.size w A5 := by rw [← hA5]; exact below_alloc (below_alloc (below_alloc (Below.refl _ _) _) _) _
  have hx5 : BoxH A5 w.heap.size ⟨op, nn, s, p, pa.length, pc, q, ps.length, qc, o, k, ks.length, kc⟩ := by rw [← hA5]; exact (Below.heap_alloc _ _ _ (by simp; omega)).trans ((Below.heap_alloc _ _ _ (by simp)).trans (World.alloc_heap_new w _))
  have hr5 : BoxH A5 (w.heap.size + 1) hd0 := by rw [← hA5]; exact (Below.heap_alloc _ _ _ (by simp)).trans (heap_new1 w _ _)
  have ho5 : BoxH A5 (w.heap.size + 2) ⟨op, nn, s, none, 0, 0, none, 0, 0, o, none, 0, 0⟩ := by rw [← hA5]; have := World.alloc_heap_new ((w.alloc (.cells #[.int .i64 op, .int .i64 nn, .string s, .slice p pa.length pc, .slice q ps.length qc, .bool o, .slice k ks.length kc] 26)).alloc (.cells #[.int .i64 0, .int .i64 0, .string ⟨#[]⟩, .slice none 0 0, .slice none 0 0, .bool false, .slice none 0 0] 26)) (.cells #[.int .i64 op, .int .i64 nn, .string s, .slice none 0 0, .slice none 0 0, .bool o, .slice none 0 0] 26); rw [show ((w.alloc (.cells #[.int .i64 op, .int .i64 nn, .string s, .slice p pa.length pc, .slice q ps.length qc, .bool o, .slice k ks.length kc] 26)).alloc (.cells #[.int .i64 0, .int .i64 0, .string ⟨#[]⟩, .slice none 0 0, .slice none 0 0, .bool false, .slice none 0 0] 26)).heap.size = w.heap.size + 2 by simp] at this; exact this
  obtain ⟨t1, k1, A6, hrun, hb6, hp6⟩ := path_append w A5 pc HPA.out HSL.out.1 hb5
  have HPI := Lib.hid (pi_begin (n := n) (h := ⟨op, nn, s, p, pa.length, pc, q, ps.length, qc, o, k, ks.length, kc⟩) (k1 := k1) hb5 (Nat.le_of_eq hz5.symm) hx5 hr5 ho5 hb6 hp6)
  have HRUN := Lib.hid hrun
  obtain ⟨d0, d1, d2, d3, d4, d5, d6⟩ := hx5.cells
  obtain ⟨e0, e1, e2, e3, e4, e5, e6⟩ := ho5.cells
  obtain ⟨f0, f1, f2, f3, f4, f5, f6⟩ := (show BoxH A6 (w.heap.size + 2) _ from (hb6.block _ ho5.lt).trans ho5).cells
  have ff := (show BoxH A6 (w.heap.size + 2) _ from (hb6.block _ ho5.lt).trans ho5).frozen 3
  dsimp only at d3 e3 f3
  simp only [Nat.zero_add] at d3 e3 f3
  rw [hA5, show w.heap.size + 1 + 1 = w.heap.size + 2 from rfl]
  clear hrun hb6 hp6 d0 d1 d2 d4 d5 d6 e0 e1 e2 e4 e5 e6 f0 f1 f2 f4 f5 f6 hA5 ho5 hx5 hr5 hb5 hz5
  go_wp2_with (at_builtin; refine Lib.wpList_append_run _ rfl _ _ _ _ rfl _ _ rfl rfl _ _ HRUN.out ?_)
  clear HRUN d3 e3 f3 ff
  have HST : Hid (PRp w n ⟨op, nn, s, p, pa.length, pc, q, ps.length, qc, o, k, ks.length, kc⟩ pa t1 k1 ps 0 _) := Lib.hid ⟨_, _, _, HPI.out, rfl⟩
  clear HPI
  go_loopw [4] (fun i wr => ∃ j : Nat, j ≤ ps.length ∧ i = .int .i64 j ∧ Hid (PRp w n ⟨op, nn, s, p, pa.length, pc, q, ps.length, qc, o, k, ks.length, kc⟩ pa t1 k1 ps j wr)) (fun i _ => ps.length - (intOf i).toNat)
  case atStart => exact ⟨0, Nat.zero_le _, rfl, HST⟩
  case round =>
    clear HST
    obtain ⟨j, hj, rfl, hC⟩ := hrel
    rename World => wr
    by_cases hlt : j < ps.length
    · have hki : (j : Int) < (ps.length : Int) := by omega
      have hk0 : (0 : Int) ≤ (j : Int) := by omega
      obtain ⟨av, cv, LP, hPI, hLP⟩ := hC.out
      obtain ⟨b, off, y, rfl, lt1, hnz, hn, hy, hI⟩ := HPS.out.at_ j hlt
      obtain ⟨nm, hnm⟩ : ∃ nm, ps[j].1 = nm := ⟨_, rfl⟩
      rw [hnm] at hn hnz
      obtain ⟨ye, hye⟩ : ∃ ye, ps[j].2 = ye := ⟨_, rfl⟩
      have hslim : Slim n ps[j].2 := HSL.out.2.2.2.1 j hlt
      have HLen := Lib.hid (show LP.length = j by have := congrArg List.length hLP; simpa [Nat.min_eq_left (Nat.le_of_lt hlt)] using this)
      rw [hye] at hI hslim
      obtain ⟨op4, nn4, s4, p4, pl4, pc4, q4, ql4, qc4, o4, k4, kl4, kc4⟩ := y
      have HYE := Lib.hid hye
      have HI := Lib.hid (And.intro hI hslim)
      have HC := Lib.hid hPI
      have HLX := Lib.hid hLP
      have HNM := Lib.hid (And.intro hnm (And.intro hnz hn))
      have HY := Lib.hid hy
      obtain ⟨d0, d1, d2, d3, d4, d5, d6⟩ := hPI.box.cells
      dsimp only at d4 d6
      simp only [Nat.zero_add] at d4 d6
      clear hye hI hslim hPI hC hy d0 d1 d2 d3 d5 hnm hnz hn hLP
      go_upto_region 7 with fail
      obtain ⟨wd, hwd⟩ : ∃ wd : World, wd = { wr with drawn := wr.drawn + 1 } := ⟨_, rfl⟩
      have hd0 : Below wr.heap.size wr wd := by rw [hwd]; exact (Below.refl _ _).drew
      have HCd := Lib.hid (HC.out.step hd0)
      have hS0 : Below w.heap.size w wd ∧ BoxH wd w.heap.size ⟨op, nn, s, p, pa.length, pc, some ⟨b, off, none⟩, ps.length, qc, o, k, ks.length, kc⟩ := ⟨HCd.out.low, HCd.out.box⟩
      refine wp_region_held (S := fun X => Below w.heap.size w X ∧ BoxH X w.heap.size ⟨op, nn, s, p, pa.length, pc, some ⟨b, off, none⟩, ps.length, qc, o, k, ks.length, kc⟩) (by kernel_rfl) ?_
      rw [← hwd]
      clear hwd d4 d6 hd0
      refine take_at' (i := 0) 23 (v := .pointer (some ⟨w.heap.size + 2, 4, none⟩)) rfl rfl (by kernel_rfl) (by kernel_rfl) (by kernel_rfl) (fun _ _ _ h => h) (Or.inl ⟨by rfl, fun w' hS => (by go_simp)⟩) hS0 ?_
      simp only [List.setIfInBounds_toArray, List.set_cons_succ, List.set_cons_zero]
      refine take_at' (i := 2) 25 (v := .pointer (some ⟨w.heap.size, 4, none⟩)) rfl rfl (by kernel_rfl) (by kernel_rfl) (by kernel_rfl) (fun _ _ _ h => h) (Or.inl ⟨by rfl, fun w' hS => (by go_simp)⟩) hS0 ?_
      simp only [List.setIfInBounds_toArray, List.set_cons_succ, List.set_cons_zero]
      refine take_at' (i := 3) 26 (v := .slice (some ⟨b, off, none⟩) ps.length qc) rfl rfl (by kernel_rfl) (by kernel_rfl) (by kernel_rfl) (fun _ _ _ h => h) (Or.inl ⟨by rfl, fun w' hS => (by obtain ⟨-, -, -, -, d4, -, d6⟩ := hS.2.cells; dsimp only at d4 d6; simp only [Nat.zero_add] at d4 d6; go_simp)⟩) hS0 ?_
      simp only [List.setIfInBounds_toArray, List.set_cons_succ, List.set_cons_zero]
      refine take_at' (i := 4) 27 (v := .int .i64 j) rfl rfl (by kernel_rfl) (by kernel_rfl) (by kernel_rfl) (fun _ _ _ h => h) (Or.inl ⟨by rfl, fun w' hS => (by go_simp)⟩) hS0 ?_
      simp only [List.setIfInBounds_toArray, List.set_cons_succ, List.set_cons_zero]
      refine take_at' (i := 5) 28 (v := .pointer (some ⟨b, off + j * 8, none⟩)) rfl rfl (by kernel_rfl) (by kernel_rfl) (by kernel_rfl) (fun _ _ _ h => h) (Or.inl ⟨by rfl, fun w' hS => (by go_simp)⟩) hS0 ?_
      simp only [List.setIfInBounds_toArray, List.set_cons_succ, List.set_cons_zero]
      refine take_at' (i := 6) 29 (v := .pointer (some ⟨b, off + j * 8, none⟩)) rfl rfl (by kernel_rfl) (by kernel_rfl) (by kernel_rfl) (fun _ _ _ h => h) (Or.inl ⟨by rfl, fun w' hS => (by go_simp)⟩) hS0 ?_
      simp only [List.setIfInBounds_toArray, List.set_cons_succ, List.set_cons_zero]
      refine take_at' (i := 7) 30 (v := .string nm) rfl rfl (by kernel_rfl) (by kernel_rfl) (by kernel_rfl) (fun _ _ _ h => h) (Or.inl ⟨by rfl, fun w' hS => (by have u0 := (hS.1.cell (p := ⟨b, off + j * 8, none⟩) lt1).trans HNM.out.2.2; go_simp)⟩) hS0 ?_
      simp only [List.setIfInBounds_toArray, List.set_cons_succ, List.set_cons_zero]
      refine take_at' (i := 8) 31 (v := .pointer (some ⟨w.heap.size, 4, none⟩)) rfl rfl (by kernel_rfl) (by kernel_rfl) (by kernel_rfl) (fun _ _ _ h => h) (Or.inl ⟨by rfl, fun w' hS => (by go_simp)⟩) hS0 ?_
      simp only [List.setIfInBounds_toArray, List.set_cons_succ, List.set_cons_zero]
      refine take_at' (i := 9) 32 (v := .slice (some ⟨b, off, none⟩) ps.length qc) rfl rfl (by kernel_rfl) (by kernel_rfl) (by kernel_rfl) (fun _ _ _ h => h) (Or.inl ⟨by rfl, fun w' hS => (by obtain ⟨-, -, -, -, d4, -, d6⟩ := hS.2.cells; dsimp only at d4 d6; simp only [Nat.zero_add] at d4 d6; go_simp)⟩) hS0 ?_
      simp only [List.setIfInBounds_toArray, List.set_cons_succ, List.set_cons_zero]
      refine take_at' (i := 10) 33 (v := .int .i64 j) rfl rfl (by kernel_rfl) (by kernel_rfl) (by kernel_rfl) (fun _ _ _ h => h) (Or.inl ⟨by rfl, fun w' hS => (by go_simp)⟩) hS0 ?_
      simp only [List.setIfInBounds_toArray, List.set_cons_succ, List.set_cons_zero]
      refine take_at' (i := 11) 34 (v := .pointer (some ⟨b, off + j * 8, none⟩)) rfl rfl (by kernel_rfl) (by kernel_rfl) (by kernel_rfl) (fun _ _ _ h => h) (Or.inl ⟨by rfl, fun w' hS => (by go_simp)⟩) hS0 ?_
      simp only [List.setIfInBounds_toArray, List.set_cons_succ, List.set_cons_zero]
      refine take_at' (i := 12) 35 (v := .pointer (some ⟨b, off + j * 8 + 1, none⟩)) rfl rfl (by kernel_rfl) (by kernel_rfl) (by kernel_rfl) (fun _ _ _ h => h) (Or.inl ⟨by rfl, fun w' hS => (by go_simp)⟩) hS0 ?_
      simp only [List.setIfInBounds_toArray, List.set_cons_succ, List.set_cons_zero]
      refine take_at' (i := 13) 36 (v := .agg #[.int .i64 op4, .int .i64 nn4, .string s4, .slice p4 pl4 pc4, .slice q4 ql4 qc4, .bool o4, .slice k4 kl4 kc4]) rfl rfl (by kernel_rfl) (by kernel_rfl) (by kernel_rfl) (fun _ _ _ h => h) (Or.inl ⟨by rfl, fun w' hS => (by obtain ⟨a0, a1, a2, a3, a4, a5, a6⟩ := HY.out; dsimp only at a0 a1 a2 a3 a4 a5 a6; have b0 := (hS.1.cell lt1).trans a0; have b1 := (hS.1.cell lt1).trans a1; have b2 := (hS.1.cell lt1).trans a2; have b3 := (hS.1.cell lt1).trans a3; have b4 := (hS.1.cell lt1).trans a4; have b5 := (hS.1.cell lt1).trans a5; have b6 := (hS.1.cell lt1).trans a6; go_simp)⟩) hS0 ?_
      simp only [List.setIfInBounds_toArray, List.set_cons_succ, List.set_cons_zero]
      refine wpAnyH_all (rs := [1, 14]) (by kernel_rfl) (by simp) ?_
      intro i hi
      have hi2 : i = 1 ∨ i = 14 := by simpa using hi
      rcases hi2 with rfl | rfl
      · refine value_at 24 (v := .slice av LP.length cv) (w' := wd) rfl rfl rfl (by obtain ⟨-, -, -, -, d4, -, d6⟩ := HCd.out.out.cells; dsimp only at d4 d6; simp only [Nat.zero_add] at d4 d6; go_simp) ⟨hS0, ?_⟩
        simp only [List.setIfInBounds_toArray, List.set_cons_succ, List.set_cons_zero]
        refine wpAnyH_all (rs := [14]) (by kernel_rfl) (by simp) ?_
        intro i hi
        obtain rfl : i = 14 := by simpa using hi
        refine call_at 37 (f := 22) (args := #[.agg #[.int .i64 op4, .int .i64 nn4, .string s4, .slice p4 pl4 pc4, .slice q4 ql4 qc4, .bool o4, .slice k4 kl4 kc4]]) (w' := wd) rfl rfl rfl (by go_simp) ((IH.out wd ⟨op4, nn4, s4, p4, pl4, pc4, q4, ql4, qc4, o4, k4, kl4, kc4⟩ ye (HI.out.1.below HCd.out.low) HI.out.2).mono ?_)
        rintro e Zn ⟨⟨op5, nn5, s5, p5, pl5, pc5, q5, ql5, qc5, o5, k5, kl5, kc5⟩, rfl, hB, hO⟩
        have HCn := Lib.hid (HCd.out.step hB)
        have HON := Lib.hid (HCd.out.fresh hO)
        have hSn : Below w.heap.size w Zn ∧ BoxH Zn w.heap.size ⟨op, nn, s, p, pa.length, pc, some ⟨b, off, none⟩, ps.length, qc, o, k, ks.length, kc⟩ := ⟨HCn.out.low, HCn.out.box⟩
        clear hB hO
        unfold Hd.agg
        dsimp only
        refine ⟨_, rfl, hSn, ?_⟩
        simp only [List.setIfInBounds_toArray, List.set_cons_succ, List.set_cons_zero]
        refine wpAnyH_all (rs := [15]) (by kernel_rfl) (by simp) ?_
        intro i hi
        obtain rfl : i = 15 := by simpa using hi
        refine value_at 38 (v := .agg #[.string nm, .int .i64 op5, .int .i64 nn5, .string s5, .slice p5 pl5 pc5, .slice q5 ql5 qc5, .bool o5, .slice k5 kl5 kc5]) (w' := Zn) rfl rfl rfl (by go_simp) ⟨hSn, ?_⟩
        simp only [List.setIfInBounds_toArray, List.set_cons_succ, List.set_cons_zero]
        refine wpAnyH_all (rs := [16]) (by kernel_rfl) (by simp) ?_
        intro i hi
        obtain rfl : i = 16 := by simpa using hi
        obtain ⟨Zm, hZm⟩ : ∃ Zm, Zn.alloc (.cells #[.string nm, .int .i64 op5, .int .i64 nn5, .string s5, .slice p5 pl5 pc5, .slice q5 ql5 qc5, .bool o5, .slice k5 kl5 kc5] 51) = Zm := ⟨_, rfl⟩
        have hbm : Below Zn.heap.size Zn Zm := by rw [← hZm]; exact below_alloc (Below.refl _ _) _
        have hzm : Zm.heap.size = Zn.heap.size + 1 := by rw [← hZm]; simp
        have hnew : Zm.heap[Zn.heap.size]? = some (.cells #[.string nm, .int .i64 op5, .int .i64 nn5, .string s5, .slice p5 pl5 pc5, .slice q5 ql5 qc5, .bool o5, .slice k5 kl5 kc5] 51) := by rw [← hZm]; exact World.alloc_heap_new _ _
        have HCm := Lib.hid (HCn.out.step hbm)
        have HOM := Lib.hid (HON.out.keep (apart_of hbm))
        have hSm : Below w.heap.size w Zm ∧ BoxH Zm w.heap.size ⟨op, nn, s, p, pa.length, pc, some ⟨b, off, none⟩, ps.length, qc, o, k, ks.length, kc⟩ := ⟨HCm.out.low, HCm.out.box⟩
        refine value_at 39 (v := .slice (some ⟨Zn.heap.size, 0, none⟩) 1 1) (w' := Zn.alloc (.cells #[.string nm, .int .i64 op5, .int .i64 nn5, .string s5, .slice p5 pl5 pc5, .slice q5 ql5 qc5, .bool o5, .slice k5 kl5 kc5] 51)) rfl rfl rfl (by go_simp) ⟨by rw [hZm]; exact hSm, ?_⟩
        simp only [List.setIfInBounds_toArray, List.set_cons_succ, List.set_cons_zero]
        rw [hZm]
        clear hZm hbm
        refine wpAnyH_all (rs := [17]) (by kernel_rfl) (by simp) ?_
        intro i hi
        obtain rfl : i = 17 := by simpa using hi
        obtain ⟨i0, hi0, hz0, hz1, hz2⟩ := info_parts info51
        have hlen := HLen.out
        have hsl := HSL.out.2.1
        dsimp only [Ex.ps, Ex.ks] at hsl
        obtain ⟨v', w1, hrun, hown, hgrow, -, hat⟩ := run_append_own_at (P := Tryd.prog) (w := Zm) (w.heap.size + 3) 23 23 51 i0 _ 8 128 Tryd.underlying23 hi0 hz0 hz1 hz2 rfl (by decide) (.slice av LP.length cv) LP.length _ HCm.out.rp ⟨Zn.heap.size, 0, none⟩ 1 1 [.string nm, .int .i64 op5, .int .i64 nn5, .string s5, .slice p5 pl5 pc5, .slice q5 ql5 qc5, .bool o5, .slice k5 kl5 kc5] rfl (by intro j u hu; rw [show (⟨Zn.heap.size, 0, none⟩ : Addr).add j = ⟨Zn.heap.size, j, none⟩ by unfold Addr.add; split <;> simp_all]; exact heap_cell2 hnew (by simpa using hu)) (by intro u hu; simp at hu; rcases hu with rfl | rfl | rfl | rfl | rfl | rfl | rfl | rfl <;> rfl) (by unfold maxLen; omega) (by omega) (by have := HCm.out.size; omega)
        obtain ⟨g', cap', rfl⟩ := ownsRow_succ hown
        obtain ⟨hS1, hB1, hO1⟩ := HCm.out.grownP hgrow
        have hPI2 := HCm.out.addP (nm, ⟨op5, nn5, s5, p5, pl5, pc5, q5, ql5, qc5, o5, k5, kl5, kc5⟩, ye) hown hgrow hat HNM.out.2.1 HOM.out
        obtain ⟨W5, hW5⟩ : ∃ W5, w1.setCell ⟨w.heap.size + 2, 4, none⟩ (.slice (some ⟨g', 0, none⟩) (LP.length + 1) cap') = W5 := ⟨_, rfl⟩
        rw [hW5] at hPI2
        obtain ⟨nL, hnL⟩ : ∃ nL, LP.length + 1 = nL := ⟨_, rfl⟩
        rw [hnL] at hrun hW5
        have HNX := Lib.hid (show PRp w n ⟨op, nn, s, p, pa.length, pc, some ⟨b, off, none⟩, ps.length, qc, o, k, ks.length, kc⟩ pa t1 k1 ps (j + 1) W5 from ⟨_, _, _, hPI2, by rw [List.map_append, HLX.out, List.take_succ_eq_append_getElem hlt, ← HYE.out, ← HNM.out.1]; rfl⟩)
        have HRUN := Lib.hid hrun
        have hS5 : Below w.heap.size w W5 ∧ BoxH W5 w.heap.size ⟨op, nn, s, p, pa.length, pc, some ⟨b, off, none⟩, ps.length, qc, o, k, ks.length, kc⟩ := ⟨hPI2.low, hPI2.box⟩
        have HW5 := Lib.hid hW5
        clear hrun hown hgrow hat hnL hW5 hlen hsl hi0 hz0 hz1 hz2 hPI2
        refine value_at 40 (v := .slice (some ⟨g', 0, none⟩) nL cap') (w' := w1) rfl rfl rfl (append_run rfl rfl rfl HRUN.out) ⟨⟨hS1, hB1⟩, ?_⟩
        simp only [List.setIfInBounds_toArray, List.set_cons_succ, List.set_cons_zero]
        refine wpAnyH_all (rs := [18]) (by kernel_rfl) (by simp) ?_
        intro i hi
        obtain rfl : i = 18 := by simpa using hi
        refine value_at 41 (v := .pointer (some ⟨w.heap.size + 2, 4, none⟩)) (w' := w1) rfl rfl rfl (by go_simp) ⟨⟨hS1, hB1⟩, ?_⟩
        simp only [List.setIfInBounds_toArray, List.set_cons_succ, List.set_cons_zero]
        refine wpAnyH_all (rs := [19]) (by kernel_rfl) (by simp) ?_
        intro i hi
        obtain rfl : i = 19 := by simpa using hi
        refine skip_at (w' := w1.setCell ⟨w.heap.size + 2, 4, none⟩ (.slice (some ⟨g', 0, none⟩) nL cap')) rfl rfl rfl (by obtain ⟨-, -, -, -, d4, -, d6⟩ := hO1.cells; dsimp only at d4 d6; simp only [Nat.zero_add] at d4 d6; have ff := hO1.frozen 4; go_simp) ⟨by rw [HW5.out]; exact hS5, ?_⟩
        rw [HW5.out]
        clear hO1 hS1 hB1
        refine wpAnyH_done (by kernel_rfl) ?_ _
        clear hS5 hS0 hSn hSm hnew hzm
        have hmx := HPS.out.max
        go_wp2_with fail
        go_roundw
        case rel => exact ⟨j + 1, by omega, by go_num, HNX⟩
        case measure => simp [intOf]; omega
      · refine call_at 37 (f := 22) (args := #[.agg #[.int .i64 op4, .int .i64 nn4, .string s4, .slice p4 pl4 pc4, .slice q4 ql4 qc4, .bool o4, .slice k4 kl4 kc4]]) (w' := wd) rfl rfl rfl (by go_simp) ((IH.out wd ⟨op4, nn4, s4, p4, pl4, pc4, q4, ql4, qc4, o4, k4, kl4, kc4⟩ ye (HI.out.1.below HCd.out.low) HI.out.2).mono ?_)
        rintro e Zn ⟨⟨op5, nn5, s5, p5, pl5, pc5, q5, ql5, qc5, o5, k5, kl5, kc5⟩, rfl, hB, hO⟩
        have HCn := Lib.hid (HCd.out.step hB)
        have HON := Lib.hid (HCd.out.fresh hO)
        have hSn : Below w.heap.size w Zn ∧ BoxH Zn w.heap.size ⟨op, nn, s, p, pa.length, pc, some ⟨b, off, none⟩, ps.length, qc, o, k, ks.length, kc⟩ := ⟨HCn.out.low, HCn.out.box⟩
        clear hB hO
        unfold Hd.agg
        dsimp only
        refine ⟨_, rfl, hSn, ?_⟩
        simp only [List.setIfInBounds_toArray, List.set_cons_succ, List.set_cons_zero]
        refine wpAnyH_all (rs := [1, 15]) (by kernel_rfl) (by simp) ?_
        intro i hi
        have hi2 : i = 1 ∨ i = 15 := by simpa using hi
        rcases hi2 with rfl | rfl
        · refine value_at 24 (v := .slice av LP.length cv) (w' := Zn) rfl rfl rfl (by obtain ⟨-, -, -, -, d4, -, d6⟩ := HCn.out.out.cells; dsimp only at d4 d6; simp only [Nat.zero_add] at d4 d6; go_simp) ⟨hSn, ?_⟩
          simp only [List.setIfInBounds_toArray, List.set_cons_succ, List.set_cons_zero]
          refine wpAnyH_all (rs := [15]) (by kernel_rfl) (by simp) ?_
          intro i hi
          obtain rfl : i = 15 := by simpa using hi
          refine value_at 38 (v := .agg #[.string nm, .int .i64 op5, .int .i64 nn5, .string s5, .slice p5 pl5 pc5, .slice q5 ql5 qc5, .bool o5, .slice k5 kl5 kc5]) (w' := Zn) rfl rfl rfl (by go_simp) ⟨hSn, ?_⟩
          simp only [List.setIfInBounds_toArray, List.set_cons_succ, List.set_cons_zero]
          refine wpAnyH_all (rs := [16]) (by kernel_rfl) (by simp) ?_
          intro i hi
          obtain rfl : i = 16 := by simpa using hi
          obtain ⟨Zm, hZm⟩ : ∃ Zm, Zn.alloc (.cells #[.string nm, .int .i64 op5, .int .i64 nn5, .string s5, .slice p5 pl5 pc5, .slice q5 ql5 qc5, .bool o5, .slice k5 kl5 kc5] 51) = Zm := ⟨_, rfl⟩
          have hbm : Below Zn.heap.size Zn Zm := by rw [← hZm]; exact below_alloc (Below.refl _ _) _
          have hzm : Zm.heap.size = Zn.heap.size + 1 := by rw [← hZm]; simp
          have hnew : Zm.heap[Zn.heap.size]? = some (.cells #[.string nm, .int .i64 op5, .int .i64 nn5, .string s5, .slice p5 pl5 pc5, .slice q5 ql5 qc5, .bool o5, .slice k5 kl5 kc5] 51) := by rw [← hZm]; exact World.alloc_heap_new _ _
          have HCm := Lib.hid (HCn.out.step hbm)
          have HOM := Lib.hid (HON.out.keep (apart_of hbm))
          have hSm : Below w.heap.size w Zm ∧ BoxH Zm w.heap.size ⟨op, nn, s, p, pa.length, pc, some ⟨b, off, none⟩, ps.length, qc, o, k, ks.length, kc⟩ := ⟨HCm.out.low, HCm.out.box⟩
          refine value_at 39 (v := .slice (some ⟨Zn.heap.size, 0, none⟩) 1 1) (w' := Zn.alloc (.cells #[.string nm, .int .i64 op5, .int .i64 nn5, .string s5, .slice p5 pl5 pc5, .slice q5 ql5 qc5, .bool o5, .slice k5 kl5 kc5] 51)) rfl rfl rfl (by go_simp) ⟨by rw [hZm]; exact hSm, ?_⟩
          simp only [List.setIfInBounds_toArray, List.set_cons_succ, List.set_cons_zero]
          rw [hZm]
          clear hZm hbm
          refine wpAnyH_all (rs := [17]) (by kernel_rfl) (by simp) ?_
          intro i hi
          obtain rfl : i = 17 := by simpa using hi
          obtain ⟨i0, hi0, hz0, hz1, hz2⟩ := info_parts info51
          have hlen := HLen.out
          have hsl := HSL.out.2.1
          dsimp only [Ex.ps, Ex.ks] at hsl
          obtain ⟨v', w1, hrun, hown, hgrow, -, hat⟩ := run_append_own_at (P := Tryd.prog) (w := Zm) (w.heap.size + 3) 23 23 51 i0 _ 8 128 Tryd.underlying23 hi0 hz0 hz1 hz2 rfl (by decide) (.slice av LP.length cv) LP.length _ HCm.out.rp ⟨Zn.heap.size, 0, none⟩ 1 1 [.string nm, .int .i64 op5, .int .i64 nn5, .string s5, .slice p5 pl5 pc5, .slice q5 ql5 qc5, .bool o5, .slice k5 kl5 kc5] rfl (by intro j u hu; rw [show (⟨Zn.heap.size, 0, none⟩ : Addr).add j = ⟨Zn.heap.size, j, none⟩ by unfold Addr.add; split <;> simp_all]; exact heap_cell2 hnew (by simpa using hu)) (by intro u hu; simp at hu; rcases hu with rfl | rfl | rfl | rfl | rfl | rfl | rfl | rfl <;> rfl) (by unfold maxLen; omega) (by omega) (by have := HCm.out.size; omega)
          obtain ⟨g', cap', rfl⟩ := ownsRow_succ hown
          obtain ⟨hS1, hB1, hO1⟩ := HCm.out.grownP hgrow
          have hPI2 := HCm.out.addP (nm, ⟨op5, nn5, s5, p5, pl5, pc5, q5, ql5, qc5, o5, k5, kl5, kc5⟩, ye) hown hgrow hat HNM.out.2.1 HOM.out
          obtain ⟨W5, hW5⟩ : ∃ W5, w1.setCell ⟨w.heap.size + 2, 4, none⟩ (.slice (some ⟨g', 0, none⟩) (LP.length + 1) cap') = W5 := ⟨_, rfl⟩
          rw [hW5] at hPI2
          obtain ⟨nL, hnL⟩ : ∃ nL, LP.length + 1 = nL := ⟨_, rfl⟩
          rw [hnL] at hrun hW5
          have HNX := Lib.hid (show PRp w n ⟨op, nn, s, p, pa.length, pc, some ⟨b, off, none⟩, ps.length, qc, o, k, ks.length, kc⟩ pa t1 k1 ps (j + 1) W5 from ⟨_, _, _, hPI2, by rw [List.map_append, HLX.out, List.take_succ_eq_append_getElem hlt, ← HYE.out, ← HNM.out.1]; rfl⟩)
          have HRUN := Lib.hid hrun
          have hS5 : Below w.heap.size w W5 ∧ BoxH W5 w.heap.size ⟨op, nn, s, p, pa.length, pc, some ⟨b, off, none⟩, ps.length, qc, o, k, ks.length, kc⟩ := ⟨hPI2.low, hPI2.box⟩
          have HW5 := Lib.hid hW5
          clear hrun hown hgrow hat hnL hW5 hlen hsl hi0 hz0 hz1 hz2 hPI2
          refine value_at 40 (v := .slice (some ⟨g', 0, none⟩) nL cap') (w' := w1) rfl rfl rfl (append_run rfl rfl rfl HRUN.out) ⟨⟨hS1, hB1⟩, ?_⟩
          simp only [List.setIfInBounds_toArray, List.set_cons_succ, List.set_cons_zero]
          refine wpAnyH_all (rs := [18]) (by kernel_rfl) (by simp) ?_
          intro i hi
          obtain rfl : i = 18 := by simpa using hi
          refine value_at 41 (v := .pointer (some ⟨w.heap.size + 2, 4, none⟩)) (w' := w1) rfl rfl rfl (by go_simp) ⟨⟨hS1, hB1⟩, ?_⟩
          simp only [List.setIfInBounds_toArray, List.set_cons_succ, List.set_cons_zero]
          refine wpAnyH_all (rs := [19]) (by kernel_rfl) (by simp) ?_
          intro i hi
          obtain rfl : i = 19 := by simpa using hi
          refine skip_at (w' := w1.setCell ⟨w.heap.size + 2, 4, none⟩ (.slice (some ⟨g', 0, none⟩) nL cap')) rfl rfl rfl (by obtain ⟨-, -, -, -, d4, -, d6⟩ := hO1.cells; dsimp only at d4 d6; simp only [Nat.zero_add] at d4 d6; have ff := hO1.frozen 4; go_simp) ⟨by rw [HW5.out]; exact hS5, ?_⟩
          rw [HW5.out]
          clear hO1 hS1 hB1
          refine wpAnyH_done (by kernel_rfl) ?_ _
          clear hS5 hS0 hSn hSm hnew hzm
          have hmx := HPS.out.max
          go_wp2_with fail
          go_roundw
          case rel => exact ⟨j + 1, by omega, by go_num, HNX⟩
          case measure => simp [intOf]; omega
        · refine value_at 38 (v := .agg #[.string nm, .int .i64 op5, .int .i64 nn5, .string s5, .slice p5 pl5 pc5, .slice q5 ql5 qc5, .bool o5, .slice k5 kl5 kc5]) (w' := Zn) rfl rfl rfl (by go_simp) ⟨hSn, ?_⟩
          simp only [List.setIfInBounds_toArray, List.set_cons_succ, List.set_cons_zero]
          refine wpAnyH_all (rs := [1, 16]) (by kernel_rfl) (by simp) ?_
          intro i hi
          have hi2 : i = 1 ∨ i = 16 := by simpa using hi
          rcases hi2 with rfl | rfl
          · refine value_at 24 (v := .slice av LP.length cv) (w' := Zn) rfl rfl rfl (by obtain ⟨-, -, -, -, d4, -, d6⟩ := HCn.out.out.cells; dsimp only at d4 d6; simp only [Nat.zero_add] at d4 d6; go_simp) ⟨hSn, ?_⟩
            simp only [List.setIfInBounds_toArray, List.set_cons_succ, List.set_cons_zero]
            refine wpAnyH_all (rs := [16]) (by kernel_rfl) (by simp) ?_
            intro i hi
            obtain rfl : i = 16 := by simpa using hi
            obtain ⟨Zm, hZm⟩ : ∃ Zm, Zn.alloc (.cells #[.string nm, .int .i64 op5, .int .i64 nn5, .string s5, .slice p5 pl5 pc5, .slice q5 ql5 qc5, .bool o5, .slice k5 kl5 kc5] 51) = Zm := ⟨_, rfl⟩
            have hbm : Below Zn.heap.size Zn Zm := by rw [← hZm]; exact below_alloc (Below.refl _ _) _
            have hzm : Zm.heap.size = Zn.heap.size + 1 := by rw [← hZm]; simp
            have hnew : Zm.heap[Zn.heap.size]? = some (.cells #[.string nm, .int .i64 op5, .int .i64 nn5, .string s5, .slice p5 pl5 pc5, .slice q5 ql5 qc5, .bool o5, .slice k5 kl5 kc5] 51) := by rw [← hZm]; exact World.alloc_heap_new _ _
            have HCm := Lib.hid (HCn.out.step hbm)
            have HOM := Lib.hid (HON.out.keep (apart_of hbm))
            have hSm : Below w.heap.size w Zm ∧ BoxH Zm w.heap.size ⟨op, nn, s, p, pa.length, pc, some ⟨b, off, none⟩, ps.length, qc, o, k, ks.length, kc⟩ := ⟨HCm.out.low, HCm.out.box⟩
            refine value_at 39 (v := .slice (some ⟨Zn.heap.size, 0, none⟩) 1 1) (w' := Zn.alloc (.cells #[.string nm, .int .i64 op5, .int .i64 nn5, .string s5, .slice p5 pl5 pc5, .slice q5 ql5 qc5, .bool o5, .slice k5 kl5 kc5] 51)) rfl rfl rfl (by go_simp) ⟨by rw [hZm]; exact hSm, ?_⟩
            simp only [List.setIfInBounds_toArray, List.set_cons_succ, List.set_cons_zero]
            rw [hZm]
            clear hZm hbm
            refine wpAnyH_all (rs := [17]) (by kernel_rfl) (by simp) ?_
            intro i hi
            obtain rfl : i = 17 := by simpa using hi
            obtain ⟨i0, hi0, hz0, hz1, hz2⟩ := info_parts info51
            have hlen := HLen.out
            have hsl := HSL.out.2.1
            dsimp only [Ex.ps, Ex.ks] at hsl
            obtain ⟨v', w1, hrun, hown, hgrow, -, hat⟩ := run_append_own_at (P := Tryd.prog) (w := Zm) (w.heap.size + 3) 23 23 51 i0 _ 8 128 Tryd.underlying23 hi0 hz0 hz1 hz2 rfl (by decide) (.slice av LP.length cv) LP.length _ HCm.out.rp ⟨Zn.heap.size, 0, none⟩ 1 1 [.string nm, .int .i64 op5, .int .i64 nn5, .string s5, .slice p5 pl5 pc5, .slice q5 ql5 qc5, .bool o5, .slice k5 kl5 kc5] rfl (by intro j u hu; rw [show (⟨Zn.heap.size, 0, none⟩ : Addr).add j = ⟨Zn.heap.size, j, none⟩ by unfold Addr.add; split <;> simp_all]; exact heap_cell2 hnew (by simpa using hu)) (by intro u hu; simp at hu; rcases hu with rfl | rfl | rfl | rfl | rfl | rfl | rfl | rfl <;> rfl) (by unfold maxLen; omega) (by omega) (by have := HCm.out.size; omega)
            obtain ⟨g', cap', rfl⟩ := ownsRow_succ hown
            obtain ⟨hS1, hB1, hO1⟩ := HCm.out.grownP hgrow
            have hPI2 := HCm.out.addP (nm, ⟨op5, nn5, s5, p5, pl5, pc5, q5, ql5, qc5, o5, k5, kl5, kc5⟩, ye) hown hgrow hat HNM.out.2.1 HOM.out
            obtain ⟨W5, hW5⟩ : ∃ W5, w1.setCell ⟨w.heap.size + 2, 4, none⟩ (.slice (some ⟨g', 0, none⟩) (LP.length + 1) cap') = W5 := ⟨_, rfl⟩
            rw [hW5] at hPI2
            obtain ⟨nL, hnL⟩ : ∃ nL, LP.length + 1 = nL := ⟨_, rfl⟩
            rw [hnL] at hrun hW5
            have HNX := Lib.hid (show PRp w n ⟨op, nn, s, p, pa.length, pc, some ⟨b, off, none⟩, ps.length, qc, o, k, ks.length, kc⟩ pa t1 k1 ps (j + 1) W5 from ⟨_, _, _, hPI2, by rw [List.map_append, HLX.out, List.take_succ_eq_append_getElem hlt, ← HYE.out, ← HNM.out.1]; rfl⟩)
            have HRUN := Lib.hid hrun
            have hS5 : Below w.heap.size w W5 ∧ BoxH W5 w.heap.size ⟨op, nn, s, p, pa.length, pc, some ⟨b, off, none⟩, ps.length, qc, o, k, ks.length, kc⟩ := ⟨hPI2.low, hPI2.box⟩
            have HW5 := Lib.hid hW5
            clear hrun hown hgrow hat hnL hW5 hlen hsl hi0 hz0 hz1 hz2 hPI2
            refine value_at 40 (v := .slice (some ⟨g', 0, none⟩) nL cap') (w' := w1) rfl rfl rfl (append_run rfl rfl rfl HRUN.out) ⟨⟨hS1, hB1⟩, ?_⟩
            simp only [List.setIfInBounds_toArray, List.set_cons_succ, List.set_cons_zero]
            refine wpAnyH_all (rs := [18]) (by kernel_rfl) (by simp) ?_
            intro i hi
            obtain rfl : i = 18 := by simpa using hi
            refine value_at 41 (v := .pointer (some ⟨w.heap.size + 2, 4, none⟩)) (w' := w1) rfl rfl rfl (by go_simp) ⟨⟨hS1, hB1⟩, ?_⟩
            simp only [List.setIfInBounds_toArray, List.set_cons_succ, List.set_cons_zero]
            refine wpAnyH_all (rs := [19]) (by kernel_rfl) (by simp) ?_
            intro i hi
            obtain rfl : i = 19 := by simpa using hi
            refine skip_at (w' := w1.setCell ⟨w.heap.size + 2, 4, none⟩ (.slice (some ⟨g', 0, none⟩) nL cap')) rfl rfl rfl (by obtain ⟨-, -, -, -, d4, -, d6⟩ := hO1.cells; dsimp only at d4 d6; simp only [Nat.zero_add] at d4 d6; have ff := hO1.frozen 4; go_simp) ⟨by rw [HW5.out]; exact hS5, ?_⟩
            rw [HW5.out]
            clear hO1 hS1 hB1
            refine wpAnyH_done (by kernel_rfl) ?_ _
            clear hS5 hS0 hSn hSm hnew hzm
            have hmx := HPS.out.max
            go_wp2_with fail
            go_roundw
            case rel => exact ⟨j + 1, by omega, by go_num, HNX⟩
            case measure => simp [intOf]; omega
          · obtain ⟨Zm, hZm⟩ : ∃ Zm, Zn.alloc (.cells #[.string nm, .int .i64 op5, .int .i64 nn5, .string s5, .slice p5 pl5 pc5, .slice q5 ql5 qc5, .bool o5, .slice k5 kl5 kc5] 51) = Zm := ⟨_, rfl⟩
            have hbm : Below Zn.heap.size Zn Zm := by rw [← hZm]; exact below_alloc (Below.refl _ _) _
            have hzm : Zm.heap.size = Zn.heap.size + 1 := by rw [← hZm]; simp
            have hnew : Zm.heap[Zn.heap.size]? = some (.cells #[.string nm, .int .i64 op5, .int .i64 nn5, .string s5, .slice p5 pl5 pc5, .slice q5 ql5 qc5, .bool o5, .slice k5 kl5 kc5] 51) := by rw [← hZm]; exact World.alloc_heap_new _ _
            have HCm := Lib.hid (HCn.out.step hbm)
            have HOM := Lib.hid (HON.out.keep (apart_of hbm))
            have hSm : Below w.heap.size w Zm ∧ BoxH Zm w.heap.size ⟨op, nn, s, p, pa.length, pc, some ⟨b, off, none⟩, ps.length, qc, o, k, ks.length, kc⟩ := ⟨HCm.out.low, HCm.out.box⟩
            refine value_at 39 (v := .slice (some ⟨Zn.heap.size, 0, none⟩) 1 1) (w' := Zn.alloc (.cells #[.string nm, .int .i64 op5, .int .i64 nn5, .string s5, .slice p5 pl5 pc5, .slice q5 ql5 qc5, .bool o5, .slice k5 kl5 kc5] 51)) rfl rfl rfl (by go_simp) ⟨by rw [hZm]; exact hSm, ?_⟩
            simp only [List.setIfInBounds_toArray, List.set_cons_succ, List.set_cons_zero]
            rw [hZm]
            clear hZm hbm
            refine wpAnyH_all (rs := [1]) (by kernel_rfl) (by simp) ?_
            intro i hi
            obtain rfl : i = 1 := by simpa using hi
            refine value_at 24 (v := .slice av LP.length cv) (w' := Zm) rfl rfl rfl (by obtain ⟨-, -, -, -, d4, -, d6⟩ := HCm.out.out.cells; dsimp only at d4 d6; simp only [Nat.zero_add] at d4 d6; go_simp) ⟨hSm, ?_⟩
            simp only [List.setIfInBounds_toArray, List.set_cons_succ, List.set_cons_zero]
            refine wpAnyH_all (rs := [17]) (by kernel_rfl) (by simp) ?_
            intro i hi
            obtain rfl : i = 17 := by simpa using hi
            obtain ⟨i0, hi0, hz0, hz1, hz2⟩ := info_parts info51
            have hlen := HLen.out
            have hsl := HSL.out.2.1
            dsimp only [Ex.ps, Ex.ks] at hsl
            obtain ⟨v', w1, hrun, hown, hgrow, -, hat⟩ := run_append_own_at (P := Tryd.prog) (w := Zm) (w.heap.size + 3) 23 23 51 i0 _ 8 128 Tryd.underlying23 hi0 hz0 hz1 hz2 rfl (by decide) (.slice av LP.length cv) LP.length _ HCm.out.rp ⟨Zn.heap.size, 0, none⟩ 1 1 [.string nm, .int .i64 op5, .int .i64 nn5, .string s5, .slice p5 pl5 pc5, .slice q5 ql5 qc5, .bool o5, .slice k5 kl5 kc5] rfl (by intro j u hu; rw [show (⟨Zn.heap.size, 0, none⟩ : Addr).add j = ⟨Zn.heap.size, j, none⟩ by unfold Addr.add; split <;> simp_all]; exact heap_cell2 hnew (by simpa using hu)) (by intro u hu; simp at hu; rcases hu with rfl | rfl | rfl | rfl | rfl | rfl | rfl | rfl <;> rfl) (by unfold maxLen; omega) (by omega) (by have := HCm.out.size; omega)
            obtain ⟨g', cap', rfl⟩ := ownsRow_succ hown
            obtain ⟨hS1, hB1, hO1⟩ := HCm.out.grownP hgrow
            have hPI2 := HCm.out.addP (nm, ⟨op5, nn5, s5, p5, pl5, pc5, q5, ql5, qc5, o5, k5, kl5, kc5⟩, ye) hown hgrow hat HNM.out.2.1 HOM.out
            obtain ⟨W5, hW5⟩ : ∃ W5, w1.setCell ⟨w.heap.size + 2, 4, none⟩ (.slice (some ⟨g', 0, none⟩) (LP.length + 1) cap') = W5 := ⟨_, rfl⟩
            rw [hW5] at hPI2
            obtain ⟨nL, hnL⟩ : ∃ nL, LP.length + 1 = nL := ⟨_, rfl⟩
            rw [hnL] at hrun hW5
            have HNX := Lib.hid (show PRp w n ⟨op, nn, s, p, pa.length, pc, some ⟨b, off, none⟩, ps.length, qc, o, k, ks.length, kc⟩ pa t1 k1 ps (j + 1) W5 from ⟨_, _, _, hPI2, by rw [List.map_append, HLX.out, List.take_succ_eq_append_getElem hlt, ← HYE.out, ← HNM.out.1]; rfl⟩)
            have HRUN := Lib.hid hrun
            have hS5 : Below w.heap.size w W5 ∧ BoxH W5 w.heap.size ⟨op, nn, s, p, pa.length, pc, some ⟨b, off, none⟩, ps.length, qc, o, k, ks.length, kc⟩ := ⟨hPI2.low, hPI2.box⟩
            have HW5 := Lib.hid hW5
            clear hrun hown hgrow hat hnL hW5 hlen hsl hi0 hz0 hz1 hz2 hPI2
            refine value_at 40 (v := .slice (some ⟨g', 0, none⟩) nL cap') (w' := w1) rfl rfl rfl (append_run rfl rfl rfl HRUN.out) ⟨⟨hS1, hB1⟩, ?_⟩
            simp only [List.setIfInBounds_toArray, List.set_cons_succ, List.set_cons_zero]
            refine wpAnyH_all (rs := [18]) (by kernel_rfl) (by simp) ?_
            intro i hi
            obtain rfl : i = 18 := by simpa using hi
            refine value_at 41 (v := .pointer (some ⟨w.heap.size + 2, 4, none⟩)) (w' := w1) rfl rfl rfl (by go_simp) ⟨⟨hS1, hB1⟩, ?_⟩
            simp only [List.setIfInBounds_toArray, List.set_cons_succ, List.set_cons_zero]
            refine wpAnyH_all (rs := [19]) (by kernel_rfl) (by simp) ?_
            intro i hi
            obtain rfl : i = 19 := by simpa using hi
            refine skip_at (w' := w1.setCell ⟨w.heap.size + 2, 4, none⟩ (.slice (some ⟨g', 0, none⟩) nL cap')) rfl rfl rfl (by obtain ⟨-, -, -, -, d4, -, d6⟩ := hO1.cells; dsimp only at d4 d6; simp only [Nat.zero_add] at d4 d6; have ff := hO1.frozen 4; go_simp) ⟨by rw [HW5.out]; exact hS5, ?_⟩
            rw [HW5.out]
            clear hO1 hS1 hB1
            refine wpAnyH_done (by kernel_rfl) ?_ _
            clear hS5 hS0 hSn hSm hnew hzm
            have hmx := HPS.out.max
            go_wp2_with fail
            go_roundw
            case rel => exact ⟨j + 1, by omega, by go_num, HNX⟩
            case measure => simp [intOf]; omega
    · obtain rfl : j = ps.length := by omega
      clear hlt hj
      obtain ⟨av, cv, LP, hPI, hLP⟩ := hC.out
      have HST : Hid (PRk w n ⟨op, nn, s, p, pa.length, pc, q, ps.length, qc, o, k, ks.length, kc⟩ pa t1 k1 ps ks 0 _) := Lib.hid ⟨_, _, _, _, _, _, hPI, by rw [hLP, List.take_length], rfl⟩
      obtain ⟨d0, d1, d2, d3, d4, d5, d6⟩ := hPI.box.cells
      dsimp only at d4 d6
      simp only [Nat.zero_add] at d4 d6
      clear hC hPI hLP d0 d1 d2 d3 d5
      go_wp2_with fail
      clear d4 d6
      go_loopw [5] (fun i wr => ∃ j : Nat, j ≤ ks.length ∧ i = .int .i64 j ∧ Hid (PRk w n ⟨op, nn, s, p, pa.length, pc, q, ps.length, qc, o, k, ks.length, kc⟩ pa t1 k1 ps ks j wr)) (fun i _ => ks.length - (intOf i).toNat)
      case atStart => exact ⟨0, Nat.zero_le _, rfl, HST⟩
      case round =>
        clear HST
        obtain ⟨j, hj, rfl, hC⟩ := hrel
        rename World => wr
        by_cases hlt : j < ks.length
        · have hki : (j : Int) < (ks.length : Int) := by omega
          have hk0 : (0 : Int) ≤ (j : Int) := by omega
          obtain ⟨av, cv, LP, au, cu, LK, hPI, hLPs, hLK⟩ := hC.out
          obtain ⟨b, off, y, rfl, lt1, hy, hI⟩ := HKS.out.at_ j hlt
          obtain ⟨ye, hye⟩ : ∃ ye, ks[j] = ye := ⟨_, rfl⟩
          have hslim : Slim n ks[j] := HSL.out.2.2.2.2 j hlt
          have HLen := Lib.hid (show LK.length = j by have := congrArg List.length hLK; simpa [Nat.min_eq_left (Nat.le_of_lt hlt)] using this)
          have HLPs := Lib.hid hLPs
          rw [hye] at hI hslim
          obtain ⟨op4, nn4, s4, p4, pl4, pc4, q4, ql4, qc4, o4, k4, kl4, kc4⟩ := y
          have HYE := Lib.hid hye
          have HI := Lib.hid (And.intro hI hslim)
          have HC := Lib.hid hPI
          have HLX := Lib.hid hLK
          have HY := Lib.hid hy
          obtain ⟨d0, d1, d2, d3, d4, d5, d6⟩ := hPI.box.cells
          dsimp only at d4 d6
          simp only [Nat.zero_add] at d4 d6
          clear hye hI hslim hPI hC hy d0 d1 d2 d3 d5 hLK hLPs
          go_upto_region 11 with fail
          obtain ⟨wd, hwd⟩ : ∃ wd : World, wd = { wr with drawn := wr.drawn + 1 } := ⟨_, rfl⟩
          have hd0 : Below wr.heap.size wr wd := by rw [hwd]; exact (Below.refl _ _).drew
          have HCd := Lib.hid (HC.out.step hd0)
          have hS0 : Below w.heap.size w wd ∧ BoxH wd w.heap.size ⟨op, nn, s, p, pa.length, pc, q, ps.length, qc, o, some ⟨b, off, none⟩, ks.length, kc⟩ := ⟨HCd.out.low, HCd.out.box⟩
          refine wp_region_held (S := fun X => Below w.heap.size w X ∧ BoxH X w.heap.size ⟨op, nn, s, p, pa.length, pc, q, ps.length, qc, o, some ⟨b, off, none⟩, ks.length, kc⟩) (by kernel_rfl) ?_
          rw [← hwd]
          clear hwd d4 d6 hd0
          refine take_at' (i := 0) 49 (v := .pointer (some ⟨w.heap.size + 2, 6, none⟩)) rfl rfl (by kernel_rfl) (by kernel_rfl) (by kernel_rfl) (fun _ _ _ h => h) (Or.inl ⟨by rfl, fun w' hS => (by go_simp)⟩) hS0 ?_
          simp only [List.setIfInBounds_toArray, List.set_cons_succ, List.set_cons_zero]
          refine take_at' (i := 2) 51 (v := .pointer (some ⟨w.heap.size, 6, none⟩)) rfl rfl (by kernel_rfl) (by kernel_rfl) (by kernel_rfl) (fun _ _ _ h => h) (Or.inl ⟨by rfl, fun w' hS => (by go_simp)⟩) hS0 ?_
          simp only [List.setIfInBounds_toArray, List.set_cons_succ, List.set_cons_zero]
          refine take_at' (i := 3) 52 (v := .slice (some ⟨b, off, none⟩) ks.length kc) rfl rfl (by kernel_rfl) (by kernel_rfl) (by kernel_rfl) (fun _ _ _ h => h) (Or.inl ⟨by rfl, fun w' hS => (by obtain ⟨-, -, -, -, d4, -, d6⟩ := hS.2.cells; dsimp only at d4 d6; simp only [Nat.zero_add] at d4 d6; go_simp)⟩) hS0 ?_
          simp only [List.setIfInBounds_toArray, List.set_cons_succ, List.set_cons_zero]
          refine take_at' (i := 4) 53 (v := .int .i64 j) rfl rfl (by kernel_rfl) (by kernel_rfl) (by kernel_rfl) (fun _ _ _ h => h) (Or.inl ⟨by rfl, fun w' hS => (by go_simp)⟩) hS0 ?_
          simp only [List.setIfInBounds_toArray, List.set_cons_succ, List.set_cons_zero]
          refine take_at' (i := 5) 54 (v := .pointer (some ⟨b, off + j * 7, none⟩)) rfl rfl (by kernel_rfl) (by kernel_rfl) (by kernel_rfl) (fun _ _ _ h => h) (Or.inl ⟨by rfl, fun w' hS => (by go_simp)⟩) hS0 ?_
          simp only [List.setIfInBounds_toArray, List.set_cons_succ, List.set_cons_zero]
          refine take_at' (i := 6) 55 (v := .agg #[.int .i64 op4, .int .i64 nn4, .string s4, .slice p4 pl4 pc4, .slice q4 ql4 qc4, .bool o4, .slice k4 kl4 kc4]) rfl rfl (by kernel_rfl) (by kernel_rfl) (by kernel_rfl) (fun _ _ _ h => h) (Or.inl ⟨by rfl, fun w' hS => (by obtain ⟨a0, a1, a2, a3, a4, a5, a6⟩ := HY.out; dsimp only at a0 a1 a2 a3 a4 a5 a6; have b0 := (hS.1.cell lt1).trans a0; have b1 := (hS.1.cell lt1).trans a1; have b2 := (hS.1.cell lt1).trans a2; have b3 := (hS.1.cell lt1).trans a3; have b4 := (hS.1.cell lt1).trans a4; have b5 := (hS.1.cell lt1).trans a5; have b6 := (hS.1.cell lt1).trans a6; go_simp)⟩) hS0 ?_
          simp only [List.setIfInBounds_toArray, List.set_cons_succ, List.set_cons_zero]
          refine wpAnyH_all (rs := [1, 7]) (by kernel_rfl) (by simp) ?_
          intro i hi
          have hi2 : i = 1 ∨ i = 7 := by simpa using hi
          rcases hi2 with rfl | rfl
          · refine value_at 50 (v := .slice au LK.length cu) (w' := wd) rfl rfl rfl (by obtain ⟨-, -, -, -, d4, -, d6⟩ := HCd.out.out.cells; dsimp only at d4 d6; simp only [Nat.zero_add] at d4 d6; go_simp) ⟨hS0, ?_⟩
            simp only [List.setIfInBounds_toArray, List.set_cons_succ, List.set_cons_zero]
            refine wpAnyH_all (rs := [7]) (by kernel_rfl) (by simp) ?_
            intro i hi
            obtain rfl : i = 7 := by simpa using hi
            refine call_at 56 (f := 22) (args := #[.agg #[.int .i64 op4, .int .i64 nn4, .string s4, .slice p4 pl4 pc4, .slice q4 ql4 qc4, .bool o4, .slice k4 kl4 kc4]]) (w' := wd) rfl rfl rfl (by go_simp) ((IH.out wd ⟨op4, nn4, s4, p4, pl4, pc4, q4, ql4, qc4, o4, k4, kl4, kc4⟩ ye (HI.out.1.below HCd.out.low) HI.out.2).mono ?_)
            rintro e Zn ⟨⟨op5, nn5, s5, p5, pl5, pc5, q5, ql5, qc5, o5, k5, kl5, kc5⟩, rfl, hB, hO⟩
            have HCn := Lib.hid (HCd.out.step hB)
            have HON := Lib.hid (HCd.out.fresh hO)
            have hSn : Below w.heap.size w Zn ∧ BoxH Zn w.heap.size ⟨op, nn, s, p, pa.length, pc, q, ps.length, qc, o, some ⟨b, off, none⟩, ks.length, kc⟩ := ⟨HCn.out.low, HCn.out.box⟩
            clear hB hO
            unfold Hd.agg
            dsimp only
            refine ⟨_, rfl, hSn, ?_⟩
            simp only [List.setIfInBounds_toArray, List.set_cons_succ, List.set_cons_zero]
            refine wpAnyH_all (rs := [8]) (by kernel_rfl) (by simp) ?_
            intro i hi
            obtain rfl : i = 8 := by simpa using hi
            obtain ⟨Zm, hZm⟩ : ∃ Zm, Zn.alloc (.cells #[.int .i64 op5, .int .i64 nn5, .string s5, .slice p5 pl5 pc5, .slice q5 ql5 qc5, .bool o5, .slice k5 kl5 kc5] 26) = Zm := ⟨_, rfl⟩
            have hbm : Below Zn.heap.size Zn Zm := by rw [← hZm]; exact below_alloc (Below.refl _ _) _
            have hzm : Zm.heap.size = Zn.heap.size + 1 := by rw [← hZm]; simp
            have hnew : Zm.heap[Zn.heap.size]? = some (.cells #[.int .i64 op5, .int .i64 nn5, .string s5, .slice p5 pl5 pc5, .slice q5 ql5 qc5, .bool o5, .slice k5 kl5 kc5] 26) := by rw [← hZm]; exact World.alloc_heap_new _ _
            have HCm := Lib.hid (HCn.out.step hbm)
            have HOM := Lib.hid (HON.out.keep (apart_of hbm))
            have hSm : Below w.heap.size w Zm ∧ BoxH Zm w.heap.size ⟨op, nn, s, p, pa.length, pc, q, ps.length, qc, o, some ⟨b, off, none⟩, ks.length, kc⟩ := ⟨HCm.out.low, HCm.out.box⟩
            refine value_at 57 (v := .slice (some ⟨Zn.heap.size, 0, none⟩) 1 1) (w' := Zn.alloc (.cells #[.int .i64 op5, .int .i64 nn5, .string s5, .slice p5 pl5 pc5, .slice q5 ql5 qc5, .bool o5, .slice k5 kl5 kc5] 26)) rfl rfl rfl (by go_simp) ⟨by rw [hZm]; exact hSm, ?_⟩
            simp only [List.setIfInBounds_toArray, List.set_cons_succ, List.set_cons_zero]
            rw [hZm]
            clear hZm hbm
            refine wpAnyH_all (rs := [9]) (by kernel_rfl) (by simp) ?_
            intro i hi
            obtain rfl : i = 9 := by simpa using hi
            obtain ⟨i0, hi0, hz0, hz1, hz2⟩ := info_parts info26
            have hlen := HLen.out
            have hsl := HSL.out.2.2.1
            dsimp only [Ex.ps, Ex.ks] at hsl
            obtain ⟨v', w1, hrun, hown, hgrow, -, hat⟩ := run_append_own_at (P := Tryd.prog) (w := Zm) (w.heap.size + 3) 24 24 26 i0 _ 7 112 Tryd.underlying24 hi0 hz0 hz1 hz2 rfl (by decide) (.slice au LK.length cu) LK.length _ HCm.out.rk ⟨Zn.heap.size, 0, none⟩ 1 1 [.int .i64 op5, .int .i64 nn5, .string s5, .slice p5 pl5 pc5, .slice q5 ql5 qc5, .bool o5, .slice k5 kl5 kc5] rfl (by intro j u hu; rw [show (⟨Zn.heap.size, 0, none⟩ : Addr).add j = ⟨Zn.heap.size, j, none⟩ by unfold Addr.add; split <;> simp_all]; exact heap_cell2 hnew (by simpa using hu)) (by intro u hu; simp at hu; rcases hu with rfl | rfl | rfl | rfl | rfl | rfl | rfl <;> rfl) (by unfold maxLen; omega) (by omega) (by have := HCm.out.size; omega)
            obtain ⟨g', cap', rfl⟩ := ownsRow_succ hown
            obtain ⟨hS1, hB1, hO1⟩ := HCm.out.grownK hgrow
            have hPI2 := HCm.out.addK (⟨op5, nn5, s5, p5, pl5, pc5, q5, ql5, qc5, o5, k5, kl5, kc5⟩, ye) hown hgrow hat HOM.out
            obtain ⟨W5, hW5⟩ : ∃ W5, w1.setCell ⟨w.heap.size + 2, 6, none⟩ (.slice (some ⟨g', 0, none⟩) (LK.length + 1) cap') = W5 := ⟨_, rfl⟩
            rw [hW5] at hPI2
            obtain ⟨nL, hnL⟩ : ∃ nL, LK.length + 1 = nL := ⟨_, rfl⟩
            rw [hnL] at hrun hW5
            have HNX := Lib.hid (show PRk w n ⟨op, nn, s, p, pa.length, pc, q, ps.length, qc, o, some ⟨b, off, none⟩, ks.length, kc⟩ pa t1 k1 ps ks (j + 1) W5 from ⟨_, _, _, _, _, _, hPI2, HLPs.out, by rw [List.map_append, HLX.out, List.take_succ_eq_append_getElem hlt, ← HYE.out]; rfl⟩)
            have HRUN := Lib.hid hrun
            have hS5 : Below w.heap.size w W5 ∧ BoxH W5 w.heap.size ⟨op, nn, s, p, pa.length, pc, q, ps.length, qc, o, some ⟨b, off, none⟩, ks.length, kc⟩ := ⟨hPI2.low, hPI2.box⟩
            have HW5 := Lib.hid hW5
            clear hrun hown hgrow hat hnL hW5 hlen hsl hi0 hz0 hz1 hz2 hPI2
            refine value_at 58 (v := .slice (some ⟨g', 0, none⟩) nL cap') (w' := w1) rfl rfl rfl (append_run rfl rfl rfl HRUN.out) ⟨⟨hS1, hB1⟩, ?_⟩
            simp only [List.setIfInBounds_toArray, List.set_cons_succ, List.set_cons_zero]
            refine wpAnyH_all (rs := [10]) (by kernel_rfl) (by simp) ?_
            intro i hi
            obtain rfl : i = 10 := by simpa using hi
            refine value_at 59 (v := .pointer (some ⟨w.heap.size + 2, 6, none⟩)) (w' := w1) rfl rfl rfl (by go_simp) ⟨⟨hS1, hB1⟩, ?_⟩
            simp only [List.setIfInBounds_toArray, List.set_cons_succ, List.set_cons_zero]
            refine wpAnyH_all (rs := [11]) (by kernel_rfl) (by simp) ?_
            intro i hi
            obtain rfl : i = 11 := by simpa using hi
            refine skip_at (w' := w1.setCell ⟨w.heap.size + 2, 6, none⟩ (.slice (some ⟨g', 0, none⟩) nL cap')) rfl rfl rfl (by obtain ⟨-, -, -, -, d4, -, d6⟩ := hO1.cells; dsimp only at d4 d6; simp only [Nat.zero_add] at d4 d6; have ff := hO1.frozen 6; go_simp) ⟨by rw [HW5.out]; exact hS5, ?_⟩
            rw [HW5.out]
            clear hO1 hS1 hB1
            refine wpAnyH_done (by kernel_rfl) ?_ _
            clear hS5 hS0 hSn hSm hnew hzm
            have hmx := HKS.out.max
            go_wp2_with fail
            go_roundw
            case rel => exact ⟨j + 1, by omega, by go_num, HNX⟩
            case measure => simp [intOf]; omega
          · refine call_at 56 (f := 22) (args := #[.agg #[.int .i64 op4, .int .i64 nn4, .string s4, .slice p4 pl4 pc4, .slice q4 ql4 qc4, .bool o4, .slice k4 kl4 kc4]]) (w' := wd) rfl rfl rfl (by go_simp) ((IH.out wd ⟨op4, nn4, s4, p4, pl4, pc4, q4, ql4, qc4, o4, k4, kl4, kc4⟩ ye (HI.out.1.below HCd.out.low) HI.out.2).mono ?_)
            rintro e Zn ⟨⟨op5, nn5, s5, p5, pl5, pc5, q5, ql5, qc5, o5, k5, kl5, kc5⟩, rfl, hB, hO⟩
            have HCn := Lib.hid (HCd.out.step hB)
            have HON := Lib.hid (HCd.out.fresh hO)
            have hSn : Below w.heap.size w Zn ∧ BoxH Zn w.heap.size ⟨op, nn, s, p, pa.length, pc, q, ps.length, qc, o, some ⟨b, off, none⟩, ks.length, kc⟩ := ⟨HCn.out.low, HCn.out.box⟩
            clear hB hO
            unfold Hd.agg
            dsimp only
            refine ⟨_, rfl, hSn, ?_⟩
            simp only [List.setIfInBounds_toArray, List.set_cons_succ, List.set_cons_zero]
            refine wpAnyH_all (rs := [1, 8]) (by kernel_rfl) (by simp) ?_
            intro i hi
            have hi2 : i = 1 ∨ i = 8 := by simpa using hi
            rcases hi2 with rfl | rfl
            · refine value_at 50 (v := .slice au LK.length cu) (w' := Zn) rfl rfl rfl (by obtain ⟨-, -, -, -, d4, -, d6⟩ := HCn.out.out.cells; dsimp only at d4 d6; simp only [Nat.zero_add] at d4 d6; go_simp) ⟨hSn, ?_⟩
              simp only [List.setIfInBounds_toArray, List.set_cons_succ, List.set_cons_zero]
              refine wpAnyH_all (rs := [8]) (by kernel_rfl) (by simp) ?_
              intro i hi
              obtain rfl : i = 8 := by simpa using hi
              obtain ⟨Zm, hZm⟩ : ∃ Zm, Zn.alloc (.cells #[.int .i64 op5, .int .i64 nn5, .string s5, .slice p5 pl5 pc5, .slice q5 ql5 qc5, .bool o5, .slice k5 kl5 kc5] 26) = Zm := ⟨_, rfl⟩
              have hbm : Below Zn.heap.size Zn Zm := by rw [← hZm]; exact below_alloc (Below.refl _ _) _
              have hzm : Zm.heap.size = Zn.heap.size + 1 := by rw [← hZm]; simp
              have hnew : Zm.heap[Zn.heap.size]? = some (.cells #[.int .i64 op5, .int .i64 nn5, .string s5, .slice p5 pl5 pc5, .slice q5 ql5 qc5, .bool o5, .slice k5 kl5 kc5] 26) := by rw [← hZm]; exact World.alloc_heap_new _ _
              have HCm := Lib.hid (HCn.out.step hbm)
              have HOM := Lib.hid (HON.out.keep (apart_of hbm))
              have hSm : Below w.heap.size w Zm ∧ BoxH Zm w.heap.size ⟨op, nn, s, p, pa.length, pc, q, ps.length, qc, o, some ⟨b, off, none⟩, ks.length, kc⟩ := ⟨HCm.out.low, HCm.out.box⟩
              refine value_at 57 (v := .slice (some ⟨Zn.heap.size, 0, none⟩) 1 1) (w' := Zn.alloc (.cells #[.int .i64 op5, .int .i64 nn5, .string s5, .slice p5 pl5 pc5, .slice q5 ql5 qc5, .bool o5, .slice k5 kl5 kc5] 26)) rfl rfl rfl (by go_simp) ⟨by rw [hZm]; exact hSm, ?_⟩
              simp only [List.setIfInBounds_toArray, List.set_cons_succ, List.set_cons_zero]
              rw [hZm]
              clear hZm hbm
              refine wpAnyH_all (rs := [9]) (by kernel_rfl) (by simp) ?_
              intro i hi
              obtain rfl : i = 9 := by simpa using hi
              obtain ⟨i0, hi0, hz0, hz1, hz2⟩ := info_parts info26
              have hlen := HLen.out
              have hsl := HSL.out.2.2.1
              dsimp only [Ex.ps, Ex.ks] at hsl
              obtain ⟨v', w1, hrun, hown, hgrow, -, hat⟩ := run_append_own_at (P := Tryd.prog) (w := Zm) (w.heap.size + 3) 24 24 26 i0 _ 7 112 Tryd.underlying24 hi0 hz0 hz1 hz2 rfl (by decide) (.slice au LK.length cu) LK.length _ HCm.out.rk ⟨Zn.heap.size, 0, none⟩ 1 1 [.int .i64 op5, .int .i64 nn5, .string s5, .slice p5 pl5 pc5, .slice q5 ql5 qc5, .bool o5, .slice k5 kl5 kc5] rfl (by intro j u hu; rw [show (⟨Zn.heap.size, 0, none⟩ : Addr).add j = ⟨Zn.heap.size, j, none⟩ by unfold Addr.add; split <;> simp_all]; exact heap_cell2 hnew (by simpa using hu)) (by intro u hu; simp at hu; rcases hu with rfl | rfl | rfl | rfl | rfl | rfl | rfl <;> rfl) (by unfold maxLen; omega) (by omega) (by have := HCm.out.size; omega)
              obtain ⟨g', cap', rfl⟩ := ownsRow_succ hown
              obtain ⟨hS1, hB1, hO1⟩ := HCm.out.grownK hgrow
              have hPI2 := HCm.out.addK (⟨op5, nn5, s5, p5, pl5, pc5, q5, ql5, qc5, o5, k5, kl5, kc5⟩, ye) hown hgrow hat HOM.out
              obtain ⟨W5, hW5⟩ : ∃ W5, w1.setCell ⟨w.heap.size + 2, 6, none⟩ (.slice (some ⟨g', 0, none⟩) (LK.length + 1) cap') = W5 := ⟨_, rfl⟩
              rw [hW5] at hPI2
              obtain ⟨nL, hnL⟩ : ∃ nL, LK.length + 1 = nL := ⟨_, rfl⟩
              rw [hnL] at hrun hW5
              have HNX := Lib.hid (show PRk w n ⟨op, nn, s, p, pa.length, pc, q, ps.length, qc, o, some ⟨b, off, none⟩, ks.length, kc⟩ pa t1 k1 ps ks (j + 1) W5 from ⟨_, _, _, _, _, _, hPI2, HLPs.out, by rw [List.map_append, HLX.out, List.take_succ_eq_append_getElem hlt, ← HYE.out]; rfl⟩)
              have HRUN := Lib.hid hrun
              have hS5 : Below w.heap.size w W5 ∧ BoxH W5 w.heap.size ⟨op, nn, s, p, pa.length, pc, q, ps.length, qc, o, some ⟨b, off, none⟩, ks.length, kc⟩ := ⟨hPI2.low, hPI2.box⟩
              have HW5 := Lib.hid hW5
              clear hrun hown hgrow hat hnL hW5 hlen hsl hi0 hz0 hz1 hz2 hPI2
              refine value_at 58 (v := .slice (some ⟨g', 0, none⟩) nL cap') (w' := w1) rfl rfl rfl (append_run rfl rfl rfl HRUN.out) ⟨⟨hS1, hB1⟩, ?_⟩
              simp only [List.setIfInBounds_toArray, List.set_cons_succ, List.set_cons_zero]
              refine wpAnyH_all (rs := [10]) (by kernel_rfl) (by simp) ?_
              intro i hi
              obtain rfl : i = 10 := by simpa using hi
              refine value_at 59 (v := .pointer (some ⟨w.heap.size + 2, 6, none⟩)) (w' := w1) rfl rfl rfl (by go_simp) ⟨⟨hS1, hB1⟩, ?_⟩
              simp only [List.setIfInBounds_toArray, List.set_cons_succ, List.set_cons_zero]
              refine wpAnyH_all (rs := [11]) (by kernel_rfl) (by simp) ?_
              intro i hi
              obtain rfl : i = 11 := by simpa using hi
              refine skip_at (w' := w1.setCell ⟨w.heap.size + 2, 6, none⟩ (.slice (some ⟨g', 0, none⟩) nL cap')) rfl rfl rfl (by obtain ⟨-, -, -, -, d4, -, d6⟩ := hO1.cells; dsimp only at d4 d6; simp only [Nat.zero_add] at d4 d6; have ff := hO1.frozen 6; go_simp) ⟨by rw [HW5.out]; exact hS5, ?_⟩
              rw [HW5.out]
              clear hO1 hS1 hB1
              refine wpAnyH_done (by kernel_rfl) ?_ _
              clear hS5 hS0 hSn hSm hnew hzm
              have hmx := HKS.out.max
              go_wp2_with fail
              go_roundw
              case rel => exact ⟨j + 1, by omega, by go_num, HNX⟩
              case measure => simp [intOf]; omega
            · obtain ⟨Zm, hZm⟩ : ∃ Zm, Zn.alloc (.cells #[.int .i64 op5, .int .i64 nn5, .string s5, .slice p5 pl5 pc5, .slice q5 ql5 qc5, .bool o5, .slice k5 kl5 kc5] 26) = Zm := ⟨_, rfl⟩
              have hbm : Below Zn.heap.size Zn Zm := by rw [← hZm]; exact below_alloc (Below.refl _ _) _
              have hzm : Zm.heap.size = Zn.heap.size + 1 := by rw [← hZm]; simp
              have hnew : Zm.heap[Zn.heap.size]? = some (.cells #[.int .i64 op5, .int .i64 nn5, .string s5, .slice p5 pl5 pc5, .slice q5 ql5 qc5, .bool o5, .slice k5 kl5 kc5] 26) := by rw [← hZm]; exact World.alloc_heap_new _ _
              have HCm := Lib.hid (HCn.out.step hbm)
              have HOM := Lib.hid (HON.out.keep (apart_of hbm))
              have hSm : Below w.heap.size w Zm ∧ BoxH Zm w.heap.size ⟨op, nn, s, p, pa.length, pc, q, ps.length, qc, o, some ⟨b, off, none⟩, ks.length, kc⟩ := ⟨HCm.out.low, HCm.out.box⟩
              refine value_at 57 (v := .slice (some ⟨Zn.heap.size, 0, none⟩) 1 1) (w' := Zn.alloc (.cells #[.int .i64 op5, .int .i64 nn5, .string s5, .slice p5 pl5 pc5, .slice q5 ql5 qc5, .bool o5, .slice k5 kl5 kc5] 26)) rfl rfl rfl (by go_simp) ⟨by rw [hZm]; exact hSm, ?_⟩
              simp only [List.setIfInBounds_toArray, List.set_cons_succ, List.set_cons_zero]
              rw [hZm]
              clear hZm hbm
              refine wpAnyH_all (rs := [1]) (by kernel_rfl) (by simp) ?_
              intro i hi
              obtain rfl : i = 1 := by simpa using hi
              refine value_at 50 (v := .slice au LK.length cu) (w' := Zm) rfl rfl rfl (by obtain ⟨-, -, -, -, d4, -, d6⟩ := HCm.out.out.cells; dsimp only at d4 d6; simp only [Nat.zero_add] at d4 d6; go_simp) ⟨hSm, ?_⟩
              simp only [List.setIfInBounds_toArray, List.set_cons_succ, List.set_cons_zero]
              refine wpAnyH_all (rs := [9]) (by kernel_rfl) (by simp) ?_
              intro i hi
              obtain rfl : i = 9 := by simpa using hi
              obtain ⟨i0, hi0, hz0, hz1, hz2⟩ := info_parts info26
              have hlen := HLen.out
              have hsl := HSL.out.2.2.1
              dsimp only [Ex.ps, Ex.ks] at hsl
              obtain ⟨v', w1, hrun, hown, hgrow, -, hat⟩ := run_append_own_at (P := Tryd.prog) (w := Zm) (w.heap.size + 3) 24 24 26 i0 _ 7 112 Tryd.underlying24 hi0 hz0 hz1 hz2 rfl (by decide) (.slice au LK.length cu) LK.length _ HCm.out.rk ⟨Zn.heap.size, 0, none⟩ 1 1 [.int .i64 op5, .int .i64 nn5, .string s5, .slice p5 pl5 pc5, .slice q5 ql5 qc5, .bool o5, .slice k5 kl5 kc5] rfl (by intro j u hu; rw [show (⟨Zn.heap.size, 0, none⟩ : Addr).add j = ⟨Zn.heap.size, j, none⟩ by unfold Addr.add; split <;> simp_all]; exact heap_cell2 hnew (by simpa using hu)) (by intro u hu; simp at hu; rcases hu with rfl | rfl | rfl | rfl | rfl | rfl | rfl <;> rfl) (by unfold maxLen; omega) (by omega) (by have := HCm.out.size; omega)
              obtain ⟨g', cap', rfl⟩ := ownsRow_succ hown
              obtain ⟨hS1, hB1, hO1⟩ := HCm.out.grownK hgrow
              have hPI2 := HCm.out.addK (⟨op5, nn5, s5, p5, pl5, pc5, q5, ql5, qc5, o5, k5, kl5, kc5⟩, ye) hown hgrow hat HOM.out
              obtain ⟨W5, hW5⟩ : ∃ W5, w1.setCell ⟨w.heap.size + 2, 6, none⟩ (.slice (some ⟨g', 0, none⟩) (LK.length + 1) cap') = W5 := ⟨_, rfl⟩
              rw [hW5] at hPI2
              obtain ⟨nL, hnL⟩ : ∃ nL, LK.length + 1 = nL := ⟨_, rfl⟩
              rw [hnL] at hrun hW5
              have HNX := Lib.hid (show PRk w n ⟨op, nn, s, p, pa.length, pc, q, ps.length, qc, o, some ⟨b, off, none⟩, ks.length, kc⟩ pa t1 k1 ps ks (j + 1) W5 from ⟨_, _, _, _, _, _, hPI2, HLPs.out, by rw [List.map_append, HLX.out, List.take_succ_eq_append_getElem hlt, ← HYE.out]; rfl⟩)
              have HRUN := Lib.hid hrun
              have hS5 : Below w.heap.size w W5 ∧ BoxH W5 w.heap.size ⟨op, nn, s, p, pa.length, pc, q, ps.length, qc, o, some ⟨b, off, none⟩, ks.length, kc⟩ := ⟨hPI2.low, hPI2.box⟩
              have HW5 := Lib.hid hW5
              clear hrun hown hgrow hat hnL hW5 hlen hsl hi0 hz0 hz1 hz2 hPI2
              refine value_at 58 (v := .slice (some ⟨g', 0, none⟩) nL cap') (w' := w1) rfl rfl rfl (append_run rfl rfl rfl HRUN.out) ⟨⟨hS1, hB1⟩, ?_⟩
              simp only [List.setIfInBounds_toArray, List.set_cons_succ, List.set_cons_zero]
              refine wpAnyH_all (rs := [10]) (by kernel_rfl) (by simp) ?_
              intro i hi
              obtain rfl : i = 10 := by simpa using hi
              refine value_at 59 (v := .pointer (some ⟨w.heap.size + 2, 6, none⟩)) (w' := w1) rfl rfl rfl (by go_simp) ⟨⟨hS1, hB1⟩, ?_⟩
              simp only [List.setIfInBounds_toArray, List.set_cons_succ, List.set_cons_zero]
              refine wpAnyH_all (rs := [11]) (by kernel_rfl) (by simp) ?_
              intro i hi
              obtain rfl : i = 11 := by simpa using hi
              refine skip_at (w' := w1.setCell ⟨w.heap.size + 2, 6, none⟩ (.slice (some ⟨g', 0, none⟩) nL cap')) rfl rfl rfl (by obtain ⟨-, -, -, -, d4, -, d6⟩ := hO1.cells; dsimp only at d4 d6; simp only [Nat.zero_add] at d4 d6; have ff := hO1.frozen 6; go_simp) ⟨by rw [HW5.out]; exact hS5, ?_⟩
              rw [HW5.out]
              clear hO1 hS1 hB1
              refine wpAnyH_done (by kernel_rfl) ?_ _
              clear hS5 hS0 hSn hSm hnew hzm
              have hmx := HKS.out.max
              go_wp2_with fail
              go_roundw
              case rel => exact ⟨j + 1, by omega, by go_num, HNX⟩
              case measure => simp [intOf]; omega
        · obtain rfl : j = ks.length := by omega
          clear hlt hj
          obtain ⟨av, cv, LP, au, cu, LK, hPI, hLP, hLK⟩ := hC.out
          rw [List.take_length] at hLK
          obtain ⟨d0, d1, d2, d3, d4, d5, d6⟩ := hPI.box.cells
          dsimp only at d6
          simp only [Nat.zero_add] at d6
          obtain ⟨e0, e1, e2, e3, e4, e5, e6⟩ := hPI.out.cells
          dsimp only at e0 e1 e2 e3 e4 e5 e6
          simp only [Nat.zero_add] at e1 e2 e3 e4 e5 e6
          obtain ⟨r0, r1, r2, r3, r4, r5, r6⟩ := hPI.res.cells
          dsimp only [hd0] at r0 r1 r2 r3 r4 r5 r6
          simp only [Nat.zero_add] at r1 r2 r3 r4 r5 r6
          have rf := hPI.res.frozen
          have HK := Lib.hid (putHd_here (x := ⟨op, nn, s, t1, pa.length, k1, av, LP.length, cv, o, au, LK.length, cu⟩) hPI.res.cells)
          have HDN := Lib.hid (hPI.done (op := op) (m := nn) (s := s) (o := o) hLP hLK rfl rfl rfl rfl HZ.out HPS.out.max HKS.out.max)
          have HLOW := Lib.hid (And.intro hPI.low hPI.size)
          clear hC hPI hLP hLK d0 d1 d2 d3 d4 d5
          go_wp2_with fail
          obtain ⟨y0, y1, y2, y3, y4, y5, y6⟩ := HK.out
          unfold putHd at y0 y1 y2 y3 y4 y5 y6
          dsimp only at y0 y1 y2 y3 y4 y5 y6
          simp only [Nat.zero_add] at y0 y1 y2 y3 y4 y5 y6
          refine bodyPost_ret (v := .agg #[.int .i64 op, .int .i64 nn, .string s, .slice t1 pa.length k1, .slice av LP.length cv, .bool o, .slice au LK.length cu]) (by simp [results, Tryd.results22, go_sem, y0, y1, y2, y3, y4, y5, y6]) rfl ⟨⟨op, nn, s, t1, pa.length, k1, av, LP.length, cv, o, au, LK.length, cu⟩, rfl, ?_, ?_⟩
          · exact HLOW.out.1.grown (putHd_grown _ (w.heap.size + 1) 0 ⟨op, nn, s, t1, pa.length, k1, av, LP.length, cv, o, au, LK.length, cu⟩) HLOW.out.1.size (fun r e => by cases e; omega)
          · exact (HDN.out.keep (putHd_above (o := 0) (x := ⟨op, nn, s, t1, pa.length, k1, av, LP.length, cv, o, au, LK.length, cu⟩) (show w.heap.size + 1 < w.heap.size + 3 by omega))).low (by omega)
theorem plain_any : ∀ (n : Nat) (W : World) (h : Hd) (y : Ex), InX W n h y → Slim n y → Calls Tryd.prog 22 #[h.agg] W (CopyP W n y)
  | 0, _, _, _, h, _ => h.elim
  | n + 1, W, h, y, hx, hs => plain_step n (plain_any n) W h y hx hs
end Go.Proofs.YtngikbimlhoigaaDoor
