/- WALK of Copy. -/
import Derived.Test.YtngikbimlhoigaaDoorWd
import Derived.Test.YtngikbimlhoigaaDoorUh
namespace Go.Proofs.YtngikbimlhoigaaDoor
open Go.RowKit
theorem cells_pa {w W : World} {p : Option Addr} {pl : Nat} {pa : List ByteArray} (h : Nm.StrRow w p pl pa) (hb : Below w.heap.size w W) : pl = 0 ∨ ∃ b off, p = some ⟨b, off, none⟩ ∧ ∀ j, j < pl * 1 → ∃ u, W.cell? ⟨b, off + j, none⟩ = some u ∧ u.oneCell' = true := by
  by_cases h0 : pl = 0
  · exact .inl h0
  · obtain ⟨b, off, e, hl, hc⟩ := h.at_ (by omega)
    have hcnt := h.count
    exact .inr ⟨b, off, e, fun j hj => ⟨_, (hb.cell (p := ⟨b, off + j, none⟩) hl).trans (hc j _ (List.getElem?_eq_getElem (by omega))), rfl⟩⟩
theorem heap_cell {W : World} {b i : Nat} {vs : Array Value} {t : TypeId} {v : Value} (h : W.heap[b]? = some (.cells vs t)) (hv : vs[i]? = some v) : W.cell? ⟨b, i, none⟩ = some v := by simp [World.cell?, h, hv]
theorem hd_cells {w : World} {b o : Nat} {x : Hd} (h : HdAt w b o x) (r : Nat) (hr : r < 7) : ∃ u, w.cell? ⟨b, o + r, none⟩ = some u ∧ u.oneCell' = true := by
  obtain rfl | rfl | rfl | rfl | rfl | rfl | rfl : r = 0 ∨ r = 1 ∨ r = 2 ∨ r = 3 ∨ r = 4 ∨ r = 5 ∨ r = 6 := by omega
  · exact ⟨_, h.c0, rfl⟩
  · exact ⟨_, h.c1, rfl⟩
  · exact ⟨_, h.c2, rfl⟩
  · exact ⟨_, h.c3, rfl⟩
  · exact ⟨_, h.c4, rfl⟩
  · exact ⟨_, h.c5, rfl⟩
  · exact ⟨_, h.c6, rfl⟩
theorem cells_ps {I : Hd → Ex → Prop} {w W : World} {q : Option Addr} {l : Nat} {ps : List (ByteArray × Ex)} (h : InPs I w q l ps) (hb : Below w.heap.size w W) : l = 0 ∨ ∃ b off, q = some ⟨b, off, none⟩ ∧ ∀ j, j < l * 8 → ∃ u, W.cell? ⟨b, off + j, none⟩ = some u ∧ u.oneCell' = true := by
  have hcnt := h.count
  by_cases h0 : l = 0
  · exact .inl h0
  · obtain ⟨b, off, _, e, hl, _⟩ := h.at_ 0 (by omega)
    refine .inr ⟨b, off, e, fun j hj => ?_⟩
    obtain ⟨b', off', x, e', _, _, hn, hx, _⟩ := h.at_ (j / 8) (by omega)
    rw [e] at e'
    cases e'
    by_cases h8 : j % 8 = 0
    · refine ⟨.string ps[j / 8].1, (hb.cell (p := ⟨b, off + j, none⟩) hl).trans ?_, rfl⟩
      rw [← hn]; congr 2; omega
    · obtain ⟨u, hu, h1⟩ := hd_cells hx (j % 8 - 1) (by omega)
      refine ⟨u, (hb.cell (p := ⟨b, off + j, none⟩) hl).trans ?_, h1⟩
      rw [← hu]; congr 2; omega
theorem cells_ks {I : Hd → Ex → Prop} {w W : World} {q : Option Addr} {l : Nat} {ks : List Ex} (h : InKs I w q l ks) (hb : Below w.heap.size w W) : l = 0 ∨ ∃ b off, q = some ⟨b, off, none⟩ ∧ ∀ j, j < l * 7 → ∃ u, W.cell? ⟨b, off + j, none⟩ = some u ∧ u.oneCell' = true := by
  have hcnt := h.count
  by_cases h0 : l = 0
  · exact .inl h0
  · obtain ⟨b, off, _, e, hl, _⟩ := h.at_ 0 (by omega)
    refine .inr ⟨b, off, e, fun j hj => ?_⟩
    obtain ⟨b', off', x, e', _, hx, _⟩ := h.at_ (j / 7) (by omega)
    rw [e] at e'
    cases e'
    obtain ⟨u, hu, h1⟩ := hd_cells hx (j % 7) (by omega)
    refine ⟨u, (hb.cell (p := ⟨b, off + j, none⟩) hl).trans ?_, h1⟩
    rw [← hu]; congr 2; omega
set_option maxRecDepth 100000 in
set_option maxHeartbeats 16000000 in
theorem copy_step (n : Nat) (ih : ∀ (W : World) (h : Hd) (y : Ex), InX W n h y → Slim n y → Calls Tryd.prog 23 #[h.agg] W (CopyP W n y)) (w : World) (h : Hd) (x : Ex) (hx : InX w (n + 1) h x) (hs : Slim (n + 1) x) : Calls Tryd.prog 23 #[h.agg] w (CopyP w (n + 1) x) := by
  obtain ⟨op, nn, s, p, pl, pc, q, ql, qc, o, k, kl, kc⟩ := h
  obtain ⟨xop, xn, xs, pa, ps, xo, ks⟩ := x
  obtain ⟨h1, h2, h3, h4, hz, hpa, hps, hks⟩ := hx
  dsimp only at h1 h2 h3 h4 hpa hps hks
  subst h1 h2 h3 h4
  obtain rfl := hpa.count
  obtain rfl := hps.count
  obtain rfl := hks.count
  have HPA := Lib.hid hpa
  have HPS := Lib.hid hps
  have HKS := Lib.hid hks
  have HSL := Lib.hid hs
  have HZ := Lib.hid hz
  have IH := Lib.hid ih
  have C1 : ∀ W, Below w.heap.size w W → Hid (Calls Tryd.prog 40 #[.slice p pa.length pc] W (CloneP 1 pa.length p W)) := fun W hW => cloneS_any _ _ _ W (by have := hpa.max; unfold maxLen; omega) hs.1 (cells_pa hpa hW)
  have C2 : ∀ W, Below w.heap.size w W → Hid (Calls Tryd.prog 41 #[.slice q ps.length qc] W (CloneP 8 ps.length q W)) := fun W hW => cloneP_any _ _ _ W (by have := hps.max; unfold maxLen; omega) hs.2.1 (cells_ps hps hW)
  have C3 : ∀ W, Below w.heap.size w W → Hid (Calls Tryd.prog 42 #[.slice k ks.length kc] W (CloneP 7 ks.length k W)) := fun W hW => cloneX_any _ _ _ W (by have := hks.max; unfold maxLen; omega) hs.2.2.1 (cells_ks hks hW)
  clear hpa hps hks hs hz ih
  unfold Hd.agg
  dsimp only
  go_enter Tryd.func23, Tryd.ntmps23
  go_upto_region 1 with fail
  refine Code.wp_mono (Q := fun e a W => e = .normal ∧ ∃ (t1 : Option Addr) (k1 : Nat) (t2 : Option Addr) (k2 : Nat) (t3 : Option Addr) (k3 B1 B2 B3 : Nat), a = { tmps := #[.agg #[.int .i64 op, .int .i64 nn, .string s, .slice p pa.length pc, .slice q ps.length qc, .bool o, .slice k ks.length kc], .pointer (some ⟨w.heap.size, 0, none⟩), .pointer (some ⟨w.heap.size + 1, 0, none⟩), undef, undef, undef, undef, .pointer (some ⟨w.heap.size, 3, none⟩), .slice p pa.length pc, .slice t1 pa.length k1, .pointer (some ⟨w.heap.size, 4, none⟩), .slice q ps.length qc, .slice t2 ps.length k2, .pointer (some ⟨w.heap.size, 6, none⟩), .slice k ks.length kc, .slice t3 ks.length k3, .pointer (some ⟨w.heap.size, 3, none⟩), .pointer (some ⟨w.heap.size, 4, none⟩), .pointer (some ⟨w.heap.size, 6, none⟩), undef, undef, undef, undef, undef, undef, undef, undef, undef, undef, undef, undef, undef, undef, undef, undef, undef, undef, undef, undef, undef, undef, undef, undef, undef, undef, undef, undef, undef, undef, undef, undef, undef], defers := [] } ∧ CI w n ⟨op, nn, s, t1, pa.length, k1, t2, ps.length, k2, o, t3, ks.length, k3⟩ q k pa (ps.map (·.2)) ks B1 B2 B3 0 0 W) ?later ?_
  case later =>
    rintro e a W ⟨rfl, t1, k1, t2, k2, t3, k3, B1, B2, B3, rfl, hC⟩
    clear C1 C2 C3
    obtain ⟨-, -, -, d3, d4, -, d6⟩ := hC.box.cells
    dsimp only at d3 d4 d6
    simp only [Nat.zero_add] at d3 d4 d6
    have HC := Lib.hid hC
    clear hC
    go_wp2_with fail
    go_loopw [22] (fun i wr => ∃ j : Nat, j ≤ ps.length ∧ i = .int .i64 j ∧ Hid (CI w n ⟨op, nn, s, t1, pa.length, k1, t2, ps.length, k2, o, t3, ks.length, k3⟩ q k pa (ps.map (·.2)) ks B1 B2 B3 j 0 wr)) (fun i _ => ps.length - (intOf i).toNat)
    case atStart => exact ⟨0, Nat.zero_le _, rfl, HC.out⟩
    case round =>
      obtain ⟨j, hj, rfl, hC⟩ := hrel
      rename World => wr
      by_cases hlt : j < ps.length
      · have hki : (j : Int) < (ps.length : Int) := by omega
        have hk0 : (0 : Int) ≤ (j : Int) := by omega
        obtain ⟨g, b, off, e1, e2, g3, g4, g5, g6, g7, g8⟩ := hC.out.pr (by rw [List.length_map]; omega)
        dsimp only at e1
        subst e1 e2
        obtain ⟨b', off', y, e, lt1, hnz, hn, hy, hI⟩ := HPS.out.at_ j hlt
        cases e
        have hyW := hC.out.pr.head (k := j) (by rw [List.length_map]; exact hlt) rfl rfl hy
        have hnW := (g7 (j * 8) (Nat.le_refl _) (by rw [List.length_map]; omega)).trans hn
        obtain ⟨nm, hnm⟩ : ∃ nm, ps[j].1 = nm := ⟨_, rfl⟩
        rw [hnm] at hnW
        obtain ⟨ye, hye⟩ : ∃ ye, ps[j].2 = ye := ⟨_, rfl⟩
        have hslim : Slim n ps[j].2 := HSL.out.2.2.2.1 j hlt
        rw [hye] at hI hslim
        obtain ⟨op4, nn4, s4, p4, pl4, pc4, q4, ql4, qc4, o4, k4, kl4, kc4⟩ := y
        have HY := Lib.hid hy
        have HYE := Lib.hid hye
        have HI := Lib.hid (And.intro hI hslim)
        have HG := Lib.hid (And.intro g3 (And.intro g4 (And.intro g5 g6)))
        obtain ⟨a0, a1, a2, a3, a4, a5, a6⟩ := hyW
        dsimp only at a0 a1 a2 a3 a4 a5 a6
        simp only [Nat.reduceAdd] at a0 a1 a2 a3 a4 a5 a6
        clear g3 g4 g5 g6 g7 g8 hy hye hI hslim hn hnz hnm
        go_upto_region 5 with fail
        obtain ⟨wd, hwd⟩ : ∃ wd : World, wd = { wr.alloc (.cells #[.string nm, .int .i64 op4, .int .i64 nn4, .string s4, .slice p4 pl4 pc4, .slice q4 ql4 qc4, .bool o4, .slice k4 kl4 kc4] 51) with drawn := (wr.alloc (.cells #[.string nm, .int .i64 op4, .int .i64 nn4, .string s4, .slice p4 pl4 pc4, .slice q4 ql4 qc4, .bool o4, .slice k4 kl4 kc4] 51)).drawn + 1 } := ⟨_, rfl⟩
        have hd0 : Below wr.heap.size wr wd := by rw [hwd]; exact (below_alloc (Below.refl _ _) _).drew
        have hdn : wd.heap[wr.heap.size]? = some (.cells #[.string nm, .int .i64 op4, .int .i64 nn4, .string s4, .slice p4 pl4 pc4, .slice q4 ql4 qc4, .bool o4, .slice k4 kl4 kc4] 51) := by rw [hwd]; exact World.alloc_heap_new wr _
        have HCd := Lib.hid (hC.out.step hd0)
        have hS0 : BoxH wd w.heap.size ⟨op, nn, s, t1, pa.length, k1, some ⟨g, 0, none⟩, ps.length, k2, o, t3, ks.length, k3⟩ ∧ wd.heap[wr.heap.size]? = some (.cells #[.string nm, .int .i64 op4, .int .i64 nn4, .string s4, .slice p4 pl4 pc4, .slice q4 ql4 qc4, .bool o4, .slice k4 kl4 kc4] 51) := ⟨HCd.out.box, hdn⟩
        refine wp_region_held (S := fun X => BoxH X w.heap.size ⟨op, nn, s, t1, pa.length, k1, some ⟨g, 0, none⟩, ps.length, k2, o, t3, ks.length, k3⟩ ∧ X.heap[wr.heap.size]? = some (.cells #[.string nm, .int .i64 op4, .int .i64 nn4, .string s4, .slice p4 pl4 pc4, .slice q4 ql4 qc4, .bool o4, .slice k4 kl4 kc4] 51)) (by kernel_rfl) ?_
        rw [← hwd]
        clear hwd a0 a1 a2 a3 a4 a5 a6 hnW
        refine take_at' (i := 0) 27 (v := .pointer (some ⟨w.heap.size, 4, none⟩)) rfl rfl (by kernel_rfl) (by kernel_rfl) (by kernel_rfl) (fun _ _ _ h => h) (Or.inl ⟨by rfl, fun w' hS => (by go_simp)⟩) hS0 ?_
        simp only [List.setIfInBounds_toArray, List.set_cons_succ, List.set_cons_zero]
        refine take_at' (i := 2) 29 (v := .int .i64 j) rfl rfl (by kernel_rfl) (by kernel_rfl) (by kernel_rfl) (fun _ _ _ h => h) (Or.inl ⟨by rfl, fun w' hS => (by go_simp)⟩) hS0 ?_
        simp only [List.setIfInBounds_toArray, List.set_cons_succ, List.set_cons_zero]
        refine take_at' (i := 3) 30 (v := .pointer (some ⟨wr.heap.size, 1, none⟩)) rfl rfl (by kernel_rfl) (by kernel_rfl) (by kernel_rfl) (fun _ _ _ h => h) (Or.inl ⟨by rfl, fun w' hS => (by go_simp)⟩) hS0 ?_
        simp only [List.setIfInBounds_toArray, List.set_cons_succ, List.set_cons_zero]
        refine take_at' (i := 1) 28 (v := .slice (some ⟨g, 0, none⟩) ps.length k2) rfl rfl (by kernel_rfl) (by kernel_rfl) (by kernel_rfl) (fun _ _ _ h => h) (Or.inl ⟨by rfl, fun w' hS => (by obtain ⟨-, -, -, d3, d4, -, d6⟩ := hS.1.cells; dsimp only at d3 d4 d6; simp only [Nat.zero_add] at d3 d4 d6; go_simp)⟩) hS0 ?_
        simp only [List.setIfInBounds_toArray, List.set_cons_succ, List.set_cons_zero]
        refine take_at' (i := 4) 31 (v := .agg #[.int .i64 op4, .int .i64 nn4, .string s4, .slice p4 pl4 pc4, .slice q4 ql4 qc4, .bool o4, .slice k4 kl4 kc4]) rfl rfl (by kernel_rfl) (by kernel_rfl) (by kernel_rfl) (fun _ _ _ h => h) (Or.inl ⟨by rfl, fun w' hS => (by have u1 := heap_cell hS.2 (i := 1) rfl; have u2 := heap_cell hS.2 (i := 2) rfl; have u3 := heap_cell hS.2 (i := 3) rfl; have u4 := heap_cell hS.2 (i := 4) rfl; have u5 := heap_cell hS.2 (i := 5) rfl; have u6 := heap_cell hS.2 (i := 6) rfl; have u7 := heap_cell hS.2 (i := 7) rfl; go_simp)⟩) hS0 ?_
        simp only [List.setIfInBounds_toArray, List.set_cons_succ, List.set_cons_zero]
        refine wpAnyH_all (rs := [5]) (by kernel_rfl) (by simp) ?_
        intro i hi
        obtain rfl : i = 5 := by simpa using hi
        refine call_at 32 (f := 23) (args := #[.agg #[.int .i64 op4, .int .i64 nn4, .string s4, .slice p4 pl4 pc4, .slice q4 ql4 qc4, .bool o4, .slice k4 kl4 kc4]]) (w' := wd) rfl rfl rfl (by go_simp) ((IH.out wd ⟨op4, nn4, s4, p4, pl4, pc4, q4, ql4, qc4, o4, k4, kl4, kc4⟩ ye (HI.out.1.below HCd.out.low) HI.out.2).mono ?_)
        rintro e Zn ⟨⟨op5, nn5, s5, p5, pl5, pc5, q5, ql5, qc5, o5, k5, kl5, kc5⟩, rfl, hB, hO⟩
        have HCn := Lib.hid (HCd.out.step hB)
        have HON := Lib.hid hO
        have HZ5 := Lib.hid hB.size
        have hSn := And.intro HCn.out.box ((hB.block _ (Array.getElem?_eq_some_iff.1 hdn).1).trans hdn)
        clear hB hO
        unfold Hd.agg
        dsimp only
        refine ⟨_, rfl, hSn, ?_⟩
        simp only [List.setIfInBounds_toArray, List.set_cons_succ, List.set_cons_zero]
        refine wpAnyH_all (rs := [6]) (by kernel_rfl) (by simp) ?_
        intro i hi
        obtain rfl : i = 6 := by simpa using hi
        refine value_at 33 (v := .pointer (some ⟨g, j * 8, none⟩)) (w' := Zn) rfl rfl rfl (by go_simp) ⟨hSn, ?_⟩
        simp only [List.setIfInBounds_toArray, List.set_cons_succ, List.set_cons_zero]
        refine wpAnyH_all (rs := [7]) (by kernel_rfl) (by simp) ?_
        intro i hi
        obtain rfl : i = 7 := by simpa using hi
        refine value_at 34 (v := .pointer (some ⟨g, j * 8 + 1, none⟩)) (w' := Zn) rfl rfl rfl (by go_simp) ⟨hSn, ?_⟩
        simp only [List.setIfInBounds_toArray, List.set_cons_succ, List.set_cons_zero]
        have hyn : HdAt Zn g (j * 8 + 1) ⟨op4, nn4, s4, p4, pl4, pc4, q4, ql4, qc4, o4, k4, kl4, kc4⟩ := HCn.out.pr.head (k := j) (by rw [List.length_map]; exact hlt) rfl rfl HY.out
        have hfn : ∀ o, Zn.frozen? ⟨g, o, none⟩ = false := by
          obtain ⟨g', _, _, e1, _, _, _, _, f6, _⟩ := HCn.out.pr (by rw [List.length_map]; omega)
          cases e1
          exact f6
        have hgl := HG.out
        have hlow := HCn.out.o1
        obtain ⟨Y, hY⟩ : ∃ Y, putHd Zn g (j * 8 + 1) ⟨op5, nn5, s5, p5, pl5, pc5, q5, ql5, qc5, o5, k5, kl5, kc5⟩ = Y := ⟨_, rfl⟩
        have HCY := Lib.hid (HCn.out.putP (i := j) (x := ⟨op5, nn5, s5, p5, pl5, pc5, q5, ql5, qc5, o5, k5, kl5, kc5⟩) (by rw [List.length_map]; exact hlt) rfl rfl HY.out (by rw [List.getElem_map, HYE.out]; exact HON.out.low (by have := HCd.out.o4; exact this)))
        rw [hY] at HCY
        have hSY : BoxH Y w.heap.size ⟨op, nn, s, t1, pa.length, k1, some ⟨g, 0, none⟩, ps.length, k2, o, t3, ks.length, k3⟩ ∧ Y.heap[wr.heap.size]? = some (.cells #[.string nm, .int .i64 op4, .int .i64 nn4, .string s4, .slice p4 pl4 pc4, .slice q4 ql4 qc4, .bool o4, .slice k4 kl4 kc4] 51) := ⟨HCY.out.box, by rw [← hY]; exact ((putHd_grown Zn g (j * 8 + 1) _).block _ (Array.getElem?_eq_some_iff.1 hSn.2).1 (fun e => by injection e with e; omega)).trans hSn.2⟩
        refine wpAnyH_all (rs := [8]) (by kernel_rfl) (by simp) ?_
        intro i hi
        obtain rfl : i = 8 := by simpa using hi
        refine skip_at (w' := putHd Zn g (j * 8 + 1) ⟨op5, nn5, s5, p5, pl5, pc5, q5, ql5, qc5, o5, k5, kl5, kc5⟩) rfl rfl rfl (by obtain ⟨b0, b1, b2, b3, b4, b5, b6⟩ := hyn; have ff := fun o => hfn o; unfold putHd; go_simp) ⟨by rw [hY]; exact hSY, ?_⟩
        rw [hY]
        clear hY hyn hfn hgl hlow
        refine wpAnyH_done (by kernel_rfl) ?_ _
        clear hSY hSn hS0 hdn hd0
        have hmx := HPS.out.max
        go_wp2_with fail
        go_roundw
        case rel => exact ⟨j + 1, by omega, by go_num, HCY.out⟩
        case measure => simp [intOf]; omega
      · obtain rfl : j = ps.length := by omega
        clear hlt hj
        obtain ⟨-, -, -, d3, d4, -, d6⟩ := hC.out.box.cells
        dsimp only at d3 d4 d6
        simp only [Nat.zero_add] at d3 d4 d6
        have HC := hC
        clear hC
        go_wp2_with fail
        go_loopw [39] (fun i wr => ∃ j : Nat, j ≤ ks.length ∧ i = .int .i64 j ∧ Hid (CI w n ⟨op, nn, s, t1, pa.length, k1, t2, ps.length, k2, o, t3, ks.length, k3⟩ q k pa (ps.map (·.2)) ks B1 B2 B3 ps.length j wr)) (fun i _ => ks.length - (intOf i).toNat)
        case atStart => exact ⟨0, Nat.zero_le _, rfl, HC.out⟩
        case round =>
          obtain ⟨j, hj, rfl, hC⟩ := hrel
          rename World => wr
          by_cases hlt : j < ks.length
          · have hki : (j : Int) < (ks.length : Int) := by omega
            have hk0 : (0 : Int) ≤ (j : Int) := by omega
            obtain ⟨g, b, off, e1, e2, g3, g4, g5, g6, g7, g8⟩ := hC.out.kr (by omega)
            dsimp only at e1
            subst e1 e2
            obtain ⟨b', off', y, e, lt1, hy, hI⟩ := HKS.out.at_ j hlt
            cases e
            have hyW := hC.out.kr.head (d := 0) (k := j) hlt rfl rfl hy
            obtain ⟨ye, hye⟩ : ∃ ye, ks[j] = ye := ⟨_, rfl⟩
            have hslim : Slim n ks[j] := HSL.out.2.2.2.2 j hlt
            rw [hye] at hI hslim
            obtain ⟨op4, nn4, s4, p4, pl4, pc4, q4, ql4, qc4, o4, k4, kl4, kc4⟩ := y
            have HY := Lib.hid hy
            have HYE := Lib.hid hye
            have HI := Lib.hid (And.intro hI hslim)
            have HG := Lib.hid (And.intro g3 (And.intro g4 (And.intro g5 g6)))
            obtain ⟨a0, a1, a2, a3, a4, a5, a6⟩ := hyW
            dsimp only at a0 a1 a2 a3 a4 a5 a6
            simp only [Nat.add_zero, Nat.zero_add] at a0 a1 a2 a3 a4 a5 a6
            clear g3 g4 g5 g6 g7 g8 hy hye hI hslim
            go_upto_region 10 with fail
            obtain ⟨wd, hwd⟩ : ∃ wd : World, wd = { wr.alloc (.cells #[.int .i64 op4, .int .i64 nn4, .string s4, .slice p4 pl4 pc4, .slice q4 ql4 qc4, .bool o4, .slice k4 kl4 kc4] 26) with drawn := (wr.alloc (.cells #[.int .i64 op4, .int .i64 nn4, .string s4, .slice p4 pl4 pc4, .slice q4 ql4 qc4, .bool o4, .slice k4 kl4 kc4] 26)).drawn + 1 } := ⟨_, rfl⟩
            have hd0 : Below wr.heap.size wr wd := by rw [hwd]; exact (below_alloc (Below.refl _ _) _).drew
            have hdn : wd.heap[wr.heap.size]? = some (.cells #[.int .i64 op4, .int .i64 nn4, .string s4, .slice p4 pl4 pc4, .slice q4 ql4 qc4, .bool o4, .slice k4 kl4 kc4] 26) := by rw [hwd]; exact World.alloc_heap_new wr _
            have HCd := Lib.hid (hC.out.step hd0)
            have hS0 : BoxH wd w.heap.size ⟨op, nn, s, t1, pa.length, k1, t2, ps.length, k2, o, some ⟨g, 0, none⟩, ks.length, k3⟩ ∧ wd.heap[wr.heap.size]? = some (.cells #[.int .i64 op4, .int .i64 nn4, .string s4, .slice p4 pl4 pc4, .slice q4 ql4 qc4, .bool o4, .slice k4 kl4 kc4] 26) := ⟨HCd.out.box, hdn⟩
            refine wp_region_held (S := fun X => BoxH X w.heap.size ⟨op, nn, s, t1, pa.length, k1, t2, ps.length, k2, o, some ⟨g, 0, none⟩, ks.length, k3⟩ ∧ X.heap[wr.heap.size]? = some (.cells #[.int .i64 op4, .int .i64 nn4, .string s4, .slice p4 pl4 pc4, .slice q4 ql4 qc4, .bool o4, .slice k4 kl4 kc4] 26)) (by kernel_rfl) ?_
            rw [← hwd]
            clear hwd a0 a1 a2 a3 a4 a5 a6
            refine take_at' (i := 0) 44 (v := .pointer (some ⟨w.heap.size, 6, none⟩)) rfl rfl (by kernel_rfl) (by kernel_rfl) (by kernel_rfl) (fun _ _ _ h => h) (Or.inl ⟨by rfl, fun w' hS => (by go_simp)⟩) hS0 ?_
            simp only [List.setIfInBounds_toArray, List.set_cons_succ, List.set_cons_zero]
            refine take_at' (i := 2) 46 (v := .int .i64 j) rfl rfl (by kernel_rfl) (by kernel_rfl) (by kernel_rfl) (fun _ _ _ h => h) (Or.inl ⟨by rfl, fun w' hS => (by go_simp)⟩) hS0 ?_
            simp only [List.setIfInBounds_toArray, List.set_cons_succ, List.set_cons_zero]
            refine take_at' (i := 1) 45 (v := .slice (some ⟨g, 0, none⟩) ks.length k3) rfl rfl (by kernel_rfl) (by kernel_rfl) (by kernel_rfl) (fun _ _ _ h => h) (Or.inl ⟨by rfl, fun w' hS => (by obtain ⟨-, -, -, d3, d4, -, d6⟩ := hS.1.cells; dsimp only at d3 d4 d6; simp only [Nat.zero_add] at d3 d4 d6; go_simp)⟩) hS0 ?_
            simp only [List.setIfInBounds_toArray, List.set_cons_succ, List.set_cons_zero]
            refine take_at' (i := 3) 47 (v := .agg #[.int .i64 op4, .int .i64 nn4, .string s4, .slice p4 pl4 pc4, .slice q4 ql4 qc4, .bool o4, .slice k4 kl4 kc4]) rfl rfl (by kernel_rfl) (by kernel_rfl) (by kernel_rfl) (fun _ _ _ h => h) (Or.inl ⟨by rfl, fun w' hS => (by have u0 := heap_cell hS.2 (i := 0) rfl; have u1 := heap_cell hS.2 (i := 1) rfl; have u2 := heap_cell hS.2 (i := 2) rfl; have u3 := heap_cell hS.2 (i := 3) rfl; have u4 := heap_cell hS.2 (i := 4) rfl; have u5 := heap_cell hS.2 (i := 5) rfl; have u6 := heap_cell hS.2 (i := 6) rfl; go_simp)⟩) hS0 ?_
            simp only [List.setIfInBounds_toArray, List.set_cons_succ, List.set_cons_zero]
            refine wpAnyH_all (rs := [4]) (by kernel_rfl) (by simp) ?_
            intro i hi
            obtain rfl : i = 4 := by simpa using hi
            refine call_at 48 (f := 23) (args := #[.agg #[.int .i64 op4, .int .i64 nn4, .string s4, .slice p4 pl4 pc4, .slice q4 ql4 qc4, .bool o4, .slice k4 kl4 kc4]]) (w' := wd) rfl rfl rfl (by go_simp) ((IH.out wd ⟨op4, nn4, s4, p4, pl4, pc4, q4, ql4, qc4, o4, k4, kl4, kc4⟩ ye (HI.out.1.below HCd.out.low) HI.out.2).mono ?_)
            rintro e Zn ⟨⟨op5, nn5, s5, p5, pl5, pc5, q5, ql5, qc5, o5, k5, kl5, kc5⟩, rfl, hB, hO⟩
            have HCn := Lib.hid (HCd.out.step hB)
            have HON := Lib.hid hO
            have HZ5 := Lib.hid hB.size
            have hSn := And.intro HCn.out.box ((hB.block _ (Array.getElem?_eq_some_iff.1 hdn).1).trans hdn)
            clear hB hO
            unfold Hd.agg
            dsimp only
            refine ⟨_, rfl, hSn, ?_⟩
            simp only [List.setIfInBounds_toArray, List.set_cons_succ, List.set_cons_zero]
            refine wpAnyH_all (rs := [5]) (by kernel_rfl) (by simp) ?_
            intro i hi
            obtain rfl : i = 5 := by simpa using hi
            refine value_at 49 (v := .pointer (some ⟨g, j * 7, none⟩)) (w' := Zn) rfl rfl rfl (by go_simp) ⟨hSn, ?_⟩
            simp only [List.setIfInBounds_toArray, List.set_cons_succ, List.set_cons_zero]
            have hyn : HdAt Zn g (j * 7) ⟨op4, nn4, s4, p4, pl4, pc4, q4, ql4, qc4, o4, k4, kl4, kc4⟩ := HCn.out.kr.head (d := 0) (k := j) hlt rfl rfl HY.out
            have hfn : ∀ o, Zn.frozen? ⟨g, o, none⟩ = false := by
              obtain ⟨g', _, _, e1, _, _, _, _, f6, _⟩ := HCn.out.kr (by omega)
              cases e1
              exact f6
            have hgl := HG.out
            have hlow := HCn.out.o1
            obtain ⟨Y, hY⟩ : ∃ Y, putHd Zn g (j * 7) ⟨op5, nn5, s5, p5, pl5, pc5, q5, ql5, qc5, o5, k5, kl5, kc5⟩ = Y := ⟨_, rfl⟩
            have HCY := Lib.hid (HCn.out.putK (j := j) (x := ⟨op5, nn5, s5, p5, pl5, pc5, q5, ql5, qc5, o5, k5, kl5, kc5⟩) hlt rfl rfl HY.out (by rw [HYE.out]; exact HON.out.low (by have := HCd.out.o4; exact this)))
            rw [hY] at HCY
            have hSY : BoxH Y w.heap.size ⟨op, nn, s, t1, pa.length, k1, t2, ps.length, k2, o, some ⟨g, 0, none⟩, ks.length, k3⟩ ∧ Y.heap[wr.heap.size]? = some (.cells #[.int .i64 op4, .int .i64 nn4, .string s4, .slice p4 pl4 pc4, .slice q4 ql4 qc4, .bool o4, .slice k4 kl4 kc4] 26) := ⟨HCY.out.box, by rw [← hY]; exact ((putHd_grown Zn g (j * 7) _).block _ (Array.getElem?_eq_some_iff.1 hSn.2).1 (fun e => by injection e with e; omega)).trans hSn.2⟩
            refine wpAnyH_all (rs := [6]) (by kernel_rfl) (by simp) ?_
            intro i hi
            obtain rfl : i = 6 := by simpa using hi
            refine skip_at (w' := putHd Zn g (j * 7) ⟨op5, nn5, s5, p5, pl5, pc5, q5, ql5, qc5, o5, k5, kl5, kc5⟩) rfl rfl rfl (by obtain ⟨b0, b1, b2, b3, b4, b5, b6⟩ := hyn; have ff := fun o => hfn o; unfold putHd; go_simp) ⟨by rw [hY]; exact hSY, ?_⟩
            rw [hY]
            clear hY hyn hfn hgl hlow
            refine wpAnyH_done (by kernel_rfl) ?_ _
            clear hSY hSn hS0 hdn hd0
            have hmx := HKS.out.max
            go_wp2_with fail
            go_roundw
            case rel => exact ⟨j + 1, by omega, by go_num, HCY.out⟩
            case measure => simp [intOf]; omega
          · obtain rfl : j = ks.length := by omega
            clear hlt hj
            obtain ⟨d0, d1, d2, d3, d4, d5, d6⟩ := hC.out.box.cells
            dsimp only at d0 d1 d2 d3 d4 d5 d6
            simp only [Nat.zero_add] at d1 d2 d3 d4 d5 d6
            obtain ⟨r0, r1, r2, r3, r4, r5, r6⟩ := hC.out.res.cells
            simp only [Nat.zero_add] at r1 r2 r3 r4 r5 r6
            have rf := hC.out.res.frozen
            have HK := Lib.hid (putHd_here (x := ⟨op, nn, s, t1, pa.length, k1, t2, ps.length, k2, o, t3, ks.length, k3⟩) hC.out.res.cells)
            go_wp2_with fail
            obtain ⟨y0, y1, y2, y3, y4, y5, y6⟩ := HK.out
            unfold putHd at y0 y1 y2 y3 y4 y5 y6
            dsimp only at y0 y1 y2 y3 y4 y5 y6
            simp only [Nat.zero_add] at y0 y1 y2 y3 y4 y5 y6
            refine bodyPost_ret (v := .agg #[.int .i64 op, .int .i64 nn, .string s, .slice t1 pa.length k1, .slice t2 ps.length k2, .bool o, .slice t3 ks.length k3]) (by simp [results, Tryd.results23, go_sem, y0, y1, y2, y3, y4, y5, y6]) rfl ⟨⟨op, nn, s, t1, pa.length, k1, t2, ps.length, k2, o, t3, ks.length, k3⟩, rfl, ?_, ?_⟩
            · exact hC.out.low.grown (putHd_grown wr (w.heap.size + 1) 0 ⟨op, nn, s, t1, pa.length, k1, t2, ps.length, k2, o, t3, ks.length, k3⟩) hC.out.low.size (fun r e => by cases e; omega)
            · exact ((hC.out.done HPS.out HKS.out rfl rfl rfl rfl rfl rfl HZ.out).keep (putHd_above (o := 0) (x := ⟨op, nn, s, t1, pa.length, k1, t2, ps.length, k2, o, t3, ks.length, k3⟩) (show w.heap.size + 1 < w.heap.size + 2 by omega))).low (by omega)
  obtain ⟨wd, hwd⟩ : ∃ wd : World, wd = { (w.alloc (.cells #[.int .i64 op, .int .i64 nn, .string s, .slice p pa.length pc, .slice q ps.length qc, .bool o, .slice k ks.length kc] 26)).alloc (.cells #[.int .i64 0, .int .i64 0, .string ⟨#[]⟩, .slice none 0 0, .slice none 0 0, .bool false, .slice none 0 0] 26) with drawn := ((w.alloc (.cells #[.int .i64 op, .int .i64 nn, .string s, .slice p pa.length pc, .slice q ps.length qc, .bool o, .slice k ks.length kc] 26)).alloc (.cells #[.int .i64 0, .int .i64 0, .string ⟨#[]⟩, .slice none 0 0, .slice none 0 0, .bool false, .slice none 0 0] 26)).drawn + 1 } := ⟨_, rfl⟩
  have hdz : wd.heap.size = w.heap.size + 2 := by rw [hwd]; simp
  have hd0 : Below w.heap.size w wd := by rw [hwd]; exact (below_alloc (below_alloc (Below.refl _ _) _) _).drew
  have hdb : BoxH wd w.heap.size ⟨op, nn, s, p, pa.length, pc, q, ps.length, qc, o, k, ks.length, kc⟩ := by rw [hwd]; exact (Below.heap_alloc _ _ _ (by simp)).trans (World.alloc_heap_new w _)
  have hdr : BoxH wd (w.heap.size + 1) Go.Proofs.YtngikbimlhoigaaDoor.hd0 := by rw [hwd]; exact heap_new1 w _ _
  refine wp_region_held (S := fun _ => True) (by kernel_rfl) ?_
  rw [← hwd]
  clear hwd
  obtain ⟨-, -, -, d3, d4, -, d6⟩ := hdb.cells
  dsimp only at d3 d4 d6
  simp only [Nat.zero_add] at d3 d4 d6
  have ff := hdb.frozen
  refine take_at' (i := 0) 7 (v := .pointer (some ⟨w.heap.size, 3, none⟩)) rfl rfl (by kernel_rfl) (by kernel_rfl) (by kernel_rfl) (fun _ _ _ h => by cases h.1) (Or.inl ⟨by rfl, fun w' _ => (by go_simp)⟩) trivial ?_
  simp only [List.setIfInBounds_toArray, List.set_cons_succ, List.set_cons_zero]
  refine take_at' (i := 3) 10 (v := .pointer (some ⟨w.heap.size, 4, none⟩)) rfl rfl (by kernel_rfl) (by kernel_rfl) (by kernel_rfl) (fun _ _ _ h => by cases h.1) (Or.inl ⟨by rfl, fun w' _ => (by go_simp)⟩) trivial ?_
  simp only [List.setIfInBounds_toArray, List.set_cons_succ, List.set_cons_zero]
  refine take_at' (i := 6) 13 (v := .pointer (some ⟨w.heap.size, 6, none⟩)) rfl rfl (by kernel_rfl) (by kernel_rfl) (by kernel_rfl) (fun _ _ _ h => by cases h.1) (Or.inl ⟨by rfl, fun w' _ => (by go_simp)⟩) trivial ?_
  simp only [List.setIfInBounds_toArray, List.set_cons_succ, List.set_cons_zero]
  clear d3 d4 d6 ff
  refine wpAnyH_all (rs := [1, 4, 7]) (by kernel_rfl) (by simp) ?_
  intro i hi
  have hi2 : i = 1 ∨ i = 4 ∨ i = 7 := by simpa using hi
  rcases hi2 with rfl | rfl | rfl
  · refine value_at 8 (v := .slice p pa.length pc) (w' := wd) rfl rfl rfl (by obtain ⟨-, -, -, d3, d4, -, d6⟩ := hdb.cells; dsimp only at d3 d4 d6; simp only [Nat.zero_add] at d3 d4 d6; go_simp) ⟨trivial, ?_⟩
    simp only [List.setIfInBounds_toArray, List.set_cons_succ, List.set_cons_zero]
    refine wpAnyH_all (rs := [2, 4, 7]) (by kernel_rfl) (by simp) ?_
    intro i hi
    have hi2 : i = 2 ∨ i = 4 ∨ i = 7 := by simpa using hi
    rcases hi2 with rfl | rfl | rfl
    · refine call_at 9 (f := 40) (args := #[.slice p pa.length pc]) (w' := wd) rfl rfl rfl (by go_simp) ((C1 wd hd0).out.mono ?_)
      rintro e Z1 ⟨t1, k1, rfl, hB, hR⟩
      have D1 := Lib.hid (show CloneP 1 pa.length p wd (.returned (.slice t1 pa.length k1)) Z1 from ⟨t1, k1, rfl, hB, hR⟩)
      have hlZ1 := below_step hd0 hB
      have hbZ1 : BoxH Z1 w.heap.size ⟨op, nn, s, p, pa.length, pc, q, ps.length, qc, o, k, ks.length, kc⟩ := (hB.block _ hdb.lt).trans hdb
      clear hB hR
      refine ⟨_, rfl, trivial, ?_⟩
      simp only [List.setIfInBounds_toArray, List.set_cons_succ, List.set_cons_zero]
      refine wpAnyH_all (rs := [4, 7]) (by kernel_rfl) (by simp) ?_
      intro i hi
      have hi2 : i = 4 ∨ i = 7 := by simpa using hi
      rcases hi2 with rfl | rfl
      · refine value_at 11 (v := .slice q ps.length qc) (w' := Z1) rfl rfl rfl (by obtain ⟨-, -, -, d3, d4, -, d6⟩ := hbZ1.cells; dsimp only at d3 d4 d6; simp only [Nat.zero_add] at d3 d4 d6; go_simp) ⟨trivial, ?_⟩
        simp only [List.setIfInBounds_toArray, List.set_cons_succ, List.set_cons_zero]
        refine wpAnyH_all (rs := [5, 7]) (by kernel_rfl) (by simp) ?_
        intro i hi
        have hi2 : i = 5 ∨ i = 7 := by simpa using hi
        rcases hi2 with rfl | rfl
        · refine call_at 12 (f := 41) (args := #[.slice q ps.length qc]) (w' := Z1) rfl rfl rfl (by go_simp) ((C2 Z1 hlZ1).out.mono ?_)
          rintro e Z2 ⟨t2, k2, rfl, hB, hR⟩
          have D2 := Lib.hid (show CloneP 8 ps.length q Z1 (.returned (.slice t2 ps.length k2)) Z2 from ⟨t2, k2, rfl, hB, hR⟩)
          have hlZ2 := below_step hlZ1 hB
          have hbZ2 : BoxH Z2 w.heap.size ⟨op, nn, s, p, pa.length, pc, q, ps.length, qc, o, k, ks.length, kc⟩ := (hB.block _ hbZ1.lt).trans hbZ1
          clear hB hR
          refine ⟨_, rfl, trivial, ?_⟩
          simp only [List.setIfInBounds_toArray, List.set_cons_succ, List.set_cons_zero]
          refine wpAnyH_all (rs := [7]) (by kernel_rfl) (by simp) ?_
          intro i hi
          obtain rfl : i = 7 := by simpa using hi
          refine value_at 14 (v := .slice k ks.length kc) (w' := Z2) rfl rfl rfl (by obtain ⟨-, -, -, d3, d4, -, d6⟩ := hbZ2.cells; dsimp only at d3 d4 d6; simp only [Nat.zero_add] at d3 d4 d6; go_simp) ⟨trivial, ?_⟩
          simp only [List.setIfInBounds_toArray, List.set_cons_succ, List.set_cons_zero]
          refine take_at' (i := 9) 16 (v := .pointer (some ⟨w.heap.size, 3, none⟩)) rfl rfl (by kernel_rfl) (by kernel_rfl) (by kernel_rfl) (fun _ _ _ h => by cases h.1) (Or.inl ⟨by rfl, fun w' _ => (by go_simp)⟩) trivial ?_
          simp only [List.setIfInBounds_toArray, List.set_cons_succ, List.set_cons_zero]
          refine wpAnyH_all (rs := [8]) (by kernel_rfl) (by simp) ?_
          intro i hi
          obtain rfl : i = 8 := by simpa using hi
          refine call_at 15 (f := 42) (args := #[.slice k ks.length kc]) (w' := Z2) rfl rfl rfl (by go_simp) ((C3 Z2 hlZ2).out.mono ?_)
          rintro e Z3 ⟨t3, k3, rfl, hB, hR⟩
          have D3 := Lib.hid (show CloneP 7 ks.length k Z2 (.returned (.slice t3 ks.length k3)) Z3 from ⟨t3, k3, rfl, hB, hR⟩)
          have hlZ3 := below_step hlZ2 hB
          have hbZ3 : BoxH Z3 w.heap.size ⟨op, nn, s, p, pa.length, pc, q, ps.length, qc, o, k, ks.length, kc⟩ := (hB.block _ hbZ2.lt).trans hbZ2
          clear hB hR
          refine ⟨_, rfl, trivial, ?_⟩
          simp only [List.setIfInBounds_toArray, List.set_cons_succ, List.set_cons_zero]
          obtain ⟨Y3, hY3⟩ : ∃ Y, Z3.setCell ⟨w.heap.size, 3, none⟩ (.slice t1 pa.length k1) = Y := ⟨_, rfl⟩
          have hbY3 := hbZ3.set3 t1 k1
          dsimp only at hbY3
          rw [hY3] at hbY3
          have HY3 := Lib.hid hY3
          clear hY3
          refine wpAnyH_all (rs := [10]) (by kernel_rfl) (by simp) ?_
          intro i hi
          obtain rfl : i = 10 := by simpa using hi
          refine skip_at (w' := Z3.setCell ⟨w.heap.size, 3, none⟩ (.slice t1 pa.length k1)) rfl rfl rfl (by obtain ⟨-, -, -, d3, d4, -, d6⟩ := hbZ3.cells; dsimp only at d3 d4 d6; simp only [Nat.zero_add] at d3 d4 d6; have ff := hbZ3.frozen 3; go_simp) ⟨trivial, ?_⟩
          rw [HY3.out]
          refine take_at' (i := 11) 17 (v := .pointer (some ⟨w.heap.size, 4, none⟩)) rfl rfl (by kernel_rfl) (by kernel_rfl) (by kernel_rfl) (fun _ _ _ h => by cases h.1) (Or.inl ⟨by rfl, fun w' _ => (by go_simp)⟩) trivial ?_
          simp only [List.setIfInBounds_toArray, List.set_cons_succ, List.set_cons_zero]
          obtain ⟨Y4, hY4⟩ : ∃ Y, Y3.setCell ⟨w.heap.size, 4, none⟩ (.slice t2 ps.length k2) = Y := ⟨_, rfl⟩
          have hbY4 := hbY3.set4 t2 k2
          dsimp only at hbY4
          rw [hY4] at hbY4
          have HY4 := Lib.hid hY4
          clear hY4
          refine wpAnyH_all (rs := [12]) (by kernel_rfl) (by simp) ?_
          intro i hi
          obtain rfl : i = 12 := by simpa using hi
          refine skip_at (w' := Y3.setCell ⟨w.heap.size, 4, none⟩ (.slice t2 ps.length k2)) rfl rfl rfl (by obtain ⟨-, -, -, d3, d4, -, d6⟩ := hbY3.cells; dsimp only at d3 d4 d6; simp only [Nat.zero_add] at d3 d4 d6; have ff := hbY3.frozen 4; go_simp) ⟨trivial, ?_⟩
          rw [HY4.out]
          refine take_at' (i := 13) 18 (v := .pointer (some ⟨w.heap.size, 6, none⟩)) rfl rfl (by kernel_rfl) (by kernel_rfl) (by kernel_rfl) (fun _ _ _ h => by cases h.1) (Or.inl ⟨by rfl, fun w' _ => (by go_simp)⟩) trivial ?_
          simp only [List.setIfInBounds_toArray, List.set_cons_succ, List.set_cons_zero]
          obtain ⟨Y6, hY6⟩ : ∃ Y, Y4.setCell ⟨w.heap.size, 6, none⟩ (.slice t3 ks.length k3) = Y := ⟨_, rfl⟩
          have hbY6 := hbY4.set6 t3 k3
          dsimp only at hbY6
          rw [hY6] at hbY6
          have HY6 := Lib.hid hY6
          clear hY6
          refine wpAnyH_all (rs := [14]) (by kernel_rfl) (by simp) ?_
          intro i hi
          obtain rfl : i = 14 := by simpa using hi
          refine skip_at (w' := Y4.setCell ⟨w.heap.size, 6, none⟩ (.slice t3 ks.length k3)) rfl rfl rfl (by obtain ⟨-, -, -, d3, d4, -, d6⟩ := hbY4.cells; dsimp only at d3 d4 d6; simp only [Nat.zero_add] at d3 d4 d6; have ff := hbY4.frozen 6; go_simp) ⟨trivial, ?_⟩
          rw [HY6.out]
          refine wpAnyH_done (by kernel_rfl) ?_ _
          refine ⟨rfl, t1, k1, t2, k2, t3, k3, Z1.heap.size, Z2.heap.size, Z3.heap.size, rfl, ?_⟩
          rw [← HY6.out, ← HY4.out, ← HY3.out]
          exact ci_begin hdz hd0 hdb hdr HPA.out HPS.out HKS.out D1.out D2.out D3.out
        · refine value_at 14 (v := .slice k ks.length kc) (w' := Z1) rfl rfl rfl (by obtain ⟨-, -, -, d3, d4, -, d6⟩ := hbZ1.cells; dsimp only at d3 d4 d6; simp only [Nat.zero_add] at d3 d4 d6; go_simp) ⟨trivial, ?_⟩
          simp only [List.setIfInBounds_toArray, List.set_cons_succ, List.set_cons_zero]
          refine take_at' (i := 9) 16 (v := .pointer (some ⟨w.heap.size, 3, none⟩)) rfl rfl (by kernel_rfl) (by kernel_rfl) (by kernel_rfl) (fun _ _ _ h => by cases h.1) (Or.inl ⟨by rfl, fun w' _ => (by go_simp)⟩) trivial ?_
          simp only [List.setIfInBounds_toArray, List.set_cons_succ, List.set_cons_zero]
          refine wpAnyH_all (rs := [5]) (by kernel_rfl) (by simp) ?_
          intro i hi
          obtain rfl : i = 5 := by simpa using hi
          refine call_at 12 (f := 41) (args := #[.slice q ps.length qc]) (w' := Z1) rfl rfl rfl (by go_simp) ((C2 Z1 hlZ1).out.mono ?_)
          rintro e Z2 ⟨t2, k2, rfl, hB, hR⟩
          have D2 := Lib.hid (show CloneP 8 ps.length q Z1 (.returned (.slice t2 ps.length k2)) Z2 from ⟨t2, k2, rfl, hB, hR⟩)
          have hlZ2 := below_step hlZ1 hB
          have hbZ2 : BoxH Z2 w.heap.size ⟨op, nn, s, p, pa.length, pc, q, ps.length, qc, o, k, ks.length, kc⟩ := (hB.block _ hbZ1.lt).trans hbZ1
          clear hB hR
          refine ⟨_, rfl, trivial, ?_⟩
          simp only [List.setIfInBounds_toArray, List.set_cons_succ, List.set_cons_zero]
          refine wpAnyH_all (rs := [8]) (by kernel_rfl) (by simp) ?_
          intro i hi
          obtain rfl : i = 8 := by simpa using hi
          refine call_at 15 (f := 42) (args := #[.slice k ks.length kc]) (w' := Z2) rfl rfl rfl (by go_simp) ((C3 Z2 hlZ2).out.mono ?_)
          rintro e Z3 ⟨t3, k3, rfl, hB, hR⟩
          have D3 := Lib.hid (show CloneP 7 ks.length k Z2 (.returned (.slice t3 ks.length k3)) Z3 from ⟨t3, k3, rfl, hB, hR⟩)
          have hlZ3 := below_step hlZ2 hB
          have hbZ3 : BoxH Z3 w.heap.size ⟨op, nn, s, p, pa.length, pc, q, ps.length, qc, o, k, ks.length, kc⟩ := (hB.block _ hbZ2.lt).trans hbZ2
          clear hB hR
          refine ⟨_, rfl, trivial, ?_⟩
          simp only [List.setIfInBounds_toArray, List.set_cons_succ, List.set_cons_zero]
          obtain ⟨Y3, hY3⟩ : ∃ Y, Z3.setCell ⟨w.heap.size, 3, none⟩ (.slice t1 pa.length k1) = Y := ⟨_, rfl⟩
          have hbY3 := hbZ3.set3 t1 k1
          dsimp only at hbY3
          rw [hY3] at hbY3
          have HY3 := Lib.hid hY3
          clear hY3
          refine wpAnyH_all (rs := [10]) (by kernel_rfl) (by simp) ?_
          intro i hi
          obtain rfl : i = 10 := by simpa using hi
          refine skip_at (w' := Z3.setCell ⟨w.heap.size, 3, none⟩ (.slice t1 pa.length k1)) rfl rfl rfl (by obtain ⟨-, -, -, d3, d4, -, d6⟩ := hbZ3.cells; dsimp only at d3 d4 d6; simp only [Nat.zero_add] at d3 d4 d6; have ff := hbZ3.frozen 3; go_simp) ⟨trivial, ?_⟩
          rw [HY3.out]
          refine take_at' (i := 11) 17 (v := .pointer (some ⟨w.heap.size, 4, none⟩)) rfl rfl (by kernel_rfl) (by kernel_rfl) (by kernel_rfl) (fun _ _ _ h => by cases h.1) (Or.inl ⟨by rfl, fun w' _ => (by go_simp)⟩) trivial ?_
          simp only [List.setIfInBounds_toArray, List.set_cons_succ, List.set_cons_zero]
          obtain ⟨Y4, hY4⟩ : ∃ Y, Y3.setCell ⟨w.heap.size, 4, none⟩ (.slice t2 ps.length k2) = Y := ⟨_, rfl⟩
          have hbY4 := hbY3.set4 t2 k2
          dsimp only at hbY4
          rw [hY4] at hbY4
          have HY4 := Lib.hid hY4
          clear hY4
          refine wpAnyH_all (rs := [12]) (by kernel_rfl) (by simp) ?_
          intro i hi
          obtain rfl : i = 12 := by simpa using hi
          refine skip_at (w' := Y3.setCell ⟨w.heap.size, 4, none⟩ (.slice t2 ps.length k2)) rfl rfl rfl (by obtain ⟨-, -, -, d3, d4, -, d6⟩ := hbY3.cells; dsimp only at d3 d4 d6; simp only [Nat.zero_add] at d3 d4 d6; have ff := hbY3.frozen 4; go_simp) ⟨trivial, ?_⟩
          rw [HY4.out]
          refine take_at' (i := 13) 18 (v := .pointer (some ⟨w.heap.size, 6, none⟩)) rfl rfl (by kernel_rfl) (by kernel_rfl) (by kernel_rfl) (fun _ _ _ h => by cases h.1) (Or.inl ⟨by rfl, fun w' _ => (by go_simp)⟩) trivial ?_
          simp only [List.setIfInBounds_toArray, List.set_cons_succ, List.set_cons_zero]
          obtain ⟨Y6, hY6⟩ : ∃ Y, Y4.setCell ⟨w.heap.size, 6, none⟩ (.slice t3 ks.length k3) = Y := ⟨_, rfl⟩
          have hbY6 := hbY4.set6 t3 k3
          dsimp only at hbY6
          rw [hY6] at hbY6
          have HY6 := Lib.hid hY6
          clear hY6
          refine wpAnyH_all (rs := [14]) (by kernel_rfl) (by simp) ?_
          intro i hi
          obtain rfl : i = 14 := by simpa using hi
          refine skip_at (w' := Y4.setCell ⟨w.heap.size, 6, none⟩ (.slice t3 ks.length k3)) rfl rfl rfl (by obtain ⟨-, -, -, d3, d4, -, d6⟩ := hbY4.cells; dsimp only at d3 d4 d6; simp only [Nat.zero_add] at d3 d4 d6; have ff := hbY4.frozen 6; go_simp) ⟨trivial, ?_⟩
          rw [HY6.out]
          refine wpAnyH_done (by kernel_rfl) ?_ _
          refine ⟨rfl, t1, k1, t2, k2, t3, k3, Z1.heap.size, Z2.heap.size, Z3.heap.size, rfl, ?_⟩
          rw [← HY6.out, ← HY4.out, ← HY3.out]
          exact ci_begin hdz hd0 hdb hdr HPA.out HPS.out HKS.out D1.out D2.out D3.out
      · refine value_at 14 (v := .slice k ks.length kc) (w' := Z1) rfl rfl rfl (by obtain ⟨-, -, -, d3, d4, -, d6⟩ := hbZ1.cells; dsimp only at d3 d4 d6; simp only [Nat.zero_add] at d3 d4 d6; go_simp) ⟨trivial, ?_⟩
        simp only [List.setIfInBounds_toArray, List.set_cons_succ, List.set_cons_zero]
        refine wpAnyH_all (rs := [4]) (by kernel_rfl) (by simp) ?_
        intro i hi
        obtain rfl : i = 4 := by simpa using hi
        refine value_at 11 (v := .slice q ps.length qc) (w' := Z1) rfl rfl rfl (by obtain ⟨-, -, -, d3, d4, -, d6⟩ := hbZ1.cells; dsimp only at d3 d4 d6; simp only [Nat.zero_add] at d3 d4 d6; go_simp) ⟨trivial, ?_⟩
        simp only [List.setIfInBounds_toArray, List.set_cons_succ, List.set_cons_zero]
        refine take_at' (i := 9) 16 (v := .pointer (some ⟨w.heap.size, 3, none⟩)) rfl rfl (by kernel_rfl) (by kernel_rfl) (by kernel_rfl) (fun _ _ _ h => by cases h.1) (Or.inl ⟨by rfl, fun w' _ => (by go_simp)⟩) trivial ?_
        simp only [List.setIfInBounds_toArray, List.set_cons_succ, List.set_cons_zero]
        refine wpAnyH_all (rs := [5]) (by kernel_rfl) (by simp) ?_
        intro i hi
        obtain rfl : i = 5 := by simpa using hi
        refine call_at 12 (f := 41) (args := #[.slice q ps.length qc]) (w' := Z1) rfl rfl rfl (by go_simp) ((C2 Z1 hlZ1).out.mono ?_)
        rintro e Z2 ⟨t2, k2, rfl, hB, hR⟩
        have D2 := Lib.hid (show CloneP 8 ps.length q Z1 (.returned (.slice t2 ps.length k2)) Z2 from ⟨t2, k2, rfl, hB, hR⟩)
        have hlZ2 := below_step hlZ1 hB
        have hbZ2 : BoxH Z2 w.heap.size ⟨op, nn, s, p, pa.length, pc, q, ps.length, qc, o, k, ks.length, kc⟩ := (hB.block _ hbZ1.lt).trans hbZ1
        clear hB hR
        refine ⟨_, rfl, trivial, ?_⟩
        simp only [List.setIfInBounds_toArray, List.set_cons_succ, List.set_cons_zero]
        refine wpAnyH_all (rs := [8]) (by kernel_rfl) (by simp) ?_
        intro i hi
        obtain rfl : i = 8 := by simpa using hi
        refine call_at 15 (f := 42) (args := #[.slice k ks.length kc]) (w' := Z2) rfl rfl rfl (by go_simp) ((C3 Z2 hlZ2).out.mono ?_)
        rintro e Z3 ⟨t3, k3, rfl, hB, hR⟩
        have D3 := Lib.hid (show CloneP 7 ks.length k Z2 (.returned (.slice t3 ks.length k3)) Z3 from ⟨t3, k3, rfl, hB, hR⟩)
        have hlZ3 := below_step hlZ2 hB
        have hbZ3 : BoxH Z3 w.heap.size ⟨op, nn, s, p, pa.length, pc, q, ps.length, qc, o, k, ks.length, kc⟩ := (hB.block _ hbZ2.lt).trans hbZ2
        clear hB hR
        refine ⟨_, rfl, trivial, ?_⟩
        simp only [List.setIfInBounds_toArray, List.set_cons_succ, List.set_cons_zero]
        obtain ⟨Y3, hY3⟩ : ∃ Y, Z3.setCell ⟨w.heap.size, 3, none⟩ (.slice t1 pa.length k1) = Y := ⟨_, rfl⟩
        have hbY3 := hbZ3.set3 t1 k1
        dsimp only at hbY3
        rw [hY3] at hbY3
        have HY3 := Lib.hid hY3
        clear hY3
        refine wpAnyH_all (rs := [10]) (by kernel_rfl) (by simp) ?_
        intro i hi
        obtain rfl : i = 10 := by simpa using hi
        refine skip_at (w' := Z3.setCell ⟨w.heap.size, 3, none⟩ (.slice t1 pa.length k1)) rfl rfl rfl (by obtain ⟨-, -, -, d3, d4, -, d6⟩ := hbZ3.cells; dsimp only at d3 d4 d6; simp only [Nat.zero_add] at d3 d4 d6; have ff := hbZ3.frozen 3; go_simp) ⟨trivial, ?_⟩
        rw [HY3.out]
        refine take_at' (i := 11) 17 (v := .pointer (some ⟨w.heap.size, 4, none⟩)) rfl rfl (by kernel_rfl) (by kernel_rfl) (by kernel_rfl) (fun _ _ _ h => by cases h.1) (Or.inl ⟨by rfl, fun w' _ => (by go_simp)⟩) trivial ?_
        simp only [List.setIfInBounds_toArray, List.set_cons_succ, List.set_cons_zero]
        obtain ⟨Y4, hY4⟩ : ∃ Y, Y3.setCell ⟨w.heap.size, 4, none⟩ (.slice t2 ps.length k2) = Y := ⟨_, rfl⟩
        have hbY4 := hbY3.set4 t2 k2
        dsimp only at hbY4
        rw [hY4] at hbY4
        have HY4 := Lib.hid hY4
        clear hY4
        refine wpAnyH_all (rs := [12]) (by kernel_rfl) (by simp) ?_
        intro i hi
        obtain rfl : i = 12 := by simpa using hi
        refine skip_at (w' := Y3.setCell ⟨w.heap.size, 4, none⟩ (.slice t2 ps.length k2)) rfl rfl rfl (by obtain ⟨-, -, -, d3, d4, -, d6⟩ := hbY3.cells; dsimp only at d3 d4 d6; simp only [Nat.zero_add] at d3 d4 d6; have ff := hbY3.frozen 4; go_simp) ⟨trivial, ?_⟩
        rw [HY4.out]
        refine take_at' (i := 13) 18 (v := .pointer (some ⟨w.heap.size, 6, none⟩)) rfl rfl (by kernel_rfl) (by kernel_rfl) (by kernel_rfl) (fun _ _ _ h => by cases h.1) (Or.inl ⟨by rfl, fun w' _ => (by go_simp)⟩) trivial ?_
        simp only [List.setIfInBounds_toArray, List.set_cons_succ, List.set_cons_zero]
        obtain ⟨Y6, hY6⟩ : ∃ Y, Y4.setCell ⟨w.heap.size, 6, none⟩ (.slice t3 ks.length k3) = Y := ⟨_, rfl⟩
        have hbY6 := hbY4.set6 t3 k3
        dsimp only at hbY6
        rw [hY6] at hbY6
        have HY6 := Lib.hid hY6
        clear hY6
        refine wpAnyH_all (rs := [14]) (by kernel_rfl) (by simp) ?_
        intro i hi
        obtain rfl : i = 14 := by simpa using hi
        refine skip_at (w' := Y4.setCell ⟨w.heap.size, 6, none⟩ (.slice t3 ks.length k3)) rfl rfl rfl (by obtain ⟨-, -, -, d3, d4, -, d6⟩ := hbY4.cells; dsimp only at d3 d4 d6; simp only [Nat.zero_add] at d3 d4 d6; have ff := hbY4.frozen 6; go_simp) ⟨trivial, ?_⟩
        rw [HY6.out]
        refine wpAnyH_done (by kernel_rfl) ?_ _
        refine ⟨rfl, t1, k1, t2, k2, t3, k3, Z1.heap.size, Z2.heap.size, Z3.heap.size, rfl, ?_⟩
        rw [← HY6.out, ← HY4.out, ← HY3.out]
        exact ci_begin hdz hd0 hdb hdr HPA.out HPS.out HKS.out D1.out D2.out D3.out
    · refine value_at 11 (v := .slice q ps.length qc) (w' := wd) rfl rfl rfl (by obtain ⟨-, -, -, d3, d4, -, d6⟩ := hdb.cells; dsimp only at d3 d4 d6; simp only [Nat.zero_add] at d3 d4 d6; go_simp) ⟨trivial, ?_⟩
      simp only [List.setIfInBounds_toArray, List.set_cons_succ, List.set_cons_zero]
      refine wpAnyH_all (rs := [2, 7]) (by kernel_rfl) (by simp) ?_
      intro i hi
      have hi2 : i = 2 ∨ i = 7 := by simpa using hi
      rcases hi2 with rfl | rfl
      · refine call_at 9 (f := 40) (args := #[.slice p pa.length pc]) (w' := wd) rfl rfl rfl (by go_simp) ((C1 wd hd0).out.mono ?_)
        rintro e Z1 ⟨t1, k1, rfl, hB, hR⟩
        have D1 := Lib.hid (show CloneP 1 pa.length p wd (.returned (.slice t1 pa.length k1)) Z1 from ⟨t1, k1, rfl, hB, hR⟩)
        have hlZ1 := below_step hd0 hB
        have hbZ1 : BoxH Z1 w.heap.size ⟨op, nn, s, p, pa.length, pc, q, ps.length, qc, o, k, ks.length, kc⟩ := (hB.block _ hdb.lt).trans hdb
        clear hB hR
        refine ⟨_, rfl, trivial, ?_⟩
        simp only [List.setIfInBounds_toArray, List.set_cons_succ, List.set_cons_zero]
        refine wpAnyH_all (rs := [5, 7]) (by kernel_rfl) (by simp) ?_
        intro i hi
        have hi2 : i = 5 ∨ i = 7 := by simpa using hi
        rcases hi2 with rfl | rfl
        · refine call_at 12 (f := 41) (args := #[.slice q ps.length qc]) (w' := Z1) rfl rfl rfl (by go_simp) ((C2 Z1 hlZ1).out.mono ?_)
          rintro e Z2 ⟨t2, k2, rfl, hB, hR⟩
          have D2 := Lib.hid (show CloneP 8 ps.length q Z1 (.returned (.slice t2 ps.length k2)) Z2 from ⟨t2, k2, rfl, hB, hR⟩)
          have hlZ2 := below_step hlZ1 hB
          have hbZ2 : BoxH Z2 w.heap.size ⟨op, nn, s, p, pa.length, pc, q, ps.length, qc, o, k, ks.length, kc⟩ := (hB.block _ hbZ1.lt).trans hbZ1
          clear hB hR
          refine ⟨_, rfl, trivial, ?_⟩
          simp only [List.setIfInBounds_toArray, List.set_cons_succ, List.set_cons_zero]
          refine wpAnyH_all (rs := [7]) (by kernel_rfl) (by simp) ?_
          intro i hi
          obtain rfl : i = 7 := by simpa using hi
          refine value_at 14 (v := .slice k ks.length kc) (w' := Z2) rfl rfl rfl (by obtain ⟨-, -, -, d3, d4, -, d6⟩ := hbZ2.cells; dsimp only at d3 d4 d6; simp only [Nat.zero_add] at d3 d4 d6; go_simp) ⟨trivial, ?_⟩
          simp only [List.setIfInBounds_toArray, List.set_cons_succ, List.set_cons_zero]
          refine take_at' (i := 9) 16 (v := .pointer (some ⟨w.heap.size, 3, none⟩)) rfl rfl (by kernel_rfl) (by kernel_rfl) (by kernel_rfl) (fun _ _ _ h => by cases h.1) (Or.inl ⟨by rfl, fun w' _ => (by go_simp)⟩) trivial ?_
          simp only [List.setIfInBounds_toArray, List.set_cons_succ, List.set_cons_zero]
          refine wpAnyH_all (rs := [8]) (by kernel_rfl) (by simp) ?_
          intro i hi
          obtain rfl : i = 8 := by simpa using hi
          refine call_at 15 (f := 42) (args := #[.slice k ks.length kc]) (w' := Z2) rfl rfl rfl (by go_simp) ((C3 Z2 hlZ2).out.mono ?_)
          rintro e Z3 ⟨t3, k3, rfl, hB, hR⟩
          have D3 := Lib.hid (show CloneP 7 ks.length k Z2 (.returned (.slice t3 ks.length k3)) Z3 from ⟨t3, k3, rfl, hB, hR⟩)
          have hlZ3 := below_step hlZ2 hB
          have hbZ3 : BoxH Z3 w.heap.size ⟨op, nn, s, p, pa.length, pc, q, ps.length, qc, o, k, ks.length, kc⟩ := (hB.block _ hbZ2.lt).trans hbZ2
          clear hB hR
          refine ⟨_, rfl, trivial, ?_⟩
          simp only [List.setIfInBounds_toArray, List.set_cons_succ, List.set_cons_zero]
          obtain ⟨Y3, hY3⟩ : ∃ Y, Z3.setCell ⟨w.heap.size, 3, none⟩ (.slice t1 pa.length k1) = Y := ⟨_, rfl⟩
          have hbY3 := hbZ3.set3 t1 k1
          dsimp only at hbY3
          rw [hY3] at hbY3
          have HY3 := Lib.hid hY3
          clear hY3
          refine wpAnyH_all (rs := [10]) (by kernel_rfl) (by simp) ?_
          intro i hi
          obtain rfl : i = 10 := by simpa using hi
          refine skip_at (w' := Z3.setCell ⟨w.heap.size, 3, none⟩ (.slice t1 pa.length k1)) rfl rfl rfl (by obtain ⟨-, -, -, d3, d4, -, d6⟩ := hbZ3.cells; dsimp only at d3 d4 d6; simp only [Nat.zero_add] at d3 d4 d6; have ff := hbZ3.frozen 3; go_simp) ⟨trivial, ?_⟩
          rw [HY3.out]
          refine take_at' (i := 11) 17 (v := .pointer (some ⟨w.heap.size, 4, none⟩)) rfl rfl (by kernel_rfl) (by kernel_rfl) (by kernel_rfl) (fun _ _ _ h => by cases h.1) (Or.inl ⟨by rfl, fun w' _ => (by go_simp)⟩) trivial ?_
          simp only [List.setIfInBounds_toArray, List.set_cons_succ, List.set_cons_zero]
          obtain ⟨Y4, hY4⟩ : ∃ Y, Y3.setCell ⟨w.heap.size, 4, none⟩ (.slice t2 ps.length k2) = Y := ⟨_, rfl⟩
          have hbY4 := hbY3.set4 t2 k2
          dsimp only at hbY4
          rw [hY4] at hbY4
          have HY4 := Lib.hid hY4
          clear hY4
          refine wpAnyH_all (rs := [12]) (by kernel_rfl) (by simp) ?_
          intro i hi
          obtain rfl : i = 12 := by simpa using hi
          refine skip_at (w' := Y3.setCell ⟨w.heap.size, 4, none⟩ (.slice t2 ps.length k2)) rfl rfl rfl (by obtain ⟨-, -, -, d3, d4, -, d6⟩ := hbY3.cells; dsimp only at d3 d4 d6; simp only [Nat.zero_add] at d3 d4 d6; have ff := hbY3.frozen 4; go_simp) ⟨trivial, ?_⟩
          rw [HY4.out]
          refine take_at' (i := 13) 18 (v := .pointer (some ⟨w.heap.size, 6, none⟩)) rfl rfl (by kernel_rfl) (by kernel_rfl) (by kernel_rfl) (fun _ _ _ h => by cases h.1) (Or.inl ⟨by rfl, fun w' _ => (by go_simp)⟩) trivial ?_
          simp only [List.setIfInBounds_toArray, List.set_cons_succ, List.set_cons_zero]
          obtain ⟨Y6, hY6⟩ : ∃ Y, Y4.setCell ⟨w.heap.size, 6, none⟩ (.slice t3 ks.length k3) = Y := ⟨_, rfl⟩
          have hbY6 := hbY4.set6 t3 k3
          dsimp only at hbY6
          rw [hY6] at hbY6
          have HY6 := Lib.hid hY6
          clear hY6
          refine wpAnyH_all (rs := [14]) (by kernel_rfl) (by simp) ?_
          intro i hi
          obtain rfl : i = 14 := by simpa using hi
          refine skip_at (w' := Y4.setCell ⟨w.heap.size, 6, none⟩ (.slice t3 ks.length k3)) rfl rfl rfl (by obtain ⟨-, -, -, d3, d4, -, d6⟩ := hbY4.cells; dsimp only at d3 d4 d6; simp only [Nat.zero_add] at d3 d4 d6; have ff := hbY4.frozen 6; go_simp) ⟨trivial, ?_⟩
          rw [HY6.out]
          refine wpAnyH_done (by kernel_rfl) ?_ _
          refine ⟨rfl, t1, k1, t2, k2, t3, k3, Z1.heap.size, Z2.heap.size, Z3.heap.size, rfl, ?_⟩
          rw [← HY6.out, ← HY4.out, ← HY3.out]
          exact ci_begin hdz hd0 hdb hdr HPA.out HPS.out HKS.out D1.out D2.out D3.out
        · refine value_at 14 (v := .slice k ks.length kc) (w' := Z1) rfl rfl rfl (by obtain ⟨-, -, -, d3, d4, -, d6⟩ := hbZ1.cells; dsimp only at d3 d4 d6; simp only [Nat.zero_add] at d3 d4 d6; go_simp) ⟨trivial, ?_⟩
          simp only [List.setIfInBounds_toArray, List.set_cons_succ, List.set_cons_zero]
          refine take_at' (i := 9) 16 (v := .pointer (some ⟨w.heap.size, 3, none⟩)) rfl rfl (by kernel_rfl) (by kernel_rfl) (by kernel_rfl) (fun _ _ _ h => by cases h.1) (Or.inl ⟨by rfl, fun w' _ => (by go_simp)⟩) trivial ?_
          simp only [List.setIfInBounds_toArray, List.set_cons_succ, List.set_cons_zero]
          refine wpAnyH_all (rs := [5]) (by kernel_rfl) (by simp) ?_
          intro i hi
          obtain rfl : i = 5 := by simpa using hi
          refine call_at 12 (f := 41) (args := #[.slice q ps.length qc]) (w' := Z1) rfl rfl rfl (by go_simp) ((C2 Z1 hlZ1).out.mono ?_)
          rintro e Z2 ⟨t2, k2, rfl, hB, hR⟩
          have D2 := Lib.hid (show CloneP 8 ps.length q Z1 (.returned (.slice t2 ps.length k2)) Z2 from ⟨t2, k2, rfl, hB, hR⟩)
          have hlZ2 := below_step hlZ1 hB
          have hbZ2 : BoxH Z2 w.heap.size ⟨op, nn, s, p, pa.length, pc, q, ps.length, qc, o, k, ks.length, kc⟩ := (hB.block _ hbZ1.lt).trans hbZ1
          clear hB hR
          refine ⟨_, rfl, trivial, ?_⟩
          simp only [List.setIfInBounds_toArray, List.set_cons_succ, List.set_cons_zero]
          refine wpAnyH_all (rs := [8]) (by kernel_rfl) (by simp) ?_
          intro i hi
          obtain rfl : i = 8 := by simpa using hi
          refine call_at 15 (f := 42) (args := #[.slice k ks.length kc]) (w' := Z2) rfl rfl rfl (by go_simp) ((C3 Z2 hlZ2).out.mono ?_)
          rintro e Z3 ⟨t3, k3, rfl, hB, hR⟩
          have D3 := Lib.hid (show CloneP 7 ks.length k Z2 (.returned (.slice t3 ks.length k3)) Z3 from ⟨t3, k3, rfl, hB, hR⟩)
          have hlZ3 := below_step hlZ2 hB
          have hbZ3 : BoxH Z3 w.heap.size ⟨op, nn, s, p, pa.length, pc, q, ps.length, qc, o, k, ks.length, kc⟩ := (hB.block _ hbZ2.lt).trans hbZ2
          clear hB hR
          refine ⟨_, rfl, trivial, ?_⟩
          simp only [List.setIfInBounds_toArray, List.set_cons_succ, List.set_cons_zero]
          obtain ⟨Y3, hY3⟩ : ∃ Y, Z3.setCell ⟨w.heap.size, 3, none⟩ (.slice t1 pa.length k1) = Y := ⟨_, rfl⟩
          have hbY3 := hbZ3.set3 t1 k1
          dsimp only at hbY3
          rw [hY3] at hbY3
          have HY3 := Lib.hid hY3
          clear hY3
          refine wpAnyH_all (rs := [10]) (by kernel_rfl) (by simp) ?_
          intro i hi
          obtain rfl : i = 10 := by simpa using hi
          refine skip_at (w' := Z3.setCell ⟨w.heap.size, 3, none⟩ (.slice t1 pa.length k1)) rfl rfl rfl (by obtain ⟨-, -, -, d3, d4, -, d6⟩ := hbZ3.cells; dsimp only at d3 d4 d6; simp only [Nat.zero_add] at d3 d4 d6; have ff := hbZ3.frozen 3; go_simp) ⟨trivial, ?_⟩
          rw [HY3.out]
          refine take_at' (i := 11) 17 (v := .pointer (some ⟨w.heap.size, 4, none⟩)) rfl rfl (by kernel_rfl) (by kernel_rfl) (by kernel_rfl) (fun _ _ _ h => by cases h.1) (Or.inl ⟨by rfl, fun w' _ => (by go_simp)⟩) trivial ?_
          simp only [List.setIfInBounds_toArray, List.set_cons_succ, List.set_cons_zero]
          obtain ⟨Y4, hY4⟩ : ∃ Y, Y3.setCell ⟨w.heap.size, 4, none⟩ (.slice t2 ps.length k2) = Y := ⟨_, rfl⟩
          have hbY4 := hbY3.set4 t2 k2
          dsimp only at hbY4
          rw [hY4] at hbY4
          have HY4 := Lib.hid hY4
          clear hY4
          refine wpAnyH_all (rs := [12]) (by kernel_rfl) (by simp) ?_
          intro i hi
          obtain rfl : i = 12 := by simpa using hi
          refine skip_at (w' := Y3.setCell ⟨w.heap.size, 4, none⟩ (.slice t2 ps.length k2)) rfl rfl rfl (by obtain ⟨-, -, -, d3, d4, -, d6⟩ := hbY3.cells; dsimp only at d3 d4 d6; simp only [Nat.zero_add] at d3 d4 d6; have ff := hbY3.frozen 4; go_simp) ⟨trivial, ?_⟩
          rw [HY4.out]
          refine take_at' (i := 13) 18 (v := .pointer (some ⟨w.heap.size, 6, none⟩)) rfl rfl (by kernel_rfl) (by kernel_rfl) (by kernel_rfl) (fun _ _ _ h => by cases h.1) (Or.inl ⟨by rfl, fun w' _ => (by go_simp)⟩) trivial ?_
          simp only [List.setIfInBounds_toArray, List.set_cons_succ, List.set_cons_zero]
          obtain ⟨Y6, hY6⟩ : ∃ Y, Y4.setCell ⟨w.heap.size, 6, none⟩ (.slice t3 ks.length k3) = Y := ⟨_, rfl⟩
          have hbY6 := hbY4.set6 t3 k3
          dsimp only at hbY6
          rw [hY6] at hbY6
          have HY6 := Lib.hid hY6
          clear hY6
          refine wpAnyH_all (rs := [14]) (by kernel_rfl) (by simp) ?_
          intro i hi
          obtain rfl : i = 14 := by simpa using hi
          refine skip_at (w' := Y4.setCell ⟨w.heap.size, 6, none⟩ (.slice t3 ks.length k3)) rfl rfl rfl (by obtain ⟨-, -, -, d3, d4, -, d6⟩ := hbY4.cells; dsimp only at d3 d4 d6; simp only [Nat.zero_add] at d3 d4 d6; have ff := hbY4.frozen 6; go_simp) ⟨trivial, ?_⟩
          rw [HY6.out]
          refine wpAnyH_done (by kernel_rfl) ?_ _
          refine ⟨rfl, t1, k1, t2, k2, t3, k3, Z1.heap.size, Z2.heap.size, Z3.heap.size, rfl, ?_⟩
          rw [← HY6.out, ← HY4.out, ← HY3.out]
          exact ci_begin hdz hd0 hdb hdr HPA.out HPS.out HKS.out D1.out D2.out D3.out
      · refine value_at 14 (v := .slice k ks.length kc) (w' := wd) rfl rfl rfl (by obtain ⟨-, -, -, d3, d4, -, d6⟩ := hdb.cells; dsimp only at d3 d4 d6; simp only [Nat.zero_add] at d3 d4 d6; go_simp) ⟨trivial, ?_⟩
        simp only [List.setIfInBounds_toArray, List.set_cons_succ, List.set_cons_zero]
        refine wpAnyH_all (rs := [2]) (by kernel_rfl) (by simp) ?_
        intro i hi
        obtain rfl : i = 2 := by simpa using hi
        refine call_at 9 (f := 40) (args := #[.slice p pa.length pc]) (w' := wd) rfl rfl rfl (by go_simp) ((C1 wd hd0).out.mono ?_)
        rintro e Z1 ⟨t1, k1, rfl, hB, hR⟩
        have D1 := Lib.hid (show CloneP 1 pa.length p wd (.returned (.slice t1 pa.length k1)) Z1 from ⟨t1, k1, rfl, hB, hR⟩)
        have hlZ1 := below_step hd0 hB
        have hbZ1 : BoxH Z1 w.heap.size ⟨op, nn, s, p, pa.length, pc, q, ps.length, qc, o, k, ks.length, kc⟩ := (hB.block _ hdb.lt).trans hdb
        clear hB hR
        refine ⟨_, rfl, trivial, ?_⟩
        simp only [List.setIfInBounds_toArray, List.set_cons_succ, List.set_cons_zero]
        refine take_at' (i := 9) 16 (v := .pointer (some ⟨w.heap.size, 3, none⟩)) rfl rfl (by kernel_rfl) (by kernel_rfl) (by kernel_rfl) (fun _ _ _ h => by cases h.1) (Or.inl ⟨by rfl, fun w' _ => (by go_simp)⟩) trivial ?_
        simp only [List.setIfInBounds_toArray, List.set_cons_succ, List.set_cons_zero]
        refine wpAnyH_all (rs := [5]) (by kernel_rfl) (by simp) ?_
        intro i hi
        obtain rfl : i = 5 := by simpa using hi
        refine call_at 12 (f := 41) (args := #[.slice q ps.length qc]) (w' := Z1) rfl rfl rfl (by go_simp) ((C2 Z1 hlZ1).out.mono ?_)
        rintro e Z2 ⟨t2, k2, rfl, hB, hR⟩
        have D2 := Lib.hid (show CloneP 8 ps.length q Z1 (.returned (.slice t2 ps.length k2)) Z2 from ⟨t2, k2, rfl, hB, hR⟩)
        have hlZ2 := below_step hlZ1 hB
        have hbZ2 : BoxH Z2 w.heap.size ⟨op, nn, s, p, pa.length, pc, q, ps.length, qc, o, k, ks.length, kc⟩ := (hB.block _ hbZ1.lt).trans hbZ1
        clear hB hR
        refine ⟨_, rfl, trivial, ?_⟩
        simp only [List.setIfInBounds_toArray, List.set_cons_succ, List.set_cons_zero]
        refine wpAnyH_all (rs := [8]) (by kernel_rfl) (by simp) ?_
        intro i hi
        obtain rfl : i = 8 := by simpa using hi
        refine call_at 15 (f := 42) (args := #[.slice k ks.length kc]) (w' := Z2) rfl rfl rfl (by go_simp) ((C3 Z2 hlZ2).out.mono ?_)
        rintro e Z3 ⟨t3, k3, rfl, hB, hR⟩
        have D3 := Lib.hid (show CloneP 7 ks.length k Z2 (.returned (.slice t3 ks.length k3)) Z3 from ⟨t3, k3, rfl, hB, hR⟩)
        have hlZ3 := below_step hlZ2 hB
        have hbZ3 : BoxH Z3 w.heap.size ⟨op, nn, s, p, pa.length, pc, q, ps.length, qc, o, k, ks.length, kc⟩ := (hB.block _ hbZ2.lt).trans hbZ2
        clear hB hR
        refine ⟨_, rfl, trivial, ?_⟩
        simp only [List.setIfInBounds_toArray, List.set_cons_succ, List.set_cons_zero]
        obtain ⟨Y3, hY3⟩ : ∃ Y, Z3.setCell ⟨w.heap.size, 3, none⟩ (.slice t1 pa.length k1) = Y := ⟨_, rfl⟩
        have hbY3 := hbZ3.set3 t1 k1
        dsimp only at hbY3
        rw [hY3] at hbY3
        have HY3 := Lib.hid hY3
        clear hY3
        refine wpAnyH_all (rs := [10]) (by kernel_rfl) (by simp) ?_
        intro i hi
        obtain rfl : i = 10 := by simpa using hi
        refine skip_at (w' := Z3.setCell ⟨w.heap.size, 3, none⟩ (.slice t1 pa.length k1)) rfl rfl rfl (by obtain ⟨-, -, -, d3, d4, -, d6⟩ := hbZ3.cells; dsimp only at d3 d4 d6; simp only [Nat.zero_add] at d3 d4 d6; have ff := hbZ3.frozen 3; go_simp) ⟨trivial, ?_⟩
        rw [HY3.out]
        refine take_at' (i := 11) 17 (v := .pointer (some ⟨w.heap.size, 4, none⟩)) rfl rfl (by kernel_rfl) (by kernel_rfl) (by kernel_rfl) (fun _ _ _ h => by cases h.1) (Or.inl ⟨by rfl, fun w' _ => (by go_simp)⟩) trivial ?_
        simp only [List.setIfInBounds_toArray, List.set_cons_succ, List.set_cons_zero]
        obtain ⟨Y4, hY4⟩ : ∃ Y, Y3.setCell ⟨w.heap.size, 4, none⟩ (.slice t2 ps.length k2) = Y := ⟨_, rfl⟩
        have hbY4 := hbY3.set4 t2 k2
        dsimp only at hbY4
        rw [hY4] at hbY4
        have HY4 := Lib.hid hY4
        clear hY4
        refine wpAnyH_all (rs := [12]) (by kernel_rfl) (by simp) ?_
        intro i hi
        obtain rfl : i = 12 := by simpa using hi
        refine skip_at (w' := Y3.setCell ⟨w.heap.size, 4, none⟩ (.slice t2 ps.length k2)) rfl rfl rfl (by obtain ⟨-, -, -, d3, d4, -, d6⟩ := hbY3.cells; dsimp only at d3 d4 d6; simp only [Nat.zero_add] at d3 d4 d6; have ff := hbY3.frozen 4; go_simp) ⟨trivial, ?_⟩
        rw [HY4.out]
        refine take_at' (i := 13) 18 (v := .pointer (some ⟨w.heap.size, 6, none⟩)) rfl rfl (by kernel_rfl) (by kernel_rfl) (by kernel_rfl) (fun _ _ _ h => by cases h.1) (Or.inl ⟨by rfl, fun w' _ => (by go_simp)⟩) trivial ?_
        simp only [List.setIfInBounds_toArray, List.set_cons_succ, List.set_cons_zero]
        obtain ⟨Y6, hY6⟩ : ∃ Y, Y4.setCell ⟨w.heap.size, 6, none⟩ (.slice t3 ks.length k3) = Y := ⟨_, rfl⟩
        have hbY6 := hbY4.set6 t3 k3
        dsimp only at hbY6
        rw [hY6] at hbY6
        have HY6 := Lib.hid hY6
        clear hY6
        refine wpAnyH_all (rs := [14]) (by kernel_rfl) (by simp) ?_
        intro i hi
        obtain rfl : i = 14 := by simpa using hi
        refine skip_at (w' := Y4.setCell ⟨w.heap.size, 6, none⟩ (.slice t3 ks.length k3)) rfl rfl rfl (by obtain ⟨-, -, -, d3, d4, -, d6⟩ := hbY4.cells; dsimp only at d3 d4 d6; simp only [Nat.zero_add] at d3 d4 d6; have ff := hbY4.frozen 6; go_simp) ⟨trivial, ?_⟩
        rw [HY6.out]
        refine wpAnyH_done (by kernel_rfl) ?_ _
        refine ⟨rfl, t1, k1, t2, k2, t3, k3, Z1.heap.size, Z2.heap.size, Z3.heap.size, rfl, ?_⟩
        rw [← HY6.out, ← HY4.out, ← HY3.out]
        exact ci_begin hdz hd0 hdb hdr HPA.out HPS.out HKS.out D1.out D2.out D3.out
    · refine value_at 14 (v := .slice k ks.length kc) (w' := wd) rfl rfl rfl (by obtain ⟨-, -, -, d3, d4, -, d6⟩ := hdb.cells; dsimp only at d3 d4 d6; simp only [Nat.zero_add] at d3 d4 d6; go_simp) ⟨trivial, ?_⟩
      simp only [List.setIfInBounds_toArray, List.set_cons_succ, List.set_cons_zero]
      refine wpAnyH_all (rs := [2, 4]) (by kernel_rfl) (by simp) ?_
      intro i hi
      have hi2 : i = 2 ∨ i = 4 := by simpa using hi
      rcases hi2 with rfl | rfl
      · refine call_at 9 (f := 40) (args := #[.slice p pa.length pc]) (w' := wd) rfl rfl rfl (by go_simp) ((C1 wd hd0).out.mono ?_)
        rintro e Z1 ⟨t1, k1, rfl, hB, hR⟩
        have D1 := Lib.hid (show CloneP 1 pa.length p wd (.returned (.slice t1 pa.length k1)) Z1 from ⟨t1, k1, rfl, hB, hR⟩)
        have hlZ1 := below_step hd0 hB
        have hbZ1 : BoxH Z1 w.heap.size ⟨op, nn, s, p, pa.length, pc, q, ps.length, qc, o, k, ks.length, kc⟩ := (hB.block _ hdb.lt).trans hdb
        clear hB hR
        refine ⟨_, rfl, trivial, ?_⟩
        simp only [List.setIfInBounds_toArray, List.set_cons_succ, List.set_cons_zero]
        refine wpAnyH_all (rs := [4]) (by kernel_rfl) (by simp) ?_
        intro i hi
        obtain rfl : i = 4 := by simpa using hi
        refine value_at 11 (v := .slice q ps.length qc) (w' := Z1) rfl rfl rfl (by obtain ⟨-, -, -, d3, d4, -, d6⟩ := hbZ1.cells; dsimp only at d3 d4 d6; simp only [Nat.zero_add] at d3 d4 d6; go_simp) ⟨trivial, ?_⟩
        simp only [List.setIfInBounds_toArray, List.set_cons_succ, List.set_cons_zero]
        refine take_at' (i := 9) 16 (v := .pointer (some ⟨w.heap.size, 3, none⟩)) rfl rfl (by kernel_rfl) (by kernel_rfl) (by kernel_rfl) (fun _ _ _ h => by cases h.1) (Or.inl ⟨by rfl, fun w' _ => (by go_simp)⟩) trivial ?_
        simp only [List.setIfInBounds_toArray, List.set_cons_succ, List.set_cons_zero]
        refine wpAnyH_all (rs := [5]) (by kernel_rfl) (by simp) ?_
        intro i hi
        obtain rfl : i = 5 := by simpa using hi
        refine call_at 12 (f := 41) (args := #[.slice q ps.length qc]) (w' := Z1) rfl rfl rfl (by go_simp) ((C2 Z1 hlZ1).out.mono ?_)
        rintro e Z2 ⟨t2, k2, rfl, hB, hR⟩
        have D2 := Lib.hid (show CloneP 8 ps.length q Z1 (.returned (.slice t2 ps.length k2)) Z2 from ⟨t2, k2, rfl, hB, hR⟩)
        have hlZ2 := below_step hlZ1 hB
        have hbZ2 : BoxH Z2 w.heap.size ⟨op, nn, s, p, pa.length, pc, q, ps.length, qc, o, k, ks.length, kc⟩ := (hB.block _ hbZ1.lt).trans hbZ1
        clear hB hR
        refine ⟨_, rfl, trivial, ?_⟩
        simp only [List.setIfInBounds_toArray, List.set_cons_succ, List.set_cons_zero]
        refine wpAnyH_all (rs := [8]) (by kernel_rfl) (by simp) ?_
        intro i hi
        obtain rfl : i = 8 := by simpa using hi
        refine call_at 15 (f := 42) (args := #[.slice k ks.length kc]) (w' := Z2) rfl rfl rfl (by go_simp) ((C3 Z2 hlZ2).out.mono ?_)
        rintro e Z3 ⟨t3, k3, rfl, hB, hR⟩
        have D3 := Lib.hid (show CloneP 7 ks.length k Z2 (.returned (.slice t3 ks.length k3)) Z3 from ⟨t3, k3, rfl, hB, hR⟩)
        have hlZ3 := below_step hlZ2 hB
        have hbZ3 : BoxH Z3 w.heap.size ⟨op, nn, s, p, pa.length, pc, q, ps.length, qc, o, k, ks.length, kc⟩ := (hB.block _ hbZ2.lt).trans hbZ2
        clear hB hR
        refine ⟨_, rfl, trivial, ?_⟩
        simp only [List.setIfInBounds_toArray, List.set_cons_succ, List.set_cons_zero]
        obtain ⟨Y3, hY3⟩ : ∃ Y, Z3.setCell ⟨w.heap.size, 3, none⟩ (.slice t1 pa.length k1) = Y := ⟨_, rfl⟩
        have hbY3 := hbZ3.set3 t1 k1
        dsimp only at hbY3
        rw [hY3] at hbY3
        have HY3 := Lib.hid hY3
        clear hY3
        refine wpAnyH_all (rs := [10]) (by kernel_rfl) (by simp) ?_
        intro i hi
        obtain rfl : i = 10 := by simpa using hi
        refine skip_at (w' := Z3.setCell ⟨w.heap.size, 3, none⟩ (.slice t1 pa.length k1)) rfl rfl rfl (by obtain ⟨-, -, -, d3, d4, -, d6⟩ := hbZ3.cells; dsimp only at d3 d4 d6; simp only [Nat.zero_add] at d3 d4 d6; have ff := hbZ3.frozen 3; go_simp) ⟨trivial, ?_⟩
        rw [HY3.out]
        refine take_at' (i := 11) 17 (v := .pointer (some ⟨w.heap.size, 4, none⟩)) rfl rfl (by kernel_rfl) (by kernel_rfl) (by kernel_rfl) (fun _ _ _ h => by cases h.1) (Or.inl ⟨by rfl, fun w' _ => (by go_simp)⟩) trivial ?_
        simp only [List.setIfInBounds_toArray, List.set_cons_succ, List.set_cons_zero]
        obtain ⟨Y4, hY4⟩ : ∃ Y, Y3.setCell ⟨w.heap.size, 4, none⟩ (.slice t2 ps.length k2) = Y := ⟨_, rfl⟩
        have hbY4 := hbY3.set4 t2 k2
        dsimp only at hbY4
        rw [hY4] at hbY4
        have HY4 := Lib.hid hY4
        clear hY4
        refine wpAnyH_all (rs := [12]) (by kernel_rfl) (by simp) ?_
        intro i hi
        obtain rfl : i = 12 := by simpa using hi
        refine skip_at (w' := Y3.setCell ⟨w.heap.size, 4, none⟩ (.slice t2 ps.length k2)) rfl rfl rfl (by obtain ⟨-, -, -, d3, d4, -, d6⟩ := hbY3.cells; dsimp only at d3 d4 d6; simp only [Nat.zero_add] at d3 d4 d6; have ff := hbY3.frozen 4; go_simp) ⟨trivial, ?_⟩
        rw [HY4.out]
        refine take_at' (i := 13) 18 (v := .pointer (some ⟨w.heap.size, 6, none⟩)) rfl rfl (by kernel_rfl) (by kernel_rfl) (by kernel_rfl) (fun _ _ _ h => by cases h.1) (Or.inl ⟨by rfl, fun w' _ => (by go_simp)⟩) trivial ?_
        simp only [List.setIfInBounds_toArray, List.set_cons_succ, List.set_cons_zero]
        obtain ⟨Y6, hY6⟩ : ∃ Y, Y4.setCell ⟨w.heap.size, 6, none⟩ (.slice t3 ks.length k3) = Y := ⟨_, rfl⟩
        have hbY6 := hbY4.set6 t3 k3
        dsimp only at hbY6
        rw [hY6] at hbY6
        have HY6 := Lib.hid hY6
        clear hY6
        refine wpAnyH_all (rs := [14]) (by kernel_rfl) (by simp) ?_
        intro i hi
        obtain rfl : i = 14 := by simpa using hi
        refine skip_at (w' := Y4.setCell ⟨w.heap.size, 6, none⟩ (.slice t3 ks.length k3)) rfl rfl rfl (by obtain ⟨-, -, -, d3, d4, -, d6⟩ := hbY4.cells; dsimp only at d3 d4 d6; simp only [Nat.zero_add] at d3 d4 d6; have ff := hbY4.frozen 6; go_simp) ⟨trivial, ?_⟩
        rw [HY6.out]
        refine wpAnyH_done (by kernel_rfl) ?_ _
        refine ⟨rfl, t1, k1, t2, k2, t3, k3, Z1.heap.size, Z2.heap.size, Z3.heap.size, rfl, ?_⟩
        rw [← HY6.out, ← HY4.out, ← HY3.out]
        exact ci_begin hdz hd0 hdb hdr HPA.out HPS.out HKS.out D1.out D2.out D3.out
      · refine value_at 11 (v := .slice q ps.length qc) (w' := wd) rfl rfl rfl (by obtain ⟨-, -, -, d3, d4, -, d6⟩ := hdb.cells; dsimp only at d3 d4 d6; simp only [Nat.zero_add] at d3 d4 d6; go_simp) ⟨trivial, ?_⟩
        simp only [List.setIfInBounds_toArray, List.set_cons_succ, List.set_cons_zero]
        refine wpAnyH_all (rs := [2]) (by kernel_rfl) (by simp) ?_
        intro i hi
        obtain rfl : i = 2 := by simpa using hi
        refine call_at 9 (f := 40) (args := #[.slice p pa.length pc]) (w' := wd) rfl rfl rfl (by go_simp) ((C1 wd hd0).out.mono ?_)
        rintro e Z1 ⟨t1, k1, rfl, hB, hR⟩
        have D1 := Lib.hid (show CloneP 1 pa.length p wd (.returned (.slice t1 pa.length k1)) Z1 from ⟨t1, k1, rfl, hB, hR⟩)
        have hlZ1 := below_step hd0 hB
        have hbZ1 : BoxH Z1 w.heap.size ⟨op, nn, s, p, pa.length, pc, q, ps.length, qc, o, k, ks.length, kc⟩ := (hB.block _ hdb.lt).trans hdb
        clear hB hR
        refine ⟨_, rfl, trivial, ?_⟩
        simp only [List.setIfInBounds_toArray, List.set_cons_succ, List.set_cons_zero]
        refine take_at' (i := 9) 16 (v := .pointer (some ⟨w.heap.size, 3, none⟩)) rfl rfl (by kernel_rfl) (by kernel_rfl) (by kernel_rfl) (fun _ _ _ h => by cases h.1) (Or.inl ⟨by rfl, fun w' _ => (by go_simp)⟩) trivial ?_
        simp only [List.setIfInBounds_toArray, List.set_cons_succ, List.set_cons_zero]
        refine wpAnyH_all (rs := [5]) (by kernel_rfl) (by simp) ?_
        intro i hi
        obtain rfl : i = 5 := by simpa using hi
        refine call_at 12 (f := 41) (args := #[.slice q ps.length qc]) (w' := Z1) rfl rfl rfl (by go_simp) ((C2 Z1 hlZ1).out.mono ?_)
        rintro e Z2 ⟨t2, k2, rfl, hB, hR⟩
        have D2 := Lib.hid (show CloneP 8 ps.length q Z1 (.returned (.slice t2 ps.length k2)) Z2 from ⟨t2, k2, rfl, hB, hR⟩)
        have hlZ2 := below_step hlZ1 hB
        have hbZ2 : BoxH Z2 w.heap.size ⟨op, nn, s, p, pa.length, pc, q, ps.length, qc, o, k, ks.length, kc⟩ := (hB.block _ hbZ1.lt).trans hbZ1
        clear hB hR
        refine ⟨_, rfl, trivial, ?_⟩
        simp only [List.setIfInBounds_toArray, List.set_cons_succ, List.set_cons_zero]
        refine wpAnyH_all (rs := [8]) (by kernel_rfl) (by simp) ?_
        intro i hi
        obtain rfl : i = 8 := by simpa using hi
        refine call_at 15 (f := 42) (args := #[.slice k ks.length kc]) (w' := Z2) rfl rfl rfl (by go_simp) ((C3 Z2 hlZ2).out.mono ?_)
        rintro e Z3 ⟨t3, k3, rfl, hB, hR⟩
        have D3 := Lib.hid (show CloneP 7 ks.length k Z2 (.returned (.slice t3 ks.length k3)) Z3 from ⟨t3, k3, rfl, hB, hR⟩)
        have hlZ3 := below_step hlZ2 hB
        have hbZ3 : BoxH Z3 w.heap.size ⟨op, nn, s, p, pa.length, pc, q, ps.length, qc, o, k, ks.length, kc⟩ := (hB.block _ hbZ2.lt).trans hbZ2
        clear hB hR
        refine ⟨_, rfl, trivial, ?_⟩
        simp only [List.setIfInBounds_toArray, List.set_cons_succ, List.set_cons_zero]
        obtain ⟨Y3, hY3⟩ : ∃ Y, Z3.setCell ⟨w.heap.size, 3, none⟩ (.slice t1 pa.length k1) = Y := ⟨_, rfl⟩
        have hbY3 := hbZ3.set3 t1 k1
        dsimp only at hbY3
        rw [hY3] at hbY3
        have HY3 := Lib.hid hY3
        clear hY3
        refine wpAnyH_all (rs := [10]) (by kernel_rfl) (by simp) ?_
        intro i hi
        obtain rfl : i = 10 := by simpa using hi
        refine skip_at (w' := Z3.setCell ⟨w.heap.size, 3, none⟩ (.slice t1 pa.length k1)) rfl rfl rfl (by obtain ⟨-, -, -, d3, d4, -, d6⟩ := hbZ3.cells; dsimp only at d3 d4 d6; simp only [Nat.zero_add] at d3 d4 d6; have ff := hbZ3.frozen 3; go_simp) ⟨trivial, ?_⟩
        rw [HY3.out]
        refine take_at' (i := 11) 17 (v := .pointer (some ⟨w.heap.size, 4, none⟩)) rfl rfl (by kernel_rfl) (by kernel_rfl) (by kernel_rfl) (fun _ _ _ h => by cases h.1) (Or.inl ⟨by rfl, fun w' _ => (by go_simp)⟩) trivial ?_
        simp only [List.setIfInBounds_toArray, List.set_cons_succ, List.set_cons_zero]
        obtain ⟨Y4, hY4⟩ : ∃ Y, Y3.setCell ⟨w.heap.size, 4, none⟩ (.slice t2 ps.length k2) = Y := ⟨_, rfl⟩
        have hbY4 := hbY3.set4 t2 k2
        dsimp only at hbY4
        rw [hY4] at hbY4
        have HY4 := Lib.hid hY4
        clear hY4
        refine wpAnyH_all (rs := [12]) (by kernel_rfl) (by simp) ?_
        intro i hi
        obtain rfl : i = 12 := by simpa using hi
        refine skip_at (w' := Y3.setCell ⟨w.heap.size, 4, none⟩ (.slice t2 ps.length k2)) rfl rfl rfl (by obtain ⟨-, -, -, d3, d4, -, d6⟩ := hbY3.cells; dsimp only at d3 d4 d6; simp only [Nat.zero_add] at d3 d4 d6; have ff := hbY3.frozen 4; go_simp) ⟨trivial, ?_⟩
        rw [HY4.out]
        refine take_at' (i := 13) 18 (v := .pointer (some ⟨w.heap.size, 6, none⟩)) rfl rfl (by kernel_rfl) (by kernel_rfl) (by kernel_rfl) (fun _ _ _ h => by cases h.1) (Or.inl ⟨by rfl, fun w' _ => (by go_simp)⟩) trivial ?_
        simp only [List.setIfInBounds_toArray, List.set_cons_succ, List.set_cons_zero]
        obtain ⟨Y6, hY6⟩ : ∃ Y, Y4.setCell ⟨w.heap.size, 6, none⟩ (.slice t3 ks.length k3) = Y := ⟨_, rfl⟩
        have hbY6 := hbY4.set6 t3 k3
        dsimp only at hbY6
        rw [hY6] at hbY6
        have HY6 := Lib.hid hY6
        clear hY6
        refine wpAnyH_all (rs := [14]) (by kernel_rfl) (by simp) ?_
        intro i hi
        obtain rfl : i = 14 := by simpa using hi
        refine skip_at (w' := Y4.setCell ⟨w.heap.size, 6, none⟩ (.slice t3 ks.length k3)) rfl rfl rfl (by obtain ⟨-, -, -, d3, d4, -, d6⟩ := hbY4.cells; dsimp only at d3 d4 d6; simp only [Nat.zero_add] at d3 d4 d6; have ff := hbY4.frozen 6; go_simp) ⟨trivial, ?_⟩
        rw [HY6.out]
        refine wpAnyH_done (by kernel_rfl) ?_ _
        refine ⟨rfl, t1, k1, t2, k2, t3, k3, Z1.heap.size, Z2.heap.size, Z3.heap.size, rfl, ?_⟩
        rw [← HY6.out, ← HY4.out, ← HY3.out]
        exact ci_begin hdz hd0 hdb hdr HPA.out HPS.out HKS.out D1.out D2.out D3.out
  · refine value_at 11 (v := .slice q ps.length qc) (w' := wd) rfl rfl rfl (by obtain ⟨-, -, -, d3, d4, -, d6⟩ := hdb.cells; dsimp only at d3 d4 d6; simp only [Nat.zero_add] at d3 d4 d6; go_simp) ⟨trivial, ?_⟩
    simp only [List.setIfInBounds_toArray, List.set_cons_succ, List.set_cons_zero]
    refine wpAnyH_all (rs := [1, 7]) (by kernel_rfl) (by simp) ?_
    intro i hi
    have hi2 : i = 1 ∨ i = 7 := by simpa using hi
    rcases hi2 with rfl | rfl
    · refine value_at 8 (v := .slice p pa.length pc) (w' := wd) rfl rfl rfl (by obtain ⟨-, -, -, d3, d4, -, d6⟩ := hdb.cells; dsimp only at d3 d4 d6; simp only [Nat.zero_add] at d3 d4 d6; go_simp) ⟨trivial, ?_⟩
      simp only [List.setIfInBounds_toArray, List.set_cons_succ, List.set_cons_zero]
      refine wpAnyH_all (rs := [2, 7]) (by kernel_rfl) (by simp) ?_
      intro i hi
      have hi2 : i = 2 ∨ i = 7 := by simpa using hi
      rcases hi2 with rfl | rfl
      · refine call_at 9 (f := 40) (args := #[.slice p pa.length pc]) (w' := wd) rfl rfl rfl (by go_simp) ((C1 wd hd0).out.mono ?_)
        rintro e Z1 ⟨t1, k1, rfl, hB, hR⟩
        have D1 := Lib.hid (show CloneP 1 pa.length p wd (.returned (.slice t1 pa.length k1)) Z1 from ⟨t1, k1, rfl, hB, hR⟩)
        have hlZ1 := below_step hd0 hB
        have hbZ1 : BoxH Z1 w.heap.size ⟨op, nn, s, p, pa.length, pc, q, ps.length, qc, o, k, ks.length, kc⟩ := (hB.block _ hdb.lt).trans hdb
        clear hB hR
        refine ⟨_, rfl, trivial, ?_⟩
        simp only [List.setIfInBounds_toArray, List.set_cons_succ, List.set_cons_zero]
        refine wpAnyH_all (rs := [5, 7]) (by kernel_rfl) (by simp) ?_
        intro i hi
        have hi2 : i = 5 ∨ i = 7 := by simpa using hi
        rcases hi2 with rfl | rfl
        · refine call_at 12 (f := 41) (args := #[.slice q ps.length qc]) (w' := Z1) rfl rfl rfl (by go_simp) ((C2 Z1 hlZ1).out.mono ?_)
          rintro e Z2 ⟨t2, k2, rfl, hB, hR⟩
          have D2 := Lib.hid (show CloneP 8 ps.length q Z1 (.returned (.slice t2 ps.length k2)) Z2 from ⟨t2, k2, rfl, hB, hR⟩)
          have hlZ2 := below_step hlZ1 hB
          have hbZ2 : BoxH Z2 w.heap.size ⟨op, nn, s, p, pa.length, pc, q, ps.length, qc, o, k, ks.length, kc⟩ := (hB.block _ hbZ1.lt).trans hbZ1
          clear hB hR
          refine ⟨_, rfl, trivial, ?_⟩
          simp only [List.setIfInBounds_toArray, List.set_cons_succ, List.set_cons_zero]
          refine wpAnyH_all (rs := [7]) (by kernel_rfl) (by simp) ?_
          intro i hi
          obtain rfl : i = 7 := by simpa using hi
          refine value_at 14 (v := .slice k ks.length kc) (w' := Z2) rfl rfl rfl (by obtain ⟨-, -, -, d3, d4, -, d6⟩ := hbZ2.cells; dsimp only at d3 d4 d6; simp only [Nat.zero_add] at d3 d4 d6; go_simp) ⟨trivial, ?_⟩
          simp only [List.setIfInBounds_toArray, List.set_cons_succ, List.set_cons_zero]
          refine take_at' (i := 9) 16 (v := .pointer (some ⟨w.heap.size, 3, none⟩)) rfl rfl (by kernel_rfl) (by kernel_rfl) (by kernel_rfl) (fun _ _ _ h => by cases h.1) (Or.inl ⟨by rfl, fun w' _ => (by go_simp)⟩) trivial ?_
          simp only [List.setIfInBounds_toArray, List.set_cons_succ, List.set_cons_zero]
          refine wpAnyH_all (rs := [8]) (by kernel_rfl) (by simp) ?_
          intro i hi
          obtain rfl : i = 8 := by simpa using hi
          refine call_at 15 (f := 42) (args := #[.slice k ks.length kc]) (w' := Z2) rfl rfl rfl (by go_simp) ((C3 Z2 hlZ2).out.mono ?_)
          rintro e Z3 ⟨t3, k3, rfl, hB, hR⟩
          have D3 := Lib.hid (show CloneP 7 ks.length k Z2 (.returned (.slice t3 ks.length k3)) Z3 from ⟨t3, k3, rfl, hB, hR⟩)
          have hlZ3 := below_step hlZ2 hB
          have hbZ3 : BoxH Z3 w.heap.size ⟨op, nn, s, p, pa.length, pc, q, ps.length, qc, o, k, ks.length, kc⟩ := (hB.block _ hbZ2.lt).trans hbZ2
          clear hB hR
          refine ⟨_, rfl, trivial, ?_⟩
          simp only [List.setIfInBounds_toArray, List.set_cons_succ, List.set_cons_zero]
          obtain ⟨Y3, hY3⟩ : ∃ Y, Z3.setCell ⟨w.heap.size, 3, none⟩ (.slice t1 pa.length k1) = Y := ⟨_, rfl⟩
          have hbY3 := hbZ3.set3 t1 k1
          dsimp only at hbY3
          rw [hY3] at hbY3
          have HY3 := Lib.hid hY3
          clear hY3
          refine wpAnyH_all (rs := [10]) (by kernel_rfl) (by simp) ?_
          intro i hi
          obtain rfl : i = 10 := by simpa using hi
          refine skip_at (w' := Z3.setCell ⟨w.heap.size, 3, none⟩ (.slice t1 pa.length k1)) rfl rfl rfl (by obtain ⟨-, -, -, d3, d4, -, d6⟩ := hbZ3.cells; dsimp only at d3 d4 d6; simp only [Nat.zero_add] at d3 d4 d6; have ff := hbZ3.frozen 3; go_simp) ⟨trivial, ?_⟩
          rw [HY3.out]
          refine take_at' (i := 11) 17 (v := .pointer (some ⟨w.heap.size, 4, none⟩)) rfl rfl (by kernel_rfl) (by kernel_rfl) (by kernel_rfl) (fun _ _ _ h => by cases h.1) (Or.inl ⟨by rfl, fun w' _ => (by go_simp)⟩) trivial ?_
          simp only [List.setIfInBounds_toArray, List.set_cons_succ, List.set_cons_zero]
          obtain ⟨Y4, hY4⟩ : ∃ Y, Y3.setCell ⟨w.heap.size, 4, none⟩ (.slice t2 ps.length k2) = Y := ⟨_, rfl⟩
          have hbY4 := hbY3.set4 t2 k2
          dsimp only at hbY4
          rw [hY4] at hbY4
          have HY4 := Lib.hid hY4
          clear hY4
          refine wpAnyH_all (rs := [12]) (by kernel_rfl) (by simp) ?_
          intro i hi
          obtain rfl : i = 12 := by simpa using hi
          refine skip_at (w' := Y3.setCell ⟨w.heap.size, 4, none⟩ (.slice t2 ps.length k2)) rfl rfl rfl (by obtain ⟨-, -, -, d3, d4, -, d6⟩ := hbY3.cells; dsimp only at d3 d4 d6; simp only [Nat.zero_add] at d3 d4 d6; have ff := hbY3.frozen 4; go_simp) ⟨trivial, ?_⟩
          rw [HY4.out]
          refine take_at' (i := 13) 18 (v := .pointer (some ⟨w.heap.size, 6, none⟩)) rfl rfl (by kernel_rfl) (by kernel_rfl) (by kernel_rfl) (fun _ _ _ h => by cases h.1) (Or.inl ⟨by rfl, fun w' _ => (by go_simp)⟩) trivial ?_
          simp only [List.setIfInBounds_toArray, List.set_cons_succ, List.set_cons_zero]
          obtain ⟨Y6, hY6⟩ : ∃ Y, Y4.setCell ⟨w.heap.size, 6, none⟩ (.slice t3 ks.length k3) = Y := ⟨_, rfl⟩
          have hbY6 := hbY4.set6 t3 k3
          dsimp only at hbY6
          rw [hY6] at hbY6
          have HY6 := Lib.hid hY6
          clear hY6
          refine wpAnyH_all (rs := [14]) (by kernel_rfl) (by simp) ?_
          intro i hi
          obtain rfl : i = 14 := by simpa using hi
          refine skip_at (w' := Y4.setCell ⟨w.heap.size, 6, none⟩ (.slice t3 ks.length k3)) rfl rfl rfl (by obtain ⟨-, -, -, d3, d4, -, d6⟩ := hbY4.cells; dsimp only at d3 d4 d6; simp only [Nat.zero_add] at d3 d4 d6; have ff := hbY4.frozen 6; go_simp) ⟨trivial, ?_⟩
          rw [HY6.out]
          refine wpAnyH_done (by kernel_rfl) ?_ _
          refine ⟨rfl, t1, k1, t2, k2, t3, k3, Z1.heap.size, Z2.heap.size, Z3.heap.size, rfl, ?_⟩
          rw [← HY6.out, ← HY4.out, ← HY3.out]
          exact ci_begin hdz hd0 hdb hdr HPA.out HPS.out HKS.out D1.out D2.out D3.out
        · refine value_at 14 (v := .slice k ks.length kc) (w' := Z1) rfl rfl rfl (by obtain ⟨-, -, -, d3, d4, -, d6⟩ := hbZ1.cells; dsimp only at d3 d4 d6; simp only [Nat.zero_add] at d3 d4 d6; go_simp) ⟨trivial, ?_⟩
          simp only [List.setIfInBounds_toArray, List.set_cons_succ, List.set_cons_zero]
          refine take_at' (i := 9) 16 (v := .pointer (some ⟨w.heap.size, 3, none⟩)) rfl rfl (by kernel_rfl) (by kernel_rfl) (by kernel_rfl) (fun _ _ _ h => by cases h.1) (Or.inl ⟨by rfl, fun w' _ => (by go_simp)⟩) trivial ?_
          simp only [List.setIfInBounds_toArray, List.set_cons_succ, List.set_cons_zero]
          refine wpAnyH_all (rs := [5]) (by kernel_rfl) (by simp) ?_
          intro i hi
          obtain rfl : i = 5 := by simpa using hi
          refine call_at 12 (f := 41) (args := #[.slice q ps.length qc]) (w' := Z1) rfl rfl rfl (by go_simp) ((C2 Z1 hlZ1).out.mono ?_)
          rintro e Z2 ⟨t2, k2, rfl, hB, hR⟩
          have D2 := Lib.hid (show CloneP 8 ps.length q Z1 (.returned (.slice t2 ps.length k2)) Z2 from ⟨t2, k2, rfl, hB, hR⟩)
          have hlZ2 := below_step hlZ1 hB
          have hbZ2 : BoxH Z2 w.heap.size ⟨op, nn, s, p, pa.length, pc, q, ps.length, qc, o, k, ks.length, kc⟩ := (hB.block _ hbZ1.lt).trans hbZ1
          clear hB hR
          refine ⟨_, rfl, trivial, ?_⟩
          simp only [List.setIfInBounds_toArray, List.set_cons_succ, List.set_cons_zero]
          refine wpAnyH_all (rs := [8]) (by kernel_rfl) (by simp) ?_
          intro i hi
          obtain rfl : i = 8 := by simpa using hi
          refine call_at 15 (f := 42) (args := #[.slice k ks.length kc]) (w' := Z2) rfl rfl rfl (by go_simp) ((C3 Z2 hlZ2).out.mono ?_)
          rintro e Z3 ⟨t3, k3, rfl, hB, hR⟩
          have D3 := Lib.hid (show CloneP 7 ks.length k Z2 (.returned (.slice t3 ks.length k3)) Z3 from ⟨t3, k3, rfl, hB, hR⟩)
          have hlZ3 := below_step hlZ2 hB
          have hbZ3 : BoxH Z3 w.heap.size ⟨op, nn, s, p, pa.length, pc, q, ps.length, qc, o, k, ks.length, kc⟩ := (hB.block _ hbZ2.lt).trans hbZ2
          clear hB hR
          refine ⟨_, rfl, trivial, ?_⟩
          simp only [List.setIfInBounds_toArray, List.set_cons_succ, List.set_cons_zero]
          obtain ⟨Y3, hY3⟩ : ∃ Y, Z3.setCell ⟨w.heap.size, 3, none⟩ (.slice t1 pa.length k1) = Y := ⟨_, rfl⟩
          have hbY3 := hbZ3.set3 t1 k1
          dsimp only at hbY3
          rw [hY3] at hbY3
          have HY3 := Lib.hid hY3
          clear hY3
          refine wpAnyH_all (rs := [10]) (by kernel_rfl) (by simp) ?_
          intro i hi
          obtain rfl : i = 10 := by simpa using hi
          refine skip_at (w' := Z3.setCell ⟨w.heap.size, 3, none⟩ (.slice t1 pa.length k1)) rfl rfl rfl (by obtain ⟨-, -, -, d3, d4, -, d6⟩ := hbZ3.cells; dsimp only at d3 d4 d6; simp only [Nat.zero_add] at d3 d4 d6; have ff := hbZ3.frozen 3; go_simp) ⟨trivial, ?_⟩
          rw [HY3.out]
          refine take_at' (i := 11) 17 (v := .pointer (some ⟨w.heap.size, 4, none⟩)) rfl rfl (by kernel_rfl) (by kernel_rfl) (by kernel_rfl) (fun _ _ _ h => by cases h.1) (Or.inl ⟨by rfl, fun w' _ => (by go_simp)⟩) trivial ?_
          simp only [List.setIfInBounds_toArray, List.set_cons_succ, List.set_cons_zero]
          obtain ⟨Y4, hY4⟩ : ∃ Y, Y3.setCell ⟨w.heap.size, 4, none⟩ (.slice t2 ps.length k2) = Y := ⟨_, rfl⟩
          have hbY4 := hbY3.set4 t2 k2
          dsimp only at hbY4
          rw [hY4] at hbY4
          have HY4 := Lib.hid hY4
          clear hY4
          refine wpAnyH_all (rs := [12]) (by kernel_rfl) (by simp) ?_
          intro i hi
          obtain rfl : i = 12 := by simpa using hi
          refine skip_at (w' := Y3.setCell ⟨w.heap.size, 4, none⟩ (.slice t2 ps.length k2)) rfl rfl rfl (by obtain ⟨-, -, -, d3, d4, -, d6⟩ := hbY3.cells; dsimp only at d3 d4 d6; simp only [Nat.zero_add] at d3 d4 d6; have ff := hbY3.frozen 4; go_simp) ⟨trivial, ?_⟩
          rw [HY4.out]
          refine take_at' (i := 13) 18 (v := .pointer (some ⟨w.heap.size, 6, none⟩)) rfl rfl (by kernel_rfl) (by kernel_rfl) (by kernel_rfl) (fun _ _ _ h => by cases h.1) (Or.inl ⟨by rfl, fun w' _ => (by go_simp)⟩) trivial ?_
          simp only [List.setIfInBounds_toArray, List.set_cons_succ, List.set_cons_zero]
          obtain ⟨Y6, hY6⟩ : ∃ Y, Y4.setCell ⟨w.heap.size, 6, none⟩ (.slice t3 ks.length k3) = Y := ⟨_, rfl⟩
          have hbY6 := hbY4.set6 t3 k3
          dsimp only at hbY6
          rw [hY6] at hbY6
          have HY6 := Lib.hid hY6
          clear hY6
          refine wpAnyH_all (rs := [14]) (by kernel_rfl) (by simp) ?_
          intro i hi
          obtain rfl : i = 14 := by simpa using hi
          refine skip_at (w' := Y4.setCell ⟨w.heap.size, 6, none⟩ (.slice t3 ks.length k3)) rfl rfl rfl (by obtain ⟨-, -, -, d3, d4, -, d6⟩ := hbY4.cells; dsimp only at d3 d4 d6; simp only [Nat.zero_add] at d3 d4 d6; have ff := hbY4.frozen 6; go_simp) ⟨trivial, ?_⟩
          rw [HY6.out]
          refine wpAnyH_done (by kernel_rfl) ?_ _
          refine ⟨rfl, t1, k1, t2, k2, t3, k3, Z1.heap.size, Z2.heap.size, Z3.heap.size, rfl, ?_⟩
          rw [← HY6.out, ← HY4.out, ← HY3.out]
          exact ci_begin hdz hd0 hdb hdr HPA.out HPS.out HKS.out D1.out D2.out D3.out
      · refine value_at 14 (v := .slice k ks.length kc) (w' := wd) rfl rfl rfl (by obtain ⟨-, -, -, d3, d4, -, d6⟩ := hdb.cells; dsimp only at d3 d4 d6; simp only [Nat.zero_add] at d3 d4 d6; go_simp) ⟨trivial, ?_⟩
        simp only [List.setIfInBounds_toArray, List.set_cons_succ, List.set_cons_zero]
        refine wpAnyH_all (rs := [2]) (by kernel_rfl) (by simp) ?_
        intro i hi
        obtain rfl : i = 2 := by simpa using hi
        refine call_at 9 (f := 40) (args := #[.slice p pa.length pc]) (w' := wd) rfl rfl rfl (by go_simp) ((C1 wd hd0).out.mono ?_)
        rintro e Z1 ⟨t1, k1, rfl, hB, hR⟩
        have D1 := Lib.hid (show CloneP 1 pa.length p wd (.returned (.slice t1 pa.length k1)) Z1 from ⟨t1, k1, rfl, hB, hR⟩)
        have hlZ1 := below_step hd0 hB
        have hbZ1 : BoxH Z1 w.heap.size ⟨op, nn, s, p, pa.length, pc, q, ps.length, qc, o, k, ks.length, kc⟩ := (hB.block _ hdb.lt).trans hdb
        clear hB hR
        refine ⟨_, rfl, trivial, ?_⟩
        simp only [List.setIfInBounds_toArray, List.set_cons_succ, List.set_cons_zero]
        refine take_at' (i := 9) 16 (v := .pointer (some ⟨w.heap.size, 3, none⟩)) rfl rfl (by kernel_rfl) (by kernel_rfl) (by kernel_rfl) (fun _ _ _ h => by cases h.1) (Or.inl ⟨by rfl, fun w' _ => (by go_simp)⟩) trivial ?_
        simp only [List.setIfInBounds_toArray, List.set_cons_succ, List.set_cons_zero]
        refine wpAnyH_all (rs := [5]) (by kernel_rfl) (by simp) ?_
        intro i hi
        obtain rfl : i = 5 := by simpa using hi
        refine call_at 12 (f := 41) (args := #[.slice q ps.length qc]) (w' := Z1) rfl rfl rfl (by go_simp) ((C2 Z1 hlZ1).out.mono ?_)
        rintro e Z2 ⟨t2, k2, rfl, hB, hR⟩
        have D2 := Lib.hid (show CloneP 8 ps.length q Z1 (.returned (.slice t2 ps.length k2)) Z2 from ⟨t2, k2, rfl, hB, hR⟩)
        have hlZ2 := below_step hlZ1 hB
        have hbZ2 : BoxH Z2 w.heap.size ⟨op, nn, s, p, pa.length, pc, q, ps.length, qc, o, k, ks.length, kc⟩ := (hB.block _ hbZ1.lt).trans hbZ1
        clear hB hR
        refine ⟨_, rfl, trivial, ?_⟩
        simp only [List.setIfInBounds_toArray, List.set_cons_succ, List.set_cons_zero]
        refine wpAnyH_all (rs := [8]) (by kernel_rfl) (by simp) ?_
        intro i hi
        obtain rfl : i = 8 := by simpa using hi
        refine call_at 15 (f := 42) (args := #[.slice k ks.length kc]) (w' := Z2) rfl rfl rfl (by go_simp) ((C3 Z2 hlZ2).out.mono ?_)
        rintro e Z3 ⟨t3, k3, rfl, hB, hR⟩
        have D3 := Lib.hid (show CloneP 7 ks.length k Z2 (.returned (.slice t3 ks.length k3)) Z3 from ⟨t3, k3, rfl, hB, hR⟩)
        have hlZ3 := below_step hlZ2 hB
        have hbZ3 : BoxH Z3 w.heap.size ⟨op, nn, s, p, pa.length, pc, q, ps.length, qc, o, k, ks.length, kc⟩ := (hB.block _ hbZ2.lt).trans hbZ2
        clear hB hR
        refine ⟨_, rfl, trivial, ?_⟩
        simp only [List.setIfInBounds_toArray, List.set_cons_succ, List.set_cons_zero]
        obtain ⟨Y3, hY3⟩ : ∃ Y, Z3.setCell ⟨w.heap.size, 3, none⟩ (.slice t1 pa.length k1) = Y := ⟨_, rfl⟩
        have hbY3 := hbZ3.set3 t1 k1
        dsimp only at hbY3
        rw [hY3] at hbY3
        have HY3 := Lib.hid hY3
        clear hY3
        refine wpAnyH_all (rs := [10]) (by kernel_rfl) (by simp) ?_
        intro i hi
        obtain rfl : i = 10 := by simpa using hi
        refine skip_at (w' := Z3.setCell ⟨w.heap.size, 3, none⟩ (.slice t1 pa.length k1)) rfl rfl rfl (by obtain ⟨-, -, -, d3, d4, -, d6⟩ := hbZ3.cells; dsimp only at d3 d4 d6; simp only [Nat.zero_add] at d3 d4 d6; have ff := hbZ3.frozen 3; go_simp) ⟨trivial, ?_⟩
        rw [HY3.out]
        refine take_at' (i := 11) 17 (v := .pointer (some ⟨w.heap.size, 4, none⟩)) rfl rfl (by kernel_rfl) (by kernel_rfl) (by kernel_rfl) (fun _ _ _ h => by cases h.1) (Or.inl ⟨by rfl, fun w' _ => (by go_simp)⟩) trivial ?_
        simp only [List.setIfInBounds_toArray, List.set_cons_succ, List.set_cons_zero]
        obtain ⟨Y4, hY4⟩ : ∃ Y, Y3.setCell ⟨w.heap.size, 4, none⟩ (.slice t2 ps.length k2) = Y := ⟨_, rfl⟩
        have hbY4 := hbY3.set4 t2 k2
        dsimp only at hbY4
        rw [hY4] at hbY4
        have HY4 := Lib.hid hY4
        clear hY4
        refine wpAnyH_all (rs := [12]) (by kernel_rfl) (by simp) ?_
        intro i hi
        obtain rfl : i = 12 := by simpa using hi
        refine skip_at (w' := Y3.setCell ⟨w.heap.size, 4, none⟩ (.slice t2 ps.length k2)) rfl rfl rfl (by obtain ⟨-, -, -, d3, d4, -, d6⟩ := hbY3.cells; dsimp only at d3 d4 d6; simp only [Nat.zero_add] at d3 d4 d6; have ff := hbY3.frozen 4; go_simp) ⟨trivial, ?_⟩
        rw [HY4.out]
        refine take_at' (i := 13) 18 (v := .pointer (some ⟨w.heap.size, 6, none⟩)) rfl rfl (by kernel_rfl) (by kernel_rfl) (by kernel_rfl) (fun _ _ _ h => by cases h.1) (Or.inl ⟨by rfl, fun w' _ => (by go_simp)⟩) trivial ?_
        simp only [List.setIfInBounds_toArray, List.set_cons_succ, List.set_cons_zero]
        obtain ⟨Y6, hY6⟩ : ∃ Y, Y4.setCell ⟨w.heap.size, 6, none⟩ (.slice t3 ks.length k3) = Y := ⟨_, rfl⟩
        have hbY6 := hbY4.set6 t3 k3
        dsimp only at hbY6
        rw [hY6] at hbY6
        have HY6 := Lib.hid hY6
        clear hY6
        refine wpAnyH_all (rs := [14]) (by kernel_rfl) (by simp) ?_
        intro i hi
        obtain rfl : i = 14 := by simpa using hi
        refine skip_at (w' := Y4.setCell ⟨w.heap.size, 6, none⟩ (.slice t3 ks.length k3)) rfl rfl rfl (by obtain ⟨-, -, -, d3, d4, -, d6⟩ := hbY4.cells; dsimp only at d3 d4 d6; simp only [Nat.zero_add] at d3 d4 d6; have ff := hbY4.frozen 6; go_simp) ⟨trivial, ?_⟩
        rw [HY6.out]
        refine wpAnyH_done (by kernel_rfl) ?_ _
        refine ⟨rfl, t1, k1, t2, k2, t3, k3, Z1.heap.size, Z2.heap.size, Z3.heap.size, rfl, ?_⟩
        rw [← HY6.out, ← HY4.out, ← HY3.out]
        exact ci_begin hdz hd0 hdb hdr HPA.out HPS.out HKS.out D1.out D2.out D3.out
    · refine value_at 14 (v := .slice k ks.length kc) (w' := wd) rfl rfl rfl (by obtain ⟨-, -, -, d3, d4, -, d6⟩ := hdb.cells; dsimp only at d3 d4 d6; simp only [Nat.zero_add] at d3 d4 d6; go_simp) ⟨trivial, ?_⟩
      simp only [List.setIfInBounds_toArray, List.set_cons_succ, List.set_cons_zero]
      refine wpAnyH_all (rs := [1]) (by kernel_rfl) (by simp) ?_
      intro i hi
      obtain rfl : i = 1 := by simpa using hi
      refine value_at 8 (v := .slice p pa.length pc) (w' := wd) rfl rfl rfl (by obtain ⟨-, -, -, d3, d4, -, d6⟩ := hdb.cells; dsimp only at d3 d4 d6; simp only [Nat.zero_add] at d3 d4 d6; go_simp) ⟨trivial, ?_⟩
      simp only [List.setIfInBounds_toArray, List.set_cons_succ, List.set_cons_zero]
      refine wpAnyH_all (rs := [2]) (by kernel_rfl) (by simp) ?_
      intro i hi
      obtain rfl : i = 2 := by simpa using hi
      refine call_at 9 (f := 40) (args := #[.slice p pa.length pc]) (w' := wd) rfl rfl rfl (by go_simp) ((C1 wd hd0).out.mono ?_)
      rintro e Z1 ⟨t1, k1, rfl, hB, hR⟩
      have D1 := Lib.hid (show CloneP 1 pa.length p wd (.returned (.slice t1 pa.length k1)) Z1 from ⟨t1, k1, rfl, hB, hR⟩)
      have hlZ1 := below_step hd0 hB
      have hbZ1 : BoxH Z1 w.heap.size ⟨op, nn, s, p, pa.length, pc, q, ps.length, qc, o, k, ks.length, kc⟩ := (hB.block _ hdb.lt).trans hdb
      clear hB hR
      refine ⟨_, rfl, trivial, ?_⟩
      simp only [List.setIfInBounds_toArray, List.set_cons_succ, List.set_cons_zero]
      refine take_at' (i := 9) 16 (v := .pointer (some ⟨w.heap.size, 3, none⟩)) rfl rfl (by kernel_rfl) (by kernel_rfl) (by kernel_rfl) (fun _ _ _ h => by cases h.1) (Or.inl ⟨by rfl, fun w' _ => (by go_simp)⟩) trivial ?_
      simp only [List.setIfInBounds_toArray, List.set_cons_succ, List.set_cons_zero]
      refine wpAnyH_all (rs := [5]) (by kernel_rfl) (by simp) ?_
      intro i hi
      obtain rfl : i = 5 := by simpa using hi
      refine call_at 12 (f := 41) (args := #[.slice q ps.length qc]) (w' := Z1) rfl rfl rfl (by go_simp) ((C2 Z1 hlZ1).out.mono ?_)
      rintro e Z2 ⟨t2, k2, rfl, hB, hR⟩
      have D2 := Lib.hid (show CloneP 8 ps.length q Z1 (.returned (.slice t2 ps.length k2)) Z2 from ⟨t2, k2, rfl, hB, hR⟩)
      have hlZ2 := below_step hlZ1 hB
      have hbZ2 : BoxH Z2 w.heap.size ⟨op, nn, s, p, pa.length, pc, q, ps.length, qc, o, k, ks.length, kc⟩ := (hB.block _ hbZ1.lt).trans hbZ1
      clear hB hR
      refine ⟨_, rfl, trivial, ?_⟩
      simp only [List.setIfInBounds_toArray, List.set_cons_succ, List.set_cons_zero]
      refine wpAnyH_all (rs := [8]) (by kernel_rfl) (by simp) ?_
      intro i hi
      obtain rfl : i = 8 := by simpa using hi
      refine call_at 15 (f := 42) (args := #[.slice k ks.length kc]) (w' := Z2) rfl rfl rfl (by go_simp) ((C3 Z2 hlZ2).out.mono ?_)
      rintro e Z3 ⟨t3, k3, rfl, hB, hR⟩
      have D3 := Lib.hid (show CloneP 7 ks.length k Z2 (.returned (.slice t3 ks.length k3)) Z3 from ⟨t3, k3, rfl, hB, hR⟩)
      have hlZ3 := below_step hlZ2 hB
      have hbZ3 : BoxH Z3 w.heap.size ⟨op, nn, s, p, pa.length, pc, q, ps.length, qc, o, k, ks.length, kc⟩ := (hB.block _ hbZ2.lt).trans hbZ2
      clear hB hR
      refine ⟨_, rfl, trivial, ?_⟩
      simp only [List.setIfInBounds_toArray, List.set_cons_succ, List.set_cons_zero]
      obtain ⟨Y3, hY3⟩ : ∃ Y, Z3.setCell ⟨w.heap.size, 3, none⟩ (.slice t1 pa.length k1) = Y := ⟨_, rfl⟩
      have hbY3 := hbZ3.set3 t1 k1
      dsimp only at hbY3
      rw [hY3] at hbY3
      have HY3 := Lib.hid hY3
      clear hY3
      refine wpAnyH_all (rs := [10]) (by kernel_rfl) (by simp) ?_
      intro i hi
      obtain rfl : i = 10 := by simpa using hi
      refine skip_at (w' := Z3.setCell ⟨w.heap.size, 3, none⟩ (.slice t1 pa.length k1)) rfl rfl rfl (by obtain ⟨-, -, -, d3, d4, -, d6⟩ := hbZ3.cells; dsimp only at d3 d4 d6; simp only [Nat.zero_add] at d3 d4 d6; have ff := hbZ3.frozen 3; go_simp) ⟨trivial, ?_⟩
      rw [HY3.out]
      refine take_at' (i := 11) 17 (v := .pointer (some ⟨w.heap.size, 4, none⟩)) rfl rfl (by kernel_rfl) (by kernel_rfl) (by kernel_rfl) (fun _ _ _ h => by cases h.1) (Or.inl ⟨by rfl, fun w' _ => (by go_simp)⟩) trivial ?_
      simp only [List.setIfInBounds_toArray, List.set_cons_succ, List.set_cons_zero]
      obtain ⟨Y4, hY4⟩ : ∃ Y, Y3.setCell ⟨w.heap.size, 4, none⟩ (.slice t2 ps.length k2) = Y := ⟨_, rfl⟩
      have hbY4 := hbY3.set4 t2 k2
      dsimp only at hbY4
      rw [hY4] at hbY4
      have HY4 := Lib.hid hY4
      clear hY4
      refine wpAnyH_all (rs := [12]) (by kernel_rfl) (by simp) ?_
      intro i hi
      obtain rfl : i = 12 := by simpa using hi
      refine skip_at (w' := Y3.setCell ⟨w.heap.size, 4, none⟩ (.slice t2 ps.length k2)) rfl rfl rfl (by obtain ⟨-, -, -, d3, d4, -, d6⟩ := hbY3.cells; dsimp only at d3 d4 d6; simp only [Nat.zero_add] at d3 d4 d6; have ff := hbY3.frozen 4; go_simp) ⟨trivial, ?_⟩
      rw [HY4.out]
      refine take_at' (i := 13) 18 (v := .pointer (some ⟨w.heap.size, 6, none⟩)) rfl rfl (by kernel_rfl) (by kernel_rfl) (by kernel_rfl) (fun _ _ _ h => by cases h.1) (Or.inl ⟨by rfl, fun w' _ => (by go_simp)⟩) trivial ?_
      simp only [List.setIfInBounds_toArray, List.set_cons_succ, List.set_cons_zero]
      obtain ⟨Y6, hY6⟩ : ∃ Y, Y4.setCell ⟨w.heap.size, 6, none⟩ (.slice t3 ks.length k3) = Y := ⟨_, rfl⟩
      have hbY6 := hbY4.set6 t3 k3
      dsimp only at hbY6
      rw [hY6] at hbY6
      have HY6 := Lib.hid hY6
      clear hY6
      refine wpAnyH_all (rs := [14]) (by kernel_rfl) (by simp) ?_
      intro i hi
      obtain rfl : i = 14 := by simpa using hi
      refine skip_at (w' := Y4.setCell ⟨w.heap.size, 6, none⟩ (.slice t3 ks.length k3)) rfl rfl rfl (by obtain ⟨-, -, -, d3, d4, -, d6⟩ := hbY4.cells; dsimp only at d3 d4 d6; simp only [Nat.zero_add] at d3 d4 d6; have ff := hbY4.frozen 6; go_simp) ⟨trivial, ?_⟩
      rw [HY6.out]
      refine wpAnyH_done (by kernel_rfl) ?_ _
      refine ⟨rfl, t1, k1, t2, k2, t3, k3, Z1.heap.size, Z2.heap.size, Z3.heap.size, rfl, ?_⟩
      rw [← HY6.out, ← HY4.out, ← HY3.out]
      exact ci_begin hdz hd0 hdb hdr HPA.out HPS.out HKS.out D1.out D2.out D3.out
  · refine value_at 14 (v := .slice k ks.length kc) (w' := wd) rfl rfl rfl (by obtain ⟨-, -, -, d3, d4, -, d6⟩ := hdb.cells; dsimp only at d3 d4 d6; simp only [Nat.zero_add] at d3 d4 d6; go_simp) ⟨trivial, ?_⟩
    simp only [List.setIfInBounds_toArray, List.set_cons_succ, List.set_cons_zero]
    refine wpAnyH_all (rs := [1, 4]) (by kernel_rfl) (by simp) ?_
    intro i hi
    have hi2 : i = 1 ∨ i = 4 := by simpa using hi
    rcases hi2 with rfl | rfl
    · refine value_at 8 (v := .slice p pa.length pc) (w' := wd) rfl rfl rfl (by obtain ⟨-, -, -, d3, d4, -, d6⟩ := hdb.cells; dsimp only at d3 d4 d6; simp only [Nat.zero_add] at d3 d4 d6; go_simp) ⟨trivial, ?_⟩
      simp only [List.setIfInBounds_toArray, List.set_cons_succ, List.set_cons_zero]
      refine wpAnyH_all (rs := [2, 4]) (by kernel_rfl) (by simp) ?_
      intro i hi
      have hi2 : i = 2 ∨ i = 4 := by simpa using hi
      rcases hi2 with rfl | rfl
      · refine call_at 9 (f := 40) (args := #[.slice p pa.length pc]) (w' := wd) rfl rfl rfl (by go_simp) ((C1 wd hd0).out.mono ?_)
        rintro e Z1 ⟨t1, k1, rfl, hB, hR⟩
        have D1 := Lib.hid (show CloneP 1 pa.length p wd (.returned (.slice t1 pa.length k1)) Z1 from ⟨t1, k1, rfl, hB, hR⟩)
        have hlZ1 := below_step hd0 hB
        have hbZ1 : BoxH Z1 w.heap.size ⟨op, nn, s, p, pa.length, pc, q, ps.length, qc, o, k, ks.length, kc⟩ := (hB.block _ hdb.lt).trans hdb
        clear hB hR
        refine ⟨_, rfl, trivial, ?_⟩
        simp only [List.setIfInBounds_toArray, List.set_cons_succ, List.set_cons_zero]
        refine wpAnyH_all (rs := [4]) (by kernel_rfl) (by simp) ?_
        intro i hi
        obtain rfl : i = 4 := by simpa using hi
        refine value_at 11 (v := .slice q ps.length qc) (w' := Z1) rfl rfl rfl (by obtain ⟨-, -, -, d3, d4, -, d6⟩ := hbZ1.cells; dsimp only at d3 d4 d6; simp only [Nat.zero_add] at d3 d4 d6; go_simp) ⟨trivial, ?_⟩
        simp only [List.setIfInBounds_toArray, List.set_cons_succ, List.set_cons_zero]
        refine take_at' (i := 9) 16 (v := .pointer (some ⟨w.heap.size, 3, none⟩)) rfl rfl (by kernel_rfl) (by kernel_rfl) (by kernel_rfl) (fun _ _ _ h => by cases h.1) (Or.inl ⟨by rfl, fun w' _ => (by go_simp)⟩) trivial ?_
        simp only [List.setIfInBounds_toArray, List.set_cons_succ, List.set_cons_zero]
        refine wpAnyH_all (rs := [5]) (by kernel_rfl) (by simp) ?_
        intro i hi
        obtain rfl : i = 5 := by simpa using hi
        refine call_at 12 (f := 41) (args := #[.slice q ps.length qc]) (w' := Z1) rfl rfl rfl (by go_simp) ((C2 Z1 hlZ1).out.mono ?_)
        rintro e Z2 ⟨t2, k2, rfl, hB, hR⟩
        have D2 := Lib.hid (show CloneP 8 ps.length q Z1 (.returned (.slice t2 ps.length k2)) Z2 from ⟨t2, k2, rfl, hB, hR⟩)
        have hlZ2 := below_step hlZ1 hB
        have hbZ2 : BoxH Z2 w.heap.size ⟨op, nn, s, p, pa.length, pc, q, ps.length, qc, o, k, ks.length, kc⟩ := (hB.block _ hbZ1.lt).trans hbZ1
        clear hB hR
        refine ⟨_, rfl, trivial, ?_⟩
        simp only [List.setIfInBounds_toArray, List.set_cons_succ, List.set_cons_zero]
        refine wpAnyH_all (rs := [8]) (by kernel_rfl) (by simp) ?_
        intro i hi
        obtain rfl : i = 8 := by simpa using hi
        refine call_at 15 (f := 42) (args := #[.slice k ks.length kc]) (w' := Z2) rfl rfl rfl (by go_simp) ((C3 Z2 hlZ2).out.mono ?_)
        rintro e Z3 ⟨t3, k3, rfl, hB, hR⟩
        have D3 := Lib.hid (show CloneP 7 ks.length k Z2 (.returned (.slice t3 ks.length k3)) Z3 from ⟨t3, k3, rfl, hB, hR⟩)
        have hlZ3 := below_step hlZ2 hB
        have hbZ3 : BoxH Z3 w.heap.size ⟨op, nn, s, p, pa.length, pc, q, ps.length, qc, o, k, ks.length, kc⟩ := (hB.block _ hbZ2.lt).trans hbZ2
        clear hB hR
        refine ⟨_, rfl, trivial, ?_⟩
        simp only [List.setIfInBounds_toArray, List.set_cons_succ, List.set_cons_zero]
        obtain ⟨Y3, hY3⟩ : ∃ Y, Z3.setCell ⟨w.heap.size, 3, none⟩ (.slice t1 pa.length k1) = Y := ⟨_, rfl⟩
        have hbY3 := hbZ3.set3 t1 k1
        dsimp only at hbY3
        rw [hY3] at hbY3
        have HY3 := Lib.hid hY3
        clear hY3
        refine wpAnyH_all (rs := [10]) (by kernel_rfl) (by simp) ?_
        intro i hi
        obtain rfl : i = 10 := by simpa using hi
        refine skip_at (w' := Z3.setCell ⟨w.heap.size, 3, none⟩ (.slice t1 pa.length k1)) rfl rfl rfl (by obtain ⟨-, -, -, d3, d4, -, d6⟩ := hbZ3.cells; dsimp only at d3 d4 d6; simp only [Nat.zero_add] at d3 d4 d6; have ff := hbZ3.frozen 3; go_simp) ⟨trivial, ?_⟩
        rw [HY3.out]
        refine take_at' (i := 11) 17 (v := .pointer (some ⟨w.heap.size, 4, none⟩)) rfl rfl (by kernel_rfl) (by kernel_rfl) (by kernel_rfl) (fun _ _ _ h => by cases h.1) (Or.inl ⟨by rfl, fun w' _ => (by go_simp)⟩) trivial ?_
        simp only [List.setIfInBounds_toArray, List.set_cons_succ, List.set_cons_zero]
        obtain ⟨Y4, hY4⟩ : ∃ Y, Y3.setCell ⟨w.heap.size, 4, none⟩ (.slice t2 ps.length k2) = Y := ⟨_, rfl⟩
        have hbY4 := hbY3.set4 t2 k2
        dsimp only at hbY4
        rw [hY4] at hbY4
        have HY4 := Lib.hid hY4
        clear hY4
        refine wpAnyH_all (rs := [12]) (by kernel_rfl) (by simp) ?_
        intro i hi
        obtain rfl : i = 12 := by simpa using hi
        refine skip_at (w' := Y3.setCell ⟨w.heap.size, 4, none⟩ (.slice t2 ps.length k2)) rfl rfl rfl (by obtain ⟨-, -, -, d3, d4, -, d6⟩ := hbY3.cells; dsimp only at d3 d4 d6; simp only [Nat.zero_add] at d3 d4 d6; have ff := hbY3.frozen 4; go_simp) ⟨trivial, ?_⟩
        rw [HY4.out]
        refine take_at' (i := 13) 18 (v := .pointer (some ⟨w.heap.size, 6, none⟩)) rfl rfl (by kernel_rfl) (by kernel_rfl) (by kernel_rfl) (fun _ _ _ h => by cases h.1) (Or.inl ⟨by rfl, fun w' _ => (by go_simp)⟩) trivial ?_
        simp only [List.setIfInBounds_toArray, List.set_cons_succ, List.set_cons_zero]
        obtain ⟨Y6, hY6⟩ : ∃ Y, Y4.setCell ⟨w.heap.size, 6, none⟩ (.slice t3 ks.length k3) = Y := ⟨_, rfl⟩
        have hbY6 := hbY4.set6 t3 k3
        dsimp only at hbY6
        rw [hY6] at hbY6
        have HY6 := Lib.hid hY6
        clear hY6
        refine wpAnyH_all (rs := [14]) (by kernel_rfl) (by simp) ?_
        intro i hi
        obtain rfl : i = 14 := by simpa using hi
        refine skip_at (w' := Y4.setCell ⟨w.heap.size, 6, none⟩ (.slice t3 ks.length k3)) rfl rfl rfl (by obtain ⟨-, -, -, d3, d4, -, d6⟩ := hbY4.cells; dsimp only at d3 d4 d6; simp only [Nat.zero_add] at d3 d4 d6; have ff := hbY4.frozen 6; go_simp) ⟨trivial, ?_⟩
        rw [HY6.out]
        refine wpAnyH_done (by kernel_rfl) ?_ _
        refine ⟨rfl, t1, k1, t2, k2, t3, k3, Z1.heap.size, Z2.heap.size, Z3.heap.size, rfl, ?_⟩
        rw [← HY6.out, ← HY4.out, ← HY3.out]
        exact ci_begin hdz hd0 hdb hdr HPA.out HPS.out HKS.out D1.out D2.out D3.out
      · refine value_at 11 (v := .slice q ps.length qc) (w' := wd) rfl rfl rfl (by obtain ⟨-, -, -, d3, d4, -, d6⟩ := hdb.cells; dsimp only at d3 d4 d6; simp only [Nat.zero_add] at d3 d4 d6; go_simp) ⟨trivial, ?_⟩
        simp only [List.setIfInBounds_toArray, List.set_cons_succ, List.set_cons_zero]
        refine wpAnyH_all (rs := [2]) (by kernel_rfl) (by simp) ?_
        intro i hi
        obtain rfl : i = 2 := by simpa using hi
        refine call_at 9 (f := 40) (args := #[.slice p pa.length pc]) (w' := wd) rfl rfl rfl (by go_simp) ((C1 wd hd0).out.mono ?_)
        rintro e Z1 ⟨t1, k1, rfl, hB, hR⟩
        have D1 := Lib.hid (show CloneP 1 pa.length p wd (.returned (.slice t1 pa.length k1)) Z1 from ⟨t1, k1, rfl, hB, hR⟩)
        have hlZ1 := below_step hd0 hB
        have hbZ1 : BoxH Z1 w.heap.size ⟨op, nn, s, p, pa.length, pc, q, ps.length, qc, o, k, ks.length, kc⟩ := (hB.block _ hdb.lt).trans hdb
        clear hB hR
        refine ⟨_, rfl, trivial, ?_⟩
        simp only [List.setIfInBounds_toArray, List.set_cons_succ, List.set_cons_zero]
        refine take_at' (i := 9) 16 (v := .pointer (some ⟨w.heap.size, 3, none⟩)) rfl rfl (by kernel_rfl) (by kernel_rfl) (by kernel_rfl) (fun _ _ _ h => by cases h.1) (Or.inl ⟨by rfl, fun w' _ => (by go_simp)⟩) trivial ?_
        simp only [List.setIfInBounds_toArray, List.set_cons_succ, List.set_cons_zero]
        refine wpAnyH_all (rs := [5]) (by kernel_rfl) (by simp) ?_
        intro i hi
        obtain rfl : i = 5 := by simpa using hi
        refine call_at 12 (f := 41) (args := #[.slice q ps.length qc]) (w' := Z1) rfl rfl rfl (by go_simp) ((C2 Z1 hlZ1).out.mono ?_)
        rintro e Z2 ⟨t2, k2, rfl, hB, hR⟩
        have D2 := Lib.hid (show CloneP 8 ps.length q Z1 (.returned (.slice t2 ps.length k2)) Z2 from ⟨t2, k2, rfl, hB, hR⟩)
        have hlZ2 := below_step hlZ1 hB
        have hbZ2 : BoxH Z2 w.heap.size ⟨op, nn, s, p, pa.length, pc, q, ps.length, qc, o, k, ks.length, kc⟩ := (hB.block _ hbZ1.lt).trans hbZ1
        clear hB hR
        refine ⟨_, rfl, trivial, ?_⟩
        simp only [List.setIfInBounds_toArray, List.set_cons_succ, List.set_cons_zero]
        refine wpAnyH_all (rs := [8]) (by kernel_rfl) (by simp) ?_
        intro i hi
        obtain rfl : i = 8 := by simpa using hi
        refine call_at 15 (f := 42) (args := #[.slice k ks.length kc]) (w' := Z2) rfl rfl rfl (by go_simp) ((C3 Z2 hlZ2).out.mono ?_)
        rintro e Z3 ⟨t3, k3, rfl, hB, hR⟩
        have D3 := Lib.hid (show CloneP 7 ks.length k Z2 (.returned (.slice t3 ks.length k3)) Z3 from ⟨t3, k3, rfl, hB, hR⟩)
        have hlZ3 := below_step hlZ2 hB
        have hbZ3 : BoxH Z3 w.heap.size ⟨op, nn, s, p, pa.length, pc, q, ps.length, qc, o, k, ks.length, kc⟩ := (hB.block _ hbZ2.lt).trans hbZ2
        clear hB hR
        refine ⟨_, rfl, trivial, ?_⟩
        simp only [List.setIfInBounds_toArray, List.set_cons_succ, List.set_cons_zero]
        obtain ⟨Y3, hY3⟩ : ∃ Y, Z3.setCell ⟨w.heap.size, 3, none⟩ (.slice t1 pa.length k1) = Y := ⟨_, rfl⟩
        have hbY3 := hbZ3.set3 t1 k1
        dsimp only at hbY3
        rw [hY3] at hbY3
        have HY3 := Lib.hid hY3
        clear hY3
        refine wpAnyH_all (rs := [10]) (by kernel_rfl) (by simp) ?_
        intro i hi
        obtain rfl : i = 10 := by simpa using hi
        refine skip_at (w' := Z3.setCell ⟨w.heap.size, 3, none⟩ (.slice t1 pa.length k1)) rfl rfl rfl (by obtain ⟨-, -, -, d3, d4, -, d6⟩ := hbZ3.cells; dsimp only at d3 d4 d6; simp only [Nat.zero_add] at d3 d4 d6; have ff := hbZ3.frozen 3; go_simp) ⟨trivial, ?_⟩
        rw [HY3.out]
        refine take_at' (i := 11) 17 (v := .pointer (some ⟨w.heap.size, 4, none⟩)) rfl rfl (by kernel_rfl) (by kernel_rfl) (by kernel_rfl) (fun _ _ _ h => by cases h.1) (Or.inl ⟨by rfl, fun w' _ => (by go_simp)⟩) trivial ?_
        simp only [List.setIfInBounds_toArray, List.set_cons_succ, List.set_cons_zero]
        obtain ⟨Y4, hY4⟩ : ∃ Y, Y3.setCell ⟨w.heap.size, 4, none⟩ (.slice t2 ps.length k2) = Y := ⟨_, rfl⟩
        have hbY4 := hbY3.set4 t2 k2
        dsimp only at hbY4
        rw [hY4] at hbY4
        have HY4 := Lib.hid hY4
        clear hY4
        refine wpAnyH_all (rs := [12]) (by kernel_rfl) (by simp) ?_
        intro i hi
        obtain rfl : i = 12 := by simpa using hi
        refine skip_at (w' := Y3.setCell ⟨w.heap.size, 4, none⟩ (.slice t2 ps.length k2)) rfl rfl rfl (by obtain ⟨-, -, -, d3, d4, -, d6⟩ := hbY3.cells; dsimp only at d3 d4 d6; simp only [Nat.zero_add] at d3 d4 d6; have ff := hbY3.frozen 4; go_simp) ⟨trivial, ?_⟩
        rw [HY4.out]
        refine take_at' (i := 13) 18 (v := .pointer (some ⟨w.heap.size, 6, none⟩)) rfl rfl (by kernel_rfl) (by kernel_rfl) (by kernel_rfl) (fun _ _ _ h => by cases h.1) (Or.inl ⟨by rfl, fun w' _ => (by go_simp)⟩) trivial ?_
        simp only [List.setIfInBounds_toArray, List.set_cons_succ, List.set_cons_zero]
        obtain ⟨Y6, hY6⟩ : ∃ Y, Y4.setCell ⟨w.heap.size, 6, none⟩ (.slice t3 ks.length k3) = Y := ⟨_, rfl⟩
        have hbY6 := hbY4.set6 t3 k3
        dsimp only at hbY6
        rw [hY6] at hbY6
        have HY6 := Lib.hid hY6
        clear hY6
        refine wpAnyH_all (rs := [14]) (by kernel_rfl) (by simp) ?_
        intro i hi
        obtain rfl : i = 14 := by simpa using hi
        refine skip_at (w' := Y4.setCell ⟨w.heap.size, 6, none⟩ (.slice t3 ks.length k3)) rfl rfl rfl (by obtain ⟨-, -, -, d3, d4, -, d6⟩ := hbY4.cells; dsimp only at d3 d4 d6; simp only [Nat.zero_add] at d3 d4 d6; have ff := hbY4.frozen 6; go_simp) ⟨trivial, ?_⟩
        rw [HY6.out]
        refine wpAnyH_done (by kernel_rfl) ?_ _
        refine ⟨rfl, t1, k1, t2, k2, t3, k3, Z1.heap.size, Z2.heap.size, Z3.heap.size, rfl, ?_⟩
        rw [← HY6.out, ← HY4.out, ← HY3.out]
        exact ci_begin hdz hd0 hdb hdr HPA.out HPS.out HKS.out D1.out D2.out D3.out
    · refine value_at 11 (v := .slice q ps.length qc) (w' := wd) rfl rfl rfl (by obtain ⟨-, -, -, d3, d4, -, d6⟩ := hdb.cells; dsimp only at d3 d4 d6; simp only [Nat.zero_add] at d3 d4 d6; go_simp) ⟨trivial, ?_⟩
      simp only [List.setIfInBounds_toArray, List.set_cons_succ, List.set_cons_zero]
      refine wpAnyH_all (rs := [1]) (by kernel_rfl) (by simp) ?_
      intro i hi
      obtain rfl : i = 1 := by simpa using hi
      refine value_at 8 (v := .slice p pa.length pc) (w' := wd) rfl rfl rfl (by obtain ⟨-, -, -, d3, d4, -, d6⟩ := hdb.cells; dsimp only at d3 d4 d6; simp only [Nat.zero_add] at d3 d4 d6; go_simp) ⟨trivial, ?_⟩
      simp only [List.setIfInBounds_toArray, List.set_cons_succ, List.set_cons_zero]
      refine wpAnyH_all (rs := [2]) (by kernel_rfl) (by simp) ?_
      intro i hi
      obtain rfl : i = 2 := by simpa using hi
      refine call_at 9 (f := 40) (args := #[.slice p pa.length pc]) (w' := wd) rfl rfl rfl (by go_simp) ((C1 wd hd0).out.mono ?_)
      rintro e Z1 ⟨t1, k1, rfl, hB, hR⟩
      have D1 := Lib.hid (show CloneP 1 pa.length p wd (.returned (.slice t1 pa.length k1)) Z1 from ⟨t1, k1, rfl, hB, hR⟩)
      have hlZ1 := below_step hd0 hB
      have hbZ1 : BoxH Z1 w.heap.size ⟨op, nn, s, p, pa.length, pc, q, ps.length, qc, o, k, ks.length, kc⟩ := (hB.block _ hdb.lt).trans hdb
      clear hB hR
      refine ⟨_, rfl, trivial, ?_⟩
      simp only [List.setIfInBounds_toArray, List.set_cons_succ, List.set_cons_zero]
      refine take_at' (i := 9) 16 (v := .pointer (some ⟨w.heap.size, 3, none⟩)) rfl rfl (by kernel_rfl) (by kernel_rfl) (by kernel_rfl) (fun _ _ _ h => by cases h.1) (Or.inl ⟨by rfl, fun w' _ => (by go_simp)⟩) trivial ?_
      simp only [List.setIfInBounds_toArray, List.set_cons_succ, List.set_cons_zero]
      refine wpAnyH_all (rs := [5]) (by kernel_rfl) (by simp) ?_
      intro i hi
      obtain rfl : i = 5 := by simpa using hi
      refine call_at 12 (f := 41) (args := #[.slice q ps.length qc]) (w' := Z1) rfl rfl rfl (by go_simp) ((C2 Z1 hlZ1).out.mono ?_)
      rintro e Z2 ⟨t2, k2, rfl, hB, hR⟩
      have D2 := Lib.hid (show CloneP 8 ps.length q Z1 (.returned (.slice t2 ps.length k2)) Z2 from ⟨t2, k2, rfl, hB, hR⟩)
      have hlZ2 := below_step hlZ1 hB
      have hbZ2 : BoxH Z2 w.heap.size ⟨op, nn, s, p, pa.length, pc, q, ps.length, qc, o, k, ks.length, kc⟩ := (hB.block _ hbZ1.lt).trans hbZ1
      clear hB hR
      refine ⟨_, rfl, trivial, ?_⟩
      simp only [List.setIfInBounds_toArray, List.set_cons_succ, List.set_cons_zero]
      refine wpAnyH_all (rs := [8]) (by kernel_rfl) (by simp) ?_
      intro i hi
      obtain rfl : i = 8 := by simpa using hi
      refine call_at 15 (f := 42) (args := #[.slice k ks.length kc]) (w' := Z2) rfl rfl rfl (by go_simp) ((C3 Z2 hlZ2).out.mono ?_)
      rintro e Z3 ⟨t3, k3, rfl, hB, hR⟩
      have D3 := Lib.hid (show CloneP 7 ks.length k Z2 (.returned (.slice t3 ks.length k3)) Z3 from ⟨t3, k3, rfl, hB, hR⟩)
      have hlZ3 := below_step hlZ2 hB
      have hbZ3 : BoxH Z3 w.heap.size ⟨op, nn, s, p, pa.length, pc, q, ps.length, qc, o, k, ks.length, kc⟩ := (hB.block _ hbZ2.lt).trans hbZ2
      clear hB hR
      refine ⟨_, rfl, trivial, ?_⟩
      simp only [List.setIfInBounds_toArray, List.set_cons_succ, List.set_cons_zero]
      obtain ⟨Y3, hY3⟩ : ∃ Y, Z3.setCell ⟨w.heap.size, 3, none⟩ (.slice t1 pa.length k1) = Y := ⟨_, rfl⟩
      have hbY3 := hbZ3.set3 t1 k1
      dsimp only at hbY3
      rw [hY3] at hbY3
      have HY3 := Lib.hid hY3
      clear hY3
      refine wpAnyH_all (rs := [10]) (by kernel_rfl) (by simp) ?_
      intro i hi
      obtain rfl : i = 10 := by simpa using hi
      refine skip_at (w' := Z3.setCell ⟨w.heap.size, 3, none⟩ (.slice t1 pa.length k1)) rfl rfl rfl (by obtain ⟨-, -, -, d3, d4, -, d6⟩ := hbZ3.cells; dsimp only at d3 d4 d6; simp only [Nat.zero_add] at d3 d4 d6; have ff := hbZ3.frozen 3; go_simp) ⟨trivial, ?_⟩
      rw [HY3.out]
      refine take_at' (i := 11) 17 (v := .pointer (some ⟨w.heap.size, 4, none⟩)) rfl rfl (by kernel_rfl) (by kernel_rfl) (by kernel_rfl) (fun _ _ _ h => by cases h.1) (Or.inl ⟨by rfl, fun w' _ => (by go_simp)⟩) trivial ?_
      simp only [List.setIfInBounds_toArray, List.set_cons_succ, List.set_cons_zero]
      obtain ⟨Y4, hY4⟩ : ∃ Y, Y3.setCell ⟨w.heap.size, 4, none⟩ (.slice t2 ps.length k2) = Y := ⟨_, rfl⟩
      have hbY4 := hbY3.set4 t2 k2
      dsimp only at hbY4
      rw [hY4] at hbY4
      have HY4 := Lib.hid hY4
      clear hY4
      refine wpAnyH_all (rs := [12]) (by kernel_rfl) (by simp) ?_
      intro i hi
      obtain rfl : i = 12 := by simpa using hi
      refine skip_at (w' := Y3.setCell ⟨w.heap.size, 4, none⟩ (.slice t2 ps.length k2)) rfl rfl rfl (by obtain ⟨-, -, -, d3, d4, -, d6⟩ := hbY3.cells; dsimp only at d3 d4 d6; simp only [Nat.zero_add] at d3 d4 d6; have ff := hbY3.frozen 4; go_simp) ⟨trivial, ?_⟩
      rw [HY4.out]
      refine take_at' (i := 13) 18 (v := .pointer (some ⟨w.heap.size, 6, none⟩)) rfl rfl (by kernel_rfl) (by kernel_rfl) (by kernel_rfl) (fun _ _ _ h => by cases h.1) (Or.inl ⟨by rfl, fun w' _ => (by go_simp)⟩) trivial ?_
      simp only [List.setIfInBounds_toArray, List.set_cons_succ, List.set_cons_zero]
      obtain ⟨Y6, hY6⟩ : ∃ Y, Y4.setCell ⟨w.heap.size, 6, none⟩ (.slice t3 ks.length k3) = Y := ⟨_, rfl⟩
      have hbY6 := hbY4.set6 t3 k3
      dsimp only at hbY6
      rw [hY6] at hbY6
      have HY6 := Lib.hid hY6
      clear hY6
      refine wpAnyH_all (rs := [14]) (by kernel_rfl) (by simp) ?_
      intro i hi
      obtain rfl : i = 14 := by simpa using hi
      refine skip_at (w' := Y4.setCell ⟨w.heap.size, 6, none⟩ (.slice t3 ks.length k3)) rfl rfl rfl (by obtain ⟨-, -, -, d3, d4, -, d6⟩ := hbY4.cells; dsimp only at d3 d4 d6; simp only [Nat.zero_add] at d3 d4 d6; have ff := hbY4.frozen 6; go_simp) ⟨trivial, ?_⟩
      rw [HY6.out]
      refine wpAnyH_done (by kernel_rfl) ?_ _
      refine ⟨rfl, t1, k1, t2, k2, t3, k3, Z1.heap.size, Z2.heap.size, Z3.heap.size, rfl, ?_⟩
      rw [← HY6.out, ← HY4.out, ← HY3.out]
      exact ci_begin hdz hd0 hdb hdr HPA.out HPS.out HKS.out D1.out D2.out D3.out
theorem copy_any : ∀ (n : Nat) (W : World) (h : Hd) (y : Ex), InX W n h y → Slim n y → Calls Tryd.prog 23 #[h.agg] W (CopyP W n y)
  | 0, _, _, _, h, _ => h.elim
  | n + 1, W, h, y, hx, hs => copy_step n (copy_any n) W h y hx hs
end Go.Proofs.YtngikbimlhoigaaDoor
