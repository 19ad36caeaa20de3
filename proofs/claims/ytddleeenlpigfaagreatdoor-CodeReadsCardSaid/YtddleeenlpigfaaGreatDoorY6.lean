/- Gf -/
import Derived.Deep.DeepCutAuto
import Derived.Deep.CutBlock
import Derived.Test.YtddleeenlpigfaaGreatDoorY4
/- WALK of lists, at terms. -/
namespace Go.Proofs.YtddleeenlpigfaaGreatDoor.G
open Go.RowKit
set_option maxRecDepth 100000 in
set_option maxHeartbeats 8000000 in
theorem listsT_any (g : List Tm → List Tm → Int) (n m : Nat) (HC : ∀ W k lo hi s y0 m0 o f fl fc fs k2 lo2 hi2 s2 y2 m2 o2 f2 fl2 fc2 fs2, InF (fun t tl tc V => InV W n t tl tc V) W f fl fs → InF (fun t tl tc V => InV W m t tl tc V) W f2 fl2 fs2 → Calls Tryz.prog 88 #[tv k lo hi s y0 m0 o f fl fc, tv k2 lo2 hi2 s2 y2 m2 o2 f2 fl2 fc2] W (GmpPost (cmpT g (.mk k lo hi s y0 m0 o fs) (.mk k2 lo2 hi2 s2 y2 m2 o2 fs2)) W))
    (f : Option Addr) (fl fc : Nat) (fs : List Tm) (f2 : Option Addr) (fl2 fc2 : Nat) (fs2 : List Tm) (w : World) (h1 : InV w (n + 1) f fl fc fs) (h2 : InV w (m + 1) f2 fl2 fc2 fs2) :
    Calls Tryz.prog 138 #[.slice f fl fc, .slice f2 fl2 fc2, .func (.func 88) #[] #[]] w (GmpPost (lexL (cmpT g) fs fs2) w) := by
  have HC := Lib.hid HC
  obtain ⟨l1, z1, h1⟩ := h1
  obtain ⟨l2, z2, h2⟩ := h2
  have H1 := Lib.hid h1
  have H2 := Lib.hid h2
  subst l1 l2
  clear h1 h2
  by_cases hm : fs2.length < fs.length
  · have B1 : fs2.length ≤ fs.length := by omega
    go_enter Tryz.func138, Tryz.ntmps138
    go_wp2_with fail
    go_loopw [14] (fun i wr => ∃ k : Nat, k ≤ fs2.length ∧ i = .int .i64 k ∧ Hid (∀ j (a : j < fs.length) (b : j < fs2.length), j < k → cmpT g fs[j] fs2[j] = 0) ∧ Hid (Gr w.heap.size w wr)) (fun i _ => fs2.length - (intOf i).toNat)
    case atStart => exact ⟨0, Nat.zero_le _, rfl, fun j _ _ hj => absurd hj (Nat.not_lt_zero _), Gr.refl _ _⟩
    case round =>
      obtain ⟨k, hk, rfl, hz, hB⟩ := hrel
      rename World => wr
      by_cases hlt : k < fs2.length
      · have hk1 : (k : Int) < (fs.length : Int) := by omega
        have hk2 : (k : Int) < (fs2.length : Int) := by omega
        have hk0 : (0 : Int) ≤ (k : Int) := by omega
        have L1 : k < fs.length := by omega
        have L2 : k < fs2.length := by omega
        obtain ⟨b1, off1, rfl, i1⟩ := H1.out k L1
        obtain ⟨b2, off2, rfl, i2⟩ := H2.out k L2
        have HX1 : ∃ x, fs[k] = x := ⟨_, rfl⟩
        have HX2 : ∃ x, fs2[k] = x := ⟨_, rfl⟩
        obtain ⟨⟨k5, lo5, hi5, s5, y5, m5, o5, g5⟩, hx1⟩ := HX1
        obtain ⟨⟨k6, lo6, hi6, s6, y6, m6, o6, g6⟩, hx2⟩ := HX2
        rw [hx1] at i1
        rw [hx2] at i2
        obtain ⟨lt1, f5, fl5, fc5, c0, c1, c2, c3, c4, c5, c6, c7, j1⟩ := i1
        obtain ⟨lt2, f6, fl6, fc6, d0, d1, d2, d3, d4, d5, d6, d7, j2⟩ := i2
        have V1 : ∀ W, Gr wr.heap.size wr W → W.cell? ⟨b1, off1 + k * 8, none⟩ = some (.int .i64 k5) ∧ W.cell? ⟨b1, off1 + k * 8 + 1, none⟩ = some (.int .i64 lo5) ∧ W.cell? ⟨b1, off1 + k * 8 + 2, none⟩ = some (.int .i64 hi5) ∧ W.cell? ⟨b1, off1 + k * 8 + 3, none⟩ = some (.string s5) ∧ W.cell? ⟨b1, off1 + k * 8 + 4, none⟩ = some (.bool y5) ∧ W.cell? ⟨b1, off1 + k * 8 + 5, none⟩ = some (.bool m5) ∧ W.cell? ⟨b1, off1 + k * 8 + 6, none⟩ = some (.bool o5) ∧ W.cell? ⟨b1, off1 + k * 8 + 7, none⟩ = some (.slice f5 fl5 fc5) := fun W hW => by
          have hw := gl_step hB.out hW
          have e : ∀ i, W.cell? ⟨b1, i, none⟩ = w.cell? ⟨b1, i, none⟩ := fun i => hw.cell (p := ⟨b1, i, none⟩) lt1
          exact ⟨(e _).trans c0, (e _).trans c1, (e _).trans c2, (e _).trans c3, (e _).trans c4, (e _).trans c5, (e _).trans c6, (e _).trans c7⟩
        have V2 : ∀ W, Gr wr.heap.size wr W → W.cell? ⟨b2, off2 + k * 8, none⟩ = some (.int .i64 k6) ∧ W.cell? ⟨b2, off2 + k * 8 + 1, none⟩ = some (.int .i64 lo6) ∧ W.cell? ⟨b2, off2 + k * 8 + 2, none⟩ = some (.int .i64 hi6) ∧ W.cell? ⟨b2, off2 + k * 8 + 3, none⟩ = some (.string s6) ∧ W.cell? ⟨b2, off2 + k * 8 + 4, none⟩ = some (.bool y6) ∧ W.cell? ⟨b2, off2 + k * 8 + 5, none⟩ = some (.bool m6) ∧ W.cell? ⟨b2, off2 + k * 8 + 6, none⟩ = some (.bool o6) ∧ W.cell? ⟨b2, off2 + k * 8 + 7, none⟩ = some (.slice f6 fl6 fc6) := fun W hW => by
          have hw := gl_step hB.out hW
          have e : ∀ i, W.cell? ⟨b2, i, none⟩ = w.cell? ⟨b2, i, none⟩ := fun i => hw.cell (p := ⟨b2, i, none⟩) lt2
          exact ⟨(e _).trans d0, (e _).trans d1, (e _).trans d2, (e _).trans d3, (e _).trans d4, (e _).trans d5, (e _).trans d6, (e _).trans d7⟩
        have V1 := Lib.hid V1
        have V2 := Lib.hid V2
        have hcc : cmpT g fs[k] fs2[k] = cmpT g (.mk k5 lo5 hi5 s5 y5 m5 o5 g5) (.mk k6 lo6 hi6 s6 y6 m6 o6 g6) := by rw [hx1, hx2]
        have KC : Hid (∀ W, Gr wr.heap.size wr W → Calls Tryz.prog 88 #[tv k5 lo5 hi5 s5 y5 m5 o5 f5 fl5 fc5, tv k6 lo6 hi6 s6 y6 m6 o6 f6 fl6 fc6] W fun e w' => e = .returned (.int .i64 (cmpT g (.mk k5 lo5 hi5 s5 y5 m5 o5 g5) (.mk k6 lo6 hi6 s6 y6 m6 o6 g6))) ∧ Gr wr.heap.size wr w') := fun W hW =>
          (HC.out W _ _ _ _ _ _ _ _ _ _ _ _ _ _ _ _ _ _ _ _ _ _ (InF.gr (fun _ _ _ _ h => InV.gr (gl_step hB.out hW) h) (gl_step hB.out hW) j1) (InF.gr (fun _ _ _ _ h => InV.gr (gl_step hB.out hW) h) (gl_step hB.out hW) j2)).mono fun _ _ ⟨a, b⟩ => ⟨a, gl_step hW b⟩
        have HCC := Lib.hid hcc
        clear c0 c1 c2 c3 c4 c5 c6 c7 d0 d1 d2 d3 d4 d5 d6 d7 lt1 lt2 j1 j2 hx1 hx2 hcc
        generalize cmpT g (.mk k5 lo5 hi5 s5 y5 m5 o5 g5) (.mk k6 lo6 hi6 s6 y6 m6 o6 g6) = cc at *
        go_upto_region 4 with fail
        refine region_class (C := fun W => Gr wr.heap.size wr W) (by kernel_rfl) (by kernel_rfl) ((Gr.refl _ _).drew) ?_
        repeat (first | go_big_quiet_skip | (go_big_quiet_want; go_big_quiet_op; first | go_big_quiet_on | (apply Exists.intro; refine ⟨fun W hW => ?_, ?_⟩; (first | rfl | exact (KC.out W hW) | (obtain ⟨q0, q1, q2, q3, q4, q5, q6, q7⟩ := V1.out W hW; go_simp; first | done | rfl | exact ⟨rfl, rfl⟩) | (obtain ⟨q0, q1, q2, q3, q4, q5, q6, q7⟩ := V2.out W hW; go_simp; first | done | rfl | exact ⟨rfl, rfl⟩)); go_big_quiet_on)))
        refine wpQuiet_nil ?_
        intro w9 hW9
        have HB9 := Lib.hid (gl_step hB.out hW9)
        clear hW9
        clear V1 V2 KC
        by_cases h0 : cc = 0
        · have HZ : Hid (cmpT g fs[k] fs2[k] = 0) := HCC.out.trans h0
          subst h0
          go_wp2_with fail
          go_roundw
          case rel => exact ⟨k + 1, by omega, by go_num, Lib.hid (show ∀ j (a : j < fs.length) (b : j < fs2.length), j < k + 1 → cmpT g fs[j] fs2[j] = 0 from fun j a b hj => by
            by_cases e : j = k
            · subst e; exact HZ.out
            · exact hz.out j a b (Nat.lt_of_le_of_ne (Nat.le_of_lt_succ hj) e)), HB9⟩
          case measure => simp [intOf]; omega
        · have hb : (cc != 0) = true := by simpa using h0
          have HN := Lib.hid h0
          clear h0
          go_wp2_with fail
          go_ret
          exact ⟨ret_int (by rw [lexL_at (cmpT g) fs fs2 k L1 L2 (fun j a b hj => hz.out j a b hj) (by rw [HCC.out]; exact HN.out), HCC.out]), HB9.out⟩
      · go_wp2_with (go_at_call 123; (with_reducible refine (cmpI_any _ _ _).mono ?_); rintro e w1 ⟨rfl, rfl⟩)
        go_ret
        exact ⟨ret_int (lexL_end _ _ _ (fun j a b => hz.out j a b (by omega))).symm, hB.out⟩
  · have B1 : fs.length ≤ fs2.length := by omega
    go_enter Tryz.func138, Tryz.ntmps138
    go_wp2_with fail
    go_loopw [14] (fun i wr => ∃ k : Nat, k ≤ fs.length ∧ i = .int .i64 k ∧ Hid (∀ j (a : j < fs.length) (b : j < fs2.length), j < k → cmpT g fs[j] fs2[j] = 0) ∧ Hid (Gr w.heap.size w wr)) (fun i _ => fs.length - (intOf i).toNat)
    case atStart => exact ⟨0, Nat.zero_le _, rfl, fun j _ _ hj => absurd hj (Nat.not_lt_zero _), Gr.refl _ _⟩
    case round =>
      obtain ⟨k, hk, rfl, hz, hB⟩ := hrel
      rename World => wr
      by_cases hlt : k < fs.length
      · have hk1 : (k : Int) < (fs.length : Int) := by omega
        have hk2 : (k : Int) < (fs2.length : Int) := by omega
        have hk0 : (0 : Int) ≤ (k : Int) := by omega
        have L1 : k < fs.length := by omega
        have L2 : k < fs2.length := by omega
        obtain ⟨b1, off1, rfl, i1⟩ := H1.out k L1
        obtain ⟨b2, off2, rfl, i2⟩ := H2.out k L2
        have HX1 : ∃ x, fs[k] = x := ⟨_, rfl⟩
        have HX2 : ∃ x, fs2[k] = x := ⟨_, rfl⟩
        obtain ⟨⟨k5, lo5, hi5, s5, y5, m5, o5, g5⟩, hx1⟩ := HX1
        obtain ⟨⟨k6, lo6, hi6, s6, y6, m6, o6, g6⟩, hx2⟩ := HX2
        rw [hx1] at i1
        rw [hx2] at i2
        obtain ⟨lt1, f5, fl5, fc5, c0, c1, c2, c3, c4, c5, c6, c7, j1⟩ := i1
        obtain ⟨lt2, f6, fl6, fc6, d0, d1, d2, d3, d4, d5, d6, d7, j2⟩ := i2
        have V1 : ∀ W, Gr wr.heap.size wr W → W.cell? ⟨b1, off1 + k * 8, none⟩ = some (.int .i64 k5) ∧ W.cell? ⟨b1, off1 + k * 8 + 1, none⟩ = some (.int .i64 lo5) ∧ W.cell? ⟨b1, off1 + k * 8 + 2, none⟩ = some (.int .i64 hi5) ∧ W.cell? ⟨b1, off1 + k * 8 + 3, none⟩ = some (.string s5) ∧ W.cell? ⟨b1, off1 + k * 8 + 4, none⟩ = some (.bool y5) ∧ W.cell? ⟨b1, off1 + k * 8 + 5, none⟩ = some (.bool m5) ∧ W.cell? ⟨b1, off1 + k * 8 + 6, none⟩ = some (.bool o5) ∧ W.cell? ⟨b1, off1 + k * 8 + 7, none⟩ = some (.slice f5 fl5 fc5) := fun W hW => by
          have hw := gl_step hB.out hW
          have e : ∀ i, W.cell? ⟨b1, i, none⟩ = w.cell? ⟨b1, i, none⟩ := fun i => hw.cell (p := ⟨b1, i, none⟩) lt1
          exact ⟨(e _).trans c0, (e _).trans c1, (e _).trans c2, (e _).trans c3, (e _).trans c4, (e _).trans c5, (e _).trans c6, (e _).trans c7⟩
        have V2 : ∀ W, Gr wr.heap.size wr W → W.cell? ⟨b2, off2 + k * 8, none⟩ = some (.int .i64 k6) ∧ W.cell? ⟨b2, off2 + k * 8 + 1, none⟩ = some (.int .i64 lo6) ∧ W.cell? ⟨b2, off2 + k * 8 + 2, none⟩ = some (.int .i64 hi6) ∧ W.cell? ⟨b2, off2 + k * 8 + 3, none⟩ = some (.string s6) ∧ W.cell? ⟨b2, off2 + k * 8 + 4, none⟩ = some (.bool y6) ∧ W.cell? ⟨b2, off2 + k * 8 + 5, none⟩ = some (.bool m6) ∧ W.cell? ⟨b2, off2 + k * 8 + 6, none⟩ = some (.bool o6) ∧ W.cell? ⟨b2, off2 + k * 8 + 7, none⟩ = some (.slice f6 fl6 fc6) := fun W hW => by
          have hw := gl_step hB.out hW
          have e : ∀ i, W.cell? ⟨b2, i, none⟩ = w.cell? ⟨b2, i, none⟩ := fun i => hw.cell (p := ⟨b2, i, none⟩) lt2
          exact ⟨(e _).trans d0, (e _).trans d1, (e _).trans d2, (e _).trans d3, (e _).trans d4, (e _).trans d5, (e _).trans d6, (e _).trans d7⟩
        have V1 := Lib.hid V1
        have V2 := Lib.hid V2
        have hcc : cmpT g fs[k] fs2[k] = cmpT g (.mk k5 lo5 hi5 s5 y5 m5 o5 g5) (.mk k6 lo6 hi6 s6 y6 m6 o6 g6) := by rw [hx1, hx2]
        have KC : Hid (∀ W, Gr wr.heap.size wr W → Calls Tryz.prog 88 #[tv k5 lo5 hi5 s5 y5 m5 o5 f5 fl5 fc5, tv k6 lo6 hi6 s6 y6 m6 o6 f6 fl6 fc6] W fun e w' => e = .returned (.int .i64 (cmpT g (.mk k5 lo5 hi5 s5 y5 m5 o5 g5) (.mk k6 lo6 hi6 s6 y6 m6 o6 g6))) ∧ Gr wr.heap.size wr w') := fun W hW =>
          (HC.out W _ _ _ _ _ _ _ _ _ _ _ _ _ _ _ _ _ _ _ _ _ _ (InF.gr (fun _ _ _ _ h => InV.gr (gl_step hB.out hW) h) (gl_step hB.out hW) j1) (InF.gr (fun _ _ _ _ h => InV.gr (gl_step hB.out hW) h) (gl_step hB.out hW) j2)).mono fun _ _ ⟨a, b⟩ => ⟨a, gl_step hW b⟩
        have HCC := Lib.hid hcc
        clear c0 c1 c2 c3 c4 c5 c6 c7 d0 d1 d2 d3 d4 d5 d6 d7 lt1 lt2 j1 j2 hx1 hx2 hcc
        generalize cmpT g (.mk k5 lo5 hi5 s5 y5 m5 o5 g5) (.mk k6 lo6 hi6 s6 y6 m6 o6 g6) = cc at *
        go_upto_region 4 with fail
        refine region_class (C := fun W => Gr wr.heap.size wr W) (by kernel_rfl) (by kernel_rfl) ((Gr.refl _ _).drew) ?_
        repeat (first | go_big_quiet_skip | (go_big_quiet_want; go_big_quiet_op; first | go_big_quiet_on | (apply Exists.intro; refine ⟨fun W hW => ?_, ?_⟩; (first | rfl | exact (KC.out W hW) | (obtain ⟨q0, q1, q2, q3, q4, q5, q6, q7⟩ := V1.out W hW; go_simp; first | done | rfl | exact ⟨rfl, rfl⟩) | (obtain ⟨q0, q1, q2, q3, q4, q5, q6, q7⟩ := V2.out W hW; go_simp; first | done | rfl | exact ⟨rfl, rfl⟩)); go_big_quiet_on)))
        refine wpQuiet_nil ?_
        intro w9 hW9
        have HB9 := Lib.hid (gl_step hB.out hW9)
        clear hW9
        clear V1 V2 KC
        by_cases h0 : cc = 0
        · have HZ : Hid (cmpT g fs[k] fs2[k] = 0) := HCC.out.trans h0
          subst h0
          go_wp2_with fail
          go_roundw
          case rel => exact ⟨k + 1, by omega, by go_num, Lib.hid (show ∀ j (a : j < fs.length) (b : j < fs2.length), j < k + 1 → cmpT g fs[j] fs2[j] = 0 from fun j a b hj => by
            by_cases e : j = k
            · subst e; exact HZ.out
            · exact hz.out j a b (Nat.lt_of_le_of_ne (Nat.le_of_lt_succ hj) e)), HB9⟩
          case measure => simp [intOf]; omega
        · have hb : (cc != 0) = true := by simpa using h0
          have HN := Lib.hid h0
          clear h0
          go_wp2_with fail
          go_ret
          exact ⟨ret_int (by rw [lexL_at (cmpT g) fs fs2 k L1 L2 (fun j a b hj => hz.out j a b hj) (by rw [HCC.out]; exact HN.out), HCC.out]), HB9.out⟩
      · go_wp2_with (go_at_call 123; (with_reducible refine (cmpI_any _ _ _).mono ?_); rintro e w1 ⟨rfl, rfl⟩)
        go_ret
        exact ⟨ret_int (lexL_end _ _ _ (fun j a b => hz.out j a b (by omega))).symm, hB.out⟩

end Go.Proofs.YtddleeenlpigfaaGreatDoor.G
