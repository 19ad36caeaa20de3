/- WALK of the reference's Compare. -/
import Derived.Test.YtkmbhjcedkojjaaRa
import Derived.Test.YtkmbhjcedkojjaaPi
import Derived.Deep.DeepCutAuto
import Derived.Deep.CutBlock
import Derived.Deep.QuietTactic
import Derived.BigQuiet
namespace Go.Proofs.Ytkmbhjcedkojjaa
open Go.RowKit
set_option maxRecDepth 100000 in
set_option maxHeartbeats 8000000 in
theorem rcompare_step (n : Nat) (HC : ∀ W k lo hi s y0 m0 o f fl fc fs k2 lo2 hi2 s2 y2 m2 o2 f2 fl2 fc2 fs2, InF (fun t tl tc V => InV W n t tl tc V) W f fl fs → InF (fun t tl tc V => InV W n t tl tc V) W f2 fl2 fs2 → Calls Try.prog 32 #[tv k lo hi s y0 m0 o f fl fc, tv k2 lo2 hi2 s2 y2 m2 o2 f2 fl2 fc2] W (CmpPost (cmpT (cmpV n) (.mk k lo hi s y0 m0 o fs) (.mk k2 lo2 hi2 s2 y2 m2 o2 fs2)) W))
    (f : Option Addr) (fl fc : Nat) (fs : List Tm) (f2 : Option Addr) (fl2 fc2 : Nat) (fs2 : List Tm) (w : World) (h1 : InV w (n + 1) f fl fc fs) (h2 : InV w (n + 1) f2 fl2 fc2 fs2) :
    Calls Try.prog 34 #[.agg #[.slice f fl fc], .agg #[.slice f2 fl2 fc2]] w (CmpPost (cmpV (n + 1) fs fs2) w) := by
  have HC := Lib.hid HC
  obtain ⟨l1, z1, h1⟩ := h1
  obtain ⟨l2, z2, h2⟩ := h2
  have H1 := Lib.hid h1
  have H2 := Lib.hid h2
  subst l1 l2
  clear h1 h2
  go_enter Try.func34, Try.ntmps34
  go_wp2_with fail
  go_loopw [5] (fun i wr => ∃ k : Nat, k ≤ fs.length ∧ k ≤ fs2.length ∧ i = .int .i64 k ∧ Hid (∀ j (a : j < fs.length) (b : j < fs2.length), j < k → cmpT (cmpV n) fs[j] fs2[j] = 0) ∧ Bx wr w.heap.size f fs.length fc ∧ Bx wr (w.heap.size + 1) f2 fs2.length fc2 ∧ Hid (Below w.heap.size w wr)) (fun i _ => fs.length - (intOf i).toNat)
  case atStart => exact ⟨0, Nat.zero_le _, Nat.zero_le _, rfl, fun j _ _ hj => absurd hj (Nat.not_lt_zero _), ⟨by simp; omega, by simp [go_sem]⟩, ⟨by simp, by simp [go_sem]⟩, bl_alloc (bl_alloc (Below.refl _ _))⟩
  case round =>
    obtain ⟨k, hk, hk', rfl, hz, hX1, hX2, hB⟩ := hrel
    rename World => wr
    have bx1 := hX1.2
    have bx2 := hX2.2
    have HX1 := Lib.hid hX1
    have HX2 := Lib.hid hX2
    clear hX1 hX2
    by_cases L1 : k < fs.length
    · have hk1 : (k : Int) < (fs.length : Int) := by omega
      have hk0 : (0 : Int) ≤ (k : Int) := by omega
      by_cases L2 : k < fs2.length
      · have hk2 : (k : Int) < (fs2.length : Int) := by omega
        obtain ⟨b1, off1, rfl, i1⟩ := H1.out k L1
        obtain ⟨b2, off2, rfl, i2⟩ := H2.out k L2
        have HY1 : ∃ x, fs[k] = x := ⟨_, rfl⟩
        have HY2 : ∃ x, fs2[k] = x := ⟨_, rfl⟩
        obtain ⟨⟨k5, lo5, hi5, s5, y5, m5, o5, g5⟩, hx1⟩ := HY1
        obtain ⟨⟨k6, lo6, hi6, s6, y6, m6, o6, g6⟩, hx2⟩ := HY2
        rw [hx1] at i1
        rw [hx2] at i2
        obtain ⟨lt1, f5, fl5, fc5, c0, c1, c2, c3, c4, c5, c6, c7, j1⟩ := i1
        obtain ⟨lt2, f6, fl6, fc6, d0, d1, d2, d3, d4, d5, d6, d7, j2⟩ := i2
        have V1 : ∀ W, Below wr.heap.size wr W → W.cell? ⟨b1, off1 + k * 8, none⟩ = some (.int .i64 k5) ∧ W.cell? ⟨b1, off1 + k * 8 + 1, none⟩ = some (.int .i64 lo5) ∧ W.cell? ⟨b1, off1 + k * 8 + 2, none⟩ = some (.int .i64 hi5) ∧ W.cell? ⟨b1, off1 + k * 8 + 3, none⟩ = some (.string s5) ∧ W.cell? ⟨b1, off1 + k * 8 + 4, none⟩ = some (.bool y5) ∧ W.cell? ⟨b1, off1 + k * 8 + 5, none⟩ = some (.bool m5) ∧ W.cell? ⟨b1, off1 + k * 8 + 6, none⟩ = some (.bool o5) ∧ W.cell? ⟨b1, off1 + k * 8 + 7, none⟩ = some (.slice f5 fl5 fc5) := fun W hW => by
          have hw := bl_step hB.out hW
          have e : ∀ i, W.cell? ⟨b1, i, none⟩ = w.cell? ⟨b1, i, none⟩ := fun i => hw.cell (p := ⟨b1, i, none⟩) lt1
          exact ⟨(e _).trans c0, (e _).trans c1, (e _).trans c2, (e _).trans c3, (e _).trans c4, (e _).trans c5, (e _).trans c6, (e _).trans c7⟩
        have V2 : ∀ W, Below wr.heap.size wr W → W.cell? ⟨b2, off2 + k * 8, none⟩ = some (.int .i64 k6) ∧ W.cell? ⟨b2, off2 + k * 8 + 1, none⟩ = some (.int .i64 lo6) ∧ W.cell? ⟨b2, off2 + k * 8 + 2, none⟩ = some (.int .i64 hi6) ∧ W.cell? ⟨b2, off2 + k * 8 + 3, none⟩ = some (.string s6) ∧ W.cell? ⟨b2, off2 + k * 8 + 4, none⟩ = some (.bool y6) ∧ W.cell? ⟨b2, off2 + k * 8 + 5, none⟩ = some (.bool m6) ∧ W.cell? ⟨b2, off2 + k * 8 + 6, none⟩ = some (.bool o6) ∧ W.cell? ⟨b2, off2 + k * 8 + 7, none⟩ = some (.slice f6 fl6 fc6) := fun W hW => by
          have hw := bl_step hB.out hW
          have e : ∀ i, W.cell? ⟨b2, i, none⟩ = w.cell? ⟨b2, i, none⟩ := fun i => hw.cell (p := ⟨b2, i, none⟩) lt2
          exact ⟨(e _).trans d0, (e _).trans d1, (e _).trans d2, (e _).trans d3, (e _).trans d4, (e _).trans d5, (e _).trans d6, (e _).trans d7⟩
        have V1 := Lib.hid V1
        have V2 := Lib.hid V2
        have hcc : cmpT (cmpV n) fs[k] fs2[k] = cmpT (cmpV n) (.mk k5 lo5 hi5 s5 y5 m5 o5 g5) (.mk k6 lo6 hi6 s6 y6 m6 o6 g6) := by rw [hx1, hx2]
        have KC : Hid (∀ W, Below wr.heap.size wr W → Calls Try.prog 32 #[tv k5 lo5 hi5 s5 y5 m5 o5 f5 fl5 fc5, tv k6 lo6 hi6 s6 y6 m6 o6 f6 fl6 fc6] W fun e w' => e = .returned (.int .i64 (cmpT (cmpV n) (.mk k5 lo5 hi5 s5 y5 m5 o5 g5) (.mk k6 lo6 hi6 s6 y6 m6 o6 g6))) ∧ Below wr.heap.size wr w') := fun W hW =>
          (HC.out W _ _ _ _ _ _ _ _ _ _ _ _ _ _ _ _ _ _ _ _ _ _ (InF.below (fun _ _ _ _ h => InV.below (bl_step hB.out hW) h) (bl_step hB.out hW) j1) (InF.below (fun _ _ _ _ h => InV.below (bl_step hB.out hW) h) (bl_step hB.out hW) j2)).mono fun _ _ ⟨a, b⟩ => ⟨a, bl_step hW b⟩
        have HCC := Lib.hid hcc
        clear c0 c1 c2 c3 c4 c5 c6 c7 d0 d1 d2 d3 d4 d5 d6 d7 lt1 lt2 j1 j2 hx1 hx2 hcc
        generalize cmpT (cmpV n) (.mk k5 lo5 hi5 s5 y5 m5 o5 g5) (.mk k6 lo6 hi6 s6 y6 m6 o6 g6) = cc at *
        go_upto_region 4 with fail
        have P1 : Hid (∀ W, Below wr.heap.size wr W → W.cell? ⟨w.heap.size, 0, none⟩ = some (.slice (some ⟨b1, off1, none⟩) fs.length fc)) := fun W hW => (HX1.out.later hW).2
        have P2 : Hid (∀ W, Below wr.heap.size wr W → W.cell? ⟨w.heap.size + 1, 0, none⟩ = some (.slice (some ⟨b2, off2, none⟩) fs2.length fc2)) := fun W hW => (HX2.out.later hW).2
        refine region_class (C := fun W => Below wr.heap.size wr W) (by kernel_rfl) (by kernel_rfl) ((Below.refl _ _).drew) ?_
        repeat (first | go_big_quiet_skip | (go_big_quiet_want; go_big_quiet_op; first | go_big_quiet_on | (apply Exists.intro; refine ⟨fun W hW => ?_, ?_⟩; (first | rfl | with_reducible exact (KC.out W hW) | (have q0 := P1.out W hW; go_simp; first | done | rfl | exact ⟨rfl, rfl⟩) | (have q0 := P2.out W hW; go_simp; first | done | rfl | exact ⟨rfl, rfl⟩) | (obtain ⟨q0, q1, q2, q3, q4, q5, q6, q7⟩ := V1.out W hW; go_simp; first | done | rfl | exact ⟨rfl, rfl⟩) | (obtain ⟨q0, q1, q2, q3, q4, q5, q6, q7⟩ := V2.out W hW; go_simp; first | done | rfl | exact ⟨rfl, rfl⟩)); go_big_quiet_on)))
        refine wpQuiet_nil ?_
        intro w9 hW9
        have HB9 := Lib.hid (bl_step hB.out hW9)
        have HY1 := Lib.hid (HX1.out.later hW9)
        have HY2 := Lib.hid (HX2.out.later hW9)
        clear hW9 V1 V2 KC P1 P2 bx1 bx2
        by_cases h0 : cc = 0
        · have HZ : Hid (cmpT (cmpV n) fs[k] fs2[k] = 0) := HCC.out.trans h0
          subst h0
          go_wp2_with fail
          go_roundw
          case rel => exact ⟨k + 1, by omega, by omega, by go_num, Lib.hid (show ∀ j (a : j < fs.length) (b : j < fs2.length), j < k + 1 → cmpT (cmpV n) fs[j] fs2[j] = 0 from fun j a b hj => by
            by_cases e : j = k
            · subst e; exact HZ.out
            · exact hz.out j a b (Nat.lt_of_le_of_ne (Nat.le_of_lt_succ hj) e)), HY1.out, HY2.out, HB9⟩
          case measure => simp [intOf]; omega
        · have hb : (cc != 0) = true := by simpa using h0
          have HN := Lib.hid h0
          clear h0
          go_wp2_with fail
          go_ret
          exact ⟨ret_int (by rw [cmpV, lexL_at (cmpT (cmpV n)) fs fs2 k L1 L2 (fun j a b hj => hz.out j a b hj) (by rw [HCC.out]; exact HN.out), HCC.out]), HB9.out⟩
      · go_wp2_with (go_at_call 58; (with_reducible refine (nums_any _ _ _).mono ?_); rintro e w1 ⟨rfl, h⟩; subst h)
        go_ret
        exact ⟨ret_int (by rw [cmpV]; exact (lexL_end _ _ _ (fun j a b => hz.out j a b (by omega))).symm), hB.out⟩
    · go_wp2_with (go_at_call 58; (with_reducible refine (nums_any _ _ _).mono ?_); rintro e w1 ⟨rfl, h⟩; subst h)
      go_ret
      exact ⟨ret_int (by rw [cmpV]; exact (lexL_end _ _ _ (fun j a b => hz.out j a b (by omega))).symm), hB.out⟩

end Go.Proofs.Ytkmbhjcedkojjaa
