/- Rb, Rc, Rd, Ak -/
import Derived.Deep.DeepCutAuto
import Derived.Deep.CutBlock
import Derived.Deep.QuietTactic
import Derived.BigQuiet
import Derived.WalkMore
import Derived.Test.YtddleeenlpigfaaGreatDoorY4
import Derived.Test.YtddleeenlpigfaaGreatDoorY2
import Derived.Test.YtddleeenlpigfaaGreatDoorY19
import Derived.Test.YtddleeenlpigfaaGreatDoorY21
/- WALK of the reference's Compare. -/
namespace Go.Proofs.YtddleeenlpigfaaGreatDoor
open Go.RowKit
set_option maxRecDepth 100000 in
set_option maxHeartbeats 8000000 in
theorem rcompare_step (n : Nat) (HC : ∀ W k lo hi s y0 m0 o f fl fc fs k2 lo2 hi2 s2 y2 m2 o2 f2 fl2 fc2 fs2, InF (fun t tl tc V => InV W n t tl tc V) W f fl fs → InF (fun t tl tc V => InV W n t tl tc V) W f2 fl2 fs2 → Calls Tryz.prog 40 #[tv k lo hi s y0 m0 o f fl fc, tv k2 lo2 hi2 s2 y2 m2 o2 f2 fl2 fc2] W (CmpPost (cmpT (cmpV n) (.mk k lo hi s y0 m0 o fs) (.mk k2 lo2 hi2 s2 y2 m2 o2 fs2)) W))
    (f : Option Addr) (fl fc : Nat) (fs : List Tm) (f2 : Option Addr) (fl2 fc2 : Nat) (fs2 : List Tm) (w : World) (h1 : InV w (n + 1) f fl fc fs) (h2 : InV w (n + 1) f2 fl2 fc2 fs2) :
    Calls Tryz.prog 42 #[.agg #[.slice f fl fc], .agg #[.slice f2 fl2 fc2]] w (CmpPost (cmpV (n + 1) fs fs2) w) := by
  have HC := Lib.hid HC
  obtain ⟨l1, z1, h1⟩ := h1
  obtain ⟨l2, z2, h2⟩ := h2
  have H1 := Lib.hid h1
  have H2 := Lib.hid h2
  subst l1 l2
  clear h1 h2
  go_enter Tryz.func42, Tryz.ntmps42
  go_wp2_with fail
  go_loopw [5] (fun i wr => ∃ k : Nat, k ≤ fs.length ∧ k ≤ fs2.length ∧ i = .int .i64 k ∧ Hid (∀ j (a : j < fs.length) (b : j < fs2.length), j < k → cmpT (cmpV n) fs[j] fs2[j] = 0) ∧ Bx wr w.heap.size f fs.length fc ∧ Bx wr (w.heap.size + 1) f2 fs2.length fc2 ∧ Hid (Below w.heap.size w wr)) (fun i _ => fs.length - (intOf i).toNat)
  case atStart => exact ⟨0, Nat.zero_le _, Nat.zero_le _, rfl, fun j _ _ hj => absurd hj (Nat.not_lt_zero _), ⟨by simp; omega, by simp [go_sem]⟩, ⟨by simp, by simp [go_sem]⟩, bl_alloc (bl_alloc (Below.refl _ _))⟩
  case round =>
    obtain ⟨k, hk, hk', rfl, hz, hX1, hX2, hB⟩ := hrel
    rename World => wr
    have bx1 := hX1.2
    have bx2 := hX2.2
    have HX1 := Lib.hid hX1
    have HX2 := Lib.hid hX2
    clear hX1 hX2
    by_cases L1 : k < fs.length
    · have hk1 : (k : Int) < (fs.length : Int) := by omega
      have hk0 : (0 : Int) ≤ (k : Int) := by omega
      by_cases L2 : k < fs2.length
      · have hk2 : (k : Int) < (fs2.length : Int) := by omega
        obtain ⟨b1, off1, rfl, i1⟩ := H1.out k L1
        obtain ⟨b2, off2, rfl, i2⟩ := H2.out k L2
        have HY1 : ∃ x, fs[k] = x := ⟨_, rfl⟩
        have HY2 : ∃ x, fs2[k] = x := ⟨_, rfl⟩
        obtain ⟨⟨k5, lo5, hi5, s5, y5, m5, o5, g5⟩, hx1⟩ := HY1
        obtain ⟨⟨k6, lo6, hi6, s6, y6, m6, o6, g6⟩, hx2⟩ := HY2
        rw [hx1] at i1
        rw [hx2] at i2
        obtain ⟨lt1, f5, fl5, fc5, c0, c1, c2, c3, c4, c5, c6, c7, j1⟩ := i1
        obtain ⟨lt2, f6, fl6, fc6, d0, d1, d2, d3, d4, d5, d6, d7, j2⟩ := i2
        have V1 : ∀ W, Below wr.heap.size wr W → W.cell? ⟨b1, off1 + k * 8, none⟩ = some (.int .i64 k5) ∧ W.cell? ⟨b1, off1 + k * 8 + 1, none⟩ = some (.int .i64 lo5) ∧ W.cell? ⟨b1, off1 + k * 8 + 2, none⟩ = some (.int .i64 hi5) ∧ W.cell? ⟨b1, off1 + k * 8 + 3, none⟩ = some (.string s5) ∧ W.cell? ⟨b1, off1 + k * 8 + 4, none⟩ = some (.bool y5) ∧ W.cell? ⟨b1, off1 + k * 8 + 5, none⟩ = some (.bool m5) ∧ W.cell? ⟨b1, off1 + k * 8 + 6, none⟩ = some (.bool o5) ∧ W.cell? ⟨b1, off1 + k * 8 + 7, none⟩ = some (.slice f5 fl5 fc5) := fun W hW => by
          have hw := bl_step hB.out hW
          have e : ∀ i, W.cell? ⟨b1, i, none⟩ = w.cell? ⟨b1, i, none⟩ := fun i => hw.cell (p := ⟨b1, i, none⟩) lt1
          exact ⟨(e _).trans c0, (e _).trans c1, (e _).trans c2, (e _).trans c3, (e _).trans c4, (e _).trans c5, (e _).trans c6, (e _).trans c7⟩
        have V2 : ∀ W, Below wr.heap.size wr W → W.cell? ⟨b2, off2 + k * 8, none⟩ = some (.int .i64 k6) ∧ W.cell? ⟨b2, off2 + k * 8 + 1, none⟩ = some (.int .i64 lo6) ∧ W.cell? ⟨b2, off2 + k * 8 + 2, none⟩ = some (.int .i64 hi6) ∧ W.cell? ⟨b2, off2 + k * 8 + 3, none⟩ = some (.string s6) ∧ W.cell? ⟨b2, off2 + k * 8 + 4, none⟩ = some (.bool y6) ∧ W.cell? ⟨b2, off2 + k * 8 + 5, none⟩ = some (.bool m6) ∧ W.cell? ⟨b2, off2 + k * 8 + 6, none⟩ = some (.bool o6) ∧ W.cell? ⟨b2, off2 + k * 8 + 7, none⟩ = some (.slice f6 fl6 fc6) := fun W hW => by
          have hw := bl_step hB.out hW
          have e : ∀ i, W.cell? ⟨b2, i, none⟩ = w.cell? ⟨b2, i, none⟩ := fun i => hw.cell (p := ⟨b2, i, none⟩) lt2
          exact ⟨(e _).trans d0, (e _).trans d1, (e _).trans d2, (e _).trans d3, (e _).trans d4, (e _).trans d5, (e _).trans d6, (e _).trans d7⟩
        have V1 := Lib.hid V1
        have V2 := Lib.hid V2
        have hcc : cmpT (cmpV n) fs[k] fs2[k] = cmpT (cmpV n) (.mk k5 lo5 hi5 s5 y5 m5 o5 g5) (.mk k6 lo6 hi6 s6 y6 m6 o6 g6) := by rw [hx1, hx2]
        have KC : Hid (∀ W, Below wr.heap.size wr W → Calls Tryz.prog 40 #[tv k5 lo5 hi5 s5 y5 m5 o5 f5 fl5 fc5, tv k6 lo6 hi6 s6 y6 m6 o6 f6 fl6 fc6] W fun e w' => e = .returned (.int .i64 (cmpT (cmpV n) (.mk k5 lo5 hi5 s5 y5 m5 o5 g5) (.mk k6 lo6 hi6 s6 y6 m6 o6 g6))) ∧ Below wr.heap.size wr w') := fun W hW =>
          (HC.out W _ _ _ _ _ _ _ _ _ _ _ _ _ _ _ _ _ _ _ _ _ _ (InF.below (fun _ _ _ _ h => InV.below (bl_step hB.out hW) h) (bl_step hB.out hW) j1) (InF.below (fun _ _ _ _ h => InV.below (bl_step hB.out hW) h) (bl_step hB.out hW) j2)).mono fun _ _ ⟨a, b⟩ => ⟨a, bl_step hW b⟩
        have HCC := Lib.hid hcc
        clear c0 c1 c2 c3 c4 c5 c6 c7 d0 d1 d2 d3 d4 d5 d6 d7 lt1 lt2 j1 j2 hx1 hx2 hcc
        generalize cmpT (cmpV n) (.mk k5 lo5 hi5 s5 y5 m5 o5 g5) (.mk k6 lo6 hi6 s6 y6 m6 o6 g6) = cc at *
        go_upto_region 4 with fail
        have P1 : Hid (∀ W, Below wr.heap.size wr W → W.cell? ⟨w.heap.size, 0, none⟩ = some (.slice (some ⟨b1, off1, none⟩) fs.length fc)) := fun W hW => (HX1.out.later hW).2
        have P2 : Hid (∀ W, Below wr.heap.size wr W → W.cell? ⟨w.heap.size + 1, 0, none⟩ = some (.slice (some ⟨b2, off2, none⟩) fs2.length fc2)) := fun W hW => (HX2.out.later hW).2
        refine region_class (C := fun W => Below wr.heap.size wr W) (by kernel_rfl) (by kernel_rfl) ((Below.refl _ _).drew) ?_
        repeat (first | go_big_quiet_skip | (go_big_quiet_want; go_big_quiet_op; first | go_big_quiet_on | (apply Exists.intro; refine ⟨fun W hW => ?_, ?_⟩; (first | rfl | with_reducible exact (KC.out W hW) | (have q0 := P1.out W hW; go_simp; first | done | rfl | exact ⟨rfl, rfl⟩) | (have q0 := P2.out W hW; go_simp; first | done | rfl | exact ⟨rfl, rfl⟩) | (obtain ⟨q0, q1, q2, q3, q4, q5, q6, q7⟩ := V1.out W hW; go_simp; first | done | rfl | exact ⟨rfl, rfl⟩) | (obtain ⟨q0, q1, q2, q3, q4, q5, q6, q7⟩ := V2.out W hW; go_simp; first | done | rfl | exact ⟨rfl, rfl⟩)); go_big_quiet_on)))
        refine wpQuiet_nil ?_
        intro w9 hW9
        have HB9 := Lib.hid (bl_step hB.out hW9)
        have HY1 := Lib.hid (HX1.out.later hW9)
        have HY2 := Lib.hid (HX2.out.later hW9)
        clear hW9 V1 V2 KC P1 P2 bx1 bx2
        by_cases h0 : cc = 0
        · have HZ : Hid (cmpT (cmpV n) fs[k] fs2[k] = 0) := HCC.out.trans h0
          subst h0
          go_wp2_with fail
          go_roundw
          case rel => exact ⟨k + 1, by omega, by omega, by go_num, Lib.hid (show ∀ j (a : j < fs.length) (b : j < fs2.length), j < k + 1 → cmpT (cmpV n) fs[j] fs2[j] = 0 from fun j a b hj => by
            by_cases e : j = k
            · subst e; exact HZ.out
            · exact hz.out j a b (Nat.lt_of_le_of_ne (Nat.le_of_lt_succ hj) e)), HY1.out, HY2.out, HB9⟩
          case measure => simp [intOf]; omega
        · have hb : (cc != 0) = true := by simpa using h0
          have HN := Lib.hid h0
          clear h0
          go_wp2_with fail
          go_ret
          exact ⟨ret_int (by rw [cmpV, lexL_at (cmpT (cmpV n)) fs fs2 k L1 L2 (fun j a b hj => hz.out j a b hj) (by rw [HCC.out]; exact HN.out), HCC.out]), HB9.out⟩
      · go_wp2_with (go_at_call 68; (with_reducible refine (nums_any _ _ _).mono ?_); rintro e w1 ⟨rfl, h⟩; subst h)
        go_ret
        exact ⟨ret_int (by rw [cmpV]; exact (lexL_end _ _ _ (fun j a b => hz.out j a b (by omega))).symm), hB.out⟩
    · go_wp2_with (go_at_call 68; (with_reducible refine (nums_any _ _ _).mono ?_); rintro e w1 ⟨rfl, h⟩; subst h)
      go_ret
      exact ⟨ret_int (by rw [cmpV]; exact (lexL_end _ _ _ (fun j a b => hz.out j a b (by omega))).symm), hB.out⟩

end Go.Proofs.YtddleeenlpigfaaGreatDoor
/- WALK of the reference's Terms; its Compare, whole. -/
namespace Go.Proofs.YtddleeenlpigfaaGreatDoor
open Go.RowKit
set_option maxRecDepth 100000 in
set_option maxHeartbeats 8000000 in
theorem rterms_any (g : List Tm → List Tm → Int) (I : World → Option Addr → Nat → Nat → List Tm → Prop) (k lo hi : Int) (s : ByteArray) (y m o : Bool) (f : Option Addr) (fl fc : Nat) (fs : List (ByteArray × List Tm)) (k2 lo2 hi2 : Int) (s2 : ByteArray) (y2 m2 o2 : Bool) (f2 : Option Addr) (fl2 fc2 : Nat) (fs2 : List (ByteArray × List Tm)) (w : World)
    (HC : ∀ W, Below w.heap.size w W → ∀ t tl tc V t2 tl2 tc2 V2, I w t tl tc V → I w t2 tl2 tc2 V2 → Calls Tryz.prog 42 #[.agg #[.slice t tl tc], .agg #[.slice t2 tl2 tc2]] W (CmpPost (g V V2) W))
    (h1 : InF (I w) w f fl fs) (h2 : InF (I w) w f2 fl2 fs2) :
    Calls Tryz.prog 40 #[tv k lo hi s y m o f fl fc, tv k2 lo2 hi2 s2 y2 m2 o2 f2 fl2 fc2] w (CmpPost (cmpT g (.mk k lo hi s y m o fs) (.mk k2 lo2 hi2 s2 y2 m2 o2 fs2)) w) := by
  have HC := Lib.hid HC
  obtain ⟨l1, z1, h1⟩ := h1
  obtain ⟨l2, z2, h2⟩ := h2
  have H1 := Lib.hid h1
  have H2 := Lib.hid h2
  subst l1 l2
  clear h1 h2
  have HP := fun W => Lib.hid (plain_any k lo hi s y m o f fs.length fc fs k2 lo2 hi2 s2 y2 m2 o2 f2 fs2.length fc2 fs2 W)
  have HT : Hid (cmpT g (.mk k lo hi s y m o fs) (.mk k2 lo2 hi2 s2 y2 m2 o2 fs2) = two (firstL (plainL (.mk k lo hi s y m o fs) (.mk k2 lo2 hi2 s2 y2 m2 o2 fs2))) (lexL (cmpF g) fs fs2)) := rfl
  rw [HT.out]
  clear HT
  generalize firstL (plainL (.mk k lo hi s y m o fs) (.mk k2 lo2 hi2 s2 y2 m2 o2 fs2)) = p at *
  by_cases hp : p = 0
  · subst hp
    rw [show two 0 (lexL (cmpF g) fs fs2) = lexL (cmpF g) fs fs2 from rfl]
    go_enter Tryz.func40, Tryz.ntmps40
    go_wp2_with (go_at_call 66; (with_reducible refine (HP _).out.mono ?_); rintro e w1 ⟨rfl, hB⟩; obtain ⟨⟨TA, hA⟩, ⟨TB, hB'⟩, hW⟩ := Tc.box2 w k lo hi s y m o f fs.length fc k2 lo2 hi2 s2 y2 m2 o2 f2 fs2.length fc2 hB; have HA := Lib.hid (And.intro hA TA.2.2.2.2.2.2.2); have HB := Lib.hid (And.intro hB' TB.2.2.2.2.2.2.2); have HW := Lib.hid hW; clear hB TA hA TB hB' hW)
    go_loopw [6] (fun i wr => ∃ j : Nat, j ≤ fs.length ∧ j ≤ fs2.length ∧ i = .int .i64 j ∧ Hid (∀ i (a : i < fs.length) (b : i < fs2.length), i < j → cmpF g fs[i] fs2[i] = 0) ∧ B8 wr w.heap.size f fs.length fc ∧ B8 wr (w.heap.size + 1) f2 fs2.length fc2 ∧ Hid (Below w.heap.size w wr)) (fun i _ => fs.length - (intOf i).toNat)
    case atStart => exact ⟨0, Nat.zero_le _, Nat.zero_le _, rfl, fun i _ _ hj => absurd hj (Nat.not_lt_zero _), HA.out, HB.out, HW⟩
    case round =>
      obtain ⟨j, hj1, hj2, rfl, hz, hX1, hX2, hB⟩ := hrel
      rename World => wr
      have bx1 := hX1.2
      have bx2 := hX2.2
      have HX1 := Lib.hid hX1
      have HX2 := Lib.hid hX2
      clear hX1 hX2
      by_cases L1 : j < fs.length
      · have hk1 : (j : Int) < (fs.length : Int) := by omega
        have hk0 : (0 : Int) ≤ (j : Int) := by omega
        by_cases L2 : j < fs2.length
        · have hk2 : (j : Int) < (fs2.length : Int) := by omega
          obtain ⟨b1, off1, tl1, tc1, t1, rfl, lt1, c10, c11, i1⟩ := H1.out j L1
          obtain ⟨b2, off2, tl2, tc2, t2, rfl, lt2, c20, c21, i2⟩ := H2.out j L2
          have V1 : Hid (∀ W, Below wr.heap.size wr W → W.cell? ⟨b1, off1 + j * 2, none⟩ = some (.string fs[j].1) ∧ W.cell? ⟨b1, off1 + j * 2 + 1, none⟩ = some (.slice t1 tl1 tc1)) := fun W hW => by
            have hw := bl_step hB.out hW
            exact ⟨(hw.cell (p := ⟨b1, off1 + j * 2, none⟩) lt1).trans c10, (hw.cell (p := ⟨b1, off1 + j * 2 + 1, none⟩) lt1).trans c11⟩
          have V2 : Hid (∀ W, Below wr.heap.size wr W → W.cell? ⟨b2, off2 + j * 2, none⟩ = some (.string fs2[j].1) ∧ W.cell? ⟨b2, off2 + j * 2 + 1, none⟩ = some (.slice t2 tl2 tc2)) := fun W hW => by
            have hw := bl_step hB.out hW
            exact ⟨(hw.cell (p := ⟨b2, off2 + j * 2, none⟩) lt2).trans c20, (hw.cell (p := ⟨b2, off2 + j * 2 + 1, none⟩) lt2).trans c21⟩
          have KC : Hid (∀ W, Below wr.heap.size wr W → Calls Tryz.prog 42 #[.agg #[.slice t1 tl1 tc1], .agg #[.slice t2 tl2 tc2]] W fun e w' => e = .returned (.int .i64 (g fs[j].2 fs2[j].2)) ∧ Below wr.heap.size wr w') := fun W hW =>
            (HC.out W (bl_step hB.out hW) _ _ _ _ _ _ _ _ i1 i2).mono fun _ _ ⟨a, b⟩ => ⟨a, bl_step hW b⟩
          have KS : Hid (∀ W, Below wr.heap.size wr W → Calls Tryz.prog 67 #[.string fs[j].1, .string fs2[j].1] W fun e w' => e = .returned (.int .i64 (cmpS fs[j].1 fs2[j].1)) ∧ Below wr.heap.size wr w') := fun W hW =>
            (texts_any _ _ W).mono fun _ _ ⟨a, b⟩ => ⟨a, by rw [b]; exact hW⟩
          have P1 : Hid (∀ W, Below wr.heap.size wr W → W.cell? ⟨w.heap.size, 7, none⟩ = some (.slice (some ⟨b1, off1, none⟩) fs.length fc)) := fun W hW => (HX1.out.later hW).2
          have P2 : Hid (∀ W, Below wr.heap.size wr W → W.cell? ⟨w.heap.size + 1, 7, none⟩ = some (.slice (some ⟨b2, off2, none⟩) fs2.length fc2)) := fun W hW => (HX2.out.later hW).2
          have HF : Hid (cmpF g fs[j] fs2[j] = two (cmpS fs[j].1 fs2[j].1) (g fs[j].2 fs2[j].2)) := rfl
          clear c10 c11 c20 c21 lt1 lt2 i1 i2
          generalize hn1 : fs[j].1 = nm1 at *
          generalize hn2 : fs2[j].1 = nm2 at *
          generalize g fs[j].2 fs2[j].2 = rv at *
          generalize cmpS nm1 nm2 = c at *
          clear hn1 hn2
          go_upto_region 7 with fail
          refine region_class (C := fun W => Below wr.heap.size wr W) (by kernel_rfl) (by kernel_rfl) ((Below.refl _ _).drew) ?_
          repeat (first | go_big_quiet_skip | (go_big_quiet_want; go_big_quiet_op; first | go_big_quiet_on | (apply Exists.intro; refine ⟨fun W hW => ?_, ?_⟩; (first | rfl | with_reducible exact (KS.out W hW) | (have q0 := P1.out W hW; go_simp; first | done | rfl | exact ⟨rfl, rfl⟩) | (have q0 := P2.out W hW; go_simp; first | done | rfl | exact ⟨rfl, rfl⟩) | (obtain ⟨q0, q1⟩ := V1.out W hW; go_simp; first | done | rfl | exact ⟨rfl, rfl⟩) | (obtain ⟨q0, q1⟩ := V2.out W hW; go_simp; first | done | rfl | exact ⟨rfl, rfl⟩)); go_big_quiet_on)))
          refine wpQuiet_nil ?_
          intro w9 hW9
          have KW := Lib.hid hW9
          have bx3 := P1.out _ hW9
          have bx4 := P2.out _ hW9
          clear hW9 bx1 bx2
          by_cases h0 : c = 0
          · have HR : Hid (cmpF g fs[j] fs2[j] = rv) := HF.out.trans (by rw [h0]; rfl)
            subst h0
            clear HF
            go_upto_region 9 with fail
            refine region_class (C := fun W => Below wr.heap.size wr W) (by kernel_rfl) (by kernel_rfl) (KW.out.drew) ?_
            repeat (first | go_big_quiet_skip | (go_big_quiet_want; go_big_quiet_op; first | go_big_quiet_on | (apply Exists.intro; refine ⟨fun W hW => ?_, ?_⟩; (first | rfl | with_reducible exact (KC.out W hW) | (have q0 := P1.out W hW; go_simp; first | done | rfl | exact ⟨rfl, rfl⟩) | (have q0 := P2.out W hW; go_simp; first | done | rfl | exact ⟨rfl, rfl⟩) | (obtain ⟨q0, q1⟩ := V1.out W hW; go_simp; first | done | rfl | exact ⟨rfl, rfl⟩) | (obtain ⟨q0, q1⟩ := V2.out W hW; go_simp; first | done | rfl | exact ⟨rfl, rfl⟩)); go_big_quiet_on)))
            refine wpQuiet_nil ?_
            intro w10 hW10
            have HB9 := Lib.hid (bl_step hB.out hW10)
            have HY1 := Lib.hid (HX1.out.later hW10)
            have HY2 := Lib.hid (HX2.out.later hW10)
            clear hW10 V1 V2 KC KS P1 P2 bx3 bx4
            by_cases hr0 : rv = 0
            · have HZ : Hid (cmpF g fs[j] fs2[j] = 0) := HR.out.trans hr0
              subst hr0
              go_wp2_with fail
              go_roundw
              case rel => exact ⟨j + 1, by omega, by omega, by go_num, Lib.hid (show ∀ i (a : i < fs.length) (b : i < fs2.length), i < j + 1 → cmpF g fs[i] fs2[i] = 0 from fun i a b hj => by
                by_cases e : i = j
                · subst e; exact HZ.out
                · exact hz.out i a b (Nat.lt_of_le_of_ne (Nat.le_of_lt_succ hj) e)), HY1.out, HY2.out, HB9⟩
              case measure => simp [intOf]; omega
            · have hb : (rv != 0) = true := by simpa using hr0
              have HN := Lib.hid hr0
              clear hr0
              go_wp2_with fail
              go_ret
              exact ⟨ret_int (by rw [← HR.out]; exact (lexL_at (cmpF g) fs fs2 j L1 L2 (fun i a b hj => hz.out i a b hj) (by rw [HR.out]; exact HN.out)).symm), HB9.out⟩
          · have hb : (c == 0) = false := by simpa using h0
            have hb2 : (c != 0) = true := by simpa using h0
            have HR : Hid (cmpF g fs[j] fs2[j] = c) := HF.out.trans (by unfold two; rw [if_pos h0])
            have HN := Lib.hid h0
            clear h0 HF
            go_wp2_with fail
            go_ret
            exact ⟨ret_int (by rw [← HR.out]; exact (lexL_at (cmpF g) fs fs2 j L1 L2 (fun i a b hj => hz.out i a b hj) (by rw [HR.out]; exact HN.out)).symm), bl_step hB.out KW.out⟩
        · go_wp2_with (go_at_call 68; (with_reducible refine (nums_any _ _ _).mono ?_); rintro e w1 ⟨rfl, h⟩; subst h)
          go_ret
          exact ⟨ret_int (lexL_end _ _ _ (fun i a b => hz.out i a b (by omega))).symm, hB.out⟩
      · go_wp2_with (go_at_call 68; (with_reducible refine (nums_any _ _ _).mono ?_); rintro e w1 ⟨rfl, h⟩; subst h)
        go_ret
        exact ⟨ret_int (lexL_end _ _ _ (fun i a b => hz.out i a b (by omega))).symm, hB.out⟩
  · have hb : (p != 0) = true := by simpa using hp
    have HN := Lib.hid hp
    clear hp
    go_enter Tryz.func40, Tryz.ntmps40
    go_wp2_with (go_at_call 66; (with_reducible refine (HP _).out.mono ?_); rintro e w1 ⟨rfl, hB⟩; have HW := Lib.hid (bl_step (bl_alloc (bl_alloc (Below.refl w.heap.size w))) hB); clear hB)
    go_ret
    exact ⟨ret_int (by unfold two; rw [if_pos HN.out]), HW.out⟩
theorem rterms_in (n : Nat) (ih : ∀ (W : World) t tl tc A t2 tl2 tc2 B, InV W n t tl tc A → InV W n t2 tl2 tc2 B → Calls Tryz.prog 42 #[.agg #[.slice t tl tc], .agg #[.slice t2 tl2 tc2]] W (CmpPost (cmpV n A B) W))
    (W : World) (k lo hi : Int) (s : ByteArray) (y0 m0 o : Bool) (f : Option Addr) (fl fc : Nat) (fs : List (ByteArray × List Tm)) (k2 lo2 hi2 : Int) (s2 : ByteArray) (y2 m2 o2 : Bool) (f2 : Option Addr) (fl2 fc2 : Nat) (fs2 : List (ByteArray × List Tm))
    (h1 : InF (fun t tl tc V => InV W n t tl tc V) W f fl fs) (h2 : InF (fun t tl tc V => InV W n t tl tc V) W f2 fl2 fs2) :
    Calls Tryz.prog 40 #[tv k lo hi s y0 m0 o f fl fc, tv k2 lo2 hi2 s2 y2 m2 o2 f2 fl2 fc2] W (CmpPost (cmpT (cmpV n) (.mk k lo hi s y0 m0 o fs) (.mk k2 lo2 hi2 s2 y2 m2 o2 fs2)) W) :=
  rterms_any (cmpV n) (fun w t tl tc V => InV w n t tl tc V) k lo hi s y0 m0 o f fl fc fs k2 lo2 hi2 s2 y2 m2 o2 f2 fl2 fc2 fs2 W
    (fun W2 hW2 _ _ _ _ _ _ _ _ i1 i2 => ih W2 _ _ _ _ _ _ _ _ (InV.below hW2 i1) (InV.below hW2 i2)) h1 h2
theorem rcompare_in : ∀ (n : Nat) (W : World) t tl tc A t2 tl2 tc2 B, InV W n t tl tc A → InV W n t2 tl2 tc2 B → Calls Tryz.prog 42 #[.agg #[.slice t tl tc], .agg #[.slice t2 tl2 tc2]] W (CmpPost (cmpV n A B) W)
  | 0, _, _, _, _, _, _, _, _, _, h, _ => h.elim
  | n + 1, W, t, tl, tc, A, t2, tl2, tc2, B, h1, h2 =>
    rcompare_step n (fun W3 k lo hi s y0 m0 o f fl fc fs k2 lo2 hi2 s2 y2 m2 o2 f2 fl2 fc2 fs2 i1 i2 => rterms_in n (rcompare_in n) W3 k lo hi s y0 m0 o f fl fc fs k2 lo2 hi2 s2 y2 m2 o2 f2 fl2 fc2 fs2 i1 i2) t tl tc A t2 tl2 tc2 B W h1 h2

end Go.Proofs.YtddleeenlpigfaaGreatDoor
/- WALKS of Same and of the reference's. -/
namespace Go.Proofs.YtddleeenlpigfaaGreatDoor
open Go.RowKit
set_option maxRecDepth 100000 in
set_option maxHeartbeats 2000000 in
theorem same_in (n : Nat) (w : World) (t : Option Addr) (tl tc : Nat) (A : List Tm) (t2 : Option Addr) (tl2 tc2 : Nat) (B : List Tm) (h1 : InV w n t tl tc A) (h2 : InV w n t2 tl2 tc2 B) :
    Calls Tryz.prog 72 #[.agg #[.slice t tl tc], .agg #[.slice t2 tl2 tc2]] w fun e w' => e = .returned (.bool (cmpV n A B == 0)) ∧ Below w.heap.size w w' := by
  have HC := fun (W : World) (hW : Below w.heap.size w W) => Lib.hid (compare_in n W t tl tc A t2 tl2 tc2 B (InV.below hW h1) (InV.below hW h2))
  have HB : Hid (Below w.heap.size w w) := Below.refl _ _
  generalize cmpV n A B = r at *
  clear h1 h2
  go_enter Tryz.func72, Tryz.ntmps72
  go_wp2_with (go_at_call 111; refine (HC _ (bl_alloc (bl_alloc HB.out))).out.mono ?_; rintro e w1 ⟨rfl, hB⟩; have HB1 := Lib.hid hB; clear hB)
  go_ret
  exact ⟨rfl, bl_step (bl_alloc (bl_alloc HB.out)) HB1.out⟩
set_option maxRecDepth 100000 in
set_option maxHeartbeats 2000000 in
theorem rsame_in (n : Nat) (w : World) (t : Option Addr) (tl tc : Nat) (A : List Tm) (t2 : Option Addr) (tl2 tc2 : Nat) (B : List Tm) (h1 : InV w n t tl tc A) (h2 : InV w n t2 tl2 tc2 B) :
    Calls Tryz.prog 17 #[.agg #[.slice t tl tc], .agg #[.slice t2 tl2 tc2]] w fun e w' => e = .returned (.bool (cmpV n A B == 0)) ∧ Below w.heap.size w w' := by
  have HC := fun (W : World) (hW : Below w.heap.size w W) => Lib.hid (rcompare_in n W t tl tc A t2 tl2 tc2 B (InV.below hW h1) (InV.below hW h2))
  have HB : Hid (Below w.heap.size w w) := Below.refl _ _
  generalize cmpV n A B = r at *
  clear h1 h2
  go_enter Tryz.func17, Tryz.ntmps17
  go_wp2_with (go_at_call 42; refine (HC _ (bl_alloc (bl_alloc HB.out))).out.mono ?_; rintro e w1 ⟨rfl, hB⟩; have HB1 := Lib.hid hB; clear hB)
  go_ret
  exact ⟨rfl, bl_step (bl_alloc (bl_alloc HB.out)) HB1.out⟩

end Go.Proofs.YtddleeenlpigfaaGreatDoor
/- WALK of under. -/
namespace Go.Proofs.YtddleeenlpigfaaGreatDoor
open Go.RowKit
/-- The first k are below something. -/
def UpTo (n : Nat) (A B : List Tm) (k : Nat) : Prop := ∀ j (h : j < A.length), j < k → (B.any fun b => undT (undV n) A[j] b) = true
def NotTo (n : Nat) (a : Tm) (B : List Tm) (k : Nat) : Prop := ∀ j (h : j < B.length), j < k → undT (undV n) a B[j] = false
theorem UpTo.end {n : Nat} {A B : List Tm} (h : UpTo n A B A.length) : undV (n + 1) A B = true := by
  unfold undV
  rw [List.all_eq_true]
  intro a ha
  obtain ⟨j, hj, rfl⟩ := List.getElem_of_mem ha
  exact h j hj hj
theorem NotTo.end {n : Nat} {A B : List Tm} {k : Nat} (hk : k < A.length) (h : NotTo n A[k] B B.length) : undV (n + 1) A B = false := by
  unfold undV
  rw [List.all_eq_false]
  refine ⟨A[k], List.getElem_mem hk, ?_⟩
  rw [Bool.not_eq_true, List.any_eq_false]
  intro b hb
  obtain ⟨j, hj, rfl⟩ := List.getElem_of_mem hb
  rw [h j hj hj]; decide
theorem RvN.term {n : Nat} {A : List Tm} (h : RvN (n + 1) A) : ∀ x ∈ A, RtN n x := by
  obtain ⟨l, h⟩ := h
  obtain ⟨l', h⟩ := h.term
  exact fun x hx => ⟨l', h x hx⟩
set_option maxRecDepth 100000 in
set_option maxHeartbeats 8000000 in
theorem under_step (n : Nat) (ih : ∀ (W : World) (t : Option Addr) (tl tc : Nat) (A : List Tm) (t2 : Option Addr) (tl2 tc2 : Nat) (B : List Tm), InV W n t tl tc A → InV W n t2 tl2 tc2 B → RvN n A → RvN n B → Calls Tryz.prog 44 #[.agg #[.slice t tl tc], .agg #[.slice t2 tl2 tc2]] W (LackP (undV n A B) W))
    (w : World) (t : Option Addr) (tl tc : Nat) (A : List Tm) (t2 : Option Addr) (tl2 tc2 : Nat) (B : List Tm) (h1 : InV w (n + 1) t tl tc A) (h2 : InV w (n + 1) t2 tl2 tc2 B) (r1 : RvN (n + 1) A) (r2 : RvN (n + 1) B) :
    Calls Tryz.prog 44 #[.agg #[.slice t tl tc], .agg #[.slice t2 tl2 tc2]] w (LackP (undV (n + 1) A B) w) := by
  have HS := Lib.hid (fun (W : World) (hW : Below w.heap.size w W) => same_in (n + 1) W t tl tc A t2 tl2 tc2 B (InV.below hW h1) (InV.below hW h2))
  by_cases h0 : cmpV (n + 1) A B = 0
  · obtain rfl := cmpV_eq h1.dv h2.dv h0
    obtain ⟨l, r1⟩ := r1
    rw [undV_refl r1]
    rw [h0] at HS
    clear ih h1 h2 r1 r2 h0
    go_enter Tryz.func44, Tryz.ntmps44
    go_wp2_with fail
    go_step3
    go_wp2_with (go_at_call 72; refine (HS.out _ (bl_alloc (bl_alloc (Below.refl _ _)))).mono ?_; rintro e w1 ⟨rfl, hB1⟩; have HB1 := Lib.hid (bl_step (bl_alloc (bl_alloc (Below.refl w.heap.size w))) hB1); clear hB1)
    go_ret
    exact ⟨rfl, HB1.out⟩
  · have h0' : (cmpV (n + 1) A B == 0) = false := by simpa using h0
    rw [h0'] at HS
    have R1 := Lib.hid r1.term
    have R2 := Lib.hid r2.term
    obtain ⟨l1, z1, g1⟩ := h1
    obtain ⟨l2, z2, g2⟩ := h2
    have G1 := Lib.hid g1
    have G2 := Lib.hid g2
    have IH := Lib.hid ih
    subst l1 l2
    clear ih h0 h0' r1 r2 g1 g2
    go_enter Tryz.func44, Tryz.ntmps44
    go_wp2_with fail
    go_step3
    go_wp2_with (go_at_call 72; refine (HS.out _ (bl_alloc (bl_alloc (Below.refl _ _)))).mono ?_; rintro e w1 ⟨rfl, hB1⟩; have HB1 := Lib.hid (bl_step (bl_alloc (bl_alloc (Below.refl w.heap.size w))) hB1); have BX := Lib.hid (Bx.later (w := (w.alloc (.cells #[.slice t A.length tc] 24)).alloc (.cells #[.slice t2 B.length tc2] 24)) (N := w.heap.size) (t := t) (tl := A.length) (tc := tc) ⟨by simp; omega, by simp [go_sem]⟩ hB1); have BY := Lib.hid (Bx.later (w := (w.alloc (.cells #[.slice t A.length tc] 24)).alloc (.cells #[.slice t2 B.length tc2] 24)) (N := w.heap.size + 1) (t := t2) (tl := B.length) (tc := tc2) ⟨by simp, by simp [go_sem]⟩ hB1); have bx := BX.out.2; have by' := BY.out.2; clear hB1)
    go_step3
    go_wp2_with fail
    go_loopw [13] (fun i wr => ∃ k : Nat, k ≤ A.length ∧ i = .int .i64 k ∧ Hid (UpTo n A B k) ∧ Bx wr w.heap.size t A.length tc ∧ Bx wr (w.heap.size + 1) t2 B.length tc2 ∧ Hid (Below w.heap.size w wr)) (fun i _ => A.length - (intOf i).toNat)
    case atStart => exact ⟨0, Nat.zero_le _, rfl, fun j _ hj => absurd hj (Nat.not_lt_zero _), BX.out, BY.out, HB1⟩
    case round =>
      obtain ⟨k, hk, rfl, hU, hX, hY, hB⟩ := hrel
      rename World => wr
      clear bx by'
      have bx := hX.2
      have by' := hY.2
      have HX := Lib.hid hX
      have HY := Lib.hid hY
      clear hX hY
      by_cases hlt : k < A.length
      · have hki : (k : Int) < (A.length : Int) := by omega
        have hk0 : (0 : Int) ≤ (k : Int) := by omega
        go_wp2_with fail
        go_loopw [19] (fun i wi => ∃ j : Nat, j ≤ B.length ∧ i = .int .i64 j ∧ Hid (NotTo n A[k] B j) ∧ Hid (Below wr.heap.size wr wi)) (fun i _ => B.length - (intOf i).toNat)
        case atStart => exact ⟨0, Nat.zero_le _, rfl, fun j _ hj => absurd hj (Nat.not_lt_zero _), Below.refl _ _⟩
        case round =>
          obtain ⟨j, hj, rfl, hN, hBi⟩ := hrel
          rename World => wi
          clear bx by'
          have HXi := Lib.hid (HX.out.later hBi.out)
          have HYi := Lib.hid (HY.out.later hBi.out)
          have HWI := Lib.hid (bl_step hB.out hBi.out)
          by_cases hjl : j < B.length
          · have hji : (j : Int) < (B.length : Int) := by omega
            have hj0 : (0 : Int) ≤ (j : Int) := by omega
            obtain ⟨b1, off1, rfl, i1⟩ := G1.out k hlt
            obtain ⟨b2, off2, rfl, i2⟩ := G2.out j hjl
            have ra := R1.out _ (List.getElem_mem hlt)
            have rb := R2.out _ (List.getElem_mem hjl)
            have HQ : ∃ q, undT (undV n) A[k] B[j] = q := ⟨_, rfl⟩
            obtain ⟨q, hq⟩ := HQ
            have KC : Hid (∀ W, Below wi.heap.size wi W → Calls Tryz.prog 73 #[.pointer (some ⟨b1, off1 + k * 8, none⟩), .pointer (some ⟨b2, off2 + j * 8, none⟩)] W fun e w' => e = .returned (.bool q) ∧ Below wi.heap.size wi w') := fun W hW => by
              have h := below_step n IH.out W b1 (off1 + k * 8) b2 (off2 + j * 8) A[k] B[j] (i1.below (fun _ _ _ _ h => InV.below (bl_step HWI.out hW) h) (bl_step HWI.out hW)) (i2.below (fun _ _ _ _ h => InV.below (bl_step HWI.out hW) h) (bl_step HWI.out hW)) ra rb
              rw [hq] at h
              exact h.mono fun _ _ ⟨a, b⟩ => ⟨a, bl_step hW b⟩
            have P1 : Hid (∀ W, Below wi.heap.size wi W → W.cell? ⟨w.heap.size, 0, none⟩ = some (.slice (some ⟨b1, off1, none⟩) A.length tc)) := fun W hW => (HXi.out.later hW).2
            have P2 : Hid (∀ W, Below wi.heap.size wi W → W.cell? ⟨w.heap.size + 1, 0, none⟩ = some (.slice (some ⟨b2, off2, none⟩) B.length tc2)) := fun W hW => (HYi.out.later hW).2
            have QQ := Lib.hid hq
            clear i1 i2 ra rb hq
            go_upto_region 9 with fail
            refine region_class (C := fun W => Below wi.heap.size wi W) (by kernel_rfl) (by kernel_rfl) ((Below.refl _ _).drew) ?_
            repeat (first | go_big_quiet_skip | (go_big_quiet_want; go_big_quiet_op; first | go_big_quiet_on | (apply Exists.intro; refine ⟨fun W hW => ?_, ?_⟩; (first | rfl | exact (KC.out W hW) | (have q0 := P1.out W hW; go_simp; first | done | rfl | exact ⟨rfl, rfl⟩) | (have q0 := P2.out W hW; go_simp; first | done | rfl | exact ⟨rfl, rfl⟩)); go_big_quiet_on)))
            refine wpQuiet_nil ?_
            intro w9 hW9
            have HX9 := Lib.hid (HXi.out.later hW9)
            have HY9 := Lib.hid (HYi.out.later hW9)
            have HB9 := Lib.hid (bl_step HWI.out hW9)
            have HI9 := Lib.hid (bl_step hBi.out hW9)
            clear hW9 P1 P2 KC
            cases q
            · go_wp2_with fail
              go_roundw
              case rel => exact ⟨j + 1, by omega, by go_num, fun i h hi => (by
                by_cases e : i = j
                · subst e; exact QQ.out
                · exact hN.out i h (by omega)), HI9⟩
              case measure => simp [intOf]; omega
            · go_wp2_with fail
              go_roundw
              case rel => exact ⟨k + 1, by omega, by go_num, fun i h hi => (by
                by_cases e : i = k
                · subst e; rw [List.any_eq_true]; exact ⟨_, List.getElem_mem hjl, QQ.out⟩
                · exact hU.out i h (by omega)), HX9.out, HY9.out, HB9⟩
              case measure => simp [intOf]; omega
          · have ej : j = B.length := by omega
            subst ej
            go_wp2_with fail
            go_ret
            exact ⟨Nm.ret_bool (hN.out.end hlt).symm, HWI.out⟩
      · have ek : k = A.length := by omega
        subst ek
        go_wp2_with fail
        go_ret
        exact ⟨Nm.ret_bool hU.out.end.symm, hB.out⟩
theorem under_in : ∀ (n : Nat) (W : World) (t : Option Addr) (tl tc : Nat) (A : List Tm) (t2 : Option Addr) (tl2 tc2 : Nat) (B : List Tm), InV W n t tl tc A → InV W n t2 tl2 tc2 B → RvN n A → RvN n B → Calls Tryz.prog 44 #[.agg #[.slice t tl tc], .agg #[.slice t2 tl2 tc2]] W (LackP (undV n A B) W)
  | 0, _, _, _, _, _, _, _, _, _, h, _, _, _ => h.elim
  | n + 1, W, t, tl, tc, A, t2, tl2, tc2, B, h1, h2, r1, r2 => under_step n (under_in n) W t tl tc A t2 tl2 tc2 B h1 h2 r1 r2
theorem below_in (n : Nat) (w : World) (b1 off1 b2 off2 : Nat) (x y : Tm) (hx : InTn w n b1 off1 x) (hy : InTn w n b2 off2 y) (rx : RtN n x) (ry : RtN n y) :
    Calls Tryz.prog 73 #[.pointer (some ⟨b1, off1, none⟩), .pointer (some ⟨b2, off2, none⟩)] w (LackP (undT (undV n) x y) w) := below_step n (under_in n) w b1 off1 b2 off2 x y hx hy rx ry
end Go.Proofs.YtddleeenlpigfaaGreatDoor
