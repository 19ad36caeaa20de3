/- WALK of the law RankOrders. -/
import Derived.Test.YtkmbhjcedkojjaaRd
import Derived.Test.YtkmbhjcedkojjaaRf
import Derived.Test.YtkmbhjcedkojjaaRh
import Derived.Test.YtkmbhjcedkojjaaPj
import Derived.Deep.DeepCutAuto
import Derived.Deep.CutBlock
namespace Go.Proofs.Ytkmbhjcedkojjaa
open Go.RowKit
theorem box2c (w : World) (t1 t2 : Option Addr) (tl1 tc1 tl2 tc2 : Nat) {w1 : World} (h : Below ((w.alloc (.cells #[.slice t1 tl1 tc1] 41)).alloc (.cells #[.slice t2 tl2 tc2] 41)).heap.size ((w.alloc (.cells #[.slice t1 tl1 tc1] 41)).alloc (.cells #[.slice t2 tl2 tc2] 41)) w1) :
    Bx w1 w.heap.size t1 tl1 tc1 ∧ Bx w1 (w.heap.size + 1) t2 tl2 tc2 := by
  have hz := h.size
  have e : ((w.alloc (.cells #[.slice t1 tl1 tc1] 41)).alloc (.cells #[.slice t2 tl2 tc2] 41)).heap.size = w.heap.size + 1 + 1 := by simp
  rw [e] at hz
  have g : ∀ b, b < w.heap.size + 1 + 1 → w1.cell? ⟨b, 0, none⟩ = ((w.alloc (.cells #[.slice t1 tl1 tc1] 41)).alloc (.cells #[.slice t2 tl2 tc2] 41)).cell? ⟨b, 0, none⟩ := fun b hb => h.cell (p := ⟨b, 0, none⟩) (by rw [e]; exact hb)
  exact ⟨⟨by omega, (g _ (by omega)).trans (by simp [go_sem])⟩, ⟨by omega, (g _ (by omega)).trans (by simp [go_sem])⟩⟩
set_option maxRecDepth 100000 in
set_option maxHeartbeats 8000000 in
theorem rorders_walk (n : Nat) (f : Option Addr) (fl fc : Nat) (fs : List Tm) (f2 : Option Addr) (fl2 fc2 : Nat) (fs2 : List Tm) (w : World) (h1 : InV w (n + 1) f fl fc fs) (h2 : InV w (n + 1) f2 fl2 fc2 fs2) :
    Calls Try.prog 7 #[.agg #[.slice f fl fc], .agg #[.slice f2 fl2 fc2]] w fun e w' => e = .returned (.bool true) ∧ Below w.heap.size w w' := by
  have HA := fun W => Lib.hid (rawake_any W)
  have F1 : Hid (∀ W, Below w.heap.size w W → Calls Try.prog 29 #[.agg #[.slice f fl fc]] W (FewPost W)) := fun W hW => few_any _ W _ _ _ _ (h1.below hW)
  have F2 : Hid (∀ W, Below w.heap.size w W → Calls Try.prog 29 #[.agg #[.slice f2 fl2 fc2]] W (FewPost W)) := fun W hW => few_any _ W _ _ _ _ (h2.below hW)
  have K33 : Hid (∀ W, Below w.heap.size w W → Calls Try.prog 33 #[.agg #[.slice f fl fc], .agg #[.slice f2 fl2 fc2]] W fun e w' => e = .returned (.int .i64 (cmpV (n + 1) fs fs2)) ∧ Below W.heap.size W w') := fun W hW => compare_in (n + 1) W _ _ _ _ _ _ _ _ (h1.below hW) (h2.below hW)
  have K34 : Hid (∀ W, Below w.heap.size w W → Calls Try.prog 34 #[.agg #[.slice f fl fc], .agg #[.slice f2 fl2 fc2]] W fun e w' => e = .returned (.int .i64 (cmpV (n + 1) fs fs2)) ∧ Below W.heap.size W w') := fun W hW => rcompare_in (n + 1) W _ _ _ _ _ _ _ _ (h1.below hW) (h2.below hW)
  have K35 : Hid (∀ W, Below w.heap.size w W → Calls Try.prog 35 #[.agg #[.slice f fl fc], .agg #[.slice f2 fl2 fc2]] W fun e w' => e = .returned (.bool (cmpV (n + 1) fs fs2 == 0)) ∧ Below W.heap.size W w') := fun W hW => same_in (n + 1) W _ _ _ _ _ _ _ _ (h1.below hW) (h2.below hW)
  have K36 : Hid (∀ W, Below w.heap.size w W → Calls Try.prog 36 #[.agg #[.slice f fl fc], .agg #[.slice f2 fl2 fc2]] W fun e w' => e = .returned (.bool (cmpV (n + 1) fs fs2 == 0)) ∧ Below W.heap.size W w') := fun W hW => rsame_in (n + 1) W _ _ _ _ _ _ _ _ (h1.below hW) (h2.below hW)
  have K37 : Hid (∀ W, Below w.heap.size w W → Calls Try.prog 37 #[.agg #[.slice f fl fc]] W fun e w' => e = .returned (.int .i64 (wtV (n + 1) fs)) ∧ Below W.heap.size W w') := fun W hW => weight_in (n + 1) W _ _ _ _ (h1.below hW)
  have K38 : Hid (∀ W, Below w.heap.size w W → Calls Try.prog 38 #[.agg #[.slice f fl fc]] W fun e w' => e = .returned (.int .i64 (wtV (n + 1) fs)) ∧ Below W.heap.size W w') := fun W hW => rweight_in (n + 1) W _ _ _ _ (h1.below hW)
  have K39 : Hid (∀ W, Below w.heap.size w W → Calls Try.prog 39 #[.agg #[.slice f fl fc]] W fun e w' => e = .returned (.int .i64 (depV (n + 1) fs)) ∧ Below W.heap.size W w') := fun W hW => depth_in (n + 1) W _ _ _ _ (h1.below hW)
  have K40 : Hid (∀ W, Below w.heap.size w W → Calls Try.prog 40 #[.agg #[.slice f fl fc]] W fun e w' => e = .returned (.int .i64 (depV (n + 1) fs)) ∧ Below W.heap.size W w') := fun W hW => rdepth_in (n + 1) W _ _ _ _ (h1.below hW)
  generalize cmpV (n + 1) fs fs2 = cv at *
  generalize wtV (n + 1) fs = wv at *
  generalize depV (n + 1) fs = dv at *
  have HW0 := Lib.hid (show Below w.heap.size w ((w.alloc (.cells #[.slice f fl fc] 41)).alloc (.cells #[.slice f2 fl2 fc2] 41)) from bl_alloc (bl_alloc (Below.refl _ _)))
  obtain ⟨l1, z1, h1⟩ := h1
  obtain ⟨l2, z2, h2⟩ := h2
  have H1 := Lib.hid h1
  have H2 := Lib.hid h2
  subst l1 l2
  clear h1 h2
  go_enter Try.func7, Try.ntmps7
  go_wp2_with (first
    | (go_at_call 29; (first | refine (F1.out _ (bl_step HW0.out HB.out)).mono ?_ | refine (F1.out _ HW0.out).mono ?_); rintro e w1 ⟨b, rfl, hB⟩; (try clear hc hf); (first | (replace HB := Lib.hid (bl_step HB.out hB)) | (have HB := Lib.hid hB)); obtain ⟨hc, hf⟩ := bcell HB.out; clear hB; have hz := HB.out.size; simp at hz; have hz1 : w.heap.size + 1 < w1.heap.size := (by omega); have hz0 : w.heap.size < w1.heap.size := (by omega); clear hz)
    | (go_at_call 29; (first | refine (F2.out _ (bl_step HW0.out HB.out)).mono ?_ | refine (F2.out _ HW0.out).mono ?_); rintro e w1 ⟨b, rfl, hB⟩; (try clear hc hf); (first | (replace HB := Lib.hid (bl_step HB.out hB)) | (have HB := Lib.hid hB)); obtain ⟨hc, hf⟩ := bcell HB.out; clear hB; have hz := HB.out.size; simp at hz; have hz1 : w.heap.size + 1 < w1.heap.size := (by omega); have hz0 : w.heap.size < w1.heap.size := (by omega); clear hz)
    | (go_at_call 30; (with_reducible refine (HA _).out.mono ?_); rintro e w4 ⟨rfl, hB⟩; have HB4 := Lib.hid hB; clear hB))
  all_goals first
    | (go_ret; exact ⟨rfl, bl_step (bl_step HW0.out HB.out) HB4.out⟩)
    | skip
  obtain ⟨X1, X2⟩ := box2c w f f2 fs.length fc fs2.length fc2 HB.out
  have HX1 := Lib.hid X1
  have HX2 := Lib.hid X2
  have HC := Lib.hid (bl_step HW0.out HB.out)
  clear X1 X2 hc hf hz0 hz1 HB F1 F2
  go_loopw [5] (fun i wr => ∃ k : Nat, k ≤ fs.length ∧ k ≤ fs2.length ∧ i = .int .i64 k ∧ Bx wr w.heap.size f fs.length fc ∧ Bx wr (w.heap.size + 1) f2 fs2.length fc2 ∧ Hid (Below w.heap.size w wr)) (fun i _ => fs.length - (intOf i).toNat)
  case atStart => exact ⟨0, Nat.zero_le _, Nat.zero_le _, rfl, HX1.out, HX2.out, HC⟩
  case round =>
    obtain ⟨k, hk, hk', rfl, hX1, hX2, hB⟩ := hrel
    rename World => wr
    have bx1 := hX1.2
    have bx2 := hX2.2
    have HX1 := Lib.hid hX1
    have HX2 := Lib.hid hX2
    clear hX1 hX2
    by_cases L12 : k < fs.length ∧ k < fs2.length
    · obtain ⟨L1, L2⟩ := L12
      have hk1 : (k : Int) < (fs.length : Int) := by omega
      have hk0 : (0 : Int) ≤ (k : Int) := by omega
      have hk2 : (k : Int) < (fs2.length : Int) := by omega
      obtain ⟨b1, off1, rfl, i1⟩ := H1.out k L1
      obtain ⟨b2, off2, rfl, i2⟩ := H2.out k L2
      generalize fs[k] = u1 at i1
      generalize fs2[k] = u2 at i2
      obtain ⟨k5, lo5, hi5, s5, y5, m5, o5, g5⟩ := u1
      obtain ⟨k6, lo6, hi6, s6, y6, m6, o6, g6⟩ := u2
      obtain ⟨lt1, f5, fl5, fc5, c0, c1, c2, c3, c4, c5, c6, c7, j1⟩ := i1
      obtain ⟨lt2, f6, fl6, fc6, d0, d1, d2, d3, d4, d5, d6, d7, j2⟩ := i2
      have V1 : ∀ W, Below wr.heap.size wr W → W.cell? ⟨b1, off1 + k * 8, none⟩ = some (.int .i64 k5) ∧ W.cell? ⟨b1, off1 + k * 8 + 1, none⟩ = some (.int .i64 lo5) ∧ W.cell? ⟨b1, off1 + k * 8 + 2, none⟩ = some (.int .i64 hi5) ∧ W.cell? ⟨b1, off1 + k * 8 + 3, none⟩ = some (.string s5) ∧ W.cell? ⟨b1, off1 + k * 8 + 4, none⟩ = some (.bool y5) ∧ W.cell? ⟨b1, off1 + k * 8 + 5, none⟩ = some (.bool m5) ∧ W.cell? ⟨b1, off1 + k * 8 + 6, none⟩ = some (.bool o5) ∧ W.cell? ⟨b1, off1 + k * 8 + 7, none⟩ = some (.slice f5 fl5 fc5) := fun W hW => by
        have hw := bl_step hB.out hW
        have e : ∀ i, W.cell? ⟨b1, i, none⟩ = w.cell? ⟨b1, i, none⟩ := fun i => hw.cell (p := ⟨b1, i, none⟩) lt1
        exact ⟨(e _).trans c0, (e _).trans c1, (e _).trans c2, (e _).trans c3, (e _).trans c4, (e _).trans c5, (e _).trans c6, (e _).trans c7⟩
      have V2 : ∀ W, Below wr.heap.size wr W → W.cell? ⟨b2, off2 + k * 8, none⟩ = some (.int .i64 k6) ∧ W.cell? ⟨b2, off2 + k * 8 + 1, none⟩ = some (.int .i64 lo6) ∧ W.cell? ⟨b2, off2 + k * 8 + 2, none⟩ = some (.int .i64 hi6) ∧ W.cell? ⟨b2, off2 + k * 8 + 3, none⟩ = some (.string s6) ∧ W.cell? ⟨b2, off2 + k * 8 + 4, none⟩ = some (.bool y6) ∧ W.cell? ⟨b2, off2 + k * 8 + 5, none⟩ = some (.bool m6) ∧ W.cell? ⟨b2, off2 + k * 8 + 6, none⟩ = some (.bool o6) ∧ W.cell? ⟨b2, off2 + k * 8 + 7, none⟩ = some (.slice f6 fl6 fc6) := fun W hW => by
        have hw := bl_step hB.out hW
        have e : ∀ i, W.cell? ⟨b2, i, none⟩ = w.cell? ⟨b2, i, none⟩ := fun i => hw.cell (p := ⟨b2, i, none⟩) lt2
        exact ⟨(e _).trans d0, (e _).trans d1, (e _).trans d2, (e _).trans d3, (e _).trans d4, (e _).trans d5, (e _).trans d6, (e _).trans d7⟩
      have V1 := Lib.hid V1
      have V2 := Lib.hid V2
      have KT : Hid (∀ W, Below wr.heap.size wr W → Calls Try.prog 31 #[tv k5 lo5 hi5 s5 y5 m5 o5 f5 fl5 fc5, tv k6 lo6 hi6 s6 y6 m6 o6 f6 fl6 fc6] W fun e w' => e = .returned (.int .i64 (cmpT (cmpV n) (.mk k5 lo5 hi5 s5 y5 m5 o5 g5) (.mk k6 lo6 hi6 s6 y6 m6 o6 g6))) ∧ Below wr.heap.size wr w') := fun W hW =>
        (terms_in n (compare_in n) W _ _ _ _ _ _ _ _ _ _ _ _ _ _ _ _ _ _ _ _ _ _ (InF.below (fun _ _ _ _ h => InV.below (bl_step hB.out hW) h) (bl_step hB.out hW) j1) (InF.below (fun _ _ _ _ h => InV.below (bl_step hB.out hW) h) (bl_step hB.out hW) j2)).mono fun _ _ ⟨a, b⟩ => ⟨a, bl_step hW b⟩
      have KR : Hid (∀ W, Below wr.heap.size wr W → Calls Try.prog 32 #[tv k5 lo5 hi5 s5 y5 m5 o5 f5 fl5 fc5, tv k6 lo6 hi6 s6 y6 m6 o6 f6 fl6 fc6] W fun e w' => e = .returned (.int .i64 (cmpT (cmpV n) (.mk k5 lo5 hi5 s5 y5 m5 o5 g5) (.mk k6 lo6 hi6 s6 y6 m6 o6 g6))) ∧ Below wr.heap.size wr w') := fun W hW =>
        (rterms_in n (rcompare_in n) W _ _ _ _ _ _ _ _ _ _ _ _ _ _ _ _ _ _ _ _ _ _ (InF.below (fun _ _ _ _ h => InV.below (bl_step hB.out hW) h) (bl_step hB.out hW) j1) (InF.below (fun _ _ _ _ h => InV.below (bl_step hB.out hW) h) (bl_step hB.out hW) j2)).mono fun _ _ ⟨a, b⟩ => ⟨a, bl_step hW b⟩
      clear c0 c1 c2 c3 c4 c5 c6 c7 d0 d1 d2 d3 d4 d5 d6 d7 lt1 lt2 j1 j2
      generalize cmpT (cmpV n) (.mk k5 lo5 hi5 s5 y5 m5 o5 g5) (.mk k6 lo6 hi6 s6 y6 m6 o6 g6) = cc at *
      go_upto_region 6 with fail
      have P1 : Hid (∀ W, Below wr.heap.size wr W → W.cell? ⟨w.heap.size, 0, none⟩ = some (.slice (some ⟨b1, off1, none⟩) fs.length fc)) := fun W hW => (HX1.out.later hW).2
      have P2 : Hid (∀ W, Below wr.heap.size wr W → W.cell? ⟨w.heap.size + 1, 0, none⟩ = some (.slice (some ⟨b2, off2, none⟩) fs2.length fc2)) := fun W hW => (HX2.out.later hW).2
      refine region_class (C := fun W => Below wr.heap.size wr W) (by kernel_rfl) (by kernel_rfl) ((Below.refl _ _).drew) ?_
      repeat (first | go_big_quiet_skip | (go_big_quiet_want; go_big_quiet_op; first | go_big_quiet_on | (apply Exists.intro; refine ⟨fun W hW => ?_, ?_⟩; (first | rfl | with_reducible exact (KT.out W hW) | with_reducible exact (KR.out W hW) | (have q0 := P1.out W hW; go_simp; first | done | rfl | exact ⟨rfl, rfl⟩) | (have q0 := P2.out W hW; go_simp; first | done | rfl | exact ⟨rfl, rfl⟩) | (obtain ⟨q0, q1, q2, q3, q4, q5, q6, q7⟩ := V1.out W hW; go_simp; first | done | rfl | exact ⟨rfl, rfl⟩) | (obtain ⟨q0, q1, q2, q3, q4, q5, q6, q7⟩ := V2.out W hW; go_simp; first | done | rfl | exact ⟨rfl, rfl⟩)); go_big_quiet_on)))
      refine wpQuiet_nil ?_
      intro w9 hW9
      have HB9 := Lib.hid (bl_step hB.out hW9)
      have HY1 := Lib.hid (HX1.out.later hW9)
      have HY2 := Lib.hid (HX2.out.later hW9)
      clear hW9 V1 V2 KT KR P1 P2 bx1 bx2
      go_wp2_with fail
      go_roundw
      case rel => exact ⟨k + 1, by omega, by omega, by go_num, HY1.out, HY2.out, HB9⟩
      case measure => simp [intOf]; omega
    · have hcase : fs.length ≤ k ∨ k < fs.length ∧ fs2.length ≤ k := by omega
      clear L12
      have up : ∀ {f : FuncId} {args : Array Value} {v : Value}, Hid (∀ W, Below w.heap.size w W → Calls Try.prog f args W fun e w' => e = .returned v ∧ Below W.heap.size W w') → Hid (∀ W, Below wr.heap.size wr W → Calls Try.prog f args W fun e w' => e = .returned v ∧ Below wr.heap.size wr w') :=
        fun h W hW => (h.out W (bl_step hB.out hW)).mono fun _ _ ⟨a, b⟩ => ⟨a, bl_step hW b⟩
      have L33 := up K33
      have L34 := up K34
      have L35 := up K35
      have L36 := up K36
      have L37 := up K37
      have L38 := up K38
      have L39 := up K39
      have L40 := up K40
      have LA := inC (X := wr) HA
      have P1 : Hid (∀ W, Below wr.heap.size wr W → W.cell? ⟨w.heap.size, 0, none⟩ = some (.slice f fs.length fc)) := fun W hW => (HX1.out.later hW).2
      have P2 : Hid (∀ W, Below wr.heap.size wr W → W.cell? ⟨w.heap.size + 1, 0, none⟩ = some (.slice f2 fs2.length fc2)) := fun W hW => (HX2.out.later hW).2
      clear up K33 K34 K35 K36 K37 K38 K39 K40
      rcases hcase with hc1 | ⟨hc1, hc2⟩
      all_goals
        go_upto_region 8 with fail
        refine region_class (C := fun W => Below wr.heap.size wr W) (by kernel_rfl) (by kernel_rfl) ((Below.refl _ _).drew) ?_
        repeat (first | go_big_quiet_skip | (go_big_quiet_want; go_big_quiet_op; first | go_big_quiet_on | (apply Exists.intro; refine ⟨fun W hW => ?_, ?_⟩; (first | rfl | with_reducible exact (LA.out W hW) | with_reducible exact (L33.out W hW) | with_reducible exact (L34.out W hW) | with_reducible exact (L35.out W hW) | with_reducible exact (L36.out W hW) | with_reducible exact (L37.out W hW) | with_reducible exact (L38.out W hW) | with_reducible exact (L39.out W hW) | with_reducible exact (L40.out W hW) | (have q0 := P1.out W hW; go_simp; first | done | rfl | exact ⟨rfl, rfl⟩) | (have q0 := P2.out W hW; go_simp; first | done | rfl | exact ⟨rfl, rfl⟩)); go_big_quiet_on)))
        refine wpQuiet_nil ?_
        intro w9 hW9
        have HB9 := Lib.hid (bl_step hB.out hW9)
        clear hW9
        go_wp2_with fail
        go_ret
        exact ⟨by simp, HB9.out⟩

end Go.Proofs.Ytkmbhjcedkojjaa
