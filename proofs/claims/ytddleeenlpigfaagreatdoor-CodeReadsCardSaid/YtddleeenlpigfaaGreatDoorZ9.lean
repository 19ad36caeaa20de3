/- Lo, Ln -/
import Derived.Test.YtddleeenlpigfaaGreatDoorZ8
import Derived.Test.YtddleeenlpigfaaGreatDoorZ7
import Derived.Test.YtddleeenlpigfaaGreatDoorZ4
/- WALK of the reference's get at no level. -/
namespace Go.Proofs.YtddleeenlpigfaaGreatDoor.Ec
open Go.RowKit
set_option maxRecDepth 100000 in
set_option maxHeartbeats 16000000 in
theorem get_zero : GetH 0 := by
  intro w s p e hp hs
  unfold Vn.refR
  obtain ⟨n, p1, e1, hc1, hn5, st1, wn1⟩ := rmost_call (e := e) 512 (by decide) hp hs
  unfold RSub Vn.refR at hc1
  have HC1 := Lib.hid hc1; have ST1 := Lib.hid st1
  clear hc1 st1 wn1
  go_enter Tryz.func62, Tryz.ntmps62
  go_upto_region 3 with fail
  obtain ⟨W, hW⟩ : ∃ W, (((w.alloc (bxR s p e)).alloc (bxR ⟨#[]⟩ 0 0)).alloc bxV).alloc bxV = W := ⟨_, rfl⟩
  have hsW : W.heap.size = w.heap.size + 4 := by rw [← hW]; simp
  have HBW := Lib.hid (show Below w.heap.size w W by rw [← hW]; exact bl_alloc (bl_alloc (bl_alloc (bl_alloc (Below.refl _ _)))))
  obtain ⟨N, hN⟩ : ∃ N, w.heap.size = N := ⟨_, rfl⟩
  have HRW := Lib.hid (show RB W N s p e by rw [← hW, ← hN]; exact (four_new w _ _ _ _).1)
  have HVW := Lib.hid (show BxS W (N + 3) (.slice none 0 0) by rw [← hW, ← hN]; exact (four_new w _ _ _ _).2.2.2)
  have HAW := Lib.hid (show RB W (N + 1) ⟨#[]⟩ 0 0 by rw [← hW, ← hN]; exact (four_new w _ _ _ _).2.1)
  have HDW := Lib.hid (show BxS W (N + 2) (.slice none 0 0) by rw [← hW, ← hN]; exact (four_new w _ _ _ _).2.2.1)
  rw [hN] at hsW HBW ⊢
  rw [hW]
  clear hW
  obtain ⟨c0, c1, c2⟩ := HRW.out.cells
  go_wp2_with fail
  go_at_call 105; refine (HC1.out _).mono ?_; rintro en w1 ⟨rfl, hB1⟩
  have HR1 := Lib.hid (HRW.out.below hB1)
  have HV1 := Lib.hid (HVW.out.below hB1)
  have HA1 := Lib.hid (HAW.out.below hB1)
  have HD1 := Lib.hid (HDW.out.below hB1)
  have HB1 := Lib.hid (HBW.out.trans (hB1.mono (by omega)))
  have hs1 : N + 4 ≤ w1.heap.size := by have := hB1.size; omega
  clear hB1 HC1 HRW HVW HAW HDW HBW c0 c1 c2 hsW
  obtain ⟨c0, c1, c2⟩ := HR1.out.cells
  have cf := HR1.out.fz
  go_upto_region 4 with fail
  obtain ⟨X, hX⟩ : ∃ X, putR w1 N s p1 e1 = X := ⟨_, rfl⟩
  have hsX : X.heap.size = w1.heap.size := by rw [← hX, putR_size]
  have HRX := Lib.hid (show RB X N s p1 e1 by rw [← hX]; exact HR1.out.put _ _)
  have HVX := Lib.hid (show BxS X (N + 3) (.slice none 0 0) by rw [← hX]; exact (putR_block _ _ _ _ _ _ (by omega)).trans HV1.out)
  have HAX := Lib.hid (show RB X (N + 1) ⟨#[]⟩ 0 0 by rw [← hX]; exact (putR_block _ _ _ _ _ _ (by omega)).trans HA1.out)
  have HDX := Lib.hid (show BxS X (N + 2) (.slice none 0 0) by rw [← hX]; exact (putR_block _ _ _ _ _ _ (by omega)).trans HD1.out)
  have HBX := Lib.hid (show Below N w X by rw [← hX]; exact kp2_below (R := N) HB1.out (putR_kp2 _ _ _ _ _ _) (by omega) (Nat.le_refl _) (Nat.le_refl _))
  unfold putR at hX
  rw [hX]
  clear hX HR1 HV1 HA1 HD1 HB1 c0 c1 c2 cf
  obtain ⟨c0, c1, c2⟩ := HRX.out.cells
  have cf := HRX.out.fz
  have key : ∃ (wr : World) (e' : Nat), e' ≠ 0 ∧ RB wr N s p1 e' ∧ Kp2 N (N + 3) X wr ∧ ((e1 = 0 ∧ wr = X.setCell ⟨N, 2, none⟩ (.int .i64 2) ∧ e' = 2) ∨ (e1 ≠ 0 ∧ wr = X ∧ e' = e1)) := by
    by_cases h1 : e1 = 0
    · subst h1
      exact ⟨_, 2, by decide, (show RB (X.setCell ⟨N, 2, none⟩ (.int .i64 2)) N s p1 2 from by have := heap_set (i := 2) (v := .int .i64 2) HRX.out; unfold RB; rw [this]; simp), (Kp2.refl _ _ _).set (.inr (.inl rfl)), .inl ⟨rfl, rfl, rfl⟩⟩
    · exact ⟨X, e1, h1, HRX.out, Kp2.refl _ _ _, .inr ⟨h1, rfl, rfl⟩⟩
  obtain ⟨wr, e', he', hrb, hkp, hcs⟩ := key
  have HRB := Lib.hid hrb
  have HKP := Lib.hid hkp
  have HA := Lib.hid (HAX.out.kp2 hkp (by omega) (by omega))
  have HD := Lib.hid (HDX.out.kp2 hkp (by omega) (by omega))
  have HV := Lib.hid (show BxS wr (N + 3) (.slice none 0 0) by rcases hcs with ⟨-, h, -⟩ | ⟨-, h, -⟩ <;> (rw [h]; first | (with_reducible exact HVX.out) | exact HVX.out.other (by omega)))
  have heb : ((e' : Int) == 0) = false := by rw [beq_eq_false_iff_ne]; omega
  obtain ⟨k0, k1, k2⟩ := hrb.cells
  have v0 := HV.out.cell
  obtain ⟨a0, a1, a2⟩ := HA.out.cells
  have af := HA.out.fz
  have d0 := HD.out.cell
  have df := HD.out.fz
  clear hrb hkp HVX HAX HDX
  have hnn : (0 : Int) < (n : Int) ∨ ¬ (0 : Int) < (n : Int) := by omega
  rcases hnn with hnn | hnn
  · rcases hcs with ⟨rfl, hw, hee⟩ | ⟨h1, rfl, rfl⟩
    · go_upto_region 6 with fail
      rw [← hw]
      clear hw hee
      clear c0 c1 c2 cf HRX
      go_upto_region 7 with fail
      refine wp_loop_rounds 1 ?_
      rw [rounds_succ]
      go_upto_region 34 with fail
      go_region
      obtain ⟨Z, hZ⟩ : ∃ Z, ((putR wr (N + 1) s p1 e').setCell ⟨N + 1 + 1, 0, none⟩ (.slice none 0 0)).drew = Z := ⟨_, rfl⟩
      have HZA := Lib.hid (show RB Z (N + 1) s p1 e' by rw [← hZ]; exact RB.drew (RB.other (HA.out.putS _ _ _) (by omega)))
      have HZD := Lib.hid (show BxS Z (N + 1 + 1) (.slice none 0 0) by rw [← hZ]; refine BxS.drew ?_; exact BxS.set (show BxS (putR wr (N + 1) s p1 e') (N + 1 + 1) (.slice none 0 0) from (putR_block _ _ _ _ _ _ (by omega)).trans HD.out) _)
      have HZB := Lib.hid (show Below w.heap.size w Z by
        rw [← hZ]
        have h0 : Below w.heap.size w wr := by rw [hN]; exact kp2_below HBX.out HKP.out (by omega) (Nat.le_refl _) (by omega)
        unfold putR
        refine Below.drew (bl_set (bl_set (bl_set (bl_set h0 ?_) ?_) ?_) ?_) <;> (dsimp only; omega))
      unfold putR at hZ
      rw [hZ]
      clear hZ HA HD a0 a1 a2 af d0 df v0 k0 k1 k2
      obtain ⟨a0, a1, a2⟩ := HZA.out.cells
      have d0 := HZD.out.cell
      go_wp2_with fail
      refine bodyPost_ret (v := .tuple #[.agg #[.string s, .int .i64 (p1 : Int), .int .i64 (e' : Int)], .agg #[.slice none 0 0]]) (by simp [results, Tryz.results62, go_sem, a0, a1, a2, d0]) rfl ?_
      exact ⟨none, 0, 0, [], p1, e', rfl, HZB.out, InVP.none _ _ _ _, fun x h => absurd h (by simp), ⟨Nat.zero_le _, fun x h => absurd h (by simp)⟩, ⟨ST1.out.place, fun h => absurd h he'⟩, fun A0 Q _ h => h.elim⟩
    · have h1b : ((e' : Int) == 0) = false := heb
      go_upto_region 6 with fail
      skip
      clear c0 c1 c2 cf HRX
      go_upto_region 7 with fail
      refine wp_loop_rounds 1 ?_
      rw [rounds_succ]
      go_upto_region 34 with fail
      go_region
      obtain ⟨Z, hZ⟩ : ∃ Z, ((putR wr (N + 1) s p1 e').setCell ⟨N + 1 + 1, 0, none⟩ (.slice none 0 0)).drew = Z := ⟨_, rfl⟩
      have HZA := Lib.hid (show RB Z (N + 1) s p1 e' by rw [← hZ]; exact RB.drew (RB.other (HA.out.putS _ _ _) (by omega)))
      have HZD := Lib.hid (show BxS Z (N + 1 + 1) (.slice none 0 0) by rw [← hZ]; refine BxS.drew ?_; exact BxS.set (show BxS (putR wr (N + 1) s p1 e') (N + 1 + 1) (.slice none 0 0) from (putR_block _ _ _ _ _ _ (by omega)).trans HD.out) _)
      have HZB := Lib.hid (show Below w.heap.size w Z by
        rw [← hZ]
        have h0 : Below w.heap.size w wr := by rw [hN]; exact kp2_below HBX.out HKP.out (by omega) (Nat.le_refl _) (by omega)
        unfold putR
        refine Below.drew (bl_set (bl_set (bl_set (bl_set h0 ?_) ?_) ?_) ?_) <;> (dsimp only; omega))
      unfold putR at hZ
      rw [hZ]
      clear hZ HA HD a0 a1 a2 af d0 df v0 k0 k1 k2
      obtain ⟨a0, a1, a2⟩ := HZA.out.cells
      have d0 := HZD.out.cell
      go_wp2_with fail
      refine bodyPost_ret (v := .tuple #[.agg #[.string s, .int .i64 (p1 : Int), .int .i64 (e' : Int)], .agg #[.slice none 0 0]]) (by simp [results, Tryz.results62, go_sem, a0, a1, a2, d0]) rfl ?_
      exact ⟨none, 0, 0, [], p1, e', rfl, HZB.out, InVP.none _ _ _ _, fun x h => absurd h (by simp), ⟨Nat.zero_le _, fun x h => absurd h (by simp)⟩, ⟨ST1.out.place, fun h => absurd h he'⟩, fun A0 Q _ h => h.elim⟩
  · rcases hcs with ⟨rfl, hw, hee⟩ | ⟨h1, rfl, rfl⟩
    · go_upto_region 6 with fail
      rw [← hw]
      clear hw hee
      clear c0 c1 c2 cf HRX
      go_upto_region 7 with fail
      refine wp_loop_rounds 1 ?_
      rw [rounds_succ]
      go_upto_region 34 with fail
      go_region
      obtain ⟨Z, hZ⟩ : ∃ Z, ((putR wr (N + 1) s p1 e').setCell ⟨N + 1 + 1, 0, none⟩ (.slice none 0 0)).drew = Z := ⟨_, rfl⟩
      have HZA := Lib.hid (show RB Z (N + 1) s p1 e' by rw [← hZ]; exact RB.drew (RB.other (HA.out.putS _ _ _) (by omega)))
      have HZD := Lib.hid (show BxS Z (N + 1 + 1) (.slice none 0 0) by rw [← hZ]; refine BxS.drew ?_; exact BxS.set (show BxS (putR wr (N + 1) s p1 e') (N + 1 + 1) (.slice none 0 0) from (putR_block _ _ _ _ _ _ (by omega)).trans HD.out) _)
      have HZB := Lib.hid (show Below w.heap.size w Z by
        rw [← hZ]
        have h0 : Below w.heap.size w wr := by rw [hN]; exact kp2_below HBX.out HKP.out (by omega) (Nat.le_refl _) (by omega)
        unfold putR
        refine Below.drew (bl_set (bl_set (bl_set (bl_set h0 ?_) ?_) ?_) ?_) <;> (dsimp only; omega))
      unfold putR at hZ
      rw [hZ]
      clear hZ HA HD a0 a1 a2 af d0 df v0 k0 k1 k2
      obtain ⟨a0, a1, a2⟩ := HZA.out.cells
      have d0 := HZD.out.cell
      go_wp2_with fail
      refine bodyPost_ret (v := .tuple #[.agg #[.string s, .int .i64 (p1 : Int), .int .i64 (e' : Int)], .agg #[.slice none 0 0]]) (by simp [results, Tryz.results62, go_sem, a0, a1, a2, d0]) rfl ?_
      exact ⟨none, 0, 0, [], p1, e', rfl, HZB.out, InVP.none _ _ _ _, fun x h => absurd h (by simp), ⟨Nat.zero_le _, fun x h => absurd h (by simp)⟩, ⟨ST1.out.place, fun h => absurd h he'⟩, fun A0 Q _ h => h.elim⟩
    · have h1b : ((e' : Int) == 0) = false := heb
      go_upto_region 6 with fail
      skip
      clear c0 c1 c2 cf HRX
      go_upto_region 7 with fail
      refine wp_loop_rounds 1 ?_
      rw [rounds_succ]
      go_upto_region 34 with fail
      go_region
      obtain ⟨Z, hZ⟩ : ∃ Z, ((putR wr (N + 1) s p1 e').setCell ⟨N + 1 + 1, 0, none⟩ (.slice none 0 0)).drew = Z := ⟨_, rfl⟩
      have HZA := Lib.hid (show RB Z (N + 1) s p1 e' by rw [← hZ]; exact RB.drew (RB.other (HA.out.putS _ _ _) (by omega)))
      have HZD := Lib.hid (show BxS Z (N + 1 + 1) (.slice none 0 0) by rw [← hZ]; refine BxS.drew ?_; exact BxS.set (show BxS (putR wr (N + 1) s p1 e') (N + 1 + 1) (.slice none 0 0) from (putR_block _ _ _ _ _ _ (by omega)).trans HD.out) _)
      have HZB := Lib.hid (show Below w.heap.size w Z by
        rw [← hZ]
        have h0 : Below w.heap.size w wr := by rw [hN]; exact kp2_below HBX.out HKP.out (by omega) (Nat.le_refl _) (by omega)
        unfold putR
        refine Below.drew (bl_set (bl_set (bl_set (bl_set h0 ?_) ?_) ?_) ?_) <;> (dsimp only; omega))
      unfold putR at hZ
      rw [hZ]
      clear hZ HA HD a0 a1 a2 af d0 df v0 k0 k1 k2
      obtain ⟨a0, a1, a2⟩ := HZA.out.cells
      have d0 := HZD.out.cell
      go_wp2_with fail
      refine bodyPost_ret (v := .tuple #[.agg #[.string s, .int .i64 (p1 : Int), .int .i64 (e' : Int)], .agg #[.slice none 0 0]]) (by simp [results, Tryz.results62, go_sem, a0, a1, a2, d0]) rfl ?_
      exact ⟨none, 0, 0, [], p1, e', rfl, HZB.out, InVP.none _ _ _ _, fun x h => absurd h (by simp), ⟨Nat.zero_le _, fun x h => absurd h (by simp)⟩, ⟨ST1.out.place, fun h => absurd h he'⟩, fun A0 Q _ h => h.elim⟩
theorem get_any : ∀ l, l ≤ 17 → GetH l
  | 0, _ => get_zero
  | l + 1, h => get_step l (by omega) (get_any l (by omega))
end Go.Proofs.YtddleeenlpigfaaGreatDoor.Ec
/- WALK of the reference's Decode; WALK of CodeReads. -/
namespace Go.Proofs.YtddleeenlpigfaaGreatDoor.Ec
open Go.RowKit
theorem rg_up {A : List Tm} (h : RG 16 A) : RG 17 A := by
  have h1 : RV 17 16 A := rv_at (by omega) h.1
  exact ⟨h1, by rw [wN_le (n := 16) (m := 17) (by omega) (rv_dv h.1)]; exact h.2⟩
theorem sL_of {s : ByteArray} {L : List UInt8} (h : L = s.data.toList) : sL L = s := by
  subst h
  rfl
theorem dec_same {s : ByteArray} {E E2 : Int} {A A2 : List Tm} (h : DecA s E A) (h2 : DecA s E2 A2) : E = E2 ∧ A = A2 := by
  rcases h with ⟨e, hR, hb, hu⟩ | ⟨e, hA, hn⟩
  · rcases h2 with ⟨e2, hR2, hb2, hu2⟩ | ⟨e2, hA2, hn2⟩
    · exact ⟨by rw [e, e2], hu2 A [] hR (by rw [List.append_nil]; exact hb.symm)⟩
    · exact absurd hb (hn2 A hR)
  · rcases h2 with ⟨e2, hR2, hb2, hu2⟩ | ⟨e2, hA2, hn2⟩
    · exact absurd hb2 (hn A2 hR2)
    · exact ⟨by rw [e, e2], by rw [hA, hA2]⟩
set_option maxRecDepth 100000 in
set_option maxHeartbeats 8000000 in
theorem rdec_any (w : World) (s : ByteArray) (hs : s.size ≤ 1000000) : Calls Tryz.prog 35 #[.string s] w (DecQ s w) := by
  have HG : Hid (∀ W, Calls Tryz.prog 62 #[.agg #[.string s, .int .i64 0, .int .i64 0], .int .i64 16] W (GetQ 16 s 0 0 W)) := fun W => get_any 16 (by omega) W s 0 0 (Nat.zero_le _) hs
  go_enter Tryz.func35, Tryz.ntmps35
  go_wp2_with fail
  go_at_call 62; refine (HG.out _).mono ?_; rintro en w1 ⟨t, tl, tc, A, p', e', rfl, hB1, hV1, hn1, hl1, st1, wn1⟩
  unfold Vn.refR
  have HN1 := Lib.hid ((show BxS (w.alloc (.cells #[.slice none 0 0] 24)) w.heap.size (.slice none 0 0) from w_new w _).below hB1)
  have HB1 := Lib.hid (bl_two (bl_alloc (Below.refl _ w) (o := .cells #[.slice none 0 0] 24)) hB1)
  have hp' : p' ≤ s.size := st1.place
  have hz1 : (w.alloc (.cells #[.slice none 0 0] 24)).heap.size = w.heap.size + 1 := by simp
  have HVP1 := Lib.hid (hV1.imp (Q := fun b => w.heap.size < b) (fun b hb _ => by have hb : (w.alloc (.cells #[.slice none 0 0] 24)).heap.size ≤ b := hb; omega))
  have HV1 := Lib.hid hV1.inV; have NM := Lib.hid hn1; have LN := Lib.hid hl1; have ST := Lib.hid st1; have WN := Lib.hid (fun A0 Q (a : Wants s.data.toList 0 0 (bV 16 A0 ++ Q)) (b : RdV 16 A0) (_ : wN 16 A0 ≤ 512) => wn1 A0 Q a b)
  clear hB1 hV1 hn1 hl1 st1 wn1 HG
  go_upto_region 2 with fail
  obtain ⟨X, hX⟩ : ∃ X, (w1.alloc (bxR s p' e')).alloc (.cells #[.slice t tl tc] 24) = X := ⟨_, rfl⟩
  have hbX : Below w1.heap.size w1 X := by rw [← hX]; exact bl_alloc (bl_alloc (Below.refl _ _))
  have HR : Hid (RB X w1.heap.size s p' e') := by
    rw [← hX]
    exact RB.below (show RB (w1.alloc (bxR s p' e')) w1.heap.size s p' e' from w_new w1 _) (bl_alloc (Below.refl _ _))
  have HG : Hid (BxS X (w1.heap.size + 1) (.slice t tl tc)) := by
    rw [← hX]
    have := w_new (w1.alloc (bxR s p' e')) (.cells #[.slice t tl tc] 24)
    rw [show (w1.alloc (bxR s p' e')).heap.size = w1.heap.size + 1 by simp] at this
    exact this
  have HN := Lib.hid (HN1.out.below hbX)
  have HB := Lib.hid (bl_two HB1.out hbX)
  have HV := Lib.hid (InV.below hbX HV1.out)
  have HVP := Lib.hid (InVP.below hbX HVP1.out)
  have hl : w.heap.size < w1.heap.size := HN1.out.lt
  rw [hX]
  clear hX hbX HN1 HB1 HV1 HVP1
  obtain ⟨c0, c1, c2⟩ := HR.out.cells
  have g0 := HG.out.cell
  have m0 := HN.out.cell
  have mf := HN.out.fz
  have HEN := Lib.hid (fun W => Vn.rend_any s p' e' W)
  unfold Vn.refR at HEN
  by_cases h0 : Vn.endE s p' e' = 0
  · rw [h0] at HEN
    by_cases hR : RG 17 A
    · obtain ⟨h00, hpe⟩ := end_zero hp' h0
      have hR16 := (rg_at hR).1
      have HA := Lib.hid (dec_yes ST.out WN.out h0 hp' hR16)
      have heq : sL (bV 17 A) = s := by
        rw [(rg_at hR).2.1]
        refine sL_of ?_
        have h2 := (ST.out.ok h00).2
        rw [List.drop_zero, hpe, (List.drop_eq_nil_of_le (Nat.le_of_eq rfl) : s.data.toList.drop s.size = []), List.append_nil] at h2
        exact h2.symm

      have HF := Lib.hid (rg_fit hR)
      have HRR := Lib.hid (fun (W : World) (hW : Below X.heap.size X W) => rrv_in 17 W t tl tc A (InV.below hW HV.out) NM.out LN.out)
      have HOF := Lib.hid (fun (W : World) (hW : Below X.heap.size X W) => rof_any 17 W t tl tc A (InV.below hW HV.out) HF.out.1 (by have := HF.out.2; omega))
      rw [rgV_yes.2 hR] at HRR
      rw [heq] at HOF
      have hlG := HG.out.lt
      clear heq h00 hpe
      go_wp2_with fail
      go_at_call 63; refine (HEN.out _).mono ?_; rintro en w2 ⟨rfl, hB2⟩
      have HX2 := Lib.hid hB2
      have HN2 := Lib.hid (HN.out.below hB2)
      have g0 := (HG.out.below hB2).cell
      clear hB2
      go_wp2_with fail
      go_at_call 14; refine (HRR.out _ HX2.out).mono ?_; rintro en w3 ⟨rfl, hB3⟩
      have HX3 := Lib.hid (bl_two HX2.out hB3)
      have g0 := (HG.out.below HX3.out).cell
      clear hB3 HX2 HN2
      go_wp2_with fail
      go_at_call 58; refine (HOF.out _ HX3.out).mono ?_; rintro en w4 ⟨rfl, hB4⟩
      have HX4 := Lib.hid (bl_two HX3.out hB4)
      have g0 := (HG.out.below HX4.out).cell
      have HN4 := Lib.hid (HN.out.below HX4.out)
      have m0 := HN4.out.cell
      have mf := HN4.out.fz
      have HB4 := Lib.hid (bl_two HB.out HX4.out)
      have HVP4 := Lib.hid (InVP.below HX4.out HVP.out)
      clear hB4 HX3
      go_wp2_with fail
      have e0 : (w4.setCell ⟨w.heap.size, 0, none⟩ (.slice t tl tc)).cell? ⟨w.heap.size, 0, none⟩ = some (.slice t tl tc) := (HN4.out.set _).cell
      refine bodyPost_ret (v := .tuple #[.agg #[.slice t tl tc], .int .i64 0]) (by simp [results, Tryz.results35, go_sem, e0]) rfl ?_
      exact ⟨t, tl, tc, A, 0, rfl, bl_set HB4.out (Nat.le_refl _), (InVP.to (P := fun b => w.heap.size < b) (Q := fun _ => True) (by simp [World.setCell]) (fun b hb _ => ⟨trivial, Below.heap_setCell w4 ⟨w.heap.size, 0, none⟩ _ b (by intro e; simp at e; omega)⟩) HVP4.out).inV, HA.out⟩
    · have HA := Lib.hid (dec_no (A := A) ST.out WN.out (fun h => hR (rg_up h.2)))
      have HRR := Lib.hid (fun (W : World) (hW : Below X.heap.size X W) => rrv_in 17 W t tl tc A (InV.below hW HV.out) NM.out LN.out)
      rw [rgV_no.2 hR] at HRR
      go_wp2_with fail
      go_at_call 63; refine (HEN.out _).mono ?_; rintro en w2 ⟨rfl, hB2⟩
      have HX2 := Lib.hid hB2
      have g0 := (HG.out.below hB2).cell
      clear hB2
      go_wp2_with fail
      go_at_call 14; refine (HRR.out _ HX2.out).mono ?_; rintro en w3 ⟨rfl, hB3⟩
      have HX3 := Lib.hid (bl_two HX2.out hB3)
      have HN3 := Lib.hid (HN.out.below HX3.out)
      have m0 := HN3.out.cell
      have mf := HN3.out.fz
      have HB3 := Lib.hid (bl_two HB.out HX3.out)
      clear hB3 HX2
      go_wp2_with fail
      have e0 : (w3.setCell ⟨w.heap.size, 0, none⟩ (.slice none 0 0)).cell? ⟨w.heap.size, 0, none⟩ = some (.slice none 0 0) := (HN3.out.set _).cell
      refine bodyPost_ret (v := .tuple #[.agg #[.slice none 0 0], .int .i64 2]) (by simp [results, Tryz.results35, go_sem, e0]) rfl ?_
      exact ⟨none, 0, 0, [], 2, rfl, bl_set HB3.out (Nat.le_refl _), inV_nil, HA.out⟩
  · have h0i : ((Vn.endE s p' e' : Int) != 0) = true := by simp; exact h0
    have HA := Lib.hid (dec_no (A := A) ST.out WN.out (fun h => h0 h.1))
    go_wp2_with (go_at_call 63; refine (HEN.out _).mono ?_; rintro en w2 ⟨rfl, hB2⟩; have HN2 := Lib.hid (HN.out.below hB2); have HB2 := Lib.hid (bl_two HB.out hB2); clear hB2 m0 mf g0 c0 c1 c2; have m0 := HN2.out.cell; have mf := HN2.out.fz)
    have e0 : (w2.setCell ⟨w.heap.size, 0, none⟩ (.slice none 0 0)).cell? ⟨w.heap.size, 0, none⟩ = some (.slice none 0 0) := (HN2.out.set _).cell
    refine bodyPost_ret (v := .tuple #[.agg #[.slice none 0 0], .int .i64 2]) (by simp [results, Tryz.results35, go_sem, e0]) rfl ?_
    exact ⟨none, 0, 0, [], 2, rfl, bl_set HB2.out (Nat.le_refl _), inV_nil, HA.out⟩
set_option maxRecDepth 100000 in
set_option maxHeartbeats 8000000 in
theorem reads_walk (w : World) (s : ByteArray) (hE : Nm.Env w) : Calls Tryz.prog 10 #[.string s] w (LackP true w) := by
  have AW : Hid (∀ W, Below w.heap.size w W → Calls Tryz.prog 31 #[] W (LackP true W)) := fun W hW => cawake_in W (hE.below hW)
  by_cases h5 : (500 : Int) < (s.size : Int)
  · clear hE
    go_enter Tryz.func10, Tryz.ntmps10
    go_wp2_with (go_at_call 31; refine (AW.out _ (Below.refl _ _)).mono ?_; rintro e w2 ⟨rfl, hB⟩; have HB2 := Lib.hid hB; clear hB)
    go_ret
    exact ⟨rfl, HB2.out⟩
  · have hs : s.size ≤ 1000000 := by omega
    have HD := Lib.hid (dec_any w s hE hs)
    have HRD := Lib.hid (fun W => rdec_any W s hs)
    clear hE
    go_enter Tryz.func10, Tryz.ntmps10
    go_wp2_with fail
    go_at_call 34; refine HD.out.mono ?_; rintro e w1 ⟨t, tl, tc, A, E, rfl, hB1, hv1, ha1⟩
    have HA1 := Lib.hid ha1; have HV1 := Lib.hid hv1; have HB1 := Lib.hid hB1
    clear ha1 hv1 hB1 HD
    go_upto_region 4 with fail
    obtain ⟨X, hX⟩ : ∃ X, w1.alloc (.cells #[.slice t tl tc] 24) = X := ⟨_, rfl⟩
    have hbX : Below w1.heap.size w1 X := by rw [← hX]; exact bl_alloc (Below.refl _ _)
    have HG1 := Lib.hid (show BxS X w1.heap.size (.slice t tl tc) by rw [← hX]; exact w_new w1 _)
    have HB2 := Lib.hid (bl_two HB1.out hbX)
    have HV2 := Lib.hid (InV.below hbX HV1.out)
    rw [hX]
    clear hX hbX HB1 HV1
    go_wp2_with fail
    go_at_call 35; refine (HRD.out _).mono ?_; rintro e w2 ⟨t2, tl2, tc2, A2, E2, rfl, hB3, hv3, ha3⟩
    obtain ⟨rfl, rfl⟩ := dec_same HA1.out ha3
    have HG3 := Lib.hid (HG1.out.below hB3)
    have HB3 := Lib.hid (bl_two HB2.out hB3)
    have HV3 := Lib.hid (InV.below hB3 HV2.out)
    have HW3 := Lib.hid hv3
    clear hB3 hv3 ha3 HRD HG1 HB2 HV2
    go_upto_region 5 with fail
    obtain ⟨Y, hY⟩ : ∃ Y, w2.alloc (.cells #[.slice t2 tl2 tc2] 24) = Y := ⟨_, rfl⟩
    have hbY : Below w2.heap.size w2 Y := by rw [← hY]; exact bl_alloc (Below.refl _ _)
    have HH4 := Lib.hid (show BxS Y w2.heap.size (.slice t2 tl2 tc2) by rw [← hY]; exact w_new w2 _)
    have HG4 := Lib.hid (HG3.out.below hbY)
    have HB4 := Lib.hid (bl_two HB3.out hbY)
    have HV4 := Lib.hid (InV.below hbY HV3.out)
    have HW4 := Lib.hid (InV.below hbY HW3.out)
    rw [hY]
    clear hY hbY HG3 HB3 HV3 HW3
    go_wp2_with fail
    go_at_call 31; refine (AW.out _ HB4.out).mono ?_; rintro e w5 ⟨rfl, hB5⟩
    have g1 := (HG4.out.below hB5).cell
    have g2 := (HH4.out.below hB5).cell
    have HSM := Lib.hid (rsame_in 17 w5 t tl tc A t2 tl2 tc2 A (InV.below hB5 HV4.out) (InV.below hB5 HW4.out))
    rw [show (cmpV 17 A A == 0) = true by rw [(cmpV_cmp 17).refl A]; rfl] at HSM
    have HB5 := Lib.hid (bl_two HB4.out hB5)
    clear hB5
    go_wp2_with (go_at_call 17; refine HSM.out.mono ?_; rintro e w6 ⟨rfl, hB⟩; have HB6 := Lib.hid (bl_two HB5.out hB); clear hB)
    go_ret
    exact ⟨rfl, HB6.out⟩
end Go.Proofs.YtddleeenlpigfaaGreatDoor.Ec
