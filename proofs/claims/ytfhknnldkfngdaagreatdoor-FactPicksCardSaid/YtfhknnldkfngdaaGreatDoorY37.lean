/- Eq, Er -/
import Derived.Test.YtfhknnldkfngdaaGreatDoorY36
/- WALK of the reference's Pick. -/
namespace Go.Proofs.YtfhknnldkfngdaaGreatDoor
open Go.RowKit
theorem nmV_nil {m : Nat} : NmV (m + 1) [] := fun x hx => absurd hx (by simp)
theorem pick_err {n : Nat} {A : List Tm} {key : ByteArray} {ks : List ByteArray} (h : oneE (n + 1) A ≠ 0) : pickR (n + 1) A (key :: ks) = (oneE (n + 1) A, []) := by
  unfold pickR oneE at *
  by_cases hr : rgV (n + 1) A = true
  · rw [if_pos hr] at h ⊢
    rw [if_pos hr]
    rw [pickV_err (by rw [fieldR_err h]; exact h), fieldR_err h]
  · rw [if_neg hr, if_neg hr]
theorem pick_ok {n : Nat} {A : List Tm} {key : ByteArray} {ks : List ByteArray} (h : oneE (n + 1) A = 0) : pickR (n + 1) A (key :: ks) = if (fieldR A key).1 ≠ 0 then ((fieldR A key).1, []) else pickR n (fieldR A key).2 ks := by
  have hr := oneE_rg h
  unfold pickR
  rw [if_pos (rgV_yes.2 hr)]
  by_cases hf : (fieldR A key).1 = 0
  · rw [if_neg (by simpa using hf), pickV_step hf, if_pos (rgV_yes.2 (rg_step hr hf))]
  · rw [if_pos hf, pickV_err hf]
theorem onlyE_of {n : Nat} {A : List Tm} (h : oneE n A = 0) : onlyE A = 0 := by
  have hr := oneE_rg h
  unfold oneE at h
  rw [if_pos (rgV_yes.2 hr)] at h
  exact h
def RpP (n : Nat) (r : Int × List Tm) (w : World) (e : Ending) (w' : World) : Prop :=
  ∃ m t tl tc, m + 1 ≤ n ∧ e = .returned (.tuple #[.agg #[.slice t tl tc], .int .i64 r.1]) ∧ Below w.heap.size w w' ∧ InV w (m + 1) t tl tc r.2 ∧ NmV (m + 1) r.2 ∧ LnV (m + 1) r.2
theorem lnV_nil {m : Nat} : LnV (m + 1) [] := LnV.of (RG.slim (show RG (m + 1) [] from ⟨⟨fun x h => absurd h (by simp), List.Pairwise.nil, List.Pairwise.nil⟩, by rw [wN_nil]; omega⟩))
theorem RpP.no {n : Nat} {r : Int × List Tm} {w w' : World} {E : Int} (hn : 1 ≤ n) (hr : r = (E, [])) (hb : Below w.heap.size w w') : RpP n r w (.returned (.tuple #[.agg #[.slice none 0 0], .int .i64 E])) w' := by
  subst hr; exact ⟨0, none, 0, 0, hn, rfl, hb, inV_nil, nmV_nil, lnV_nil⟩
set_option maxRecDepth 100000 in
set_option maxHeartbeats 8000000 in
theorem rpick_in (n : Nat) (w : World) (t : Option Addr) (tl tc : Nat) (A : List Tm) (p : Option Addr) (pl pc : Nat) (ks : List ByteArray) (h : Vif w n t tl tc A) (hk : Ks w p pl ks) : Calls Tryz.prog 18 #[.agg #[.slice t tl tc], .slice p pl pc] w (RpP n (pickR n A ks) w) := by
  obtain ⟨n1, rfl⟩ := inV_pos h.v.v
  have HEnv := Lib.hid h.v.env
  have HV := Lib.hid h.v.v
  have HNm := Lib.hid h.v.nm
  have HLn := Lib.hid h.ln
  obtain ⟨hkl, hkm, hks⟩ := hk
  subst hkl
  have HKS := Lib.hid hks
  clear h hks
  obtain ⟨Y, hY⟩ : ∃ Y, (w.alloc (.cells #[.slice t tl tc] 24)).alloc (.cells #[.slice none 0 0] 24) = Y := ⟨_, rfl⟩
  have HY : Hid (Below w.heap.size w Y ∧ Bv Y w.heap.size t tl tc ∧ Bv Y (w.heap.size + 1) none 0 0) := by
    rw [← hY]
    have h2 := Bv.new (w.alloc (.cells #[.slice t tl tc] 24)) none 0 0 24
    rw [al_size] at h2
    exact Lib.hid ⟨bl_alloc (bl_alloc (Below.refl _ _)), (Bv.new w t tl tc 24).later (bl_alloc (Below.refl _ _)), h2⟩
  go_enter Tryz.func18, Tryz.ntmps18
  go_upto_region 1 with fail
  clear hY
  go_wp2_with fail
  go_loopw [6] (fun i wr => ∃ (k m : Nat) (t' : Option Addr) (tl' tc' : Nat) (A' : List Tm), k ≤ ks.length ∧ i = .int .i64 k ∧ m + 1 ≤ n1 + 1 ∧ Hid (Below w.heap.size w wr) ∧ Hid (InV w (m + 1) t' tl' tc' A') ∧ Hid (NmV (m + 1) A') ∧ Hid (LnV (m + 1) A') ∧ Hid (pickR (n1 + 1) A ks = pickR (m + 1) A' (ks.drop k)) ∧ Hid (Bv wr w.heap.size t' tl' tc') ∧ Hid (Bv wr (w.heap.size + 1) none 0 0)) (fun i _ => ks.length - (intOf i).toNat)
  case atStart => exact ⟨0, n1, t, tl, tc, A, Nat.zero_le _, rfl, Nat.le_refl _, HY.out.1, HV, HNm, HLn, Lib.hid (by rw [List.drop_zero]), HY.out.2.1, HY.out.2.2⟩
  case round =>
    obtain ⟨k, m, t', tl', tc', A', hk, rfl, hm, hB, hI, hNm, hLn, hP, hV0, hV1⟩ := hrel
    rename World => wr
    obtain ⟨v1, v2, v3⟩ := hV0.out
    obtain ⟨z1, z2, z3⟩ := hV1.out
    by_cases hlt : k < ks.length
    · have hki : (k : Int) < (ks.length : Int) := by omega
      have hk0 : (0 : Int) ≤ (k : Int) := by omega
      obtain ⟨b2, off2, rfl, lt2, d0⟩ := HKS.out k hlt
      have HD : Hid (ks.drop k = ks[k] :: ks.drop (k + 1)) := Lib.hid (List.drop_eq_getElem_cons hlt)
      generalize ks[k] = key at *
      have HDK : Hid (∀ W, Below w.heap.size w W → W.cell? ⟨b2, off2 + k, none⟩ = some (.string key)) := Lib.hid fun W hW => (hW.cell (p := ⟨b2, off2 + k, none⟩) lt2).trans d0
      clear lt2 d0
      obtain ⟨E, hE⟩ : ∃ E, oneE (m + 1) A' = E := ⟨_, rfl⟩
      have HO : Hid (∀ W, Below wr.heap.size wr W → Calls Tryz.prog 9 #[.agg #[.slice t' tl' tc']] W (OnP E m A' w W)) := Lib.hid fun W hW => by rw [← hE]; exact rone_in m w W t' tl' tc' A' ⟨⟨hI.out, hNm.out, HEnv.out⟩, hLn.out⟩ (bl_step hB.out hW)
      have HE := Lib.hid hE
      clear hE
      go_upto_region 5 with (go_at_call 9; refine (HO.out _ (Below.refl _ _)).mono ?_; rintro e w2 ⟨k0, lo, hi, s, y, m0, o, f, fl, fc, rfl, hb, hr⟩; have HB2 := Lib.hid hb; have HR := Lib.hid hr; clear hb hr)
      obtain ⟨Z, hZ⟩ : ∃ Z, w2.alloc (.cells #[.int .i64 k0, .int .i64 lo, .int .i64 hi, .string s, .bool y, .bool m0, .bool o, .slice f fl fc] 29) = Z := ⟨_, rfl⟩
      have hbZ : Below wr.heap.size wr Z := by rw [← hZ]; exact bl_alloc HB2.out
      have HZ : Hid (Bo Z w2.heap.size k0 lo hi s y m0 o f fl fc) := by rw [← hZ]; exact Lib.hid (Bo.new w2 k0 lo hi s y m0 o f fl fc)
      have HBZ := Lib.hid (bl_step hB.out hbZ)
      have HV0 := Lib.hid (hV0.out.later hbZ)
      have HV1 := Lib.hid (hV1.out.later hbZ)
      rw [hZ]
      clear hZ hbZ v1 v2 v3 z1 z2 z3
      generalize w2.heap.size = g at *
      obtain ⟨v1, v2, v3⟩ := HV0.out
      obtain ⟨z1, z2, z3⟩ := HV1.out
      rcases HR.out with ⟨hE, rfl, rfl, rfl, rfl, rfl, rfl, rfl, rfl, rfl, rfl⟩ | ⟨rfl, x, rfl, rfl, rfl, rfl, rfl, rfl, rfl, rfl, hF⟩
      · have hne : (E != 0) = true := by simpa using hE
        have HPE : Hid (pickR (n1 + 1) A ks = (E, [])) := Lib.hid (by rw [hP.out, HD.out, pick_err (by rw [HE.out]; exact hE), HE.out])
        go_wp2_with fail
        have hset := set_here (v := .slice none 0 0) HV1.out.2.1
        refine bodyPost_ret (v := .tuple #[.agg #[.slice none 0 0], .int .i64 E]) (by simp [results, Tryz.results18, go_sem, hset]) rfl ?_
        exact RpP.no (by omega) HPE.out (bl_set HBZ.out (by show w.heap.size ≤ w.heap.size + 1; omega))
      · have HPP := Lib.hid (hP.out.trans ((congrArg _ HD.out).trans (pick_ok HE.out)))
        have HFR := Lib.hid (fieldR_ok (key := key) (onlyE_of HE.out))
        have HRG := Lib.hid (oneE_rg HE.out)
        obtain rfl : fl = x.fs.length := hF.1.symm
        have HF := Lib.hid hF
        have HZ2 := HZ
        obtain ⟨hz, ⟨c0, c1, c2, c3, c4, c5, c6, c7⟩, fz⟩ := HZ.out
        clear hF HR HO HE
        by_cases h4 : x.k = 4
        · have hkn : (x.k != 4) = false := by simpa using h4
          have H4 := Lib.hid h4
          clear h4
          go_upto_region 9 with fail
          have KC : Hid (∀ W, Below Z.heap.size Z W → Calls Tryz.prog 43 #[.slice f x.fs.length fc, .string key] W fun e w' => e = .returned (.int .i64 (fidx x.fs key)) ∧ Below Z.heap.size Z w') := Lib.hid fun W hW => (rfind_any _ W f _ fc x.fs (HF.out.below (fun _ _ _ _ h => InV.below (bl_step HBZ.out hW) h) (bl_step HBZ.out hW)) key).mono fun _ _ ⟨a, b⟩ => ⟨a, bl_step hW b⟩
          have VX : Hid (∀ W, Below Z.heap.size Z W → W.cell? ⟨g, 7, none⟩ = some (.slice f x.fs.length fc) ∧ W.cell? ⟨b2, off2 + k, none⟩ = some (.string key)) := Lib.hid fun W hW => ⟨(HZ2.out.later hW).c.2.2.2.2.2.2.2, HDK.out W (bl_step HBZ.out hW)⟩
          clear c0 c1 c2 c3 c4 c5 c6 c7 v1 v2 v3 z1 z2 z3 fz hz
          refine region_class (C := fun W => Below Z.heap.size Z W) (by kernel_rfl) (by kernel_rfl) ((Below.refl _ _).drew) ?_
          repeat (first | go_big_quiet_skip | (go_big_quiet_want; go_big_quiet_op; first | go_big_quiet_on | (apply Exists.intro; refine ⟨fun W hW => ?_, ?_⟩; (first | rfl | exact (KC.out W hW) | (obtain ⟨q0, q1⟩ := VX.out W hW; go_simp; first | done | rfl | exact ⟨rfl, rfl⟩)); go_big_quiet_on)))
          refine wpQuiet_nil ?_
          intro w9 hW9
          have HW9 := Lib.hid hW9
          clear hW9 KC
          have HB9 := Lib.hid (bl_step HBZ.out HW9.out)
          have HV09 := Lib.hid (HV0.out.later HW9.out)
          have HV19 := Lib.hid (HV1.out.later HW9.out)
          obtain ⟨q0, q1⟩ := VX.out _ HW9.out
          obtain ⟨v1, v2, v3⟩ := HV09.out
          obtain ⟨z1, z2, z3⟩ := HV19.out
          have hfi := fidx_find x.fs key
          generalize fidx x.fs key = r at *
          rcases hfi with ⟨rfl, hn⟩ | ⟨i, hi, rfl, hn⟩
          · have hf29 : fieldR [x] key = (29, []) := by rw [HFR.out, if_neg (by simpa using H4.out), hn]
            have HPE : Hid (pickR (n1 + 1) A ks = (29, [])) := Lib.hid (by rw [HPP.out, hf29, if_pos (by show ¬ (29 : Int) = 0; decide)])
            clear hf29
            clear hn
            go_wp2_with fail
            have hset := set_here (v := .slice none 0 0) HV19.out.2.1
            refine bodyPost_ret (v := .tuple #[.agg #[.slice none 0 0], .int .i64 29]) (by simp [results, Tryz.results18, go_sem, hset]) rfl ?_
            exact RpP.no (by omega) HPE.out (bl_set HB9.out (by show w.heap.size ≤ w.heap.size + 1; omega))
          · have HFV : Hid (fieldR [x] key = (0, x.fs[i].2)) := Lib.hid (by rw [HFR.out, if_neg (by simpa using H4.out), hn])
            obtain ⟨b3, off3, tl3, tc3, t3, rfl, lt3, e0, e1, i3⟩ := HF.out.2.2 i hi
            replace e0 := (HB9.out.cell (p := ⟨b3, off3 + i * 2, none⟩) lt3).trans e0
            replace e1 := (HB9.out.cell (p := ⟨b3, off3 + i * 2 + 1, none⟩) lt3).trans e1
            have hi1 : (i : Int) < (x.fs.length : Int) := by omega
            have hi0 : (0 : Int) ≤ (i : Int) := by omega
            have hrv : RG m x.fs[i].2 := rg_field HRG.out (by simp) (List.getElem_mem hi)
            have HRV := Lib.hid hrv
            have HI3 := Lib.hid i3
            clear hn lt3 i3 hrv
            obtain ⟨m, rfl⟩ := inV_pos HI3.out
            go_wp2_with fail
            go_roundw
            case rel => exact ⟨k + 1, m, t3, tl3, tc3, x.fs[i].2, by omega, by go_num, by omega, Lib.hid (bl_set HB9.out (Nat.le_refl _)), HI3, Lib.hid (RG.nm HRV.out), Lib.hid (LnV.of (RG.slim HRV.out)), Lib.hid (by rw [HPP.out, HFV.out]; rfl), Lib.hid HV09.out.set, Lib.hid (HV19.out.far (by omega))⟩
            case measure => simp [intOf]; omega
        · have hkn : (x.k != 4) = true := by simpa using h4
          have HPE : Hid (pickR (n1 + 1) A ks = (27, [])) := Lib.hid (by rw [HPP.out, HFR.out, if_pos h4]; rfl)
          go_wp2_with fail
          have hset := set_here (v := .slice none 0 0) HV1.out.2.1
          refine bodyPost_ret (v := .tuple #[.agg #[.slice none 0 0], .int .i64 27]) (by simp [results, Tryz.results18, go_sem, hset]) rfl ?_
          exact RpP.no (by omega) HPE.out (bl_set HBZ.out (by show w.heap.size ≤ w.heap.size + 1; omega))
    · have hkl : k = ks.length := by omega
      subst hkl
      obtain ⟨q, hq⟩ : ∃ q, rgV (m + 1) A' = q := ⟨_, rfl⟩
      have HQ := Lib.hid hq
      have HR : Hid (∀ W, Below wr.heap.size wr W → Calls Tryz.prog 29 #[.agg #[.slice t' tl' tc']] W (LackP q W)) := Lib.hid fun W hW => rright_q q (m + 1) W t' tl' tc' A' ⟨⟨InV.below (bl_step hB.out hW) hI.out, hNm.out, HEnv.out.below (bl_step hB.out hW)⟩, hLn.out⟩ HQ
      clear hq
      have hP0 := hP.out
      rw [List.drop_length] at hP0
      have HP0 := Lib.hid hP0
      clear hP0
      cases q
      · have HPE : Hid (pickR (n1 + 1) A ks = (1, [])) := Lib.hid (by rw [HP0.out]; unfold pickR; rw [if_neg (by rw [HQ.out]; decide)])
        go_wp2_with (go_at_call 29; refine (HR.out _ (Below.refl _ _)).mono ?_; rintro e w2 ⟨rfl, hb⟩; have HB2 := Lib.hid (bl_step hB.out hb); have HV12 := Lib.hid (hV1.out.later hb); obtain ⟨y1, y2, y3⟩ := HV12.out; clear hb)
        have hset := set_here (v := .slice none 0 0) HV12.out.2.1
        refine bodyPost_ret (v := .tuple #[.agg #[.slice none 0 0], .int .i64 1]) (by simp [results, Tryz.results18, go_sem, hset]) rfl ?_
        exact RpP.no (by omega) HPE.out (bl_set HB2.out (by show w.heap.size ≤ w.heap.size + 1; omega))
      · have HPE : Hid (pickR (n1 + 1) A ks = (0, A')) := Lib.hid (by rw [HP0.out]; unfold pickR; rw [if_pos HQ.out, pickV_end])
        go_wp2_with (go_at_call 29; refine (HR.out _ (Below.refl _ _)).mono ?_; rintro e w2 ⟨rfl, hb⟩; have HB2 := Lib.hid (bl_step hB.out hb); have HV12 := Lib.hid (hV1.out.later hb); have HV02 := Lib.hid (hV0.out.later hb); obtain ⟨y1, y2, y3⟩ := HV12.out; obtain ⟨x1, x2, x3⟩ := HV02.out; clear hb)
        have hset := set_here (v := .slice t' tl' tc') y2
        refine bodyPost_ret (v := .tuple #[.agg #[.slice t' tl' tc'], .int .i64 0]) (by simp [results, Tryz.results18, go_sem, hset]) rfl ?_
        rw [HPE.out]
        exact ⟨m, t', tl', tc', hm, rfl, bl_set HB2.out (by show w.heap.size ≤ w.heap.size + 1; omega), hI.out, hNm.out, hLn.out⟩
end Go.Proofs.YtfhknnldkfngdaaGreatDoor
/- WALK of the reference's Plain. -/
namespace Go.Proofs.YtfhknnldkfngdaaGreatDoor
open Go.RowKit
set_option maxRecDepth 100000 in
set_option maxHeartbeats 8000000 in
theorem rplain_in (n : Nat) (kd : Int) (h4 : kd ≠ 4) (h5 : kd ≠ 5) (w0 w : World) (t : Option Addr) (tl tc : Nat) (A : List Tm) (h : Vif w0 (n + 1) t tl tc A) (hw : Below w0.heap.size w0 w) : Calls Tryz.prog 21 #[.agg #[.slice t tl tc], .int .i64 kd] w (AtP (plR (n + 1) kd A) w) := by
  have HO : Hid (∀ W, Below w.heap.size w W → Calls Tryz.prog 9 #[.agg #[.slice t tl tc]] W (OnP (oneE (n + 1) A) n A w0 W)) := fun W hW => rone_in n w0 W t tl tc A h (bl_step hw hW)
  clear h hw
  have H4 := Lib.hid h4
  have H5 := Lib.hid h5
  clear h4 h5
  obtain ⟨E, hE⟩ : ∃ E, oneE (n + 1) A = E := ⟨_, rfl⟩
  rw [hE] at HO
  have HE := Lib.hid hE
  clear hE
  obtain ⟨Y, hY⟩ : ∃ Y, (w.alloc (.cells #[.slice t tl tc] 24)).alloc (.cells #[.int .i64 0, .int .i64 0, .int .i64 0, .string { data := #[] }, .bool false, .bool false, .bool false, .slice none 0 0] 29) = Y := ⟨_, rfl⟩
  have HY : Hid (Below w.heap.size w Y ∧ Bv Y w.heap.size t tl tc ∧ Bo Y (w.heap.size + 1) 0 0 0 ⟨#[]⟩ false false false none 0 0) := by
    rw [← hY]; exact Lib.hid ⟨bl_alloc (bl_alloc (Below.refl _ _)), (Bv.new w t tl tc 24).later (bl_alloc (Below.refl _ _)), Bo.new1 w _ 0 0 0 _ _ _ _ _ _ _⟩
  have x0 := HY.out.2.1.2.1
  go_enter Tryz.func21, Tryz.ntmps21
  go_upto_region 1 with fail
  clear hY
  go_upto_region 2 with (go_at_call 9; refine (HO.out _ HY.out.1).mono ?_; rintro e w1 ⟨k, lo, hi, s, y, m, o, f, fl, fc, rfl, hb, hr⟩; have HB := Lib.hid (bl_step HY.out.1 hb); have HR := Lib.hid hr; have HN1 := Lib.hid (HY.out.2.2.later hb); clear hb hr)
  obtain ⟨Z, hZ⟩ : ∃ Z, w1.alloc (.cells #[.int .i64 k, .int .i64 lo, .int .i64 hi, .string s, .bool y, .bool m, .bool o, .slice f fl fc] 29) = Z := ⟨_, rfl⟩
  have HT : Hid (Bo Z w1.heap.size k lo hi s y m o f fl fc) := by rw [← hZ]; exact Lib.hid (Bo.new w1 k lo hi s y m o f fl fc)
  have HN : Hid (Bo Z (w.heap.size + 1) 0 0 0 ⟨#[]⟩ false false false none 0 0) := by rw [← hZ]; exact Lib.hid (HN1.out.later (bl_alloc (Below.refl _ _)))
  have HBZ : Hid (Below w.heap.size w Z) := by rw [← hZ]; exact Lib.hid (bl_alloc HB.out)
  rw [hZ]
  clear hZ x0 HN1 HB HY
  generalize w1.heap.size = g at *
  rcases HR.out with ⟨hE, rfl, rfl, rfl, rfl, rfl, rfl, rfl, rfl, rfl, rfl⟩ | ⟨rfl, x, rfl, rfl, rfl, rfl, rfl, rfl, rfl, rfl, hF⟩
  · have HP : Hid (plR (n + 1) kd A = (0, ⟨#[]⟩, false, E)) := Lib.hid (by rw [plR_err (by rw [HE.out]; exact hE), HE.out])
    have hne : (E != 0) = true := by simpa using hE
    obtain ⟨hz, ⟨c0, c1, c2, c3, c4, c5, c6, c7⟩, fz⟩ := HT.out; obtain ⟨nz, ⟨n0, n1, n2, n3, n4, n5, n6, n7⟩, nf⟩ := HN.out
    go_wp2_with fail
    obtain ⟨k0, k1, k2, k3, k4, k5, k6, k7⟩ := set8 HN.out (.int .i64 0) (.int .i64 0) (.int .i64 0) (.string ⟨#[]⟩) (.bool false) (.bool false) (.bool false) (.slice none 0 0)
    refine bodyPost_ret (v := .tuple #[.agg #[.int .i64 0, .int .i64 0, .int .i64 0, .string ⟨#[]⟩, .bool false, .bool false, .bool false, .slice none 0 0], .bool false, .int .i64 E]) (by simp [results, Tryz.results21, go_sem, k0, k1, k2, k3, k4, k5, k6, k7]) rfl ?_
    exact AtP.mk HP.out (bl_set8 HBZ.out (by omega))
  · have HPP := Lib.hid (plR_ok (kd := kd) HE.out)
    have HRG := Lib.hid (oneE_rg HE.out)
    have HF := Lib.hid hF
    obtain rfl : fl = x.fs.length := hF.1.symm
    clear hF HR HO
    obtain ⟨hz, ⟨c0, c1, c2, c3, c4, c5, c6, c7⟩, fz⟩ := HT.out; obtain ⟨nz, ⟨n0, n1, n2, n3, n4, n5, n6, n7⟩, nf⟩ := HN.out
    by_cases hk : x.k = kd
    · have hkn : (x.k != kd) = false := by simpa using hk
      have hat : atomB x = singleB x.k x.lo x.hi x.y := by
        have hs := (rg_gt HRG.out x (by simp)).scalar (fun e => H4.out (hk.symm.trans e)) (fun e => H5.out (hk.symm.trans e))
        rw [atom_sc hs]; simp
      have HK := Lib.hid hk
      have HAT := Lib.hid hat
      clear hk hat
      cases hxm : x.m
      · have HXM := Lib.hid hxm
        rw [hxm] at c5
        obtain ⟨q, hq⟩ : ∃ q, singleB x.k x.lo x.hi x.y = q := ⟨_, rfl⟩
        have HQ := Lib.hid hq
        cases q
        · have HP : Hid (plR (n + 1) kd [x] = (0, ⟨#[]⟩, false, 28)) := Lib.hid (by rw [HPP.out, if_neg (by simpa using HK.out), if_neg (by rw [HXM.out]; decide), if_pos (by rw [HAT.out, hq])])
          clear hq hxm
          go_wp2_with (go_at_call 45; (with_reducible refine (rsingle_as _ _ _ _ _ _ _ _ _ _ _ _ HQ).mono ?_); rintro e w5 ⟨rfl, hb⟩; have HB2 := Lib.hid (bl_step HBZ.out hb); have HN2 := Lib.hid (HN.out.later hb); have HT2 := Lib.hid (HT.out.later hb); obtain ⟨hz2, ⟨e0, e1, e2, e3, e4, e5, e6, e7⟩, fz2⟩ := HT2.out; obtain ⟨nz2, ⟨m0, m1, m2, m3, m4, m5, m6, m7⟩, nf2⟩ := HN2.out; clear hb)
          obtain ⟨k0, k1, k2, k3, k4, k5, k6, k7⟩ := set8 HN2.out (.int .i64 0) (.int .i64 0) (.int .i64 0) (.string ⟨#[]⟩) (.bool false) (.bool false) (.bool false) (.slice none 0 0)
          refine bodyPost_ret (v := .tuple #[.agg #[.int .i64 0, .int .i64 0, .int .i64 0, .string ⟨#[]⟩, .bool false, .bool false, .bool false, .slice none 0 0], .bool false, .int .i64 28]) (by simp [results, Tryz.results21, go_sem, k0, k1, k2, k3, k4, k5, k6, k7]) rfl ?_
          exact AtP.mk HP.out (bl_set8 HB2.out (by omega))
        · have HP : Hid (plR (n + 1) kd [x] = (x.lo, x.s, false, 0)) := Lib.hid (by rw [HPP.out, if_neg (by simpa using HK.out), if_neg (by rw [HXM.out]; decide), if_neg (by rw [HAT.out, hq]; decide)])
          clear hq hxm
          go_wp2_with (go_at_call 45; (with_reducible refine (rsingle_as _ _ _ _ _ _ _ _ _ _ _ _ HQ).mono ?_); rintro e w5 ⟨rfl, hb⟩; have HB2 := Lib.hid (bl_step HBZ.out hb); have HN2 := Lib.hid (HN.out.later hb); have HT2 := Lib.hid (HT.out.later hb); obtain ⟨hz2, ⟨e0, e1, e2, e3, e4, e5, e6, e7⟩, fz2⟩ := HT2.out; obtain ⟨nz2, ⟨m0, m1, m2, m3, m4, m5, m6, m7⟩, nf2⟩ := HN2.out; clear hb)
          obtain ⟨k0, k1, k2, k3, k4, k5, k6, k7⟩ := set8 HN2.out (.int .i64 x.k) (.int .i64 x.lo) (.int .i64 x.hi) (.string x.s) (.bool x.y) (.bool x.m) (.bool x.o) (.slice f x.fs.length fc)
          refine bodyPost_ret (v := .tuple #[.agg #[.int .i64 x.k, .int .i64 x.lo, .int .i64 x.hi, .string x.s, .bool x.y, .bool x.m, .bool x.o, .slice f x.fs.length fc], .bool false, .int .i64 0]) (by simp [results, Tryz.results21, go_sem, k0, k1, k2, k3, k4, k5, k6, k7]) rfl ?_
          exact AtP.mk HP.out (bl_set8 HB2.out (by omega))
      · have HXM := Lib.hid hxm
        rw [hxm] at c5
        have HP : Hid (plR (n + 1) kd [x] = (0, ⟨#[]⟩, true, 0)) := Lib.hid (by rw [HPP.out, if_neg (by simpa using HK.out), if_pos hxm])
        clear hxm
        go_wp2_with fail
        obtain ⟨k0, k1, k2, k3, k4, k5, k6, k7⟩ := set8 HN.out (.int .i64 0) (.int .i64 0) (.int .i64 0) (.string ⟨#[]⟩) (.bool false) (.bool false) (.bool false) (.slice none 0 0)
        refine bodyPost_ret (v := .tuple #[.agg #[.int .i64 0, .int .i64 0, .int .i64 0, .string ⟨#[]⟩, .bool false, .bool false, .bool false, .slice none 0 0], .bool true, .int .i64 0]) (by simp [results, Tryz.results21, go_sem, k0, k1, k2, k3, k4, k5, k6, k7]) rfl ?_
        exact AtP.mk HP.out (bl_set8 HBZ.out (by omega))
    · have hkn : (x.k != kd) = true := by simpa using hk
      have HP : Hid (plR (n + 1) kd [x] = (0, ⟨#[]⟩, false, 27)) := Lib.hid (by rw [HPP.out, if_pos hk])
      go_wp2_with fail
      obtain ⟨k0, k1, k2, k3, k4, k5, k6, k7⟩ := set8 HN.out (.int .i64 0) (.int .i64 0) (.int .i64 0) (.string ⟨#[]⟩) (.bool false) (.bool false) (.bool false) (.slice none 0 0)
      refine bodyPost_ret (v := .tuple #[.agg #[.int .i64 0, .int .i64 0, .int .i64 0, .string ⟨#[]⟩, .bool false, .bool false, .bool false, .slice none 0 0], .bool false, .int .i64 27]) (by simp [results, Tryz.results21, go_sem, k0, k1, k2, k3, k4, k5, k6, k7]) rfl ?_
      exact AtP.mk HP.out (bl_set8 HBZ.out (by omega))
end Go.Proofs.YtfhknnldkfngdaaGreatDoor
