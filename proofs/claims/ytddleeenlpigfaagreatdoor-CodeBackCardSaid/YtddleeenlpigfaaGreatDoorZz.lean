/- Lp -/
import Derived.Test.YtddleeenlpigfaaGreatDoorZ9
/- WALK of CodeBack. -/
namespace Go.Proofs.YtddleeenlpigfaaGreatDoor.Ec
open Go.RowKit
theorem dec_hit {S : ByteArray} {E : Int} {A A3 : List Tm} (h : DecA S E A3) (hR : RG 16 A) (hS : S.data.toList = bV 16 A) : E = 0 ∧ A3 = A ∧ ∀ A0 Q, RG 16 A0 → S.data.toList = bV 16 A0 ++ Q → A0 = A := by
  rcases h with ⟨e, hR3, hb, hu⟩ | ⟨e, -, hn⟩
  · have h1 := hu A [] hR (by rw [List.append_nil]; exact hS)
    subst h1
    exact ⟨e, rfl, hu⟩
  · exact absurd hS.symm (hn A hR)
theorem dec_short {S : ByteArray} {E : Int} {A A3 : List Tm} {k : Nat} (h : DecA (S.extract 0 k) E A3) (hS : S.data.toList = bV 16 A) (hk : k < S.size) (hu : ∀ A0 Q, RG 16 A0 → S.data.toList = bV 16 A0 ++ Q → A0 = A) : E = 2 ∧ A3 = [] := by
  rcases h with ⟨e, hR3, hb, -⟩ | ⟨e, h3, -⟩
  · have e1 : (S.extract 0 k).data.toList = S.data.toList.take k := by
      rw [ByteArray.data_extract, Array.toList_extract, List.extract_eq_take_drop]
      simp
    rw [e1] at hb
    have h2 := hu A3 (S.data.toList.drop k) hR3 (by rw [hb, List.take_append_drop])
    subst h2
    have h4 := congrArg List.length hb
    rw [← hS, List.length_take] at h4
    have : S.data.toList.length = S.size := rfl
    omega
  · exact ⟨e, h3⟩
theorem dec_long {S : ByteArray} {E : Int} {A A3 : List Tm} (h : DecA (S ++ ⟨#[0]⟩) E A3) (hR : RG 16 A) (hS : S.data.toList = bV 16 A) : E = 2 ∧ A3 = [] := by
  have e1 : (S ++ (⟨#[0]⟩ : ByteArray)).data.toList = S.data.toList ++ [0] := by
    rw [ByteArray.data_append, Array.toList_append]
  rcases h with ⟨e, hR3, hb, hu⟩ | ⟨e, h3, -⟩
  · have h2 := hu A [0] hR (by rw [e1, hS])
    subst h2
    rw [e1, hS] at hb
    have h4 := congrArg List.length hb
    rw [List.length_append] at h4
    simp at h4
  · exact ⟨e, h3⟩
theorem bytes_same {S T : ByteArray} {A B : List Tm} {K : Nat} (hA : Dv K A) (hB : Dv K B) (hRA : RG 16 A) (hRB : RG 16 B) (hS : S.data.toList = bV 16 A) (hT : T.data.toList = bV 16 B) (hu : ∀ A0 Q, RG 16 A0 → S.data.toList = bV 16 A0 ++ Q → A0 = A) : (S = T) = (cmpV K A B = 0) := by
  apply propext
  constructor
  · intro h
    subst h
    have := hu B [] hRB (by rw [List.append_nil]; exact hT)
    subst this
    exact (cmpV_cmp K).refl _
  · intro h
    have := cmpV_eq hA hB h
    subst this
    exact ByteArray.ext (Array.toList_inj.1 (hS.trans hT.symm))
theorem enc_facts {n : Nat} {A : List Tm} (h : RG n A) : ∃ S : ByteArray, sL (bV n A) = S ∧ S.data.toList = bV 16 A ∧ RG 16 A ∧ S.size ≤ 700000 ∧ 0 < S.size := by
  obtain ⟨h1, h2, -, -⟩ := rg_at h
  refine ⟨_, rfl, ?_, h1, (rg_fit h).2, ?_⟩
  · rw [← h2]; rfl
  · rw [sL_size, h2]
    show 0 < (Vn.nb A.length ++ A.flatMap (bT (bV 15))).length
    rw [List.length_append]
    have := nb_pos A.length
    omega
set_option maxRecDepth 100000 in
set_option maxHeartbeats 16000000 in
theorem back_walk (n m : Nat) (w : World) (t : Option Addr) (tl tc : Nat) (A : List Tm) (t2 : Option Addr) (tl2 tc2 : Nat) (B : List Tm) (cut : Int) (hA : InV w n t tl tc A) (hmA : NmV n A) (hlA : LnV n A) (hB : InV w m t2 tl2 tc2 B) (hmB : NmV m B) (hlB : LnV m B) (hE : Nm.Env w) :
    Calls Tryz.prog 11 #[.agg #[.slice t tl tc], .agg #[.slice t2 tl2 tc2], .int .i64 cut] w (LackP true w) := by
  have AW : Hid (∀ W, Below w.heap.size w W → Calls Tryz.prog 31 #[] W (LackP true W)) := fun W hW => cawake_in W (hE.below hW)
  have HA := Lib.hid (fun W (hW : Below w.heap.size w W) => InV.below hW hA)
  have HB := Lib.hid (fun W (hW : Below w.heap.size w W) => InV.below hW hB)
  have HNA := Lib.hid hmA; have HNB := Lib.hid hmB; have HLA := Lib.hid hlA; have HLB := Lib.hid hlB; have HE := Lib.hid hE
  have HDA := Lib.hid hA.dv; have HDB := Lib.hid hB.dv
  clear hA hB hmA hmB hlA hlB hE
  go_enter Tryz.func11, Tryz.ntmps11
  go_upto_region 1 with fail
  obtain ⟨W0, hW⟩ : ∃ W0, (w.alloc (.cells #[.slice t tl tc] 24)).alloc (.cells #[.slice t2 tl2 tc2] 24) = W0 := ⟨_, rfl⟩
  have HW0 := Lib.hid (show Below w.heap.size w W0 by rw [← hW]; exact bl_alloc (bl_alloc (Below.refl _ _)))
  have HG1 : Hid (BxS W0 w.heap.size (.slice t tl tc)) := by
    rw [← hW]
    exact BxS.below (show BxS (w.alloc (.cells #[.slice t tl tc] 24)) w.heap.size (.slice t tl tc) from w_new w _) (bl_alloc (Below.refl _ _))
  have HG2 : Hid (BxS W0 (w.heap.size + 1) (.slice t2 tl2 tc2)) := by
    rw [← hW]
    have := w_new (w.alloc (.cells #[.slice t tl tc] 24)) (.cells #[.slice t2 tl2 tc2] 24)
    rw [show (w.alloc (.cells #[.slice t tl tc] 24)).heap.size = w.heap.size + 1 by simp] at this
    exact this
  rw [hW]
  clear hW
  have c1 := HG1.out.cell
  have c2 := HG2.out.cell
  have HF1 := Lib.hid (few9_any n W0 t tl tc A (HA.out W0 HW0.out))
  go_wp2_with fail
  go_at_call 12; refine HF1.out.mono ?_; rintro e w1 ⟨b1, rfl, hB1, -⟩
  have HX1 := Lib.hid hB1
  clear hB1 HF1 c1 c2
  have c1 := (HG1.out.below HX1.out).cell
  have c2 := (HG2.out.below HX1.out).cell
  cases b1
  · go_wp2_with (go_at_call 31; refine (AW.out _ (bl_two HW0.out HX1.out)).mono ?_; rintro e w2 ⟨rfl, hB⟩; have HB2 := Lib.hid (bl_two (bl_two HW0.out HX1.out) hB); clear hB)
    go_ret
    exact ⟨rfl, HB2.out⟩
  have HF2 := Lib.hid (few9_any m w1 t2 tl2 tc2 B (HB.out w1 (bl_two HW0.out HX1.out)))
  go_wp2_with fail
  go_at_call 12; refine HF2.out.mono ?_; rintro e w2 ⟨b2, rfl, hB2, -⟩
  have HX2 := Lib.hid (bl_two HX1.out hB2)
  clear hB2 HF2 HX1 c1 c2
  have c1 := (HG1.out.below HX2.out).cell
  have c2 := (HG2.out.below HX2.out).cell
  cases b2
  · go_wp2_with (go_at_call 31; refine (AW.out _ (bl_two HW0.out HX2.out)).mono ?_; rintro e w3 ⟨rfl, hB⟩; have HB2 := Lib.hid (bl_two (bl_two HW0.out HX2.out) hB); clear hB)
    go_ret
    exact ⟨rfl, HB2.out⟩
  have HR1 := Lib.hid (rrv_in n w2 t tl tc A (HA.out _ (bl_two HW0.out HX2.out)) HNA.out HLA.out)
  by_cases hRAn : ¬ RG n A
  · rw [rgV_no.2 hRAn] at HR1
    go_wp2_with (first
      | (go_at_call 14; refine HR1.out.mono ?_; rintro e w3 ⟨rfl, hB⟩; have HX3 := Lib.hid (bl_two HX2.out hB); clear hB)
      | (go_at_call 31; refine (AW.out _ (bl_two HW0.out HX3.out)).mono ?_; rintro e w4 ⟨rfl, hB⟩; have HB2 := Lib.hid (bl_two (bl_two HW0.out HX3.out) hB); clear hB))
    go_ret
    exact ⟨rfl, HB2.out⟩
  have hRA : RG n A := Classical.not_not.1 hRAn
  clear hRAn
  rw [rgV_yes.2 hRA] at HR1
  go_wp2_with fail
  go_at_call 14; refine HR1.out.mono ?_; rintro e w3 ⟨rfl, hB3⟩
  have HX3 := Lib.hid (bl_two HX2.out hB3)
  clear hB3 HR1 HX2 c1 c2
  have c1 := (HG1.out.below HX3.out).cell
  have c2 := (HG2.out.below HX3.out).cell
  have HR2 := Lib.hid (rrv_in m w3 t2 tl2 tc2 B (HB.out _ (bl_two HW0.out HX3.out)) HNB.out HLB.out)
  by_cases hRBn : ¬ RG m B
  · rw [rgV_no.2 hRBn] at HR2
    go_wp2_with (first
      | (go_at_call 14; refine HR2.out.mono ?_; rintro e w4 ⟨rfl, hB⟩; have HX4 := Lib.hid (bl_two HX3.out hB); clear hB)
      | (go_at_call 31; refine (AW.out _ (bl_two HW0.out HX4.out)).mono ?_; rintro e w5 ⟨rfl, hB⟩; have HB2 := Lib.hid (bl_two (bl_two HW0.out HX4.out) hB); clear hB))
    go_ret
    exact ⟨rfl, HB2.out⟩
  have hRB : RG m B := Classical.not_not.1 hRBn
  clear hRBn
  rw [rgV_yes.2 hRB] at HR2
  go_wp2_with fail
  go_at_call 14; refine HR2.out.mono ?_; rintro e w4 ⟨rfl, hB4⟩
  have HX4 := Lib.hid (bl_two HX3.out hB4)
  clear hB4 HR2 HX3 c1 c2
  have c1 := (HG1.out.below HX4.out).cell
  have c2 := (HG2.out.below HX4.out).cell
  obtain ⟨S, hS, hSl, hSR, hSz, hS0⟩ := enc_facts hRA
  obtain ⟨T, hT, hTl, hTR, hTz, hT0⟩ := enc_facts hRB
  have HEA := enc_yes (w := w4) ⟨HA.out _ (bl_two HW0.out HX4.out), HNA.out, HE.out.below (bl_two HW0.out HX4.out)⟩ hRA
  rw [hS] at HEA
  have HEA := Lib.hid HEA
  go_wp2_with fail
  go_at_call 32; refine HEA.out.mono ?_; rintro e w5 ⟨rfl, hB5⟩
  have HX5 := Lib.hid (bl_two HX4.out hB5)
  clear hB5 HEA HX4 c1 c2
  have c1 := (HG1.out.below HX5.out).cell
  have c2 := (HG2.out.below HX5.out).cell
  have HEB := enc_yes (w := w5) ⟨HB.out _ (bl_two HW0.out HX5.out), HNB.out, HE.out.below (bl_two HW0.out HX5.out)⟩ hRB
  rw [hT] at HEB
  have HEB := Lib.hid HEB
  go_wp2_with fail
  go_at_call 32; refine HEB.out.mono ?_; rintro e w6 ⟨rfl, hB6⟩
  have HX6 := Lib.hid (bl_two HX5.out hB6)
  clear hB6 HEB HX5 c1 c2
  have HD1 := Lib.hid (dec_any w6 S (HE.out.below (bl_two HW0.out HX6.out)) (by omega))
  go_wp2_with fail
  go_at_call 34; refine HD1.out.mono ?_; rintro e w7 ⟨t3, tl3, tc3, A3, E3, rfl, hB7, hv7, ha7⟩
  obtain ⟨rfl, rfl, hu⟩ := dec_hit ha7 hSR hSl
  have HU := Lib.hid hu
  have HX7 := Lib.hid (bl_two HX6.out hB7)
  have HV7 := Lib.hid hv7
  clear hB7 hv7 ha7 hu HD1 HX6
  go_upto_region 6 with fail
  obtain ⟨W8, hW⟩ : ∃ W8, w7.alloc (.cells #[.slice t3 tl3 tc3] 24) = W8 := ⟨_, rfl⟩
  have hb8 : Below w7.heap.size w7 W8 := by rw [← hW]; exact bl_alloc (Below.refl _ _)
  have HG3 := Lib.hid (show BxS W8 w7.heap.size (.slice t3 tl3 tc3) by rw [← hW]; exact w_new w7 _)
  have HX8 := Lib.hid (bl_two HX7.out hb8)
  have HV8 := Lib.hid (InV.below hb8 HV7.out)
  rw [hW]
  obtain ⟨G3, hG⟩ : ∃ G3, w7.heap.size = G3 := ⟨_, rfl⟩
  rw [hG] at HG3 ⊢
  clear hW hb8 hG HX7 HV7
  have c1 := (HG1.out.below HX8.out).cell
  have c2 := (HG2.out.below HX8.out).cell
  have c3 := HG3.out.cell
  obtain ⟨q, hq⟩ : ∃ q, (cmpV (n + m + 17) A3 B == 0) = q := ⟨_, rfl⟩
  have hSM1 := rsame_in (n + m + 17) W8 t3 tl3 tc3 A3 t tl tc A3 (InV.le (by omega) HV8.out) (InV.le (by omega) (HA.out _ (bl_two HW0.out HX8.out)))
  rw [show (cmpV (n + m + 17) A3 A3 == 0) = true by rw [(cmpV_cmp _).refl A3]; rfl] at hSM1
  have HSM1 := Lib.hid hSM1
  clear hSM1
  have hSM2 := fun (W : World) (hW : Below W8.heap.size W8 W) => rsame_in (n + m + 17) W t tl tc A3 t2 tl2 tc2 B (InV.le (by omega) (HA.out _ (bl_two (bl_two HW0.out HX8.out) hW))) (InV.le (by omega) (HB.out _ (bl_two (bl_two HW0.out HX8.out) hW)))
  rw [hq] at hSM2
  have HSM2 := Lib.hid hSM2
  clear hSM2
  have hST : (S = T) = (cmpV (n + m + 17) A3 B = 0) := bytes_same (HDA.out.le (by omega)) (HDB.out.le (by omega)) hSR hTR hSl hTl HU.out
  have hSe : ¬ S = ⟨#[]⟩ := fun e => by rw [e] at hS0; exact absurd hS0 (by decide)
  have hSe5 : ¬ S.toList = [] := fun e => by rw [Nm.size_list, e] at hS0; exact absurd hS0 (by decide)
  have hST2 : (S.toList == T.toList) = q := by
    rw [← hq, Bool.eq_iff_iff, beq_iff_eq, beq_iff_eq, ← hST]
    rw [Lib.toList_data, Lib.toList_data]
    exact ⟨fun e => ByteArray.ext (Array.toList_inj.1 e), fun e => by rw [e]⟩
  have HSl := Lib.hid hSl; have HTl := Lib.hid hTl; have HSR := Lib.hid hSR; have HSe := Lib.hid hSe; have HST := Lib.hid hST; have HTR := Lib.hid hTR
  clear hSl hTl hSe hS hT hSR hTR hST hq hRA hRB
  go_wp2_with fail
  go_at_call 17; refine HSM1.out.mono ?_; rintro e w9 ⟨rfl, hB9⟩
  have HX9 := Lib.hid hB9
  have c1 := (HG1.out.below (bl_two HX8.out hB9)).cell
  have c2 := (HG2.out.below (bl_two HX8.out hB9)).cell
  have hGl := HG3.out.lt
  clear hB9
  have HSM := Lib.hid (HSM2.out _ HX9.out)
  have hqq : ∀ x : Bool, (x != x) = false := fun x => by cases x <;> rfl
  go_wp2_with fail
  go_at_call 17; refine HSM.out.mono ?_; rintro e w10 ⟨rfl, hB10⟩
  have HX10 := Lib.hid (bl_two (bl_two HX8.out HX9.out) hB10)
  have hlS : S.toList.length = S.size := by rw [Lib.toList_data]; rfl
  clear hB10 HSM c1 c2 c3 HSM1 HSM2 HX9
  obtain ⟨c, hc⟩ : ∃ c : Int, IntKind.u64.wrap cut = c := ⟨_, rfl⟩
  have hc0 : 0 ≤ c := by rw [← hc, IntKind.wrap_u64]; omega
  have hSw : IntKind.u64.wrap (S.size : Int) = (S.size : Int) := by rw [IntKind.wrap_u64]; omega
  obtain ⟨k, hk⟩ : ∃ k : Nat, c % (S.size : Int) = (k : Int) := ⟨(c % (S.size : Int)).toNat, by have := Int.emod_nonneg c (show (S.size : Int) ≠ 0 by omega); omega⟩
  have hkS : k < S.size := by have := Int.emod_lt_of_pos c (show (0 : Int) < (S.size : Int) by omega); omega
  have hkw : IntKind.i64.wrap (k : Int) = (k : Int) := by rw [IntKind.wrap_i64]; omega
  have hkt : c.tmod (S.size : Int) = (k : Int) := by rw [Int.tmod_eq_emod_of_nonneg hc0]; exact hk
  have HW10 := Lib.hid (bl_two HW0.out HX10.out)
  have hs9 : S.toList.isEmpty = false := by cases hh : S.toList with
    | nil => exact absurd hh hSe5
    | cons x l => rfl
  have HD2 := Lib.hid (dec_any w10 (S.extract 0 k) (HE.out.below HW10.out) (by rw [ByteArray.size_extract]; omega))
  go_wp2_with fail
  go_at_call 34; refine HD2.out.mono ?_; rintro e w11 ⟨t4, tl4, tc4, A4, E4, rfl, hB11, hv11, ha11⟩
  obtain ⟨rfl, rfl⟩ := dec_short ha11 HSl.out hkS HU.out
  obtain rfl : tl4 = 0 := hv11.1.symm
  have HW11 := Lib.hid (bl_two HW10.out hB11)
  clear hB11 hv11 ha11 HD2
  go_upto_region 9 with fail
  obtain ⟨W12, hW⟩ : ∃ W12, w11.alloc (.cells #[.slice t4 0 tc4] 24) = W12 := ⟨_, rfl⟩
  have hb12 : Below w11.heap.size w11 W12 := by rw [← hW]; exact bl_alloc (Below.refl _ _)
  have HG4 := Lib.hid (show BxS W12 w11.heap.size (.slice t4 0 tc4) by rw [← hW]; exact w_new w11 _)
  have HW12 := Lib.hid (bl_two HW11.out hb12)
  rw [hW]
  obtain ⟨G4, hG⟩ : ∃ G4, w11.heap.size = G4 := ⟨_, rfl⟩
  rw [hG] at HG4 ⊢
  clear hW hb12 hG HW11
  have HD3 := Lib.hid (dec_any W12 (S ++ ⟨#[0]⟩) (HE.out.below HW12.out) (by rw [ByteArray.size_append]; show S.size + 1 ≤ _; omega))
  go_wp2_with fail
  go_at_call 34; refine HD3.out.mono ?_; rintro e w13 ⟨t5, tl5, tc5, A5, E5, rfl, hB13, hv13, ha13⟩
  obtain ⟨rfl, rfl⟩ := dec_long ha13 HSR.out HSl.out
  obtain rfl : tl5 = 0 := hv13.1.symm
  have HW13 := Lib.hid (bl_two HW12.out hB13)
  have HG5 := Lib.hid (HG4.out.below hB13)
  clear hB13 hv13 ha13 HD3 HG4
  go_upto_region 10 with fail
  obtain ⟨W14, hW⟩ : ∃ W14, w13.alloc (.cells #[.slice t5 0 tc5] 24) = W14 := ⟨_, rfl⟩
  have hb14 : Below w13.heap.size w13 W14 := by rw [← hW]; exact bl_alloc (Below.refl _ _)
  have HH4 := Lib.hid (show BxS W14 w13.heap.size (.slice t5 0 tc5) by rw [← hW]; exact w_new w13 _)
  have HG6 := Lib.hid (HG5.out.below hb14)
  have HW14 := Lib.hid (bl_two HW13.out hb14)
  rw [hW]
  obtain ⟨G5, hG⟩ : ∃ G5, w13.heap.size = G5 := ⟨_, rfl⟩
  rw [hG] at HH4 ⊢
  clear hW hb14 hG HW13 HG5
  go_wp2_with fail
  go_at_call 31; refine (AW.out _ HW14.out).mono ?_; rintro e w15 ⟨rfl, hB15⟩
  have g4 := (HG6.out.below hB15).cell
  have g5 := (HH4.out.below hB15).cell
  have HW15 := Lib.hid (bl_two HW14.out hB15)
  clear hB15
  go_wp2_with fail
  go_ret
  exact ⟨rfl, HW15.out⟩
end Go.Proofs.YtddleeenlpigfaaGreatDoor.Ec
