/- WALKS of code's Encode, the reference's, the page's examples. -/
import Derived.Test.YtddleeenlpigfaaGreatDoorKd
import Derived.Test.YtddleeenlpigfaaGreatDoorKe
import Derived.Test.YtddleeenlpigfaaGreatDoorY33
namespace Go.Proofs.YtddleeenlpigfaaGreatDoor.Ec
open Go.RowKit
def EncP (S : ByteArray) (E : Int) (w : World) (e : Ending) (w' : World) : Prop := e = .returned (.tuple #[.string S, .int .i64 E]) ∧ Below w.heap.size w w'
set_option maxRecDepth 100000 in
set_option maxHeartbeats 2000000 in
theorem enc_no {n : Nat} {w : World} {t : Option Addr} {tl tc : Nat} {A : List Tm} (h : Vin w n t tl tc A) (hR : ¬ RG n A) : Calls Tryz.prog 32 #[.agg #[.slice t tl tc]] w (EncP ⟨#[]⟩ 1 w) := by
  have HL := Lib.hid (lright_in n (w.alloc (.cells #[.slice t tl tc] 24)) t tl tc A (h.below (bl_alloc (Below.refl _ _))))
  rw [rgV_no.2 hR] at HL
  clear h hR
  go_enter Tryz.func32, Tryz.ntmps32
  go_wp2_with (go_at_call 18; refine HL.out.mono ?_; rintro e w1 ⟨rfl, hB⟩; have HB := Lib.hid hB; clear hB)
  go_ret2
  exact ⟨rfl, bl_step' (bl_alloc (Below.refl _ _)) HB.out⟩
set_option maxRecDepth 100000 in
set_option maxHeartbeats 2000000 in
theorem enc_yes {n : Nat} {w : World} {t : Option Addr} {tl tc : Nat} {A : List Tm} (h : Vin w n t tl tc A) (hR : RG n A) : Calls Tryz.prog 32 #[.agg #[.slice t tl tc]] w (EncP (sL (bV n A)) 0 w) := by
  have HL := Lib.hid (lright_in n (w.alloc (.cells #[.slice t tl tc] 24)) t tl tc A (h.below (bl_alloc (Below.refl _ _))))
  rw [rgV_yes.2 hR] at HL
  have HF := Lib.hid (rg_fit hR)
  have HV := Lib.hid h.v
  clear h hR
  go_enter Tryz.func32, Tryz.ntmps32
  go_wp2_with fail
  go_at_call 18; refine HL.out.mono ?_; rintro e w1 ⟨rfl, hB⟩
  have hc : w1.cell? ⟨w.heap.size, 0, none⟩ = some (.slice t tl tc) := (hB.cell (p := ⟨w.heap.size, 0, none⟩) (by simp)).trans (by simp [go_sem])
  have hb1 := bl_step' (bl_alloc (Below.refl _ w) (o := .cells #[.slice t tl tc] 24)) hB
  have HP := Lib.hid (appv_any n w1 w1 t tl tc A (.slice none 0 0) [] (InV.below hb1 HV.out) HF.out.1 (by have := HF.out.2; rw [List.nil_append]; omega) ⟨Below.refl _ _, World.ownsRow_nil _ _ _ _⟩)
  have HB1 := Lib.hid hb1
  clear hB hb1 HL
  go_wp2_with fail
  go_at_call 57; refine HP.out.mono ?_; rintro e w2 ⟨v', rfl, hrow, hgr⟩
  obtain ⟨a, cap, rfl, hS⟩ := Vn.row_own hrow
  rw [List.nil_append] at hS ⊢
  have hcv := Vn.conv_row cap hS
  have HB2 : Hid (Below w.heap.size w w2) := HB1.out.grown hgr.grow HB1.out.size (fun r e => by simp [Value.ownBlock] at e)
  clear hrow hgr hS HP hc
  go_wp2_with fail
  go_ret2
  exact ⟨rfl, HB2.out⟩
set_option maxRecDepth 100000 in
set_option maxHeartbeats 2000000 in
theorem renc_no {n : Nat} {w : World} {t : Option Addr} {tl tc : Nat} {A : List Tm} (hv : InV w n t tl tc A) (hm : NmV n A) (hl : LnV n A) (hR : ¬ RG n A) : Calls Tryz.prog 33 #[.agg #[.slice t tl tc]] w (EncP ⟨#[]⟩ 1 w) := by
  have HL := Lib.hid (rrv_in n (w.alloc (.cells #[.slice t tl tc] 24)) t tl tc A (InV.below (bl_alloc (Below.refl _ _)) hv) hm hl)
  rw [rgV_no.2 hR] at HL
  clear hv hm hl hR
  go_enter Tryz.func33, Tryz.ntmps33
  go_wp2_with (go_at_call 14; refine HL.out.mono ?_; rintro e w1 ⟨rfl, hB⟩; have HB := Lib.hid hB; clear hB)
  go_ret2
  exact ⟨rfl, bl_step' (bl_alloc (Below.refl _ _)) HB.out⟩
set_option maxRecDepth 100000 in
set_option maxHeartbeats 2000000 in
theorem renc_yes {n : Nat} {w : World} {t : Option Addr} {tl tc : Nat} {A : List Tm} (hv : InV w n t tl tc A) (hm : NmV n A) (hl : LnV n A) (hR : RG n A) : Calls Tryz.prog 33 #[.agg #[.slice t tl tc]] w (EncP (sL (bV n A)) 0 w) := by
  have HL := Lib.hid (rrv_in n (w.alloc (.cells #[.slice t tl tc] 24)) t tl tc A (InV.below (bl_alloc (Below.refl _ _)) hv) hm hl)
  rw [rgV_yes.2 hR] at HL
  have HF := Lib.hid (rg_fit hR)
  have HV := Lib.hid hv
  clear hv hm hl hR
  go_enter Tryz.func33, Tryz.ntmps33
  go_wp2_with fail
  go_at_call 14; refine HL.out.mono ?_; rintro e w1 ⟨rfl, hB⟩
  have hc : w1.cell? ⟨w.heap.size, 0, none⟩ = some (.slice t tl tc) := (hB.cell (p := ⟨w.heap.size, 0, none⟩) (by simp)).trans (by simp [go_sem])
  have hb1 := bl_step' (bl_alloc (Below.refl _ w) (o := .cells #[.slice t tl tc] 24)) hB
  have HP := Lib.hid (rof_any n w1 t tl tc A (InV.below hb1 HV.out) HF.out.1 (by have := HF.out.2; omega))
  have HB1 := Lib.hid hb1
  clear hB hb1 HL
  go_wp2_with (go_at_call 58; refine HP.out.mono ?_; rintro e w2 ⟨rfl, hB⟩; have HB2 := Lib.hid (bl_step' HB1.out hB); clear hB)
  go_ret2
  exact ⟨rfl, HB2.out⟩
end Go.Proofs.YtddleeenlpigfaaGreatDoor.Ec
