/- Kf, Kg -/
import Derived.Test.YtddleeenlpigfaaGreatDoorZ3
import Derived.Test.YtddleeenlpigfaaGreatDoorY33
import Derived.Test.YtddleeenlpigfaaGreatDoorUa
/- WALKS of code's Encode, the reference's, the page's examples. -/
namespace Go.Proofs.YtddleeenlpigfaaGreatDoor.Ec
open Go.RowKit
def EncP (S : ByteArray) (E : Int) (w : World) (e : Ending) (w' : World) : Prop := e = .returned (.tuple #[.string S, .int .i64 E]) ∧ Below w.heap.size w w'
set_option maxRecDepth 100000 in
set_option maxHeartbeats 2000000 in
theorem enc_yes {n : Nat} {w : World} {t : Option Addr} {tl tc : Nat} {A : List Tm} (h : Vin w n t tl tc A) (hR : RG n A) : Calls Tryz.prog 32 #[.agg #[.slice t tl tc]] w (EncP (sL (bV n A)) 0 w) := by
  have HL := Lib.hid (lright_in n (w.alloc (.cells #[.slice t tl tc] 24)) t tl tc A (h.below (bl_alloc (Below.refl _ _))))
  rw [rgV_yes.2 hR] at HL
  have HF := Lib.hid (rg_fit hR)
  have HV := Lib.hid h.v
  clear h hR
  go_enter Tryz.func32, Tryz.ntmps32
  go_wp2_with fail
  go_at_call 18; refine HL.out.mono ?_; rintro e w1 ⟨rfl, hB⟩
  have hc : w1.cell? ⟨w.heap.size, 0, none⟩ = some (.slice t tl tc) := (hB.cell (p := ⟨w.heap.size, 0, none⟩) (by simp)).trans (by simp [go_sem])
  have hb1 := bl_step' (bl_alloc (Below.refl _ w) (o := .cells #[.slice t tl tc] 24)) hB
  have HP := Lib.hid (appv_any n w1 w1 t tl tc A (.slice none 0 0) [] (InV.below hb1 HV.out) HF.out.1 (by have := HF.out.2; rw [List.nil_append]; omega) ⟨Below.refl _ _, World.ownsRow_nil _ _ _ _⟩)
  have HB1 := Lib.hid hb1
  clear hB hb1 HL
  go_wp2_with fail
  go_at_call 57; refine HP.out.mono ?_; rintro e w2 ⟨v', rfl, hrow, hgr⟩
  obtain ⟨a, cap, rfl, hS⟩ := Vn.row_own hrow
  rw [List.nil_append] at hS ⊢
  have hcv := Vn.conv_row cap hS
  have HB2 : Hid (Below w.heap.size w w2) := HB1.out.grown hgr.grow HB1.out.size (fun r e => by simp [Value.ownBlock] at e)
  clear hrow hgr hS HP hc
  go_wp2_with fail
  go_ret2
  exact ⟨rfl, HB2.out⟩
end Go.Proofs.YtddleeenlpigfaaGreatDoor.Ec
/- WALKS of the page's examples and of CodePuts. -/
namespace Go.Proofs.YtddleeenlpigfaaGreatDoor.Ec
open Go.RowKit
def anyL : List Tm := [.mk 5 0 0 ⟨#[]⟩ false false false []]
theorem rg_five : RG 1 anyL :=
  ⟨⟨fun x hx => by rw [List.mem_singleton.1 hx]; exact (show RT _ _ from by unfold RT; rw [if_pos (by rfl)]; rfl), List.pairwise_singleton _ _, List.pairwise_singleton _ _⟩, by rw [anyL, wN_cons, wN_nil]; show 1 + 0 + 0 ≤ 512; omega⟩
theorem rg_zero : RG 1 [] := ⟨⟨fun x h => absurd h (by simp), List.Pairwise.nil, List.Pairwise.nil⟩, by rw [wN_nil]; omega⟩
theorem nm_five : NmV 1 anyL := fun x hx f hf => by
  rw [List.mem_singleton.1 hx] at hf
  exact absurd (show f ∈ ([] : List Fd) from hf) (by simp)
theorem nm_zero : NmV 1 [] := fun x hx => absurd hx (by simp)
theorem by0 : sL (bV 1 []) = ⟨#[0]⟩ := by kernel_rfl
theorem by1 : sL (bV 1 anyL) = ⟨#[1, 40]⟩ := by kernel_rfl
theorem by2 : sL (bV 1 (nu 1 2)) = ⟨#[1, 16, 2, 4]⟩ := by kernel_rfl
theorem sc_12 : scR (.mk 2 1 2 ⟨#[]⟩ false false false []) := of_decide_eq_true (by kernel_rfl)
theorem aw0 (W : World) (hE : Nm.Env W) : Calls Tryz.prog 32 #[.agg #[.slice none 0 0]] W (EncP ⟨#[0]⟩ 0 W) := by
  have := enc_yes (n := 1) (w := W) (t := none) (tl := 0) (tc := 0) (A := []) ⟨inV_nil, nm_zero, hE⟩ rg_zero
  rw [by0] at this
  exact this
abbrev oneO (k lo hi : Int) : Obj := .cells #[.int .i64 k, .int .i64 lo, .int .i64 hi, .string ⟨#[]⟩, .bool false, .bool false, .bool false, .slice none 0 0] 31
theorem one_in (W : World) (k lo hi : Int) : InV (W.alloc (oneO k lo hi)) 1 (some ⟨W.heap.size, 0, none⟩) 1 1 [.mk k lo hi ⟨#[]⟩ false false false []] := by
  exact OneP.inV (by simp) (by unfold Tc; simp [go_sem]) 0
theorem aw1 (W : World) (hE : Nm.Env W) : Calls Tryz.prog 32 #[.agg #[.slice (some ⟨W.heap.size, 0, none⟩) 1 1]] (W.alloc (oneO 5 0 0)) (EncP ⟨#[1, 40]⟩ 0 (W.alloc (oneO 5 0 0))) := by
  have := enc_yes (n := 1) (A := anyL) ⟨one_in W 5 0 0, nm_five, hE.below (bl_alloc (Below.refl _ _))⟩ rg_five
  rw [by1] at this
  exact this
theorem aw2 (W : World) (hE : Nm.Env W) : Calls Tryz.prog 32 #[.agg #[.slice (some ⟨W.heap.size, 0, none⟩) 1 1]] (W.alloc (oneO 2 1 2)) (EncP ⟨#[1, 16, 2, 4]⟩ 0 (W.alloc (oneO 2 1 2))) := by
  have := enc_yes (n := 1) (A := nu 1 2) ⟨one_in W 2 1 2, nm_nu, hE.below (bl_alloc (Below.refl _ _))⟩ (rg_nu sc_12)
  rw [by2] at this
  exact this
set_option maxRecDepth 100000 in
set_option maxHeartbeats 4000000 in
theorem cawake_in (w : World) (hE : Nm.Env w) : Calls Tryz.prog 31 #[] w (LackP true w) := by
  have HE := Lib.hid hE
  clear hE
  go_enter Tryz.func31, Tryz.ntmps31
  go_wp2_with fail
  go_at_call 32; refine (aw0 _ HE.out).mono ?_; rintro e w1 ⟨rfl, hB⟩
  have HB1 := Lib.hid hB
  have HE1 := Lib.hid (HE.out.below hB)
  clear hB
  go_wp2_with fail
  go_at_call 32; refine (aw1 _ HE1.out).mono ?_; rintro e w2 ⟨rfl, hB⟩
  have HB2 := Lib.hid (bl_step' (bl_alloc HB1.out (o := oneO 5 0 0)) hB)
  have HE2 := Lib.hid (HE.out.below HB2.out)
  clear hB HB1 HE1
  go_wp2_with fail
  go_at_call 32; refine (aw2 _ HE2.out).mono ?_; rintro e w3 ⟨rfl, hB⟩
  have HB3 := Lib.hid (bl_step' (bl_alloc HB2.out (o := oneO 2 1 2)) hB)
  clear hB HB2 HE2
  go_wp2_with fail
  go_ret
  exact ⟨rfl, HB3.out⟩
end Go.Proofs.YtddleeenlpigfaaGreatDoor.Ec
