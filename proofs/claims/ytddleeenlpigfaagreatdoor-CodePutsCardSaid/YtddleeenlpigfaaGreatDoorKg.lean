/- WALKS of the page's examples and of CodePuts. -/
import Derived.Test.YtddleeenlpigfaaGreatDoorKf
import Derived.Test.YtddleeenlpigfaaGreatDoorUa
namespace Go.Proofs.YtddleeenlpigfaaGreatDoor.Ec
open Go.RowKit
def anyL : List Tm := [.mk 5 0 0 ⟨#[]⟩ false false false []]
theorem rg_five : RG 1 anyL :=
  ⟨⟨fun x hx => by rw [List.mem_singleton.1 hx]; exact (show RT _ _ from by unfold RT; rw [if_pos (by rfl)]; rfl), List.pairwise_singleton _ _, List.pairwise_singleton _ _⟩, by rw [anyL, wN_cons, wN_nil]; show 1 + 0 + 0 ≤ 512; omega⟩
theorem rg_zero : RG 1 [] := ⟨⟨fun x h => absurd h (by simp), List.Pairwise.nil, List.Pairwise.nil⟩, by rw [wN_nil]; omega⟩
theorem nm_five : NmV 1 anyL := fun x hx f hf => by
  rw [List.mem_singleton.1 hx] at hf
  exact absurd (show f ∈ ([] : List Fd) from hf) (by simp)
theorem nm_zero : NmV 1 [] := fun x hx => absurd hx (by simp)
theorem by0 : sL (bV 1 []) = ⟨#[0]⟩ := by kernel_rfl
theorem by1 : sL (bV 1 anyL) = ⟨#[1, 40]⟩ := by kernel_rfl
theorem by2 : sL (bV 1 (nu 1 2)) = ⟨#[1, 16, 2, 4]⟩ := by kernel_rfl
theorem sc_12 : scR (.mk 2 1 2 ⟨#[]⟩ false false false []) := of_decide_eq_true (by kernel_rfl)
theorem aw0 (W : World) (hE : Nm.Env W) : Calls Tryz.prog 32 #[.agg #[.slice none 0 0]] W (EncP ⟨#[0]⟩ 0 W) := by
  have := enc_yes (n := 1) (w := W) (t := none) (tl := 0) (tc := 0) (A := []) ⟨inV_nil, nm_zero, hE⟩ rg_zero
  rw [by0] at this
  exact this
abbrev oneO (k lo hi : Int) : Obj := .cells #[.int .i64 k, .int .i64 lo, .int .i64 hi, .string ⟨#[]⟩, .bool false, .bool false, .bool false, .slice none 0 0] 31
theorem one_in (W : World) (k lo hi : Int) : InV (W.alloc (oneO k lo hi)) 1 (some ⟨W.heap.size, 0, none⟩) 1 1 [.mk k lo hi ⟨#[]⟩ false false false []] := by
  exact OneP.inV (by simp) (by unfold Tc; simp [go_sem]) 0
theorem aw1 (W : World) (hE : Nm.Env W) : Calls Tryz.prog 32 #[.agg #[.slice (some ⟨W.heap.size, 0, none⟩) 1 1]] (W.alloc (oneO 5 0 0)) (EncP ⟨#[1, 40]⟩ 0 (W.alloc (oneO 5 0 0))) := by
  have := enc_yes (n := 1) (A := anyL) ⟨one_in W 5 0 0, nm_five, hE.below (bl_alloc (Below.refl _ _))⟩ rg_five
  rw [by1] at this
  exact this
theorem aw2 (W : World) (hE : Nm.Env W) : Calls Tryz.prog 32 #[.agg #[.slice (some ⟨W.heap.size, 0, none⟩) 1 1]] (W.alloc (oneO 2 1 2)) (EncP ⟨#[1, 16, 2, 4]⟩ 0 (W.alloc (oneO 2 1 2))) := by
  have := enc_yes (n := 1) (A := nu 1 2) ⟨one_in W 2 1 2, nm_nu, hE.below (bl_alloc (Below.refl _ _))⟩ (rg_nu sc_12)
  rw [by2] at this
  exact this
set_option maxRecDepth 100000 in
set_option maxHeartbeats 4000000 in
theorem cawake_in (w : World) (hE : Nm.Env w) : Calls Tryz.prog 31 #[] w (LackP true w) := by
  have HE := Lib.hid hE
  clear hE
  go_enter Tryz.func31, Tryz.ntmps31
  go_wp2_with fail
  go_at_call 32; refine (aw0 _ HE.out).mono ?_; rintro e w1 ⟨rfl, hB⟩
  have HB1 := Lib.hid hB
  have HE1 := Lib.hid (HE.out.below hB)
  clear hB
  go_wp2_with fail
  go_at_call 32; refine (aw1 _ HE1.out).mono ?_; rintro e w2 ⟨rfl, hB⟩
  have HB2 := Lib.hid (bl_step' (bl_alloc HB1.out (o := oneO 5 0 0)) hB)
  have HE2 := Lib.hid (HE.out.below HB2.out)
  clear hB HB1 HE1
  go_wp2_with fail
  go_at_call 32; refine (aw2 _ HE2.out).mono ?_; rintro e w3 ⟨rfl, hB⟩
  have HB3 := Lib.hid (bl_step' (bl_alloc HB2.out (o := oneO 2 1 2)) hB)
  clear hB HB2 HE2
  go_wp2_with fail
  go_ret
  exact ⟨rfl, HB3.out⟩
set_option maxRecDepth 100000 in
set_option maxHeartbeats 4000000 in
theorem puts_walk (n : Nat) (w : World) (t : Option Addr) (tl tc : Nat) (A : List Tm) (hA : InV w n t tl tc A) (hm : NmV n A) (hl : LnV n A) (hE : Nm.Env w) : Calls Tryz.prog 9 #[.agg #[.slice t tl tc]] w (LackP true w) := by
  obtain ⟨S, E, hP⟩ : ∃ (S : ByteArray) (E : Int), ∀ W, Below w.heap.size w W → Calls Tryz.prog 32 #[.agg #[.slice t tl tc]] W (EncP S E W) ∧ Calls Tryz.prog 33 #[.agg #[.slice t tl tc]] W (EncP S E W) := by
    by_cases hR : RG n A
    · exact ⟨_, _, fun W hW => ⟨enc_yes ⟨InV.below hW hA, hm, hE.below hW⟩ hR, renc_yes (InV.below hW hA) hm hl hR⟩⟩
    · exact ⟨_, _, fun W hW => ⟨enc_no ⟨InV.below hW hA, hm, hE.below hW⟩ hR, renc_no (InV.below hW hA) hm hl hR⟩⟩
  have HP := Lib.hid hP
  have AW : Hid (∀ W, Below w.heap.size w W → Calls Tryz.prog 31 #[] W (LackP true W)) := fun W hW => cawake_in W (hE.below hW)
  have HF := Lib.hid (few9_any n (w.alloc (.cells #[.slice t tl tc] 24)) t tl tc A (InV.below (bl_alloc (Below.refl _ _)) hA))
  clear hA hm hl hE hP
  go_enter Tryz.func9, Tryz.ntmps9
  go_wp2_with fail
  go_at_call 12; refine HF.out.mono ?_; rintro e w1 ⟨b, rfl, hB, -⟩
  have hc1 : w1.cell? ⟨w.heap.size, 0, none⟩ = some (.slice t tl tc) := (hB.cell (p := ⟨w.heap.size, 0, none⟩) (by simp)).trans (by simp [go_sem])
  have hlt : w.heap.size < w1.heap.size := by have := hB.size; simp at this; omega
  have HB1 := Lib.hid (bl_step' (bl_alloc (Below.refl _ w) (o := .cells #[.slice t tl tc] 24)) hB)
  clear hB HF
  cases b
  · go_wp2_with (go_at_call 31; refine (AW.out _ HB1.out).mono ?_; rintro e w2 ⟨rfl, hB⟩; have HB2 := Lib.hid (bl_step' HB1.out hB); clear hB)
    go_ret
    exact ⟨rfl, HB2.out⟩
  · go_wp2_with fail
    go_at_call 32; refine (HP.out _ HB1.out).1.mono ?_; rintro e w2 ⟨rfl, hB⟩
    have hc2 := (hB.cell (p := ⟨w.heap.size, 0, none⟩) hlt).trans hc1
    have HB2 := Lib.hid (bl_step' HB1.out hB)
    clear hB hc1 hlt
    go_wp2_with fail
    go_at_call 33; refine (HP.out _ HB2.out).2.mono ?_; rintro e w3 ⟨rfl, hB⟩
    have HB3 := Lib.hid (bl_step' HB2.out hB)
    clear hB hc2
    go_wp2_with (go_at_call 31; refine (AW.out _ HB3.out).mono ?_; rintro e w4 ⟨rfl, hB⟩; have HB4 := Lib.hid (bl_step' HB3.out hB); clear hB)
    go_ret
    exact ⟨rfl, HB4.out⟩
end Go.Proofs.YtddleeenlpigfaaGreatDoor.Ec
