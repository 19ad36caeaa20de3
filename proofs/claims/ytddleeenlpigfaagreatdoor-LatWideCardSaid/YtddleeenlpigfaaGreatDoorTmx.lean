/- WALK of the reference's Meet. -/
import Derived.Test.YtddleeenlpigfaaGreatDoorTl
namespace Go.Proofs.YtddleeenlpigfaaGreatDoor
open Go.RowKit
set_option maxRecDepth 100000 in
set_option maxHeartbeats 8000000 in
theorem rmeet9_in (n : Nat) (w : World) (t : Option Addr) (tl tc : Nat) (A : List Tm) (t2 : Option Addr) (tl2 tc2 : Nat) (B : List Tm) (hA : Vin w n t tl tc A) (lA : LnV n A) (hB : Vin w n t2 tl2 tc2 B) (lB : LnV n B) :
    Calls Tryz.prog 27 #[.agg #[.slice t tl tc], .agg #[.slice t2 tl2 tc2]] w (LmP n (meetR n A B) w) := by
  obtain ⟨m, rfl⟩ := inV_pos hA.v
  obtain ⟨qa, hqa⟩ : ∃ q, rgV (m + 1) A = q := ⟨_, rfl⟩
  obtain ⟨qb, hqb⟩ : ∃ q, rgV (m + 1) B = q := ⟨_, rfl⟩
  have HRA : Hid (∀ W, Below w.heap.size w W → Calls Tryz.prog 14 #[.agg #[.slice t tl tc]] W (LackP qa W)) := Lib.hid fun W hW => by rw [← hqa]; exact rrv_in (m + 1) W t tl tc A (InV.below hW hA.v) hA.nm lA
  have HRB : Hid (∀ W, Below w.heap.size w W → Calls Tryz.prog 14 #[.agg #[.slice t2 tl2 tc2]] W (LackP qb W)) := Lib.hid fun W hW => by rw [← hqb]; exact rrv_in (m + 1) W t2 tl2 tc2 B (InV.below hW hB.v) hB.nm lB
  have HQ := Lib.hid (And.intro hqa hqb)
  have HR : Hid (meetR (m + 1) A B = if (qa && qb) = true then meetV (m + 1) A B else (1, [])) := by unfold meetR; rw [hqa, hqb]; rfl
  obtain ⟨rr, hrr⟩ : ∃ rr, meetR (m + 1) A B = rr := ⟨_, rfl⟩
  rw [hrr] at HR ⊢
  have HVA := Lib.hid hA.v
  have HVB := Lib.hid hB.v
  clear hA hB lA lB hqa hqb hrr
  go_enter Tryz.func27, Tryz.ntmps27
  go_upto_region 1 with fail
  obtain ⟨X, hX⟩ : ∃ X, ((w.alloc (.cells #[.slice t tl tc] 24)).alloc (.cells #[.slice t2 tl2 tc2] 24)).alloc (.cells #[.slice none 0 0] 24) = X := ⟨_, rfl⟩
  have HXB : Hid (MBox t tl tc t2 tl2 tc2 w X) := by rw [← hX]; exact MBox.new w t tl tc t2 tl2 tc2
  have HXQ : Hid (Bb' X (w.heap.size + 1 + 1) none 0 0) := by
    rw [← hX]
    have h := Bb'.new ((w.alloc (.cells #[.slice t tl tc] 24)).alloc (.cells #[.slice t2 tl2 tc2] 24)) none 0 0
    simp only [new_size] at h
    exact Lib.hid h
  rw [hX]
  clear hX
  obtain ⟨-, x0, -⟩ := HXB.out.ba
  obtain ⟨-, x1, -⟩ := HXB.out.bb
  cases qa
  · have hv : rr = (1, []) := HR.out
    subst hv
    clear HR HRB
    go_wp2_with (go_at_call 14; refine (HRA.out _ HXB.out.old).mono ?_; rintro e w1 ⟨rfl, hb⟩; obtain ⟨rz, rc, rf⟩ := HXB.out.br.later hb; have HB1 := Lib.hid (bl_step HXB.out.old hb); clear hb)
    have hset := set_here (v := .slice none 0 0) rc
    exact bodyPost_ret (v := .tuple #[.agg #[.slice none 0 0], .int .i64 1]) (by simp [results, Tryz.results27, go_sem, hset]) rfl ⟨none, 0, 0, rfl, bl_set HB1.out (by show w.heap.size ≤ w.heap.size + 1 + 1; omega), inV_nil⟩
  · cases qb
    · have hv : rr = (1, []) := HR.out
      subst hv
      clear HR
      go_wp2_with (first
        | (go_at_call 14; (with_reducible refine (HRA.out _ HXB.out.old).mono ?_); rintro e w1 ⟨rfl, hb⟩; obtain ⟨-, y1, -⟩ := HXB.out.bb.later hb; have HB1 := Lib.hid hb; clear hb)
        | (go_at_call 14; (with_reducible refine (HRB.out _ (bl_step HXB.out.old HB1.out)).mono ?_); rintro e w2 ⟨rfl, hb⟩; obtain ⟨rz, rc, rf⟩ := HXB.out.br.later (bl_step HB1.out hb); have HB2 := Lib.hid (bl_step HXB.out.old (bl_step HB1.out hb)); clear hb))
      have hset := set_here (v := .slice none 0 0) rc
      exact bodyPost_ret (v := .tuple #[.agg #[.slice none 0 0], .int .i64 1]) (by simp [results, Tryz.results27, go_sem, hset]) rfl ⟨none, 0, 0, rfl, bl_set HB2.out (by show w.heap.size ≤ w.heap.size + 1 + 1; omega), inV_nil⟩
    · have hv : rr = meetV (m + 1) A B := HR.out
      have gA := rgV_yes.1 HQ.out.1
      have gB := rgV_yes.1 HQ.out.2
      have HIN : Hid (∀ W, Below w.heap.size w W → Calls Tryz.prog 54 #[.agg #[.slice t tl tc], .agg #[.slice t2 tl2 tc2]] W (LmP (m + 1) rr W)) := Lib.hid fun W hW => by
        rw [hv]
        exact (rin_in (m + 1) (· < w.heap.size) W t tl tc A t2 tl2 tc2 B (fun b hb => Nat.lt_of_lt_of_le hb hW.size) (InVP.below hW HVA.out.inVP) (InVP.below hW HVB.out.inVP) ⟨⟨16, gA.1⟩, gA.2⟩ ⟨⟨16, gB.1⟩, gB.2⟩).mono fun e w' ⟨t3, tl3, tc3, he, hb, hv⟩ => ⟨t3, tl3, tc3, he, hb, hv.inV⟩
      clear HR gA gB hv
      obtain ⟨me, mL⟩ := rr
      go_wp2_with (first
        | (go_at_call 14; (with_reducible refine (HRA.out _ HXB.out.old).mono ?_); rintro e w1 ⟨rfl, hb⟩; obtain ⟨-, y0, -⟩ := HXB.out.ba.later hb; obtain ⟨-, y1, -⟩ := HXB.out.bb.later hb; have HB1 := Lib.hid hb; clear hb)
        | (go_at_call 14; (with_reducible refine (HRB.out _ (bl_step HXB.out.old HB1.out)).mono ?_); rintro e w2 ⟨rfl, hb⟩; have HB2 := Lib.hid (bl_step HB1.out hb); obtain ⟨-, z0, -⟩ := HXB.out.ba.later HB2.out; obtain ⟨-, z1, -⟩ := HXB.out.bb.later HB2.out; clear hb)
        | (go_at_call 54; refine (HIN.out _ (bl_step HXB.out.old HB2.out)).mono ?_; rintro e w3 ⟨t3, tl3, tc3, rfl, hb, hv3⟩; obtain ⟨rz, rc, rf⟩ := HXB.out.br.later (bl_step HB2.out hb); have HB3 := Lib.hid (bl_step HB2.out hb); have HV3 := Lib.hid hv3; clear hb hv3))
      have hset := set_here (v := .slice t3 tl3 tc3) rc
      refine bodyPost_ret (v := .tuple #[.agg #[.slice t3 tl3 tc3], .int .i64 me]) (by simp [results, Tryz.results27, go_sem, hset]) rfl ?_
      exact ⟨t3, tl3, tc3, rfl, bl_set (bl_step HXB.out.old HB3.out) (by show w.heap.size ≤ w.heap.size + 1 + 1; omega), InV.set (HXQ.out.later HB3.out) _ HV3.out⟩
end Go.Proofs.YtddleeenlpigfaaGreatDoor
