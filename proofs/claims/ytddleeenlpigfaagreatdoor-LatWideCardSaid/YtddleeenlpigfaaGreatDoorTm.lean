/- WALK of the reference's Join. -/
import Derived.Test.YtddleeenlpigfaaGreatDoorTmx
namespace Go.Proofs.YtddleeenlpigfaaGreatDoor
open Go.RowKit
set_option maxRecDepth 100000 in
set_option maxHeartbeats 8000000 in
theorem rjoin9_in (n : Nat) (w : World) (t : Option Addr) (tl tc : Nat) (A : List Tm) (t2 : Option Addr) (tl2 tc2 : Nat) (B : List Tm) (hA : Vin w n t tl tc A) (lA : LnV n A) (hB : Vin w n t2 tl2 tc2 B) (lB : LnV n B) :
    Calls Tryz.prog 29 #[.agg #[.slice t tl tc], .agg #[.slice t2 tl2 tc2]] w (LmP n (joinR n A B) w) := by
  obtain ⟨m, rfl⟩ := inV_pos hA.v
  obtain ⟨qa, hqa⟩ : ∃ q, rgV (m + 1) A = q := ⟨_, rfl⟩
  obtain ⟨qb, hqb⟩ : ∃ q, rgV (m + 1) B = q := ⟨_, rfl⟩
  have HRA : Hid (∀ W, Below w.heap.size w W → Calls Tryz.prog 14 #[.agg #[.slice t tl tc]] W (LackP qa W)) := Lib.hid fun W hW => by rw [← hqa]; exact rrv_in (m + 1) W t tl tc A (InV.below hW hA.v) hA.nm lA
  have HRB : Hid (∀ W, Below w.heap.size w W → Calls Tryz.prog 14 #[.agg #[.slice t2 tl2 tc2]] W (LackP qb W)) := Lib.hid fun W hW => by rw [← hqb]; exact rrv_in (m + 1) W t2 tl2 tc2 B (InV.below hW hB.v) hB.nm lB
  have HQ := Lib.hid (And.intro hqa hqb)
  have HR : Hid (joinR (m + 1) A B = if (qa && qb) = true then joinV m A B else (1, [])) := by unfold joinR; rw [hqa, hqb]; rfl
  obtain ⟨rr, hrr⟩ : ∃ rr, joinR (m + 1) A B = rr := ⟨_, rfl⟩
  rw [hrr] at HR ⊢
  have HVA := Lib.hid hA.v
  have HVB := Lib.hid hB.v
  clear hA hB lA lB hqa hqb hrr
  go_enter Tryz.func29, Tryz.ntmps29
  go_upto_region 1 with fail
  obtain ⟨X, hX⟩ : ∃ X, ((w.alloc (.cells #[.slice t tl tc] 24)).alloc (.cells #[.slice t2 tl2 tc2] 24)).alloc (.cells #[.slice none 0 0] 24) = X := ⟨_, rfl⟩
  have HXB : Hid (MBox t tl tc t2 tl2 tc2 w X) := by rw [← hX]; exact MBox.new w t tl tc t2 tl2 tc2
  have HXQ : Hid (Bb' X (w.heap.size + 1 + 1) none 0 0) := by
    rw [← hX]
    have h := Bb'.new ((w.alloc (.cells #[.slice t tl tc] 24)).alloc (.cells #[.slice t2 tl2 tc2] 24)) none 0 0
    simp only [new_size] at h
    exact Lib.hid h
  rw [hX]
  clear hX
  obtain ⟨-, x0, -⟩ := HXB.out.ba
  obtain ⟨-, x1, -⟩ := HXB.out.bb
  cases qa
  · have hv : rr = (1, []) := HR.out
    subst hv
    clear HR HRB
    go_wp2_with (go_at_call 14; refine (HRA.out _ HXB.out.old).mono ?_; rintro e w1 ⟨rfl, hb⟩; obtain ⟨rz, rc, rf⟩ := HXB.out.br.later hb; have HB1 := Lib.hid (bl_step HXB.out.old hb); clear hb)
    have hset := set_here (v := .slice none 0 0) rc
    exact bodyPost_ret (v := .tuple #[.agg #[.slice none 0 0], .int .i64 1]) (by simp [results, Tryz.results29, go_sem, hset]) rfl ⟨none, 0, 0, rfl, bl_set HB1.out (by show w.heap.size ≤ w.heap.size + 1 + 1; omega), inV_nil⟩
  · cases qb
    · have hv : rr = (1, []) := HR.out
      subst hv
      clear HR
      go_wp2_with (first
        | (go_at_call 14; (with_reducible refine (HRA.out _ HXB.out.old).mono ?_); rintro e w1 ⟨rfl, hb⟩; obtain ⟨-, y1, -⟩ := HXB.out.bb.later hb; have HB1 := Lib.hid hb; clear hb)
        | (go_at_call 14; (with_reducible refine (HRB.out _ (bl_step HXB.out.old HB1.out)).mono ?_); rintro e w2 ⟨rfl, hb⟩; obtain ⟨rz, rc, rf⟩ := HXB.out.br.later (bl_step HB1.out hb); have HB2 := Lib.hid (bl_step HXB.out.old (bl_step HB1.out hb)); clear hb))
      have hset := set_here (v := .slice none 0 0) rc
      exact bodyPost_ret (v := .tuple #[.agg #[.slice none 0 0], .int .i64 1]) (by simp [results, Tryz.results29, go_sem, hset]) rfl ⟨none, 0, 0, rfl, bl_set HB2.out (by show w.heap.size ≤ w.heap.size + 1 + 1; omega), inV_nil⟩
    · have hv : rr = joinV m A B := HR.out
      have gA := rgV_yes.1 HQ.out.1
      have gB := rgV_yes.1 HQ.out.2
      obtain ⟨L1, hL1, ok1, s1⟩ := heads_seg HVA.out
      obtain ⟨L2, hL2, ok2, s2⟩ := heads_seg HVB.out
      have hlA : A.length ≤ 512 := by have := gA.2; rw [wN_U] at this; omega
      have hlB : B.length ≤ 512 := by have := gB.2; rw [wN_U] at this; omega
      have hn1 : L1.length = A.length := by rw [← hL1, List.length_map]
      have hn2 : L2.length = B.length := by rw [← hL2, List.length_map]
      have hAB : (L1 ++ L2).map (fun h : Hr => h.x) = A ++ B := by rw [List.map_append, hL1, hL2]
      have hwAB : wN (m + 1) (A ++ B) ≤ 1024 := by
        have h1 := gA.2
        have h2 := gB.2
        have e : wN (m + 1) (A ++ B) = wN (m + 1) A + wN (m + 1) B := wN_append ..
        omega
      have HSEG := Lib.hid (And.intro s1 s2)
      have HOK : Hid (∀ h ∈ L1 ++ L2, h.ok m w) := Lib.hid fun h hh => by
        rcases List.mem_append.1 hh with hh | hh
        · exact ok1 h hh
        · exact ok2 h hh
      have HAB := Lib.hid (And.intro hAB hwAB)
      have HV := Lib.hid hv
      have HLL : Hid (L1.length ≤ 512 ∧ L2.length ≤ 512 ∧ L1.length = tl ∧ L2.length = tl2) := Lib.hid ⟨by omega, by omega, s1.len, s2.len⟩
      clear hL1 hL2 ok1 ok2 s1 s2 hlA hlB hn1 hn2 hAB hwAB gA gB hv HR
      go_upto_region 4 with (first
        | (go_at_call 14; (with_reducible refine (HRA.out _ HXB.out.old).mono ?_); rintro e w1 ⟨rfl, hb⟩; obtain ⟨-, y0, -⟩ := HXB.out.ba.later hb; obtain ⟨-, y1, -⟩ := HXB.out.bb.later hb; have HB1 := Lib.hid hb; clear hb)
        | (go_at_call 14; (with_reducible refine (HRB.out _ (bl_step HXB.out.old HB1.out)).mono ?_); rintro e w2 ⟨rfl, hb⟩; have HB2 := Lib.hid (bl_step HB1.out hb); obtain ⟨-, z0, -⟩ := HXB.out.ba.later HB2.out; obtain ⟨-, z1, -⟩ := HXB.out.bb.later HB2.out; clear hb))
      obtain ⟨v1, u1, hr1, ho1, hb1⟩ := append_seg (OwnH.nil w2 w2.heap.size) tc (HSEG.out.1.below (bl_step HXB.out.old HB2.out)) (by have := HLL.out; have e : ([] : List Hr).length = 0 := rfl; omega) (Nat.le_refl _)
      obtain ⟨v2, u2, hr2, ho2, hb2⟩ := append_seg ho1 tc2 (HSEG.out.2.below (bl_step (bl_step HXB.out.old HB2.out) hb1)) (by have := HLL.out; have e : (([] : List Hr) ++ L1).length = L1.length := rfl; omega) hb1.size
      have HR1 := Lib.hid hr1
      have HR2 := Lib.hid hr2
      have HBU := Lib.hid (hb1.trans hb2)
      have HB1' := Lib.hid hb1
      have HO2 : Hid (OwnH u2 w2.heap.size v2 (L1 ++ L2)) := Lib.hid (by rw [List.nil_append] at ho2; exact ho2)
      obtain ⟨-, a0, -⟩ := HXB.out.bb.later (bl_step HB2.out hb1)
      clear hr1 hr2 ho1 ho2 hb1 hb2
      go_upto_region 5 with (at_builtin; refine Lib.wpList_append_run _ rfl _ _ _ _ rfl _ _ rfl rfl _ _ HR1.out ?_)
      go_upto_region 6 with (at_builtin; refine Lib.wpList_append_run _ rfl _ _ _ _ rfl _ _ rfl rfl _ _ HR2.out ?_)
      obtain ⟨ua, uc, rfl⟩ := slice_of_owns HO2.out
      have HBZ := Lib.hid (bl_step HB2.out HBU.out)
      have hiv := (HO2.out.inV (n := m) (by have := HLL.out; have e : (L1 ++ L2).length = L1.length + L2.length := List.length_append ..; omega) (fun h hh => (HOK.out h hh).below (bl_step HXB.out.old HBZ.out))).1
      have HNO : Hid (Calls Tryz.prog 47 #[.slice ua (L1 ++ L2).length uc] u2 (LmP (m + 1) rr u2)) := Lib.hid (by
        have h := norm_any m u2 ua _ uc _ hiv (by have h1 := HLL.out; have h2 : ((L1 ++ L2).map (fun h : Hr => h.x)).length = L1.length + L2.length := (List.length_map ..).trans (List.length_append ..); omega) (by have e := congrArg (wN (m + 1)) HAB.out.1; have := HAB.out.2; omega)
        rw [HAB.out.1] at h
        rw [HV.out]
        exact h)
      clear hiv HAB HLL HOK HSEG HR1 HR2 HO2 HB1' HV HVA HVB HQ HRA HRB z0 z1 y0 y1 a0 x0 x1
      generalize (L1 ++ L2).length = ln at *
      obtain ⟨me, mL⟩ := rr
      go_wp2_with (go_at_call 47; refine HNO.out.mono ?_; rintro e w3 ⟨t3, tl3, tc3, rfl, hb, hv3⟩; obtain ⟨rz, rc, rf⟩ := HXB.out.br.later (bl_step HBZ.out hb); have HB3 := Lib.hid (bl_step HBZ.out hb); have HV3 := Lib.hid hv3; clear hb hv3)
      have hset := set_here (v := .slice t3 tl3 tc3) rc
      refine bodyPost_ret (v := .tuple #[.agg #[.slice t3 tl3 tc3], .int .i64 me]) (by simp [results, Tryz.results29, go_sem, hset]) rfl ?_
      exact ⟨t3, tl3, tc3, rfl, bl_set (bl_step HXB.out.old HB3.out) (by show w.heap.size ≤ w.heap.size + 1 + 1; omega), InV.set (HXQ.out.later HB3.out) _ HV3.out⟩
end Go.Proofs.YtddleeenlpigfaaGreatDoor
