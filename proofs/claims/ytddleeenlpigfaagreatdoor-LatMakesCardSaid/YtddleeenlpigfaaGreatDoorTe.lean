/- WALKS of the reference's Struct; like. -/
import Derived.Test.YtddleeenlpigfaaGreatDoorTd
namespace Go.Proofs.YtddleeenlpigfaaGreatDoor
open Go.RowKit
/-- The first k fields' values are right; is one of them none? -/
def StI (n : Nat) (fs : List Fd) (k : Nat) (b : Bool) : Prop := (∀ j (h : j < fs.length), j < k → rgV n fs[j].2 = true) ∧ (b = true ↔ ∃ j, ∃ h : j < fs.length, j < k ∧ fs[j].2 = [])
theorem stI_step {n : Nat} {fs : List Fd} {k : Nat} {b : Bool} (h : StI n fs k b) (hk : k < fs.length) (hr : rgV n fs[k].2 = true) {c : Bool} (hc : c = true ↔ (b = true ∨ fs[k].2 = [])) : StI n fs (k + 1) c := by
  refine ⟨fun j hj hjk => ?_, ?_⟩
  · by_cases e : j = k
    · subst e; exact hr
    · exact h.1 j hj (by omega)
  · rw [hc, h.2]
    constructor
    · rintro (⟨j, hj, hjk, e⟩ | e)
      · exact ⟨j, hj, by omega, e⟩
      · exact ⟨k, hk, by omega, e⟩
    · rintro ⟨j, hj, hjk, e⟩
      by_cases e1 : j = k
      · subst e1; exact .inr e
      · exact .inl ⟨j, hj, by omega, e⟩
theorem structV_no {n : Nat} {o : Bool} {fs : List Fd} (h : ¬ RFb (fun i => rgV n (fAt fs i).2) fs) : structV n o fs = (1, []) := if_neg h
theorem structV_end {n : Nat} {o : Bool} {fs : List Fd} {b : Bool} (h32 : fs.length ≤ 32) (hr : Nm.Ris (fs.map (·.1)) fs.length) (h : StI n fs fs.length b) :
    (b = true → structV n o fs = (0, [])) ∧ (b = false → structV n o fs = ofV n [.mk 4 0 0 ⟨#[]⟩ false false o fs]) := by
  have hf : RFb (fun i => rgV n (fAt fs i).2) fs := ⟨h32, hr, fun i hi => by dsimp only; rw [fAt_eq hi]; exact h.1 i hi hi⟩
  refine ⟨fun e => ?_, fun e => ?_⟩
  · obtain ⟨j, hj, -, e2⟩ := h.2.1 e
    unfold structV
    rw [if_pos hf, if_pos ⟨_, List.getElem_mem hj, e2⟩]
  · have hne : ∀ f ∈ fs, f.2 ≠ [] := fun f hf he => by
      obtain ⟨j, hj, rfl⟩ := List.getElem_of_mem hf
      have := h.2.2 ⟨j, hj, hj, he⟩
      rw [e] at this; exact absurd this (by decide)
    unfold structV ofV
    rw [if_pos hf, if_neg (by rintro ⟨f, hf, he⟩; exact hne f hf he), if_neg (by simp), if_pos (List.all_eq_true.2 fun x hx => by rw [List.mem_singleton.1 hx]; exact gtB_yes.2 (four_gr (rfb_rf hf) hne))]
theorem ris_is {fs : List Fd} : Nm.risB (fs.map (·.1)) = true ↔ Nm.Ris (fs.map (·.1)) fs.length := by
  unfold Nm.risB
  rw [@decide_eq_true_iff _ (Classical.propDecidable _), List.length_map]
set_option maxRecDepth 100000 in
set_option maxHeartbeats 8000000 in
theorem rstruct_any (n : Nat) (w : World) (o : Bool) (f : Option Addr) (fl fc : Nat) (fs : List Fd) (hF : InF (fun t tl tc V => InV w n t tl tc V) w f fl fs) (hnm : ∀ x ∈ fs, x.1.size ≤ 140737488355328 ∧ NmV n x.2) (hln : ∀ x ∈ fs, LnV n x.2) (hE : Nm.Env w) :
    Calls Tryz.prog 24 #[.bool o, .slice f fl fc] w (LmP (n + 1) (structV n o fs) w) := by
  obtain rfl : fs.length = fl := hF.1
  have H1 := Lib.hid hF.2.2
  have hm := hF.2.1
  have HNA : Hid (fs.length ≤ 32 → ∀ W, Below w.heap.size w W → Calls Tryz.prog 51 #[.slice f fs.length fc] W (LackP (Nm.risB (fs.map (·.1))) W)) := Lib.hid fun hl W hW => rnames_any _ W f fs.length fc fs (hF.below (fun _ _ _ _ h => InV.below hW h) hW) (by omega) (fun x hx => (hnm x hx).1)
  have HRG : Hid (∀ k (hk : k < fs.length) t tl tc W, InV w n t tl tc fs[k].2 → Below w.heap.size w W → Calls Tryz.prog 14 #[.agg #[.slice t tl tc]] W (LackP (rgV n fs[k].2) W)) := Lib.hid fun k hk t tl tc W hV hW => rrv_in n W t tl tc fs[k].2 (InV.below hW hV) (hnm _ (List.getElem_mem hk)).2 (hln _ (List.getElem_mem hk))
  have HOF : Hid (∀ W g, Below w.heap.size w W → g < W.heap.size → Tc W g 4 0 0 ⟨#[]⟩ false false o f fs.length fc → Calls Tryz.prog 22 #[.slice (some ⟨g, 0, none⟩) 1 1] W (LmP (n + 1) (ofV n [.mk 4 0 0 ⟨#[]⟩ false false o fs]) W)) := Lib.hid fun W g hW hg hT =>
    rof_any n W _ 1 1 _ ⟨alone_inV hg hT (hF.below (fun _ _ _ _ h => InV.below hW h) hW), fun x hx f hf => by rw [List.mem_singleton.1 hx] at hf; exact hnm f hf, hE.below hW⟩ ⟨by simp, fun x hx f hf => by rw [List.mem_singleton.1 hx] at hf; exact hln f hf⟩
  have HNO : Hid (¬ (fs.length ≤ 32 ∧ Nm.Ris (fs.map (·.1)) fs.length) → structV n o fs = (1, [])) := Lib.hid fun h => structV_no fun e => h ⟨e.1, e.2.1⟩
  have HNR : Hid (∀ k (hk : k < fs.length), rgV n fs[k].2 = false → structV n o fs = (1, [])) := Lib.hid fun k hk h => structV_no fun e => by
    have := e.2.2 k hk
    dsimp only at this
    rw [fAt_eq hk, h] at this; exact absurd this (by decide)
  have HEND : Hid (∀ b, fs.length ≤ 32 → Nm.Ris (fs.map (·.1)) fs.length → StI n fs fs.length b → (b = true → structV n o fs = (0, [])) ∧ (b = false → structV n o fs = ofV n [.mk 4 0 0 ⟨#[]⟩ false false o fs])) := Lib.hid fun b h1 h2 h3 => structV_end h1 h2 h3
  clear hF hnm hln hE
  obtain ⟨rr, hrr⟩ : ∃ rr, structV n o fs = rr := ⟨_, rfl⟩
  rw [hrr] at HNO HNR HEND ⊢
  clear hrr
  have HX0 := Lib.hid (Rz.new w)
  go_enter Tryz.func24, Tryz.ntmps24
  by_cases hl : (32 : Int) < (fs.length : Int)
  · have HE : Hid (rr = (1, [])) := Lib.hid (HNO.out fun h => by have := h.1; omega)
    go_wp2_with fail
    refine bodyPost_ret (v := .tuple #[.agg #[.slice none 0 0], .int .i64 1]) (by simp [results, Tryz.results24, go_sem]) rfl ?_
    rw [HE.out]
    exact ⟨none, 0, 0, rfl, HX0.out.b, inV_nil⟩
  have HL : Hid (fs.length ≤ 32) := Lib.hid (by omega)
  have HN2 := Lib.hid (HNA.out HL.out)
  obtain ⟨rs, hrs⟩ : ∃ q, Nm.risB (fs.map (·.1)) = q := ⟨_, rfl⟩
  have HRS := Lib.hid hrs
  rw [hrs] at HN2
  clear hrs HNA
  cases rs
  · have HE : Hid (rr = (1, [])) := Lib.hid (HNO.out fun h => by have := ris_is.2 h.2; rw [HRS.out] at this; exact absurd this (by decide))
    go_wp2_with (go_at_call 51; refine (HN2.out _ HX0.out.b).mono ?_; rintro e w1 ⟨rfl, hb1⟩; have HR := Lib.hid (HX0.out.later hb1); obtain ⟨q1, q2, q3⟩ := HR.out.r; clear hb1)
    have hset := set_here (v := .slice none 0 0) q2
    refine bodyPost_ret (v := .tuple #[.agg #[.slice none 0 0], .int .i64 1]) (by simp [results, Tryz.results24, go_sem, hset]) rfl ?_
    rw [HE.out]
    exact ⟨none, 0, 0, rfl, bl_set HR.out.b (Nat.le_refl _), inV_nil⟩
  have HRI := Lib.hid (ris_is.1 HRS.out)
  have hhl := hl
  go_wp2_with (go_at_call 51; refine (HN2.out _ HX0.out.b).mono ?_; rintro e w1 ⟨rfl, hb1⟩; have HR := Lib.hid (HX0.out.later hb1); clear hb1)
  go_loopw [6, 7] (fun nb i wr => ∃ (k : Nat) (b : Bool), k ≤ fs.length ∧ nb = .bool b ∧ i = .int .i64 k ∧ Hid (Rz w wr) ∧ Hid (StI n fs k b)) (fun _ i _ => fs.length - (intOf i).toNat)
  case atStart => exact ⟨0, false, Nat.zero_le _, rfl, rfl, HR, Lib.hid ⟨fun j _ hj => absurd hj (Nat.not_lt_zero _), ⟨fun h => absurd h (by decide), fun ⟨j, _, hj, _⟩ => absurd hj (Nat.not_lt_zero _)⟩⟩⟩
  case round =>
    obtain ⟨k, b, hk, rfl, rfl, hR, hG⟩ := hrel
    rename World => wr
    by_cases hlt : k < fs.length
    · have hki : (k : Int) < (fs.length : Int) := by omega
      have hk0 : (0 : Int) ≤ (k : Int) := by omega
      obtain ⟨b2, off2, tl2, tc2, t2, rfl, lt2, d0, d1, i2⟩ := H1.out k hlt
      have HD1 : Hid (∀ W, Below w.heap.size w W → W.cell? ⟨b2, off2 + k * 2 + 1, none⟩ = some (.slice t2 tl2 tc2)) := Lib.hid fun W hW => (hW.cell (p := ⟨b2, off2 + k * 2 + 1, none⟩) lt2).trans d1
      have hlv : fs[k].2.length = tl2 := by cases n with | zero => exact i2.elim | succ n => exact i2.1
      obtain ⟨q, hq⟩ : ∃ q, rgV n fs[k].2 = q := ⟨_, rfl⟩
      have HC : Hid (∀ W, Below w.heap.size w W → Calls Tryz.prog 14 #[.agg #[.slice t2 tl2 tc2]] W (LackP q W)) := Lib.hid fun W hW => by rw [← hq]; exact HRG.out k hlt t2 tl2 tc2 W i2 hW
      have HGN : Hid (q = false → rr = (1, [])) := Lib.hid fun e => HNR.out k hlt (hq.trans e)
      have HST : Hid (q = true → ∀ c, (c = true ↔ (b = true ∨ tl2 = 0)) → StI n fs (k + 1) c) := Lib.hid fun e c hc => stI_step hG.out hlt (hq.trans e) (by rw [hc, ← hlv, List.length_eq_zero_iff])
      have d1' := HD1.out _ hR.out.b
      clear d0 d1 lt2 hlv hq i2
      cases q
      · go_wp2_with (go_at_call 14; refine (HC.out _ hR.out.b).mono ?_; rintro e w1 ⟨rfl, hb1⟩; have HR := Lib.hid (hR.out.later hb1); obtain ⟨q1, q2, q3⟩ := HR.out.r; clear hb1)
        have hset := set_here (v := .slice none 0 0) q2
        refine bodyPost_ret (v := .tuple #[.agg #[.slice none 0 0], .int .i64 1]) (by simp [results, Tryz.results24, go_sem, hset]) rfl ?_
        rw [show rr = (1, []) from by first | exact HGN.out rfl | exact HGN.out trivial]
        exact ⟨none, 0, 0, rfl, bl_set HR.out.b (Nat.le_refl _), inV_nil⟩
      · have HST2 : Hid (∀ c, (c = true ↔ (b = true ∨ tl2 = 0)) → StI n fs (k + 1) c) := Lib.hid (HST.out rfl)
        clear HST HGN
        cases b
        · by_cases h0 : tl2 = 0
          · subst h0
            go_wp2_with (go_at_call 14; refine (HC.out _ hR.out.b).mono ?_; rintro e w1 ⟨rfl, hb1⟩; have HB1 := Lib.hid (hR.out.later hb1); have d2' := HD1.out _ HB1.out.b; clear hb1)
            go_roundw
            case rel => exact ⟨k + 1, true, by omega, rfl, by go_num, HB1, Lib.hid (HST2.out true (by simp))⟩
            case measure => simp [intOf]; omega
          · have h1 : ((tl2 : Int) == 0) = false := by simp; omega
            have HNE := Lib.hid h0
            clear h0
            go_wp2_with (go_at_call 14; refine (HC.out _ hR.out.b).mono ?_; rintro e w1 ⟨rfl, hb1⟩; have HB1 := Lib.hid (hR.out.later hb1); have d2' := HD1.out _ HB1.out.b; clear hb1)
            go_roundw
            case rel => exact ⟨k + 1, false, by omega, rfl, by go_num, HB1, Lib.hid (HST2.out false (by have := HNE.out; simp [this]))⟩
            case measure => simp [intOf]; omega
        · go_wp2_with (go_at_call 14; refine (HC.out _ hR.out.b).mono ?_; rintro e w1 ⟨rfl, hb1⟩; have HB1 := Lib.hid (hR.out.later hb1); have d2' := HD1.out _ HB1.out.b; clear hb1)
          go_roundw
          case rel => exact ⟨k + 1, true, by omega, rfl, by go_num, HB1, Lib.hid (HST2.out true (by simp))⟩
          case measure => simp [intOf]; omega
    · have hkl : k = fs.length := by omega
      subst hkl
      obtain ⟨he1, he2⟩ := HEND.out b HL.out HRI.out hG.out
      have HE1 := Lib.hid he1
      have HE2 := Lib.hid he2
      clear he1 he2 HEND HNO HNR
      obtain ⟨q1, q2, q3⟩ := hR.out.r
      cases b
      · obtain ⟨⟨er, M⟩, hr⟩ : ∃ r, ofV n [.mk 4 0 0 ⟨#[]⟩ false false o fs] = r := ⟨_, rfl⟩
        have HE3 : Hid (rr = (er, M)) := Lib.hid (by rw [← hr]; exact HE2.out rfl)
        rw [hr] at HOF
        clear hr HE1 HE2
        go_wp2_with (go_at_call 22; refine (HOF.out _ _ (bl_alloc hR.out.b) new_lt (Tc.new _ _ _ _ _ _ _ _ _ _ _)).mono ?_; rintro e w2 ⟨t1, tl1, tc1, rfl, hb1, hI⟩; have HR := Lib.hid (hR.out.later (bl_step (bl_alloc (Below.refl _ _)) hb1)); have HI := Lib.hid hI; obtain ⟨q1, q2, q3⟩ := HR.out.r; clear hb1 hI)
        have hset := set_here (v := .slice t1 tl1 tc1) q2
        refine bodyPost_ret (v := .tuple #[.agg #[.slice t1 tl1 tc1], .int .i64 er]) (by simp [results, Tryz.results24, go_sem, hset]) rfl ?_
        rw [HE3.out]
        exact ⟨t1, tl1, tc1, rfl, bl_set HR.out.b (Nat.le_refl _), InV.set HR.out.q _ HI.out⟩
      · have HE3 : Hid (rr = (0, [])) := Lib.hid (HE1.out rfl)
        clear HE1 HE2
        go_wp2_with fail
        have hset := set_here (v := .slice none 0 0) q2
        refine bodyPost_ret (v := .tuple #[.agg #[.slice none 0 0], .int .i64 0]) (by simp [results, Tryz.results24, go_sem, hset]) rfl ?_
        rw [HE3.out]
        exact ⟨none, 0, 0, rfl, bl_set hR.out.b (Nat.le_refl _), inV_nil⟩
set_option maxRecDepth 100000 in
set_option maxHeartbeats 4000000 in
theorem like_same (n : Nat) (w : World) (t : Option Addr) (tl tc : Nat) (t2 : Option Addr) (tl2 tc2 : Nat) (A : List Tm) (er : Int) (h1 : InV w n t tl tc A) (h2 : InV w n t2 tl2 tc2 A) : Calls Tryz.prog 25 #[.agg #[.slice t tl tc], .int .i64 er, .agg #[.slice t2 tl2 tc2], .int .i64 er] w (LackP true w) := by
  have HS : Hid (∀ W, Below w.heap.size w W → Calls Tryz.prog 17 #[.agg #[.slice t tl tc], .agg #[.slice t2 tl2 tc2]] W (LackP true W)) := Lib.hid fun W hW => by
    have h := rsame_in n W t tl tc A t2 tl2 tc2 A (InV.below hW h1) (InV.below hW h2)
    rw [show (cmpV n A A == 0) = true by rw [(cmpV_cmp n).refl]; rfl] at h
    exact h
  clear h1 h2
  go_enter Tryz.func25, Tryz.ntmps25
  go_wp2_with (go_at_call 17; refine (HS.out _ (bl_alloc (bl_alloc (Below.refl _ _)))).mono ?_; rintro e w1 ⟨rfl, hb⟩; have HB := Lib.hid (bl_step (bl_alloc (bl_alloc (Below.refl w.heap.size w))) hb); clear hb)
  go_ret
  exact ⟨rfl, HB.out⟩
end Go.Proofs.YtddleeenlpigfaaGreatDoor
