/- Cf, Cg, Ch, Ci -/
import Derived.Deep.RegionHeld3
import Derived.Test.YtddleeenlpigfaaGreatDoorY32
/- WALK of the reference's Term. -/
namespace Go.Proofs.YtddleeenlpigfaaGreatDoor
open Go.RowKit
/-- The reference's Right, one level down. -/
def RrH (n : Nat) : Prop := ∀ (W : World) (t : Option Addr) (tl tc : Nat) (A : List Tm), InV W n t tl tc A → NmV n A → LnV n A → Calls Tryz.prog 14 #[.agg #[.slice t tl tc]] W (LackP (rgV n A) W)
/-- Is a term right? -/
noncomputable def gtB (n : Nat) (x : Tm) : Bool := @decide (Gr1 n x) (Classical.propDecidable _)
theorem gtB_yes {n : Nat} {x : Tm} : gtB n x = true ↔ Gr1 n x := @decide_eq_true_iff _ (Classical.propDecidable _)
theorem gtB_no {n : Nat} {x : Tm} : gtB n x = false ↔ ¬ Gr1 n x := @decide_eq_false_iff_not _ (Classical.propDecidable _)
theorem gr_five {n : Nat} {x : Tm} (h : x.k = 5) : Gr1 n x ↔ x = anyT5 := by
  show RT (RG n) x ↔ _
  unfold RT; rw [if_pos h]
theorem gr_scal {n : Nat} {x : Tm} (h5 : x.k ≠ 5) (h4 : x.k ≠ 4) : Gr1 n x ↔ scR x := by
  show RT (RG n) x ↔ _
  unfold RT; rw [if_neg h5, if_neg h4]
theorem gr_four {n : Nat} {x : Tm} (h : x.k = 4) : Gr1 n x ↔ x.lo = 0 ∧ x.hi = 0 ∧ x.s = ⟨#[]⟩ ∧ x.y = false ∧ x.m = false ∧ RF (RG n) x.fs ∧ ∀ f ∈ x.fs, f.2 ≠ [] := by
  show RT (RG n) x ↔ _
  unfold RT; rw [if_neg (by omega), if_pos h]
set_option maxRecDepth 100000 in
set_option maxHeartbeats 8000000 in
theorem rterm_five (n : Nat) (w : World) (lo hi : Int) (s : ByteArray) (y m o : Bool) (fs : List (ByteArray × List Tm)) (f : Option Addr) (fl fc : Nat) (hF : InF (fun t tl tc V => InV w n t tl tc V) w f fl fs) :
    Calls Tryz.prog 39 #[tv 5 lo hi s y m o f fl fc] w (LackP (gtB n (.mk 5 lo hi s y m o fs)) w) := by
  have HT : Hid (∀ W, Below w.heap.size w W → Calls Tryz.prog 40 #[tv 5 lo hi s y m o f fl fc, tv 5 0 0 ⟨#[]⟩ false false false none 0 0] W (CmpPost (cmpT (cmpV n) (.mk 5 lo hi s y m o fs) anyT5) W)) := fun W hW =>
    rterms_in n (rcompare_in n) W 5 lo hi s y m o f fl fc fs 5 0 0 ⟨#[]⟩ false false false none 0 0 [] (hF.below (fun _ _ _ _ h => InV.below hW h) hW) ⟨rfl, by decide, fun i hi => absurd hi (Nat.not_lt_zero _)⟩
  have HE : gtB n (.mk 5 lo hi s y m o fs) = (cmpT (cmpV n) (.mk 5 lo hi s y m o fs) anyT5 == 0) := by
    rw [Bool.eq_iff_iff, gtB_yes, gr_five rfl]
    constructor
    · intro e; rw [e, (cmpT_cmp n).refl]; rfl
    · intro e
      exact cmpT_eq hF.dv (fun f hf => absurd (show f ∈ ([] : List Fd) from hf) (by simp)) (by simpa using e)
  rw [HE]
  generalize cmpT (cmpV n) (.mk 5 lo hi s y m o fs) anyT5 = r at *
  clear hF HE
  go_enter Tryz.func39, Tryz.ntmps39
  go_wp2_with (go_at_call 40; refine (HT.out _ (bl_alloc (Below.refl _ _))).mono ?_; rintro e w1 ⟨rfl, hB⟩; have HB := Lib.hid hB; clear hB)
  go_ret
  exact ⟨rfl, bl_step (bl_alloc (Below.refl _ _)) HB.out⟩
set_option maxRecDepth 100000 in
set_option maxHeartbeats 8000000 in
theorem rterm_scal (n : Nat) (w : World) (k lo hi : Int) (s : ByteArray) (y m o : Bool) (fs : List (ByteArray × List Tm)) (f : Option Addr) (fc : Nat) (h5 : k ≠ 5) (h4 : k ≠ 4) :
    Calls Tryz.prog 39 #[tv k lo hi s y m o f fs.length fc] w (LackP (gtB n (.mk k lo hi s y m o fs)) w) := by
  have HE : gtB n (.mk k lo hi s y m o fs) = rightB k lo hi s y m o fs.length := by
    rw [Bool.eq_iff_iff, gtB_yes, gr_scal (x := .mk k lo hi s y m o fs) h5 h4]
    exact rightB_iff.symm
  rw [HE]
  clear HE
  have HS := Lib.hid (fun (W : World) => rright_any k lo hi s y m o f fs.length fc W)
  generalize rightB k lo hi s y m o fs.length = r at *
  have e5 : (k == 5) = false := by simpa using h5
  have e4 : (k != 4) = true := by simpa using h4
  go_enter Tryz.func39, Tryz.ntmps39
  go_wp2_with (go_at_call 65; refine (HS.out _).mono ?_; rintro e w1 ⟨rfl, hB⟩; have HB := Lib.hid hB; clear hB)
  go_ret
  exact ⟨rfl, bl_step (bl_alloc (Below.refl _ _)) HB.out⟩
set_option maxRecDepth 100000 in
set_option maxHeartbeats 8000000 in
theorem rterm_bad (n : Nat) (w : World) (lo hi : Int) (s : ByteArray) (y m o : Bool) (fs : List (ByteArray × List Tm)) (f : Option Addr) (fl fc : Nat) (hz : ¬ (lo = 0 ∧ hi = 0 ∧ s.toList = [] ∧ y = false ∧ m = false)) :
    Calls Tryz.prog 39 #[tv 4 lo hi s y m o f fl fc] w (LackP (gtB n (.mk 4 lo hi s y m o fs)) w) := by
  have HE : gtB n (.mk 4 lo hi s y m o fs) = false := gtB_no.2 fun h => hz (by
    obtain ⟨a, b, c, d, e, _⟩ := (gr_four rfl).1 h
    exact ⟨a, b, by rw [show s = ⟨#[]⟩ from c]; exact toList_nil, d, e⟩)
  rw [HE]
  have HZ := Lib.hid hz
  clear HE hz
  go_enter Tryz.func39, Tryz.ntmps39
  by_cases hl : lo = 0
  · have hl' : (lo != 0) = false := by simp [hl]
    by_cases hh : hi = 0
    · have hh' : (hi != 0) = false := by simp [hh]
      by_cases hs3 : s.toList = []
      · have hs2 : s.toList.isEmpty = true := by rw [hs3]; rfl
        cases y
        · cases m
          · exact absurd ⟨hl, hh, hs3, rfl, rfl⟩ HZ.out
          · clear hl hh
            go_wp2_with fail
            go_ret
            exact ⟨rfl, bl_alloc (Below.refl _ _)⟩
        · clear hl hh
          go_wp2_with fail
          go_ret
          exact ⟨rfl, bl_alloc (Below.refl _ _)⟩
      · have hs2 : s.toList.isEmpty = false := by cases e : s.toList with
          | nil => exact absurd e hs3
          | cons a b => rfl
        clear hl hh
        go_wp2_with fail
        go_ret
        exact ⟨rfl, bl_alloc (Below.refl _ _)⟩
    · have hh' : (hi != 0) = true := by simp [hh]
      clear hl hh
      go_wp2_with fail
      go_ret
      exact ⟨rfl, bl_alloc (Below.refl _ _)⟩
  · have hl' : (lo != 0) = true := by simp [hl]
    clear hl
    go_wp2_with fail
    go_ret
    exact ⟨rfl, bl_alloc (Below.refl _ _)⟩
theorem gr_four0 {n : Nat} {o : Bool} {fs : List (ByteArray × List Tm)} : Gr1 n (.mk 4 0 0 ⟨#[]⟩ false false o fs) ↔ RF (RG n) fs ∧ ∀ f ∈ fs, f.2 ≠ [] :=
  (gr_four (x := .mk 4 0 0 ⟨#[]⟩ false false o fs) rfl).trans ⟨fun h => h.2.2.2.2.2, fun h => ⟨rfl, rfl, rfl, rfl, rfl, h⟩⟩
/-- The first k fields are right, and not empty. -/
def GdF (n : Nat) (fs : List (ByteArray × List Tm)) (k : Nat) : Prop := ∀ j (h : j < fs.length), j < k → RG n fs[j].2 ∧ fs[j].2 ≠ []
set_option maxRecDepth 100000 in
set_option maxHeartbeats 8000000 in
theorem rterm_four (n : Nat) (ih : RrH n) (w : World) (o : Bool) (fs : List (ByteArray × List Tm)) (f : Option Addr) (fc : Nat) (hF : InF (fun t tl tc V => InV w n t tl tc V) w f fs.length fs) (hnm : ∀ x ∈ fs, x.1.size ≤ 140737488355328 ∧ NmV n x.2) (hln : ∀ x ∈ fs, LnV n x.2) :
    Calls Tryz.prog 39 #[tv 4 0 0 ⟨#[]⟩ false false o f fs.length fc] w (LackP (gtB n (.mk 4 0 0 ⟨#[]⟩ false false o fs)) w) := by
  obtain ⟨gg, hgg⟩ : ∃ g, gtB n (.mk 4 0 0 ⟨#[]⟩ false false o fs) = g := ⟨_, rfl⟩
  rw [hgg]
  have HGG := Lib.hid hgg
  have HF := Lib.hid hF
  have H1 := Lib.hid hF.2.2
  have z1 := hF.2.1
  have HNM := Lib.hid hnm
  have HLN := Lib.hid hln
  have IH := Lib.hid ih
  clear ih hF hnm hln hgg
  go_enter Tryz.func39, Tryz.ntmps39
  go_upto_region 1 with fail
  have HXE : ∃ X, w.alloc (.cells #[.int .i64 4, .int .i64 0, .int .i64 0, .string ⟨#[]⟩, .bool false, .bool false, .bool o, .slice f fs.length fc] 31) = X := ⟨_, rfl⟩
  obtain ⟨X, hX⟩ := HXE
  have HXB : Hid (Below w.heap.size w X ∧ Tc X w.heap.size 4 0 0 ⟨#[]⟩ false false o f fs.length fc ∧ w.heap.size < X.heap.size) := by
    rw [← hX]; exact ⟨bl_alloc (Below.refl _ _), Tc.new _ _ _ _ _ _ _ _ _ _ _, by simp⟩
  rw [hX]
  clear hX
  obtain ⟨v0, v1, v2, v3, v4, v5, v6, v7⟩ := HXB.out.2.1
  by_cases hlen : fs.length ≤ 32
  · have hlen' : (fs.length : Int) ≤ 32 := by omega
    have HNA := Lib.hid (fun (W : World) (hW : Below X.heap.size X W) => rnames_any _ W f fs.length fc fs (HF.out.below (fun _ _ _ _ h => InV.below (bl_step HXB.out.1 hW) h) (bl_step HXB.out.1 hW)) (by omega) (fun x hx => (HNM.out x hx).1))
    cases hr : Nm.risB (fs.map (·.1))
    · rw [hr] at HNA
      have HR := Lib.hid hr
      clear hr
      go_wp2_with (go_at_call 51; refine (HNA.out _ (Below.refl _ _)).mono ?_; rintro e w1 ⟨rfl, hB⟩; have HB := Lib.hid hB; clear hB)
      go_ret
      refine ⟨Nm.ret_bool ?_, bl_step HXB.out.1 HB.out⟩
      rw [← HGG.out]
      refine (gtB_no.2 fun h => ?_).symm
      have := Nm.ris_yes (xs := fs.map (·.1)) (by simpa using (gr_four0.1 h).1.2.1)
      rw [HR.out] at this; exact absurd this (by decide)
    · rw [hr] at HNA
      have HR := Lib.hid hr
      clear hr
      go_wp2_with (go_at_call 51; refine (HNA.out _ (Below.refl _ _)).mono ?_; rintro e w1 ⟨rfl, hB⟩; have HB := Lib.hid hB; clear hB)
      go_loopw [3] (fun i wr => ∃ k : Nat, k ≤ fs.length ∧ i = .int .i64 k ∧ Hid (GdF n fs k) ∧ Hid (Below X.heap.size X wr)) (fun i _ => fs.length - (intOf i).toNat)
      case atStart => exact ⟨0, Nat.zero_le _, rfl, fun j _ hj => absurd hj (Nat.not_lt_zero _), HB⟩
      case round =>
        obtain ⟨k, hk, rfl, hG, hB⟩ := hrel
        rename World => wr
        clear v0 v1 v2 v3 v4 v5 v6 v7
        obtain ⟨-, -, -, -, -, -, -, v7⟩ := HXB.out.2.1.later hB.out HXB.out.2.2
        have HBW := Lib.hid (bl_step HXB.out.1 hB.out)
        by_cases hlt : k < fs.length
        · have hki : (k : Int) < (fs.length : Int) := by omega
          have hk0 : (0 : Int) ≤ (k : Int) := by omega
          obtain ⟨b2, off2, tl2, tc2, t2, rfl, lt2, d0, d1, i2⟩ := H1.out k hlt
          replace d1 := (HBW.out.cell (p := ⟨b2, off2 + k * 2 + 1, none⟩) lt2).trans d1
          have hmem := List.getElem_mem hlt
          have HC := Lib.hid (IH.out wr t2 tl2 tc2 fs[k].2 (InV.below HBW.out i2) (HNM.out _ hmem).2 (HLN.out _ hmem))
          have HEL : Hid (fs[k].2.length = tl2) := by
            cases n with
            | zero => exact i2.elim
            | succ n => exact i2.1
          clear i2 lt2 d0
          obtain ⟨q, hq⟩ : ∃ q, rgV n fs[k].2 = q := ⟨_, rfl⟩
          rw [hq] at HC
          have HQ := Lib.hid hq
          clear hq hmem
          by_cases ht : tl2 = 0
          · subst ht
            go_wp2_with fail
            go_ret
            refine ⟨Nm.ret_bool ?_, HBW.out⟩
            rw [← HGG.out]
            exact (gtB_no.2 fun h => (gr_four0.1 h).2 _ (List.getElem_mem hlt) (List.eq_nil_of_length_eq_zero HEL.out)).symm
          · have ht' : ((tl2 : Int) == 0) = false := by simp; omega
            clear ht
            cases q
            · go_wp2_with (go_at_call 14; refine HC.out.mono ?_; rintro e w2 ⟨rfl, hB2⟩; have HB2 := Lib.hid hB2; clear hB2)
              go_ret
              refine ⟨Nm.ret_bool ?_, bl_step HBW.out HB2.out⟩
              rw [← HGG.out]
              exact (gtB_no.2 fun h => rgV_no.1 HQ.out ((gr_four0.1 h).1.2.2 _ (List.getElem_mem hlt))).symm
            · have HTL : Hid (tl2 ≠ 0) := by intro e; subst e; exact absurd ht' (by decide)
              go_wp2_with (go_at_call 14; refine HC.out.mono ?_; rintro e w2 ⟨rfl, hB2⟩; have HB2 := Lib.hid hB2; clear hB2)
              go_roundw
              case rel => exact ⟨k + 1, by omega, by go_num, fun j hj hjk => (by
                by_cases e : j = k
                · subst e
                  exact ⟨rgV_yes.1 HQ.out, fun c => HTL.out (by rw [← HEL.out, c]; rfl)⟩
                · exact hG.out j hj (by omega)), bl_step hB.out HB2.out⟩
              case measure => simp [intOf]; omega
        · have ek : k = fs.length := by omega
          subst ek
          go_wp2_with fail
          go_ret
          refine ⟨Nm.ret_bool ?_, HBW.out⟩
          rw [← HGG.out]
          refine (gtB_yes.2 (gr_four0.2 ⟨⟨by omega, by have h9 := @of_decide_eq_true _ (Classical.propDecidable _) (show @decide (Nm.Ris (fs.map (·.1)) (fs.map (·.1)).length) (Classical.propDecidable _) = true from HR.out); simpa using h9, fun f hf => ?_⟩, fun f hf => ?_⟩)).symm
          · obtain ⟨j, hj, rfl⟩ := List.getElem_of_mem hf; exact (hG.out j hj hj).1
          · obtain ⟨j, hj, rfl⟩ := List.getElem_of_mem hf; exact (hG.out j hj hj).2
  · have hlen' : ¬ (fs.length : Int) ≤ 32 := by omega
    have HN := Lib.hid hlen
    clear hlen
    go_wp2_with fail
    go_ret
    refine ⟨Nm.ret_bool ?_, HXB.out.1⟩
    rw [← HGG.out]
    exact (gtB_no.2 fun h => HN.out (gr_four0.1 h).1.1).symm
theorem rterm_tm (n : Nat) (ih : RrH n) (w : World) (x : Tm) (f : Option Addr) (fl fc : Nat) (hF : InF (fun t tl tc V => InV w n t tl tc V) w f fl x.fs) (hnm : ∀ f ∈ x.fs, f.1.size ≤ 140737488355328 ∧ NmV n f.2) (hln : ∀ f ∈ x.fs, LnV n f.2) :
    Calls Tryz.prog 39 #[tv x.k x.lo x.hi x.s x.y x.m x.o f fl fc] w (LackP (gtB n x) w) := by
  obtain rfl : x.fs.length = fl := hF.1
  obtain ⟨k, lo, hi, s, y, m, o, fs⟩ := x
  by_cases h5 : k = 5
  · subst h5; exact rterm_five n w lo hi s y m o fs f fs.length fc hF
  · by_cases h4 : k = 4
    · subst h4
      by_cases hz : lo = 0 ∧ hi = 0 ∧ s.toList = [] ∧ y = false ∧ m = false
      · obtain ⟨rfl, rfl, hs, rfl, rfl⟩ := hz
        obtain rfl : s = ⟨#[]⟩ := bytes_ext (hs.trans toList_nil.symm)
        exact rterm_four n ih w o fs f fc hF hnm hln
      · exact rterm_bad n w lo hi s y m o fs f fs.length fc hz
    · exact rterm_scal n w k lo hi s y m o fs f fc h5 h4
end Go.Proofs.YtddleeenlpigfaaGreatDoor
/- WALK of the reference's Right. -/
namespace Go.Proofs.YtddleeenlpigfaaGreatDoor
open Go.RowKit
/-- The first k terms are right, and rise. -/
def RiT (n : Nat) (A : List Tm) (k : Nat) : Prop := ∀ j (h : j < A.length), j < k → Gr1 n A[j] ∧ ∀ i (hi : i + 1 = j), cmpT (cmpV n) (A[i]'(by omega)) A[j] < 0
/-- None of the first k is below another one. -/
def ApT (n : Nat) (A : List Tm) (k : Nat) : Prop := ∀ i j (hi : i < A.length) (hj : j < A.length), i < k → i ≠ j → undT (undV n) A[i] A[j] = false
/-- This one is below none of the first m others. -/
def ApO (n : Nat) (A : List Tm) (i m : Nat) : Prop := ∀ j (hi : i < A.length) (hj : j < A.length), j < m → i ≠ j → undT (undV n) A[i] A[j] = false
set_option maxRecDepth 100000 in
set_option maxHeartbeats 8000000 in
theorem rrv_step (n : Nat) (ih : RrH n) : RrH (n + 1) := by
  intro w t tl tc A hv hnm hln
  have HV := Lib.hid hv
  obtain ⟨l1, z1, g1⟩ := hv
  subst l1
  have G1 := Lib.hid g1
  have IH := Lib.hid ih
  have HNM : Hid (∀ x ∈ A, ∀ f ∈ x.fs, f.1.size ≤ 140737488355328 ∧ NmV n f.2) := hnm
  have HLN : Hid (∀ x ∈ A, ∀ f ∈ x.fs, LnV n f.2) := hln.2
  obtain ⟨rr, hrr⟩ : ∃ r, rgV (n + 1) A = r := ⟨_, rfl⟩
  rw [hrr]
  have HRR : Hid ((RrP n A → rr = true) ∧ (¬ RrP n A → rr = false)) := by
    refine ⟨fun h => ?_, fun h => ?_⟩
    · rw [← hrr]; exact rgV_yes.2 ((rr_iff hln.1).1 h)
    · rw [← hrr]; exact rgV_no.2 fun c => h ((rr_iff hln.1).2 c)
  have HWT := Lib.hid (fun (W : World) (hW : Below w.heap.size w W) => rweight_in (n + 1) W t A.length tc A (InV.below hW HV.out))
  have HDP := Lib.hid (fun (W : World) (hW : Below w.heap.size w W) => rdepth_in (n + 1) W t A.length tc A (InV.below hW HV.out))
  have HWD : Hid (RrP n A → wtV (n + 1) A ≤ 512 ∧ depV (n + 1) A ≤ 16) := fun h => ⟨h.1, h.2.1⟩
  have HWR : Hid (wtV (n + 1) A ≤ 512 → depV (n + 1) A ≤ 16 → RiT n A A.length → ApT n A A.length → rr = true) := fun a b c d =>
    HRR.out.1 ⟨a, b, fun x hx => (by obtain ⟨j, hj, rfl⟩ := List.getElem_of_mem hx; exact (c j hj hj).1), fun i hi => (c (i + 1) hi hi).2 i rfl, fun i j hi hj => d i j hi hj hi⟩
  generalize wtV (n + 1) A = wt at *
  generalize depV (n + 1) A = dp at *
  clear g1 ih hnm hln hrr
  go_enter Tryz.func14, Tryz.ntmps14
  go_upto_region 1 with fail
  have HXE : ∃ X, w.alloc (.cells #[.slice t A.length tc] 24) = X := ⟨_, rfl⟩
  obtain ⟨X, hX⟩ := HXE
  have HXB : Hid (Below w.heap.size w X ∧ Bx X w.heap.size t A.length tc) := by
    rw [← hX]; exact ⟨bl_alloc (Below.refl _ _), ⟨by simp, by simp [go_sem]⟩⟩
  rw [hX]
  clear hX
  have bx := HXB.out.2.2
  by_cases hwt : 512 < wt
  · have HN : Hid (¬ RrP n A) := fun h => by have := (HWD.out h).1; omega
    clear HWR HWD
    go_wp2_with (go_at_call 37; refine (HWT.out _ HXB.out.1).mono ?_; rintro e w1 ⟨rfl, hB1⟩; have HB1 := Lib.hid hB1; clear hB1)
    go_ret
    exact ⟨Nm.ret_bool (HRR.out.2 HN.out).symm, bl_step HXB.out.1 HB1.out⟩
  by_cases hdp : 16 < dp
  · have HN : Hid (¬ RrP n A) := fun h => by have := (HWD.out h).2; omega
    clear HWR HWD
    go_wp2_with (first
      | (go_at_call 37; refine (HWT.out _ HXB.out.1).mono ?_; rintro e w1 ⟨rfl, hB1⟩; have HB1 := Lib.hid hB1; have bx1 := (HXB.out.2.later hB1).2; clear hB1)
      | (go_at_call 38; refine (HDP.out _ (bl_step HXB.out.1 HB1.out)).mono ?_; rintro e w2 ⟨rfl, hB2⟩; have HB2 := Lib.hid hB2; clear hB2))
    go_ret
    exact ⟨Nm.ret_bool (HRR.out.2 HN.out).symm, bl_step HXB.out.1 (bl_step HB1.out HB2.out)⟩
  have HWR2 : Hid (RiT n A A.length → ApT n A A.length → rr = true) := HWR.out (by omega) (by omega)
  clear HWR HWD
  go_wp2_with (first
    | (go_at_call 37; refine (HWT.out _ HXB.out.1).mono ?_; rintro e w1 ⟨rfl, hB1⟩; have HB1 := Lib.hid hB1; have bx1 := (HXB.out.2.later hB1).2; clear hB1)
    | (go_at_call 38; refine (HDP.out _ (bl_step HXB.out.1 HB1.out)).mono ?_; rintro e w2 ⟨rfl, hB2⟩; have HB2 := Lib.hid (bl_step HB1.out hB2); clear hB2))
  clear HWT HDP hwt hdp bx bx1
  go_loopw [3] (fun i wr => ∃ k : Nat, k ≤ A.length ∧ i = .int .i64 k ∧ Hid (RiT n A k) ∧ Hid (Below X.heap.size X wr)) (fun i _ => A.length - (intOf i).toNat)
  case atStart => exact ⟨0, Nat.zero_le _, rfl, fun j _ hj => absurd hj (Nat.not_lt_zero _), HB2⟩
  case round =>
    obtain ⟨k, hk, rfl, hT, hB⟩ := hrel
    rename World => wr
    have bx := (HXB.out.2.later hB.out).2
    have HBW := Lib.hid (bl_step HXB.out.1 hB.out)
    by_cases hlt : k < A.length
    · have hki : (k : Int) < (A.length : Int) := by omega
      have hk0 : (0 : Int) ≤ (k : Int) := by omega
      obtain ⟨b1, off1, rfl, i1⟩ := G1.out k hlt
      obtain ⟨lt1, xf, xl, xc, c0, c1, c2, c3, c4, c5, c6, c7, hF1⟩ := i1.cells
      have HF1 := Lib.hid hF1
      obtain ⟨q, hq⟩ : ∃ q, gtB n A[k] = q := ⟨_, rfl⟩
      have KC : Hid (∀ W, Below wr.heap.size wr W → Calls Tryz.prog 39 #[tv A[k].k A[k].lo A[k].hi A[k].s A[k].y A[k].m A[k].o xf xl xc] W fun e w' => e = .returned (.bool q) ∧ Below wr.heap.size wr w') := fun W hW => by
        have h := rterm_tm n IH.out W A[k] xf xl xc (HF1.out.below (fun _ _ _ _ h => InV.below (bl_step HBW.out hW) h) (bl_step HBW.out hW)) (HNM.out _ (List.getElem_mem hlt)) (HLN.out _ (List.getElem_mem hlt))
        rw [hq] at h
        exact h.mono fun _ _ ⟨a, b⟩ => ⟨a, bl_step hW b⟩
      have HQ := Lib.hid hq
      have P1 : Hid (∀ W, Below wr.heap.size wr W → W.cell? ⟨w.heap.size, 0, none⟩ = some (.slice (some ⟨b1, off1, none⟩) A.length tc)) := fun W hW => (HXB.out.2.later (bl_step hB.out hW)).2
      clear hq hF1 i1
      obtain ⟨xx, hxx⟩ : ∃ xx, A[k] = xx := ⟨_, rfl⟩
      have HXX := Lib.hid hxx
      rw [hxx] at c0 c1 c2 c3 c4 c5 c6 KC
      clear hxx
      by_cases hk1 : 0 < k
      · obtain ⟨j, rfl⟩ : ∃ j, k = j + 1 := ⟨k - 1, by omega⟩
        have hjl : j < A.length := by omega
        obtain ⟨b2, off2, e2, i2⟩ := G1.out j hjl
        obtain ⟨rfl, rfl⟩ : b1 = b2 ∧ off1 = off2 := by simpa using e2
        obtain ⟨lt2, yf, yl, yc, d0, d1, d2, d3, d4, d5, d6, d7, hF2⟩ := i2.cells
        obtain ⟨r, hr⟩ : ∃ r, cmpT (cmpV n) A[j] A[j + 1] = r := ⟨_, rfl⟩
        have KD : Hid (∀ W, Below wr.heap.size wr W → Calls Tryz.prog 40 #[tv A[j].k A[j].lo A[j].hi A[j].s A[j].y A[j].m A[j].o yf yl yc, tv A[j + 1].k A[j + 1].lo A[j + 1].hi A[j + 1].s A[j + 1].y A[j + 1].m A[j + 1].o xf xl xc] W fun e w' => e = .returned (.int .i64 r) ∧ Below wr.heap.size wr w') := fun W hW => by
          have h := rterms_in n (rcompare_in n) W A[j].k A[j].lo A[j].hi A[j].s A[j].y A[j].m A[j].o yf yl yc A[j].fs A[j + 1].k A[j + 1].lo A[j + 1].hi A[j + 1].s A[j + 1].y A[j + 1].m A[j + 1].o xf xl xc A[j + 1].fs (hF2.below (fun _ _ _ _ h => InV.below (bl_step HBW.out hW) h) (bl_step HBW.out hW)) (HF1.out.below (fun _ _ _ _ h => InV.below (bl_step HBW.out hW) h) (bl_step HBW.out hW))
          have e : ∀ x : Tm, Tm.mk x.k x.lo x.hi x.s x.y x.m x.o x.fs = x := fun x => by cases x; rfl
          rw [e, e, hr] at h
          exact h.mono fun _ _ ⟨a, b⟩ => ⟨a, bl_step hW b⟩
        have HRC := Lib.hid hr
        clear hr hF2 i2 e2
        obtain ⟨yy, hyy⟩ : ∃ yy, A[j] = yy := ⟨_, rfl⟩
        have HYY := Lib.hid hyy
        rw [hyy] at d0 d1 d2 d3 d4 d5 d6 KD
        clear hyy
        rw [HXX.out] at KD
        generalize xx.k = xak at *
        generalize xx.lo = xalo at *
        generalize xx.hi = xahi at *
        generalize xx.s = xas at *
        generalize xx.y = xay at *
        generalize xx.m = xam at *
        generalize xx.o = xao at *
        generalize yy.k = yak at *
        generalize yy.lo = yalo at *
        generalize yy.hi = yahi at *
        generalize yy.s = yas at *
        generalize yy.y = yay at *
        generalize yy.m = yam at *
        generalize yy.o = yao at *
        have VX : Hid (∀ W, Below wr.heap.size wr W → W.cell? ⟨b1, off1 + (j + 1) * 8, none⟩ = some (.int .i64 xak) ∧ W.cell? ⟨b1, off1 + (j + 1) * 8 + 1, none⟩ = some (.int .i64 xalo) ∧ W.cell? ⟨b1, off1 + (j + 1) * 8 + 2, none⟩ = some (.int .i64 xahi) ∧ W.cell? ⟨b1, off1 + (j + 1) * 8 + 3, none⟩ = some (.string xas) ∧ W.cell? ⟨b1, off1 + (j + 1) * 8 + 4, none⟩ = some (.bool xay) ∧ W.cell? ⟨b1, off1 + (j + 1) * 8 + 5, none⟩ = some (.bool xam) ∧ W.cell? ⟨b1, off1 + (j + 1) * 8 + 6, none⟩ = some (.bool xao) ∧ W.cell? ⟨b1, off1 + (j + 1) * 8 + 7, none⟩ = some (.slice xf xl xc)) := fun W hW => by
          have e : ∀ i, W.cell? ⟨b1, i, none⟩ = w.cell? ⟨b1, i, none⟩ := fun i => (bl_step HBW.out hW).cell (p := ⟨b1, i, none⟩) lt1
          rw [e, e, e, e, e, e, e, e]
          exact ⟨c0, c1, c2, c3, c4, c5, c6, c7⟩
        have VY : Hid (∀ W, Below wr.heap.size wr W → W.cell? ⟨b1, off1 + j * 8, none⟩ = some (.int .i64 yak) ∧ W.cell? ⟨b1, off1 + j * 8 + 1, none⟩ = some (.int .i64 yalo) ∧ W.cell? ⟨b1, off1 + j * 8 + 2, none⟩ = some (.int .i64 yahi) ∧ W.cell? ⟨b1, off1 + j * 8 + 3, none⟩ = some (.string yas) ∧ W.cell? ⟨b1, off1 + j * 8 + 4, none⟩ = some (.bool yay) ∧ W.cell? ⟨b1, off1 + j * 8 + 5, none⟩ = some (.bool yam) ∧ W.cell? ⟨b1, off1 + j * 8 + 6, none⟩ = some (.bool yao) ∧ W.cell? ⟨b1, off1 + j * 8 + 7, none⟩ = some (.slice yf yl yc)) := fun W hW => by
          have e : ∀ i, W.cell? ⟨b1, i, none⟩ = w.cell? ⟨b1, i, none⟩ := fun i => (bl_step HBW.out hW).cell (p := ⟨b1, i, none⟩) lt1
          rw [e, e, e, e, e, e, e, e]
          exact ⟨d0, d1, d2, d3, d4, d5, d6, d7⟩
        clear c0 c1 c2 c3 c4 c5 c6 c7 d0 d1 d2 d3 d4 d5 d6 d7
        cases q
        · go_upto_region 6 with fail
          refine region_class (C := fun W => Below wr.heap.size wr W) (by kernel_rfl) (by kernel_rfl) ((Below.refl _ _).drew) ?_
          repeat (first | go_big_quiet_skip | (go_big_quiet_want; go_big_quiet_op; first | go_big_quiet_on | (apply Exists.intro; refine ⟨fun W hW => ?_, ?_⟩; (first | rfl | exact (KC.out W hW) | exact (KD.out W hW) | (obtain ⟨q0, q1, q2, q3, q4, q5, q6, q7⟩ := VX.out W hW; go_simp; first | done | rfl | exact ⟨rfl, rfl⟩) | (obtain ⟨q0, q1, q2, q3, q4, q5, q6, q7⟩ := VY.out W hW; go_simp; first | done | rfl | exact ⟨rfl, rfl⟩) | (have q0 := P1.out W hW; go_simp; first | done | rfl | exact ⟨rfl, rfl⟩)); go_big_quiet_on)))
          refine wpQuiet_nil ?_
          intro w9 hW9
          go_wp2_with fail
          go_ret
          refine ⟨Nm.ret_bool (HRR.out.2 fun h => gtB_no.1 HQ.out (h.2.2.1 _ (List.getElem_mem hlt))).symm, bl_step HBW.out hW9⟩
        · by_cases hr0 : 0 ≤ r
          · have e9 : decide (0 ≤ r) = true := by simpa using hr0
            have HN := Lib.hid hr0
            clear hr0
            go_upto_region 6 with fail
            refine region_class (C := fun W => Below wr.heap.size wr W) (by kernel_rfl) (by kernel_rfl) ((Below.refl _ _).drew) ?_
            repeat (first | go_big_quiet_skip | (go_big_quiet_want; go_big_quiet_op; first | go_big_quiet_on | (apply Exists.intro; refine ⟨fun W hW => ?_, ?_⟩; (first | rfl | exact (KC.out W hW) | exact (KD.out W hW) | (obtain ⟨q0, q1, q2, q3, q4, q5, q6, q7⟩ := VX.out W hW; go_simp; first | done | rfl | exact ⟨rfl, rfl⟩) | (obtain ⟨q0, q1, q2, q3, q4, q5, q6, q7⟩ := VY.out W hW; go_simp; first | done | rfl | exact ⟨rfl, rfl⟩) | (have q0 := P1.out W hW; go_simp; first | done | rfl | exact ⟨rfl, rfl⟩)); go_big_quiet_on)))
            refine wpQuiet_nil ?_
            intro w9 hW9
            go_wp2_with fail
            go_ret
            refine ⟨Nm.ret_bool (HRR.out.2 fun h => ?_).symm, bl_step HBW.out hW9⟩
            have h1 := h.2.2.2.1 j hlt
            have h2 := HRC.out
            have h3 := HN.out
            omega
          · have e9 : decide (0 ≤ r) = false := by simpa using hr0
            have HN := Lib.hid hr0
            clear hr0
            go_upto_region 6 with fail
            refine region_class (C := fun W => Below wr.heap.size wr W) (by kernel_rfl) (by kernel_rfl) ((Below.refl _ _).drew) ?_
            repeat (first | go_big_quiet_skip | (go_big_quiet_want; go_big_quiet_op; first | go_big_quiet_on | (apply Exists.intro; refine ⟨fun W hW => ?_, ?_⟩; (first | rfl | exact (KC.out W hW) | exact (KD.out W hW) | (obtain ⟨q0, q1, q2, q3, q4, q5, q6, q7⟩ := VX.out W hW; go_simp; first | done | rfl | exact ⟨rfl, rfl⟩) | (obtain ⟨q0, q1, q2, q3, q4, q5, q6, q7⟩ := VY.out W hW; go_simp; first | done | rfl | exact ⟨rfl, rfl⟩) | (have q0 := P1.out W hW; go_simp; first | done | rfl | exact ⟨rfl, rfl⟩)); go_big_quiet_on)))
            refine wpQuiet_nil ?_
            intro w9 hW9
            have HB9 := Lib.hid (bl_step hB.out hW9)
            clear hW9 KC KD VX VY P1 bx
            go_wp2_with fail
            go_roundw
            case rel => exact ⟨j + 1 + 1, by omega, by go_num, fun i hi hik => (by
              by_cases e : i = j + 1
              · subst e
                refine ⟨gtB_yes.1 HQ.out, fun i2 hi2 => ?_⟩
                obtain rfl : i2 = j := by omega
                have h2 := HRC.out
                have h3 := HN.out
                omega
              · exact hT.out i hi (by omega)), HB9⟩
            case measure => simp [intOf]; omega
      · obtain rfl : k = 0 := by omega
        clear hk1
        generalize xx.k = xak at *
        generalize xx.lo = xalo at *
        generalize xx.hi = xahi at *
        generalize xx.s = xas at *
        generalize xx.y = xay at *
        generalize xx.m = xam at *
        generalize xx.o = xao at *
        have VX : Hid (∀ W, Below wr.heap.size wr W → W.cell? ⟨b1, off1, none⟩ = some (.int .i64 xak) ∧ W.cell? ⟨b1, off1 + 1, none⟩ = some (.int .i64 xalo) ∧ W.cell? ⟨b1, off1 + 2, none⟩ = some (.int .i64 xahi) ∧ W.cell? ⟨b1, off1 + 3, none⟩ = some (.string xas) ∧ W.cell? ⟨b1, off1 + 4, none⟩ = some (.bool xay) ∧ W.cell? ⟨b1, off1 + 5, none⟩ = some (.bool xam) ∧ W.cell? ⟨b1, off1 + 6, none⟩ = some (.bool xao) ∧ W.cell? ⟨b1, off1 + 7, none⟩ = some (.slice xf xl xc)) := fun W hW => by
          have e : ∀ i, W.cell? ⟨b1, i, none⟩ = w.cell? ⟨b1, i, none⟩ := fun i => (bl_step HBW.out hW).cell (p := ⟨b1, i, none⟩) lt1
          rw [e, e, e, e, e, e, e, e]
          rw [Nat.zero_mul, Nat.add_zero] at c0 c1 c2 c3 c4 c5 c6 c7
          exact ⟨c0, c1, c2, c3, c4, c5, c6, c7⟩
        clear c0 c1 c2 c3 c4 c5 c6 c7
        cases q
        · go_upto_region 6 with fail
          refine region_class (C := fun W => Below wr.heap.size wr W) (by kernel_rfl) (by kernel_rfl) ((Below.refl _ _).drew) ?_
          repeat (first | go_big_quiet_skip | (go_big_quiet_want; go_big_quiet_op; first | go_big_quiet_on | (apply Exists.intro; refine ⟨fun W hW => ?_, ?_⟩; (first | rfl | exact (KC.out W hW) | (obtain ⟨q0, q1, q2, q3, q4, q5, q6, q7⟩ := VX.out W hW; go_simp; first | done | rfl | exact ⟨rfl, rfl⟩) | (have q0 := P1.out W hW; go_simp; first | done | rfl | exact ⟨rfl, rfl⟩)); go_big_quiet_on)))
          refine wpQuiet_nil ?_
          intro w9 hW9
          go_wp2_with fail
          go_ret
          refine ⟨Nm.ret_bool (HRR.out.2 fun h => gtB_no.1 HQ.out (h.2.2.1 _ (List.getElem_mem hlt))).symm, bl_step HBW.out hW9⟩
        · go_upto_region 6 with fail
          refine region_class (C := fun W => Below wr.heap.size wr W) (by kernel_rfl) (by kernel_rfl) ((Below.refl _ _).drew) ?_
          repeat (first | go_big_quiet_skip | (go_big_quiet_want; go_big_quiet_op; first | go_big_quiet_on | (apply Exists.intro; refine ⟨fun W hW => ?_, ?_⟩; (first | rfl | exact (KC.out W hW) | (obtain ⟨q0, q1, q2, q3, q4, q5, q6, q7⟩ := VX.out W hW; go_simp; first | done | rfl | exact ⟨rfl, rfl⟩) | (have q0 := P1.out W hW; go_simp; first | done | rfl | exact ⟨rfl, rfl⟩)); go_big_quiet_on)))
          refine wpQuiet_nil ?_
          intro w9 hW9
          have HB9 := Lib.hid (bl_step hB.out hW9)
          clear hW9 KC VX P1 bx
          go_wp2_with fail
          go_roundw
          case rel => exact ⟨1, by omega, by go_num, fun i hi hik => (by
            obtain rfl : i = 0 := by omega
            exact ⟨gtB_yes.1 HQ.out, fun i2 hi2 => absurd hi2 (by omega)⟩), HB9⟩
          case measure => simp [intOf]; omega
    · have ek : k = A.length := by omega
      subst ek
      have HTT := Lib.hid hT.out
      clear hT hk hlt
      go_wp2_with fail
      go_loopw [4] (fun i wr => ∃ k : Nat, k ≤ A.length ∧ i = .int .i64 k ∧ Hid (ApT n A k) ∧ Hid (Below X.heap.size X wr)) (fun i _ => A.length - (intOf i).toNat)
      case atStart => exact ⟨0, Nat.zero_le _, rfl, fun i j _ _ hj => absurd hj (Nat.not_lt_zero _), hB⟩
      case round =>
        clear bx
        obtain ⟨k, hk, rfl, hT, hB⟩ := hrel
        rename World => wo
        have bx := (HXB.out.2.later hB.out).2
        by_cases hlt : k < A.length
        · have hki : (k : Int) < (A.length : Int) := by omega
          have hk0 : (0 : Int) ≤ (k : Int) := by omega
          go_wp2_with fail
          go_loopw [5] (fun i wr => ∃ j : Nat, j ≤ A.length ∧ i = .int .i64 j ∧ Hid (ApO n A k j) ∧ Hid (Below X.heap.size X wr)) (fun i _ => A.length - (intOf i).toNat)
          case atStart => exact ⟨0, Nat.zero_le _, rfl, fun j _ _ hj => absurd hj (Nat.not_lt_zero _), hB⟩
          case round =>
            clear bx
            obtain ⟨j, hj, rfl, hO, hBi⟩ := hrel
            rename World => wr
            have bx := (HXB.out.2.later hBi.out).2
            have HBW := Lib.hid (bl_step HXB.out.1 hBi.out)
            by_cases hjl : j < A.length
            · have hji : (j : Int) < (A.length : Int) := by omega
              have hj0 : (0 : Int) ≤ (j : Int) := by omega
              by_cases hkj : k = j
              · subst hkj
                obtain ⟨b1, off1, rfl, i1⟩ := G1.out k hlt
                have P1 : Hid (∀ W, Below wr.heap.size wr W → W.cell? ⟨w.heap.size, 0, none⟩ = some (.slice (some ⟨b1, off1, none⟩) A.length tc)) := fun W hW => (HXB.out.2.later (bl_step hBi.out hW)).2
                clear i1
                go_upto_region 14 with fail
                refine region_class (C := fun W => Below wr.heap.size wr W) (by kernel_rfl) (by kernel_rfl) ((Below.refl _ _).drew) ?_
                repeat (first | go_big_quiet_skip | (go_big_quiet_want; go_big_quiet_op; first | go_big_quiet_on | (apply Exists.intro; refine ⟨fun W hW => ?_, ?_⟩; (first | rfl | (have q0 := P1.out W hW; go_simp; first | done | rfl | exact ⟨rfl, rfl⟩)); go_big_quiet_on)))
                refine wpQuiet_nil ?_
                intro w9 hW9
                have HB9 := Lib.hid (bl_step hBi.out hW9)
                clear hW9 P1 bx
                go_wp2_with fail
                go_roundw
                case rel => exact ⟨k + 1, by omega, by go_num, fun i hi hj hij hne => hO.out i hi hj (by omega) hne, HB9⟩
                case measure => simp [intOf]; omega
              · obtain ⟨b1, off1, rfl, i1⟩ := G1.out k hlt
                obtain ⟨b2, off2, e2, i2⟩ := G1.out j hjl
                obtain ⟨rfl, rfl⟩ : b1 = b2 ∧ off1 = off2 := by simpa using e2
                obtain ⟨lt1, xf, xl, xc, c0, c1, c2, c3, c4, c5, c6, c7, hF1⟩ := i1.cells
                obtain ⟨lt2, yf, yl, yc, d0, d1, d2, d3, d4, d5, d6, d7, hF2⟩ := i2.cells
                obtain ⟨q, hq⟩ : ∃ q, undT (undV n) A[k] A[j] = q := ⟨_, rfl⟩
                have KC : Hid (∀ W, Below wr.heap.size wr W → Calls Tryz.prog 41 #[tv A[k].k A[k].lo A[k].hi A[k].s A[k].y A[k].m A[k].o xf xl xc, tv A[j].k A[j].lo A[j].hi A[j].s A[j].y A[j].m A[j].o yf yl yc] W fun e w' => e = .returned (.bool q) ∧ Below wr.heap.size wr w') := fun W hW => by
                  have h := runder_tm n (runder_in n) W A[k] A[j] xf xl xc yf yl yc (hF1.below (fun _ _ _ _ h => InV.below (bl_step HBW.out hW) h) (bl_step HBW.out hW)) (hF2.below (fun _ _ _ _ h => InV.below (bl_step HBW.out hW) h) (bl_step HBW.out hW))
                  rw [hq] at h
                  exact h.mono fun _ _ ⟨a, b⟩ => ⟨a, bl_step hW b⟩
                have QQ := Lib.hid hq
                have P1 : Hid (∀ W, Below wr.heap.size wr W → W.cell? ⟨w.heap.size, 0, none⟩ = some (.slice (some ⟨b1, off1, none⟩) A.length tc)) := fun W hW => (HXB.out.2.later (bl_step hBi.out hW)).2
                have ekj : ((k : Int) != (j : Int)) = true := by simp; omega
                clear hq hF1 hF2 i1 i2 e2
                have HKJ := Lib.hid hkj
                clear hkj
                obtain ⟨xx, hxx⟩ : ∃ xx, A[k] = xx := ⟨_, rfl⟩
                have HXX := Lib.hid hxx
                obtain ⟨yy, hyy⟩ : ∃ yy, A[j] = yy := ⟨_, rfl⟩
                have HYY := Lib.hid hyy
                rw [hxx] at c0 c1 c2 c3 c4 c5 c6
                rw [hyy] at d0 d1 d2 d3 d4 d5 d6
                rw [hxx, hyy] at KC
                clear hxx hyy
                generalize xx.k = xak at *
                generalize xx.lo = xalo at *
                generalize xx.hi = xahi at *
                generalize xx.s = xas at *
                generalize xx.y = xay at *
                generalize xx.m = xam at *
                generalize xx.o = xao at *
                generalize yy.k = yak at *
                generalize yy.lo = yalo at *
                generalize yy.hi = yahi at *
                generalize yy.s = yas at *
                generalize yy.y = yay at *
                generalize yy.m = yam at *
                generalize yy.o = yao at *
                have VX : Hid (∀ W, Below wr.heap.size wr W → W.cell? ⟨b1, off1 + k * 8, none⟩ = some (.int .i64 xak) ∧ W.cell? ⟨b1, off1 + k * 8 + 1, none⟩ = some (.int .i64 xalo) ∧ W.cell? ⟨b1, off1 + k * 8 + 2, none⟩ = some (.int .i64 xahi) ∧ W.cell? ⟨b1, off1 + k * 8 + 3, none⟩ = some (.string xas) ∧ W.cell? ⟨b1, off1 + k * 8 + 4, none⟩ = some (.bool xay) ∧ W.cell? ⟨b1, off1 + k * 8 + 5, none⟩ = some (.bool xam) ∧ W.cell? ⟨b1, off1 + k * 8 + 6, none⟩ = some (.bool xao) ∧ W.cell? ⟨b1, off1 + k * 8 + 7, none⟩ = some (.slice xf xl xc)) := fun W hW => by
                  have e : ∀ i, W.cell? ⟨b1, i, none⟩ = w.cell? ⟨b1, i, none⟩ := fun i => (bl_step HBW.out hW).cell (p := ⟨b1, i, none⟩) lt1
                  rw [e, e, e, e, e, e, e, e]
                  exact ⟨c0, c1, c2, c3, c4, c5, c6, c7⟩
                have VY : Hid (∀ W, Below wr.heap.size wr W → W.cell? ⟨b1, off1 + j * 8, none⟩ = some (.int .i64 yak) ∧ W.cell? ⟨b1, off1 + j * 8 + 1, none⟩ = some (.int .i64 yalo) ∧ W.cell? ⟨b1, off1 + j * 8 + 2, none⟩ = some (.int .i64 yahi) ∧ W.cell? ⟨b1, off1 + j * 8 + 3, none⟩ = some (.string yas) ∧ W.cell? ⟨b1, off1 + j * 8 + 4, none⟩ = some (.bool yay) ∧ W.cell? ⟨b1, off1 + j * 8 + 5, none⟩ = some (.bool yam) ∧ W.cell? ⟨b1, off1 + j * 8 + 6, none⟩ = some (.bool yao) ∧ W.cell? ⟨b1, off1 + j * 8 + 7, none⟩ = some (.slice yf yl yc)) := fun W hW => by
                  have e : ∀ i, W.cell? ⟨b1, i, none⟩ = w.cell? ⟨b1, i, none⟩ := fun i => (bl_step HBW.out hW).cell (p := ⟨b1, i, none⟩) lt1
                  rw [e, e, e, e, e, e, e, e]
                  exact ⟨d0, d1, d2, d3, d4, d5, d6, d7⟩
                clear c0 c1 c2 c3 c4 c5 c6 c7 d0 d1 d2 d3 d4 d5 d6 d7
                go_upto_region 14 with fail
                refine region_class (C := fun W => Below wr.heap.size wr W) (by kernel_rfl) (by kernel_rfl) ((Below.refl _ _).drew) ?_
                repeat (first | go_big_quiet_skip | (go_big_quiet_want; go_big_quiet_op; first | go_big_quiet_on | (apply Exists.intro; refine ⟨fun W hW => ?_, ?_⟩; (first | rfl | exact (KC.out W hW) | (obtain ⟨q0, q1, q2, q3, q4, q5, q6, q7⟩ := VX.out W hW; go_simp; first | done | rfl | exact ⟨rfl, rfl⟩) | (obtain ⟨q0, q1, q2, q3, q4, q5, q6, q7⟩ := VY.out W hW; go_simp; first | done | rfl | exact ⟨rfl, rfl⟩) | (have q0 := P1.out W hW; go_simp; first | done | rfl | exact ⟨rfl, rfl⟩)); go_big_quiet_on)))
                refine wpQuiet_nil ?_
                intro w9 hW9
                have HB9 := Lib.hid (bl_step hBi.out hW9)
                have HW9 := Lib.hid (bl_step HBW.out hW9)
                clear hW9 KC VX VY P1 bx
                cases q
                · go_wp2_with fail
                  go_roundw
                  case rel => exact ⟨j + 1, by omega, by go_num, fun i hi hj hij hne => (by
                    by_cases e : i = j
                    · subst e; exact QQ.out
                    · exact hO.out i hi hj (by omega) hne), HB9⟩
                  case measure => simp [intOf]; omega
                · go_wp2_with fail
                  go_ret
                  refine ⟨Nm.ret_bool (HRR.out.2 fun h => ?_).symm, HW9.out⟩
                  have h1 := h.2.2.2.2 k j hlt hjl HKJ.out
                  rw [QQ.out] at h1
                  exact absurd h1 (by decide)
            · have ej : j = A.length := by omega
              subst ej
              go_wp2_with fail
              go_roundw
              case rel => exact ⟨k + 1, by omega, by go_num, fun i j2 hi hj hik hne => (by
                by_cases e : i = k
                · subst e; exact hO.out j2 hi hj hj hne
                · exact hT.out i j2 hi hj (by omega) hne), hBi⟩
              case measure => simp [intOf]; omega
        · have ek : k = A.length := by omega
          subst ek
          go_wp2_with fail
          go_ret
          exact ⟨Nm.ret_bool (HWR2.out HTT.out hT.out).symm, bl_step HXB.out.1 hB.out⟩
theorem rrv_in : ∀ n : Nat, RrH n
  | 0 => fun _ _ _ _ _ h _ _ => h.elim
  | n + 1 => rrv_step n (rrv_in n)
end Go.Proofs.YtddleeenlpigfaaGreatDoor
/- PLAIN MATHEMATICS: the page's examples. -/
namespace Go.Proofs.YtddleeenlpigfaaGreatDoor
open Go.RowKit
def nu (lo hi : Int) : List Tm := [.mk 2 lo hi ⟨#[]⟩ false false false []]
theorem rg_nu {lo hi : Int} (h : scR (.mk 2 lo hi ⟨#[]⟩ false false false [])) : RG 1 (nu lo hi) :=
  ⟨⟨fun x hx => by rw [List.mem_singleton.1 hx]; exact h, List.pairwise_singleton _ _, List.pairwise_singleton _ _⟩, show (1 : Nat) ≤ 512 by decide⟩
theorem nm_nu {lo hi : Int} : NmV 1 (nu lo hi) := fun x hx f hf => by
  rw [List.mem_singleton.1 hx] at hf
  exact absurd (show f ∈ ([] : List Fd) from hf) (by simp)
end Go.Proofs.YtddleeenlpigfaaGreatDoor
/- WALK of awake. -/
namespace Go.Proofs.YtddleeenlpigfaaGreatDoor
open Go.RowKit
end Go.Proofs.YtddleeenlpigfaaGreatDoor
