/- WALKS of the reference's put and Norm, told by blocks. -/
import Derived.Test.YtddleeenlpigfaaGreatDoorTg
import Derived.Test.YtddleeenlpigfaaGreatDoorUb
namespace Go.Proofs.YtddleeenlpigfaaGreatDoor
open Go.RowKit
def PutQ (P : Nat → Prop) (n : Nat) (B : List Tm) (w : World) (e : Ending) (w' : World) : Prop :=
  ∃ (t : Option Addr) (tl tc : Nat), e = .returned (.slice t tl tc) ∧ Below w.heap.size w w' ∧ InVP (fun b => P b ∨ w.heap.size ≤ b) w' (n + 1) t tl tc B
theorem okQ {P : Nat → Prop} {n : Nat} {w w' : World} {h : Hr} (hb : Below w.heap.size w w') (k : h.okP P n w) : h.okP (fun b => P b ∨ w.heap.size ≤ b) n w' := k.to hb.size fun b hp lt => ⟨.inl hp, hb.block b lt⟩
theorem okR {P : Nat → Prop} {n : Nat} {w w' : World} {h : Hr} (hb : Below w.heap.size w w') (k : h.okP P n w) : h.okP (fun b => P b ∨ w.heap.size < b) n w' := k.to hb.size fun b hp lt => ⟨.inl hp, hb.block b lt⟩
set_option maxRecDepth 100000 in
set_option maxHeartbeats 8000000 in
theorem putP_any (P : Nat → Prop) (n : Nat) (w : World) (t : Option Addr) (tl tc : Nat) (S : List Tm) (hS : InVP P w (n + 1) t tl tc S) (hU : Ups (cmpT (cmpV n)) S) (hz : (S.length + 3) * 72 ≤ 140737488355328) (h0 : Hr) (k0 : h0.okP P n w) :
    Calls Tryz.prog 77 #[.slice t tl tc, h0.v] w (PutQ P n (putL (cmpT (cmpV n)) h0.x S) w) := by
  obtain ⟨⟨kd, lo, hi, s, y, m, o, fs⟩, f, fl, fc⟩ := h0
  obtain ⟨d, hd, hokP, hrow⟩ := pheads hS
  have hok : ∀ h ∈ d, h.ok n w := fun h hh => (hokP h hh).ok
  have hll : d.length = tl := by rw [← hS.1, ← hd, List.length_map]
  have HSW := Lib.hid (fun (W : World) (hW : Below w.heap.size w W) => (show InVP (fun b => P b ∨ w.heap.size ≤ b) W (n + 1) t tl tc S from (InVP.below hW hS).imp fun b h _ => .inl h))
  subst hd
  have HU := Lib.hid hU
  have HZ : Hid ((d.length + 3) * 72 ≤ 140737488355328) := Lib.hid (by simpa using hz)
  have HD := Lib.hid (And.intro hok hrow)
  have HK0 := Lib.hid k0
  have HDP := Lib.hid hokP
  have HCAL := Lib.hid (fun (W : World) (hW : Below w.heap.size w W) (h : Hr) (hh : h ∈ d) => tms_call n ⟨.mk kd lo hi s y m o fs, f, fl, fc⟩ h W (k0.ok.below hW) ((hok h hh).below hW))
  have hz' := HZ.out
  have hzl : (d.length : Int) ≤ 9223372036854775807 := by omega
  subst hll
  clear hS hU hz hok hokP hrow k0
  obtain ⟨X, hX⟩ : ∃ X, w.alloc (.cells #[.int .i64 kd, .int .i64 lo, .int .i64 hi, .string s, .bool y, .bool m, .bool o, .slice f fl fc] 31) = X := ⟨_, rfl⟩
  have HXB : Hid (Below w.heap.size w X ∧ w.heap.size < X.heap.size ∧ T8 X w.heap.size 0 ⟨.mk kd lo hi s y m o fs, f, fl, fc⟩) := by
    rw [← hX]
    exact Lib.hid ⟨bl_alloc (Below.refl _ _), by simp, T8.box0 w ⟨.mk kd lo hi s y m o fs, f, fl, fc⟩ 31⟩
  have VB : Hid (∀ W, Below X.heap.size X W → T8 W w.heap.size 0 ⟨.mk kd lo hi s y m o fs, f, fl, fc⟩) := Lib.hid fun W hW => HXB.out.2.2.to (fun r _ => hW.cell (p := ⟨w.heap.size, 0 + r, none⟩) HXB.out.2.1)
  have HTD : Hid (∀ j (hj : j < d.length), ∃ b off, t = some ⟨b, off, none⟩ ∧ b < w.heap.size ∧ T8 w b (off + j * 8) d[j]) := Lib.hid fun j hj => by
    obtain ⟨b, off, e, -⟩ := (HSW.out w (Below.refl _ _)).2.2 j (by simpa using hj)
    exact ⟨b, off, e, HD.out.2 b off e j hj⟩
  show Calls Tryz.prog 77 #[.slice t d.length tc, tv kd lo hi s y m o f fl fc] w _
  go_enter Tryz.func77, Tryz.ntmps77
  go_upto_region 1 with fail
  clear hX
  go_wp2_with fail
  go_loopw [5, 6, 7] (fun u b i wr => ∃ (k : Nat) (inb : Bool) (O : List Hr), k ≤ d.length ∧ b = .bool inb ∧ i = .int .i64 k ∧ Hid (PutI (cmpT (cmpV n)) (Tm.mk kd lo hi s y m o fs) (d.map (·.x)) k inb (O.map (·.x))) ∧ Hid (OwnH wr X.heap.size u O) ∧ Hid (∀ h ∈ O, h.okP P n w) ∧ Hid (O.length ≤ k + 1) ∧ Hid (Below X.heap.size X wr)) (fun _ _ i _ => d.length - (intOf i).toNat)
  case atStart => exact ⟨0, false, [], Nat.zero_le _, rfl, rfl, Lib.hid putI_zero, Lib.hid (OwnH.nil _ _), Lib.hid (by simp), Lib.hid (by simp), Lib.hid (Below.refl _ _)⟩
  case round =>
    obtain ⟨k, inb, O, hk, rfl, rfl, hI, hO, hOk, hOl, hB⟩ := hrel
    rename World => wr
    by_cases hlt : k < d.length
    · have hki : (k : Int) < (d.length : Int) := by omega
      have hk0 : (0 : Int) ≤ (k : Int) := by omega
      obtain ⟨b, off, rfl, hbw, hrk⟩ := HTD.out k hlt
      have HRK : Hid (∀ W, Below X.heap.size X W → T8 W b (off + k * 8) d[k]) := Lib.hid fun W hW => hrk.to (fun r _ => (bl_step HXB.out.1 hW).cell (p := ⟨b, off + k * 8 + r, none⟩) hbw)
      have HKD : Hid (d[k].okP P n w) := Lib.hid (HDP.out _ (List.getElem_mem hlt))
      have HCK := Lib.hid (fun (W : World) (hW : Below X.heap.size X W) => HCAL.out W (bl_step HXB.out.1 hW) d[k] (List.getElem_mem hlt))
      have HX : (d.map (·.x))[k]'(by simpa using hlt) = d[k].x := by simp
      have HI : Hid ((∀ r, cmpT (cmpV n) (Tm.mk kd lo hi s y m o fs) d[k].x = r → (r = 0 → putL (cmpT (cmpV n)) (Tm.mk kd lo hi s y m o fs) (d.map (·.x)) = d.map (·.x)) ∧ (r < 0 → inb = false → PutI (cmpT (cmpV n)) (Tm.mk kd lo hi s y m o fs) (d.map (·.x)) (k + 1) true (O.map (·.x) ++ [(Tm.mk kd lo hi s y m o fs)] ++ [d[k].x])) ∧ (inb = true → PutI (cmpT (cmpV n)) (Tm.mk kd lo hi s y m o fs) (d.map (·.x)) (k + 1) true (O.map (·.x) ++ [d[k].x])) ∧ (0 < r → inb = false → PutI (cmpT (cmpV n)) (Tm.mk kd lo hi s y m o fs) (d.map (·.x)) (k + 1) false (O.map (·.x) ++ [d[k].x])))) := Lib.hid fun r hr => by
        have hl' : k < (d.map (·.x)).length := by simpa using hlt
        rw [← HX] at hr ⊢
        refine ⟨fun e => putI_same hI.out hl' (by omega), fun e e2 => ?_, fun e2 => ?_, fun e e2 => ?_⟩
        · subst e2; exact putI_first (cmpT_cmp n) HU.out hI.out hl' (by omega)
        · subst e2; exact putI_in hI.out hl'
        · subst e2; exact putI_out hI.out hl' (by omega)
      obtain ⟨hk5, hhk⟩ : ∃ q, d[k] = q := ⟨_, rfl⟩
      rw [hhk] at HRK HKD HCK HI
      have HLO : Hid (inb = false → O.length ≤ k) := Lib.hid fun e => by
        have h := congrArg List.length (hI.out.2 e).1
        rw [List.length_map, List.length_take] at h; omega
      clear hrk HX hI hhk
      obtain ⟨⟨k5, lo5, hi5, s5, y5, m5, o5, g5⟩, f5, fl5, fc5⟩ := hk5
      simp only [Hr.v, Tm.k, Tm.lo, Tm.hi, Tm.s, Tm.y, Tm.m, Tm.o] at HCK
      obtain ⟨r, hr⟩ : ∃ r, cmpT (cmpV n) (Tm.mk kd lo hi s y m o fs) (Tm.mk k5 lo5 hi5 s5 y5 m5 o5 g5) = r := ⟨_, rfl⟩
      have HI2 := Lib.hid (HI.out r hr)
      have KC : Hid (∀ W, Below wr.heap.size wr W → Calls Tryz.prog 40 #[tv kd lo hi s y m o f fl fc, tv k5 lo5 hi5 s5 y5 m5 o5 f5 fl5 fc5] W fun e w' => e = .returned (.int .i64 r) ∧ Below wr.heap.size wr w') := Lib.hid fun W hW => by
        have h := HCK.out W (bl_step hB.out hW)
        rw [hr] at h
        exact h.mono fun _ _ ⟨a, b⟩ => ⟨a, bl_step hW b⟩
      clear hr HI HCK
      go_upto_region 6 with fail
      refine region_class (C := fun W => Below wr.heap.size wr W) (by kernel_rfl) (by kernel_rfl) ((Below.refl _ _).drew) ?_
      repeat (first | go_big_quiet_skip | (go_big_quiet_want; go_big_quiet_op; first | go_big_quiet_on | (apply Exists.intro; refine ⟨fun W hW => ?_, ?_⟩; (first | rfl | with_reducible exact (KC.out W hW) | (obtain ⟨q0, q1, q2, q3, q4, q5, q6, q7⟩ := VB.out W (bl_step hB.out hW); obtain ⟨p0, p1, p2, p3, p4, p5, p6, p7⟩ := HRK.out W (bl_step hB.out hW); simp only [Tm.k, Tm.lo, Tm.hi, Tm.s, Tm.y, Tm.m, Tm.o] at q0 q1 q2 q3 q4 q5 q6 q7; simp only [Tm.k, Tm.lo, Tm.hi, Tm.s, Tm.y, Tm.m, Tm.o] at p0 p1 p2 p3 p4 p5 p6 p7; go_simp; first | done | rfl | exact ⟨rfl, rfl⟩)); go_big_quiet_on)))
      refine wpQuiet_nil ?_
      intro w9 hW9
      have HB9 := Lib.hid (bl_step hB.out hW9)
      have HO9 := Lib.hid (hO.out.below hW9)
      clear hW9 KC
      have HOL : Hid (O.length ≤ k + 1 ∧ k < d.length) := Lib.hid ⟨hOl.out, hlt⟩
      obtain ⟨p0, p1, p2, p3, p4, p5, p6, p7⟩ := HRK.out w9 HB9.out
      simp only [Tm.k, Tm.lo, Tm.hi, Tm.s, Tm.y, Tm.m, Tm.o] at p0 p1 p2 p3 p4 p5 p6 p7
      rcases Int.lt_trichotomy r 0 with hr | rfl | hr
      · have e0 : (r == 0) = false := by simp; omega
        cases inb
        · obtain ⟨g1, cap1, v1, hap1, hb1, ho1⟩ := HO9.out.append (by have := HOL.out; have := HZ.out; omega) HB9.out.size (⟨.mk kd lo hi s y m o fs, f, fl, fc⟩ : Hr)
          have HB10 : Hid (Below X.heap.size X v1) := Lib.hid (HB9.out.trans hb1)
          obtain ⟨g2, cap2, v2, hap2, hb2, ho2⟩ := ho1.append (by have e := len_snoc O (⟨.mk kd lo hi s y m o fs, f, fl, fc⟩ : Hr); have := HOL.out; have := HZ.out; omega) HB10.out.size (⟨.mk k5 lo5 hi5 s5 y5 m5 o5 g5, f5, fl5, fc5⟩ : Hr)
          have HB11 : Hid (Below X.heap.size X v2) := Lib.hid (HB10.out.trans hb2)
          have HAP1 := Lib.hid hap1
          have HAP2 := Lib.hid hap2
          have HO2 := Lib.hid ho2
          have HIN := Lib.hid (HI2.out.2.1 hr rfl)
          obtain ⟨q0, q1, q2, q3, q4, q5, q6, q7⟩ := VB.out w9 HB9.out
          simp only [Tm.k, Tm.lo, Tm.hi, Tm.s, Tm.y, Tm.m, Tm.o] at q0 q1 q2 q3 q4 q5 q6 q7
          clear p0 p1 p2 p3 p4 p5 p6 p7
          obtain ⟨p0, p1, p2, p3, p4, p5, p6, p7⟩ := HRK.out v1 HB10.out
          simp only [Tm.k, Tm.lo, Tm.hi, Tm.s, Tm.y, Tm.m, Tm.o] at p0 p1 p2 p3 p4 p5 p6 p7
          simp only [Hr.enc, Tm.k, Tm.lo, Tm.hi, Tm.s, Tm.y, Tm.m, Tm.o] at HAP1 HAP2
          clear hap1 hap2 hb1 hb2 ho1 ho2
          go_upto_region 12 with (at_builtin; refine Lib.wpList_append_run _ rfl _ _ _ _ rfl _ _ rfl rfl _ _ HAP1.out ?_)
          go_wp2_with (at_builtin; refine Lib.wpList_append_run _ rfl _ _ _ _ rfl _ _ rfl rfl _ _ HAP2.out ?_)
          go_roundw
          case rel => exact ⟨k + 1, true, O ++ [⟨.mk kd lo hi s y m o fs, f, fl, fc⟩] ++ [⟨.mk k5 lo5 hi5 s5 y5 m5 o5 g5, f5, fl5, fc5⟩], by omega, rfl, by go_num, Lib.hid (by simpa using HIN.out), (by have h := HO2.out; rw [len_snoc] at h; exact Lib.hid h), Lib.hid (fun h hh => (by
            rcases List.mem_append.1 hh with hh | hh
            · rcases List.mem_append.1 hh with hh | hh
              · exact hOk.out h hh
              · rw [List.mem_singleton.1 hh]; exact HK0.out
            · rw [List.mem_singleton.1 hh]; exact HKD.out)), Lib.hid (by rw [List.length_append, List.length_append]; have := HLO.out rfl; simp only [List.length_cons, List.length_nil]; omega), HB11⟩
          case measure => simp [intOf]; omega
        · obtain ⟨g1, cap1, v1, hap1, hb1, ho1⟩ := HO9.out.append (by have := HOL.out; have := HZ.out; omega) HB9.out.size (⟨.mk k5 lo5 hi5 s5 y5 m5 o5 g5, f5, fl5, fc5⟩ : Hr)
          have HB10 : Hid (Below X.heap.size X v1) := Lib.hid (HB9.out.trans hb1)
          have HAP1 := Lib.hid hap1
          have HO2 := Lib.hid ho1
          have HIN := Lib.hid (HI2.out.2.2.1 rfl)
          simp only [Hr.enc, Tm.k, Tm.lo, Tm.hi, Tm.s, Tm.y, Tm.m, Tm.o] at HAP1
          clear hap1 hb1 ho1
          go_wp2_with ((at_builtin; refine Lib.wpList_append_run _ rfl _ _ _ _ rfl _ _ rfl rfl _ _ HAP1.out ?_))
          go_roundw
          case rel => exact ⟨k + 1, true, _, by omega, rfl, by go_num, Lib.hid (by simpa using HIN.out), HO2, Lib.hid (fun h hh => (by
            rcases List.mem_append.1 hh with hh | hh
            · exact hOk.out h hh
            · rw [List.mem_singleton.1 hh]; exact HKD.out)), Lib.hid (by rw [List.length_append]; have := HOL.out; simp only [List.length_cons, List.length_nil]; omega), HB10⟩
          case measure => simp [intOf]; omega
      · have HP := Lib.hid (HI2.out.1 rfl)
        go_wp2_with fail
        go_ret
        exact ⟨_, _, _, rfl, bl_step HXB.out.1 HB9.out, by rw [HP.out]; exact HSW.out _ (bl_step HXB.out.1 HB9.out)⟩
      · have e0 : (r == 0) = false := by simp; omega
        have e1 : ¬ r < 0 := by omega
        have HIN : Hid (PutI (cmpT (cmpV n)) (Tm.mk kd lo hi s y m o fs) (d.map (·.x)) (k + 1) inb (O.map (·.x) ++ [(Tm.mk k5 lo5 hi5 s5 y5 m5 o5 g5)])) := Lib.hid (by cases inb; exact HI2.out.2.2.2 hr rfl; exact HI2.out.2.2.1 rfl)
        obtain ⟨g1, cap1, v1, hap1, hb1, ho1⟩ := HO9.out.append (by have := HOL.out; have := HZ.out; omega) HB9.out.size (⟨.mk k5 lo5 hi5 s5 y5 m5 o5 g5, f5, fl5, fc5⟩ : Hr)
        have HB10 : Hid (Below X.heap.size X v1) := Lib.hid (HB9.out.trans hb1)
        have HAP1 := Lib.hid hap1
        have HO2 := Lib.hid ho1
        simp only [Hr.enc, Tm.k, Tm.lo, Tm.hi, Tm.s, Tm.y, Tm.m, Tm.o] at HAP1
        clear hap1 hb1 ho1
        go_wp2_with ((at_builtin; refine Lib.wpList_append_run _ rfl _ _ _ _ rfl _ _ rfl rfl _ _ HAP1.out ?_))
        go_roundw
        case rel => exact ⟨k + 1, inb, _, by omega, rfl, by go_num, Lib.hid (by simpa using HIN.out), HO2, Lib.hid (fun h hh => (by
            rcases List.mem_append.1 hh with hh | hh
            · exact hOk.out h hh
            · rw [List.mem_singleton.1 hh]; exact HKD.out)), Lib.hid (by rw [List.length_append]; have := HOL.out; simp only [List.length_cons, List.length_nil]; omega), HB10⟩
        case measure => simp [intOf]; omega
    · have ek : k = d.length := by omega
      have HEND := Lib.hid (putI_end hI.out (by simpa using ek))
      subst ek
      have hdz : (O.length + 1) * 72 ≤ 140737488355328 := by have := hOl.out; omega
      cases inb
      · obtain ⟨g1, cap1, v1, hap1, hb1, ho1⟩ := hO.out.append (by exact hdz) hB.out.size (⟨.mk kd lo hi s y m o fs, f, fl, fc⟩ : Hr)
        have HB10 : Hid (Below X.heap.size X v1) := Lib.hid (hB.out.trans hb1)
        have HAP1 := Lib.hid hap1
        have HO2 := Lib.hid ho1
        obtain ⟨q0, q1, q2, q3, q4, q5, q6, q7⟩ := VB.out wr hB.out
        simp only [Tm.k, Tm.lo, Tm.hi, Tm.s, Tm.y, Tm.m, Tm.o] at q0 q1 q2 q3 q4 q5 q6 q7
        simp only [Hr.enc, Tm.k, Tm.lo, Tm.hi, Tm.s, Tm.y, Tm.m, Tm.o] at HAP1
        clear hap1 hb1 ho1
        go_wp2_with ((at_builtin; refine Lib.wpList_append_run _ rfl _ _ _ _ rfl _ _ rfl rfl _ _ HAP1.out ?_))
        go_ret
        refine ⟨_, _, _, rfl, bl_step HXB.out.1 HB10.out, ?_⟩
        have h := (HO2.out.inVP (P := fun b => P b ∨ w.heap.size ≤ b) (n := n) (by have e := len_snoc O (⟨.mk kd lo hi s y m o fs, f, fl, fc⟩ : Hr); omega) (fun b hb => .inr (Nat.le_trans HXB.out.1.size hb)) (fun h hh => (by
            rcases List.mem_append.1 hh with hh | hh
            · exact okQ (bl_step HXB.out.1 HB10.out) (hOk.out h hh)
            · rw [List.mem_singleton.1 hh]; exact okQ (bl_step HXB.out.1 HB10.out) HK0.out)))
        rw [HEND.out]
        simpa using h
      · obtain ⟨ua, uc, rfl⟩ := slice_of_owns hO.out
        go_wp2_with fail
        go_ret
        refine ⟨_, _, _, rfl, bl_step HXB.out.1 hB.out, ?_⟩
        have h := hO.out.inVP (P := fun b => P b ∨ w.heap.size ≤ b) (n := n) (by omega) (fun b hb => .inr (Nat.le_trans HXB.out.1.size hb)) (fun h hh => okQ (bl_step HXB.out.1 hB.out) (hOk.out h hh))
        rw [HEND.out]
        simpa using h
set_option maxRecDepth 100000 in
set_option maxHeartbeats 16000000 in
theorem normP_any (P : Nat → Prop) (n : Nat) (w : World) (hP : ∀ b, P b → b < w.heap.size) (t : Option Addr) (tl tc : Nat) (A : List Tm) (h : InVP P w (n + 1) t tl tc A) (hz : (A.length + 3) * 72 ≤ 140737488355328) (hw : wN (n + 1) A ≤ 1152921504606846976) :
    Calls Tryz.prog 47 #[.slice t tl tc] w (MeP P (n + 1) (nrm n A) w) := by
  obtain rfl : A.length = tl := h.1
  have hzl : (A.length : Int) ≤ 9223372036854775807 := by omega
  have HDT : Hid (∀ x ∈ A, Dt n x) := Lib.hid h.inV.dv
  have HZ := Lib.hid hz
  have HW := Lib.hid hw
  have HTD : Hid (∀ j (hj : j < A.length), ∃ b off f fl fc, t = some ⟨b, off, none⟩ ∧ b < w.heap.size ∧ T8 w b (off + j * 8) ⟨A[j], f, fl, fc⟩ ∧ (⟨A[j], f, fl, fc⟩ : Hr).okP P n w) := Lib.hid fun j hj => by
    obtain ⟨b, off, e, hp, lt1, hT⟩ := h.2.2 j hj
    generalize A[j] = x at hT ⊢
    obtain ⟨k, lo, hi, s, y, m, o, fs⟩ := x
    obtain ⟨f, fl, fc, c0, c1, c2, c3, c4, c5, c6, c7, hF⟩ := hT
    exact ⟨b, off, f, fl, fc, e, lt1, ⟨c0, c1, c2, c3, c4, c5, c6, c7⟩, hF⟩
  have HP := Lib.hid hP
  clear h hz hw hP
  obtain ⟨X, hX⟩ : ∃ X, w.alloc (.cells #[.slice none 0 0] 24) = X := ⟨_, rfl⟩
  have HXB : Hid (Below w.heap.size w X ∧ X.heap.size = w.heap.size + 1 ∧ Rx X w.heap.size ∧ Bb' X w.heap.size none 0 0) := by
    rw [← hX]; exact Lib.hid ⟨bl_alloc (Below.refl _ _), by simp, ⟨by simp, by simp [go_sem], by simp [go_sem]⟩, Bb'.new w none 0 0⟩
  go_enter Tryz.func47, Tryz.ntmps47
  go_upto_region 1 with fail
  clear hX
  go_wp2_with fail
  go_loopw [4, 5] (fun u i wr => ∃ (k : Nat) (t' : Option Addr) (tl' tc' : Nat), k ≤ A.length ∧ u = .slice t' tl' tc' ∧ i = .int .i64 k ∧ Hid (InVP (fun b => P b ∨ w.heap.size < b) wr (n + 1) t' tl' tc' (someL (cmpT (cmpV n)) (A.take k))) ∧ Hid (Below X.heap.size X wr)) (fun _ i _ => A.length - (intOf i).toNat)
  case atStart => exact ⟨0, none, 0, 0, Nat.zero_le _, rfl, rfl, Lib.hid inVP_nil, Lib.hid (Below.refl _ _)⟩
  case round =>
    obtain ⟨k, t', tl', tc', hk, rfl, rfl, hI, hB⟩ := hrel
    rename World => wr
    by_cases hlt : k < A.length
    · have hki : (k : Int) < (A.length : Int) := by omega
      have hk0 : (0 : Int) ≤ (k : Int) := by omega
      obtain ⟨b, off, f, fl, fc, rfl, hbw, hrk, hkk⟩ := HTD.out k hlt
      have HPC : Hid (Calls Tryz.prog 77 #[.slice t' tl' tc', (⟨A[k], f, fl, fc⟩ : Hr).v] wr (PutQ (fun b => P b ∨ w.heap.size < b) n (someL (cmpT (cmpV n)) (A.take (k + 1))) wr)) := Lib.hid (by
        rw [someL_snoc hlt]
        exact putP_any (fun b => P b ∨ w.heap.size < b) n wr t' tl' tc' _ hI.out (someL_ups (cmpT_cmp n) _) (by have h1 := someL_len (f := cmpT (cmpV n)) (l := A.take k); rw [List.length_take] at h1; have := HZ.out; omega) ⟨A[k], f, fl, fc⟩ (okR (bl_step HXB.out.1 hB.out) hkk))
      have hr2 : T8 wr b (off + k * 8) ⟨A[k], f, fl, fc⟩ := hrk.to (fun r _ => (bl_step HXB.out.1 hB.out).cell (p := ⟨b, off + k * 8 + r, none⟩) hbw)
      clear hrk hkk
      obtain ⟨xk, hxk⟩ : ∃ q, A[k] = q := ⟨_, rfl⟩
      rw [hxk] at hr2 HPC
      clear hxk
      obtain ⟨k5, lo5, hi5, s5, y5, m5, o5, g5⟩ := xk
      obtain ⟨p0, p1, p2, p3, p4, p5, p6, p7⟩ := hr2
      simp only [Hr.v, Tm.k, Tm.lo, Tm.hi, Tm.s, Tm.y, Tm.m, Tm.o] at p0 p1 p2 p3 p4 p5 p6 p7 HPC
      go_wp2_with (go_at_call 77; (refine (HPC.out).mono ?_); rintro e w1 ⟨t2, tl2, tc2, rfl, hB1, hI1⟩; have HB1 := Lib.hid (bl_step hB.out hB1); have HI1 := Lib.hid (InVP.imp (Q := fun b => P b ∨ w.heap.size < b) (fun b hb _ => by have hs := hB.out.size; have hx := HXB.out.2.1; rcases hb with hb | hb; exact hb; exact .inr (by omega)) hI1); clear hB1 hI1)
      go_roundw
      case rel => exact ⟨k + 1, t2, tl2, tc2, by omega, rfl, by go_num, HI1, HB1⟩
      case measure => simp [intOf]; omega
    · have ek : k = A.length := by omega
      subst ek
      have hI' := hI.out
      rw [List.take_length] at hI'
      obtain ⟨d, hd, hokP, hrow⟩ := pheads hI'
      have hok : ∀ h ∈ d, h.ok n wr := fun h hh => (hokP h hh).ok
      have HOKP := Lib.hid hokP
      have hlen : d.length = tl' := by rw [← hI'.1, ← hd, List.length_map]
      subst hlen
      have hdl : d.length ≤ A.length := by have e := congrArg List.length hd; rw [List.length_map] at e; rw [e]; exact someL_len
      have HTE : Hid (∀ j (hj : j < d.length), ∃ b off, t' = some ⟨b, off, none⟩ ∧ b < wr.heap.size ∧ T8 wr b (off + j * 8) d[j]) := Lib.hid fun j hj => by
        obtain ⟨b, off, e, -⟩ := hI'.2.2 j (by rw [← hd]; simpa using hj)
        exact ⟨b, off, e, hrow b off e j hj⟩
      have HUP : Hid (Ups (cmpT (cmpV n)) (d.map (·.x))) := Lib.hid (by rw [hd]; exact someL_ups (cmpT_cmp n) A)
      have HNV : Hid (normV n A = (keepH n (d.map (·.x)) d d.length).map (·.x)) := Lib.hid (by rw [keepH_map, hd]; rfl)
      have HOK := Lib.hid hok
      have HLE : Hid ((d.length + 3) * 72 ≤ 140737488355328 ∧ wN (n + 1) (normV n A) ≤ 1152921504606846976) := Lib.hid ⟨by have := HZ.out; omega, Nat.le_trans (norm_w HDT.out) HW.out⟩
      have hdz : (d.length : Int) ≤ 9223372036854775807 := by have := HLE.out.1; omega
      clear hI' hd hok hokP hrow hdl hI hzl HTD HZ HW HDT
      go_wp2_with fail
      go_loopw [6, 7] (fun u i wo => ∃ (k : Nat), k ≤ d.length ∧ i = .int .i64 k ∧ Hid (OwnH wo wr.heap.size u (keepH n (d.map (·.x)) d k)) ∧ Hid (Below wr.heap.size wr wo)) (fun _ i _ => d.length - (intOf i).toNat)
      case atStart => exact ⟨0, Nat.zero_le _, rfl, Lib.hid (by simpa [keepH] using OwnH.nil _ _), Lib.hid (Below.refl _ _)⟩
      case round =>
        obtain ⟨k, hk, rfl, hO, hBo⟩ := hrel
        rename World => wo
        by_cases hlt : k < d.length
        · have hki : (k : Int) < (d.length : Int) := by omega
          have hk0 : (0 : Int) ≤ (k : Int) := by omega
          obtain ⟨b, off, rfl, hbw, hrk⟩ := HTE.out k hlt
          clear hrk
          go_wp2_with fail
          go_loopw [8, 9] (fun ov i wi => ∃ (j : Nat) (ob : Bool), j ≤ d.length ∧ ov = .bool ob ∧ i = .int .i64 j ∧ Hid (OvI n d k j ob) ∧ Hid (Below wo.heap.size wo wi)) (fun _ i _ => d.length - (intOf i).toNat)
          case atStart => exact ⟨0, false, Nat.zero_le _, rfl, rfl, Lib.hid (by unfold OvI; rw [dif_pos hlt]; exact ⟨fun h => absurd h (by decide), fun _ q _ hq => absurd hq (Nat.not_lt_zero _)⟩), Lib.hid (Below.refl _ _)⟩
          case round =>
            obtain ⟨j, ob, hj, rfl, rfl, hV, hBi⟩ := hrel
            rename World => wi
            have HWI : Hid (Below wr.heap.size wr wi) := Lib.hid (bl_step hBo.out hBi.out)
            by_cases hjl : j < d.length
            · have hji : (j : Int) < (d.length : Int) := by omega
              have hj0 : (0 : Int) ≤ (j : Int) := by omega
              cases ob
              · by_cases hkj : k = j
                · subst hkj
                  have HV2 : Hid (OvI n d k (k + 1) false) := Lib.hid (by
                    have h := hV.out
                    unfold OvI at h ⊢
                    rw [dif_pos hlt] at h ⊢
                    exact ⟨h.1, fun e q hq hqj hqk => h.2 e q hq (by omega) hqk⟩)
                  go_upto_region 14 with fail
                  refine region_class (C := fun W => Below wi.heap.size wi W) (by kernel_rfl) (by kernel_rfl) ((Below.refl _ _).drew) ?_
                  repeat (first | go_big_quiet_skip | (go_big_quiet_want; go_big_quiet_op; first | go_big_quiet_on | (apply Exists.intro; refine ⟨fun W hW => ?_, ?_⟩; (first | rfl | (go_simp; first | done | rfl | exact ⟨rfl, rfl⟩)); go_big_quiet_on)))
                  refine wpQuiet_nil ?_
                  intro w9 hW9
                  have HB9 := Lib.hid (bl_step hBi.out hW9)
                  clear hW9
                  go_wp2_with fail
                  go_roundw
                  case rel => exact ⟨k + 1, false, by omega, rfl, by go_num, HV2, HB9⟩
                  case measure => simp [intOf]; omega
                · obtain ⟨b2, off2, e2, hbw2, hrj⟩ := HTE.out j hjl
                  obtain ⟨b3, off3, e3, -, hrk⟩ := HTE.out k hlt
                  obtain ⟨rfl, rfl⟩ : b = b2 ∧ off = off2 := by simpa using e2
                  obtain ⟨rfl, rfl⟩ : b = b3 ∧ off = off3 := by simpa using e3
                  have HRJ : Hid (∀ W, Below wr.heap.size wr W → T8 W b (off + j * 8) d[j]) := Lib.hid fun W hW => hrj.to (fun r _ => hW.cell (p := ⟨b, off + j * 8 + r, none⟩) hbw)
                  have HRK : Hid (∀ W, Below wr.heap.size wr W → T8 W b (off + k * 8) d[k]) := Lib.hid fun W hW => hrk.to (fun r _ => hW.cell (p := ⟨b, off + k * 8 + r, none⟩) hbw)
                  obtain ⟨q, hq⟩ : ∃ q, undT (undV n) d[k].x d[j].x = q := ⟨_, rfl⟩
                  have KC : Hid (∀ W, Below wi.heap.size wi W → Calls Tryz.prog 41 #[d[k].v, d[j].v] W fun e w' => e = .returned (.bool q) ∧ Below wi.heap.size wi w') := Lib.hid fun W hW => by
                    have h := runder_tm n (runder_in n) W d[k].x d[j].x d[k].f d[k].fl d[k].fc d[j].f d[j].fl d[j].fc ((HOK.out _ (List.getElem_mem hlt)).below (bl_step HWI.out hW)) ((HOK.out _ (List.getElem_mem hjl)).below (bl_step HWI.out hW))
                    rw [hq] at h
                    exact h.mono fun _ _ ⟨a, b⟩ => ⟨a, bl_step hW b⟩
                  have HV2 : Hid (OvI n d k (j + 1) q) := Lib.hid (by
                    have h := hV.out
                    unfold OvI at h ⊢
                    rw [dif_pos hlt] at h ⊢
                    exact ⟨fun e => ⟨j, hjl, fun e => hkj e.symm, by rw [hq, e]⟩, fun e r hr hrj hrk => by
                      by_cases e1 : r = j
                      · subst e1; rw [hq, e]
                      · exact h.2 rfl r hr (by omega) hrk⟩)
                  have ekj : ((k : Int) != (j : Int)) = true := by simp; omega
                  clear hq hrj hrk e2 e3 hkj hbw2
                  obtain ⟨dk, hdk⟩ : ∃ q, d[k] = q := ⟨_, rfl⟩
                  obtain ⟨dj, hdj⟩ : ∃ q, d[j] = q := ⟨_, rfl⟩
                  rw [hdk] at HRK
                  rw [hdj] at HRJ
                  rw [hdk, hdj] at KC
                  clear hdk hdj
                  obtain ⟨⟨k5, lo5, hi5, s5, y5, m5, o5, g5⟩, f5, fl5, fc5⟩ := dk
                  obtain ⟨⟨k6, lo6, hi6, s6, y6, m6, o6, g6⟩, f6, fl6, fc6⟩ := dj
                  simp only [Hr.v, Tm.k, Tm.lo, Tm.hi, Tm.s, Tm.y, Tm.m, Tm.o] at KC
                  go_upto_region 14 with fail
                  refine region_class (C := fun W => Below wi.heap.size wi W) (by kernel_rfl) (by kernel_rfl) ((Below.refl _ _).drew) ?_
                  repeat (first | go_big_quiet_skip | (go_big_quiet_want; go_big_quiet_op; first | go_big_quiet_on | (apply Exists.intro; refine ⟨fun W hW => ?_, ?_⟩; (first | rfl | with_reducible exact (KC.out W hW) | (obtain ⟨q0, q1, q2, q3, q4, q5, q6, q7⟩ := HRK.out W (bl_step HWI.out hW); obtain ⟨p0, p1, p2, p3, p4, p5, p6, p7⟩ := HRJ.out W (bl_step HWI.out hW); simp only [Tm.k, Tm.lo, Tm.hi, Tm.s, Tm.y, Tm.m, Tm.o] at q0 q1 q2 q3 q4 q5 q6 q7 p0 p1 p2 p3 p4 p5 p6 p7; go_simp; first | done | rfl | exact ⟨rfl, rfl⟩)); go_big_quiet_on)))
                  refine wpQuiet_nil ?_
                  intro w9 hW9
                  have HB9 := Lib.hid (bl_step hBi.out hW9)
                  clear hW9 KC
                  go_wp2_with fail
                  go_roundw
                  case rel => exact ⟨j + 1, q, by omega, rfl, by go_num, HV2, HB9⟩
                  case measure => simp [intOf]; omega
              · have HV2 : Hid (OvI n d k (j + 1) true) := Lib.hid (by
                  have h := hV.out
                  unfold OvI at h ⊢
                  rw [dif_pos hlt] at h ⊢
                  exact ⟨h.1, fun e => absurd e (by decide)⟩)
                go_upto_region 14 with fail
                refine region_class (C := fun W => Below wi.heap.size wi W) (by kernel_rfl) (by kernel_rfl) ((Below.refl _ _).drew) ?_
                repeat (first | go_big_quiet_skip | (go_big_quiet_want; go_big_quiet_op; first | go_big_quiet_on | (apply Exists.intro; refine ⟨fun W hW => ?_, ?_⟩; (first | rfl | (go_simp; first | done | rfl | exact ⟨rfl, rfl⟩)); go_big_quiet_on)))
                refine wpQuiet_nil ?_
                intro w9 hW9
                have HB9 := Lib.hid (bl_step hBi.out hW9)
                clear hW9
                go_wp2_with fail
                go_roundw
                case rel => exact ⟨j + 1, true, by omega, rfl, by go_num, HV2, HB9⟩
                case measure => simp [intOf]; omega
            · have ej : j = d.length := by omega
              subst ej
              have HVV := hV.out
              unfold OvI at HVV
              rw [dif_pos hlt] at HVV
              cases ob
              · have HE : Hid (keepH n (d.map (·.x)) d (k + 1) = keepH n (d.map (·.x)) d k ++ [d[k]]) := Lib.hid (keepH_yes hlt (by
                  have := keep_take (S := d.map (·.x)) (n := n) k (by simpa using hlt) (fun j hj hjk => by simpa using HVV.2 rfl j (by simpa using hj) (by simpa using hj) hjk)
                  simpa using this))
                have hlk : (keepH n (d.map (·.x)) d k).length ≤ k := by unfold keepH; exact Nat.le_trans (List.length_filter_le _ _) (by rw [List.length_take]; omega)
                obtain ⟨gg, cap, w9, hap, hb9, ho9⟩ := (hO.out.below hBi.out).append (by have := HLE.out.1; omega) HWI.out.size d[k]
                have HB9 := Lib.hid hb9
                have HO9 := Lib.hid ho9
                have HAP := Lib.hid hap
                obtain ⟨b3, off3, e3, -, hrk⟩ := HTE.out k hlt
                obtain ⟨rfl, rfl⟩ : b = b3 ∧ off = off3 := by simpa using e3
                have hrk2 : T8 wi b (off + k * 8) d[k] := hrk.to (fun r _ => HWI.out.cell (p := ⟨b, off + k * 8 + r, none⟩) hbw)
                clear hb9 ho9 hap hrk e3 HVV
                obtain ⟨dk, hdk⟩ : ∃ q, d[k] = q := ⟨_, rfl⟩
                rw [hdk] at hrk2 HAP HE HO9
                clear hdk
                obtain ⟨⟨k5, lo5, hi5, s5, y5, m5, o5, g5⟩, f5, fl5, fc5⟩ := dk
                obtain ⟨p0, p1, p2, p3, p4, p5, p6, p7⟩ := hrk2
                simp only [Tm.k, Tm.lo, Tm.hi, Tm.s, Tm.y, Tm.m, Tm.o] at p0 p1 p2 p3 p4 p5 p6 p7
                simp only [Hr.enc, Tm.k, Tm.lo, Tm.hi, Tm.s, Tm.y, Tm.m, Tm.o] at HAP
                go_wp2_with (at_builtin; refine Lib.wpList_append_run _ rfl _ _ _ _ rfl _ _ rfl rfl _ _ HAP.out ?_)
                go_roundw
                case rel => exact ⟨k + 1, by omega, by go_num, (by rw [HE.out]; exact HO9), Lib.hid (HWI.out.trans HB9.out)⟩
                case measure => simp [intOf]; omega
              · have HE : Hid (keepH n (d.map (·.x)) d (k + 1) = keepH n (d.map (·.x)) d k) := Lib.hid (keepH_no hlt (List.mem_map.2 ⟨_, List.getElem_mem hlt, rfl⟩) (by
                  obtain ⟨q, hq, hqk, hu⟩ := HVV.1 rfl
                  have := drop_take HUP.out k q (by simpa using hlt) (by simpa using hq) hqk (by simpa using hu)
                  simpa using this))
                have HO9 := Lib.hid (hO.out.below hBi.out)
                clear HVV
                go_wp2_with fail
                go_roundw
                case rel => exact ⟨k + 1, by omega, by go_num, by rw [HE.out]; exact HO9, HWI⟩
                case measure => simp [intOf]; omega
        · have ek : k = d.length := by omega
          subst ek
          obtain ⟨ua, uc, rfl⟩ := slice_of_owns hO.out
          have hzz : ((keepH n (d.map (·.x)) d d.length).length : Int) ≤ 9223372036854775807 := by
            have h1 : (keepH n (d.map (·.x)) d d.length).length ≤ (d.take d.length).length := List.length_filter_le _ _
            rw [List.length_take] at h1; omega
          have HIV : Hid (InVP (fun b => P b ∨ w.heap.size < b) wo (n + 1) ua (keepH n (d.map (·.x)) d d.length).length uc (normV n A)) := Lib.hid (by
            rw [HNV.out]
            exact hO.out.inVP hzz (fun b hb => .inr (by have h1 := hB.out.size; have h2 := HXB.out.2.1; omega)) (fun h hh => (HOKP.out h (keepH_sub hh)).below hBo.out))
          generalize (keepH n (d.map (·.x)) d d.length).length = L at *
          obtain ⟨z, hz⟩ : ∃ z : Nat, wN (n + 1) (normV n A) = z := ⟨_, rfl⟩
          have HWT : Hid (∀ W, Below wo.heap.size wo W → Calls Tryz.prog 37 #[.agg #[.slice ua L uc]] W (DepPost W (z : Int))) := Lib.hid fun W hW => by
            have h := rweight_in (n + 1) W ua L uc _ (InV.below hW HIV.out.inV)
            rw [wtV_exact (by have := HLE.out.2; omega), hz] at h
            exact h
          have HRS : Hid (Below w.heap.size w wo ∧ Rx wo w.heap.size ∧ Bb' wo w.heap.size none 0 0) := Lib.hid (by
            have hb := bl_step hB.out hBo.out
            exact ⟨bl_step HXB.out.1 hb, HXB.out.2.2.1.later hb, HXB.out.2.2.2.later hb⟩)
          have HX10 : Hid (∀ W, Below (wo.alloc (.cells #[.slice ua L uc] 24)).heap.size (wo.alloc (.cells #[.slice ua L uc] 24)) W → Below wo.heap.size wo W ∧ Bx W wo.heap.size ua L uc ∧ Rx W w.heap.size ∧ Bb' W w.heap.size none 0 0) := Lib.hid fun W hW => by
            have hb := bl_step (bl_alloc (o := .cells #[.slice ua L uc] 24) (Below.refl wo.heap.size wo)) hW
            exact ⟨hb, (show Bx _ wo.heap.size ua L uc from ⟨by simp, by simp [go_sem]⟩).later hW, HRS.out.2.1.later hb, HRS.out.2.2.later hb⟩
          have HNR : Hid (nrm n A = if 512 < z then (30, []) else (0, normV n A)) := Lib.hid (by unfold nrm; rw [hz])
          clear hz HTE HUP HNV HOK HLE hO HXB
          by_cases hbig : (512 : Int) < (z : Int)
          · have HNE : Hid (nrm n A = (30, [])) := Lib.hid (by rw [HNR.out, if_pos (by omega)])
            go_wp2_with (go_at_call 37; refine (HWT.out _ (bl_alloc (Below.refl _ _))).mono ?_; rintro e w5 ⟨rfl, hb⟩; have HA := Lib.hid (HX10.out _ hb); obtain ⟨x1, x2⟩ := HA.out.2.1; obtain ⟨r1, r2, r3⟩ := HA.out.2.2.1; clear hb)
            have hset := set_here (v := .slice none 0 0) r2
            refine bodyPost_ret (v := .tuple #[.agg #[.slice none 0 0], .int .i64 30]) (by simp [results, Tryz.results47, go_sem, hset]) rfl ?_
            rw [HNE.out]
            exact ⟨none, 0, 0, rfl, bl_set (bl_step HRS.out.1 HA.out.1) (Nat.le_refl _), inVP_nil⟩
          · have HNE : Hid (nrm n A = (0, normV n A)) := Lib.hid (by rw [HNR.out, if_neg (by omega)])
            go_wp2_with (go_at_call 37; refine (HWT.out _ (bl_alloc (Below.refl _ _))).mono ?_; rintro e w5 ⟨rfl, hb⟩; have HA := Lib.hid (HX10.out _ hb); obtain ⟨x1, x2⟩ := HA.out.2.1; obtain ⟨r1, r2, r3⟩ := HA.out.2.2.1; clear hb)
            have hset := set_here (v := .slice ua L uc) r2
            refine bodyPost_ret (v := .tuple #[.agg #[.slice ua L uc], .int .i64 0]) (by simp [results, Tryz.results47, go_sem, hset]) rfl ?_
            rw [HNE.out]
            exact ⟨ua, L, uc, rfl, bl_set (bl_step HRS.out.1 HA.out.1) (Nat.le_refl _), (InVP.below HA.out.1 HIV.out).to (by rw [set_size]; exact Nat.le_refl _) fun b hb _ => ⟨by rcases hb with hb | hb; exact .inl hb; exact .inr (by omega), Below.heap_setCell _ _ _ _ (by show b ≠ w.heap.size; rcases hb with hb | hb; (have := HP.out b hb; omega); omega)⟩⟩
theorem norm_any (n : Nat) (w : World) (t : Option Addr) (tl tc : Nat) (A : List Tm) (h : InV w (n + 1) t tl tc A) (hz : (A.length + 3) * 72 ≤ 140737488355328) (hw : wN (n + 1) A ≤ 1152921504606846976) :
    Calls Tryz.prog 47 #[.slice t tl tc] w (LmP (n + 1) (nrm n A) w) :=
  (normP_any (· < w.heap.size) n w (fun _ h => h) t tl tc A h.inVP hz hw).mono fun _ _ ⟨t3, tl3, tc3, he, hb, hv⟩ => ⟨t3, tl3, tc3, he, hb, hv.inV⟩
end Go.Proofs.YtddleeenlpigfaaGreatDoor
