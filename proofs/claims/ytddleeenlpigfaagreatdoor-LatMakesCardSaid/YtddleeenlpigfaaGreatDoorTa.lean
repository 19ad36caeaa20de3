/- WALK of the reference's put. -/
import Derived.Test.YtddleeenlpigfaaGreatDoorY34
import Derived.Lib.AppendZeros
namespace Go.Proofs.YtddleeenlpigfaaGreatDoor
open Go.RowKit
/-- Between two rounds of put. -/
def PutI (f : Tm → Tm → Int) (t : Tm) (A : List Tm) (k : Nat) (b : Bool) (O : List Tm) : Prop :=
  (b = true → putL f t A = O ++ A.drop k ∧ ∀ x ∈ A.drop k, f t x < 0) ∧ (b = false → O = A.take k ∧ putL f t A = O ++ putL f t (A.drop k))
theorem putI_zero {f : Tm → Tm → Int} {t : Tm} {A : List Tm} : PutI f t A 0 false [] := ⟨fun h => absurd h (by decide), fun _ => ⟨rfl, rfl⟩⟩
theorem putI_same {f : Tm → Tm → Int} {t : Tm} {A : List Tm} {k : Nat} {b : Bool} {O : List Tm} (h : PutI f t A k b O) (hk : k < A.length) (h0 : f t A[k] = 0) : putL f t A = A := by
  have hd : A.drop k = A[k] :: A.drop (k + 1) := List.drop_eq_getElem_cons hk
  cases b with
  | true => have := (h.1 rfl).2 A[k] (by rw [hd]; exact List.mem_cons_self); omega
  | false =>
    obtain ⟨e, h2⟩ := h.2 rfl
    rw [h2, hd, putL, if_pos h0, ← hd, e, List.take_append_drop]
theorem putI_first {f : Tm → Tm → Int} (hf : Cmp f) {t : Tm} {A : List Tm} {k : Nat} {O : List Tm} (hU : Ups f A) (h : PutI f t A k false O) (hk : k < A.length) (h0 : f t A[k] < 0) : PutI f t A (k + 1) true (O ++ [t] ++ [A[k]]) := by
  have hd : A.drop k = A[k] :: A.drop (k + 1) := List.drop_eq_getElem_cons hk
  obtain ⟨e, h2⟩ := h.2 rfl
  have hu : Ups f (A.drop k) := List.Pairwise.sublist (List.drop_sublist k A) hU
  rw [hd] at hu
  have hu' := (List.pairwise_cons.1 hu).1
  refine ⟨fun _ => ⟨?_, fun x hx => ?_⟩, fun h => absurd h (by decide)⟩
  · rw [h2, hd, putL, if_neg (by omega), if_pos h0]; simp
  · have h1 := hu' x hx
    have tr := hf.trans t A[k] x (by omega) (by omega)
    have h3 := tr.1
    by_cases e0 : f t x = 0
    · have := (tr.2 e0).1; omega
    · omega
theorem putI_in {f : Tm → Tm → Int} {t : Tm} {A : List Tm} {k : Nat} {O : List Tm} (h : PutI f t A k true O) (hk : k < A.length) : PutI f t A (k + 1) true (O ++ [A[k]]) := by
  have hd : A.drop k = A[k] :: A.drop (k + 1) := List.drop_eq_getElem_cons hk
  obtain ⟨e, h2⟩ := h.1 rfl
  exact ⟨fun _ => ⟨by rw [e, hd]; simp, fun x hx => h2 x (by rw [hd]; exact List.mem_cons_of_mem _ hx)⟩, fun h => absurd h (by decide)⟩
theorem putI_out {f : Tm → Tm → Int} {t : Tm} {A : List Tm} {k : Nat} {O : List Tm} (h : PutI f t A k false O) (hk : k < A.length) (h0 : 0 < f t A[k]) : PutI f t A (k + 1) false (O ++ [A[k]]) := by
  have hd : A.drop k = A[k] :: A.drop (k + 1) := List.drop_eq_getElem_cons hk
  obtain ⟨e, h2⟩ := h.2 rfl
  exact ⟨fun h => absurd h (by decide), fun _ => ⟨by rw [e, List.take_succ_eq_append_getElem hk], by rw [h2, hd, putL, if_neg (by omega), if_neg (by omega)]; simp⟩⟩
theorem putI_end {f : Tm → Tm → Int} {t : Tm} {A : List Tm} {k : Nat} {b : Bool} {O : List Tm} (h : PutI f t A k b O) (hk : k = A.length) : putL f t A = if b then O else O ++ [t] := by
  subst hk
  cases b with
  | true => have := (h.1 rfl).1; rw [List.drop_length, List.append_nil] at this; exact this
  | false => have := (h.2 rfl).2; rw [List.drop_length] at this; exact this
def PutP (n : Nat) (B : List Tm) (w : World) (e : Ending) (w' : World) : Prop :=
  ∃ (t : Option Addr) (tl tc : Nat), e = .returned (.slice t tl tc) ∧ Below w.heap.size w w' ∧ InV w' (n + 1) t tl tc B
theorem tm_eta (x : Tm) : Tm.mk x.k x.lo x.hi x.s x.y x.m x.o x.fs = x := by cases x; rfl
theorem tms_call (n : Nat) (h1 h2 : Hr) (W : World) (k1 : h1.ok n W) (k2 : h2.ok n W) : Calls Tryz.prog 40 #[h1.v, h2.v] W (CmpPost (cmpT (cmpV n) h1.x h2.x) W) := by
  have h := rterms_in n (rcompare_in n) W h1.x.k h1.x.lo h1.x.hi h1.x.s h1.x.y h1.x.m h1.x.o h1.f h1.fl h1.fc h1.x.fs h2.x.k h2.x.lo h2.x.hi h2.x.s h2.x.y h2.x.m h2.x.o h2.f h2.fl h2.fc h2.x.fs k1 k2
  rw [tm_eta, tm_eta] at h
  exact h
theorem len_snoc (O : List Hr) (h : Hr) : (O ++ [h]).length = O.length + 1 := List.length_append ..
theorem T8.box0 (w : World) (h : Hr) (t : TypeId) : T8 (w.alloc (.cells #[.int .i64 h.x.k, .int .i64 h.x.lo, .int .i64 h.x.hi, .string h.x.s, .bool h.x.y, .bool h.x.m, .bool h.x.o, .slice h.f h.fl h.fc] t)) w.heap.size 0 h :=
  ⟨by simp [go_sem], by simp [go_sem], by simp [go_sem], by simp [go_sem], by simp [go_sem], by simp [go_sem], by simp [go_sem], by simp [go_sem]⟩
set_option maxRecDepth 100000 in
set_option maxHeartbeats 8000000 in
theorem put_any (n : Nat) (w : World) (t : Option Addr) (tl tc : Nat) (S : List Tm) (hS : InV w (n + 1) t tl tc S) (hU : Ups (cmpT (cmpV n)) S) (hz : (S.length + 3) * 72 ≤ 140737488355328) (h0 : Hr) (k0 : h0.ok n w) :
    Calls Tryz.prog 77 #[.slice t tl tc, h0.v] w (PutP n (putL (cmpT (cmpV n)) h0.x S) w) := by
  obtain ⟨⟨kd, lo, hi, s, y, m, o, fs⟩, f, fl, fc⟩ := h0
  obtain ⟨d, hd, hok, hrow⟩ := heads hS
  have hll : d.length = tl := by rw [← hS.1, ← hd, List.length_map]
  have HSW := Lib.hid (fun (W : World) (hW : Below w.heap.size w W) => InV.below hW hS)
  subst hd
  have HU := Lib.hid hU
  have HZ : Hid ((d.length + 3) * 72 ≤ 140737488355328) := Lib.hid (by simpa using hz)
  have HD := Lib.hid (And.intro hok hrow)
  have HK0 := Lib.hid k0
  have HCAL := Lib.hid (fun (W : World) (hW : Below w.heap.size w W) (h : Hr) (hh : h ∈ d) => tms_call n ⟨.mk kd lo hi s y m o fs, f, fl, fc⟩ h W (k0.below hW) ((hok h hh).below hW))
  have hz' := HZ.out
  have hzl : (d.length : Int) ≤ 9223372036854775807 := by omega
  subst hll
  clear hS hU hz hok hrow k0
  obtain ⟨X, hX⟩ : ∃ X, w.alloc (.cells #[.int .i64 kd, .int .i64 lo, .int .i64 hi, .string s, .bool y, .bool m, .bool o, .slice f fl fc] 31) = X := ⟨_, rfl⟩
  have HXB : Hid (Below w.heap.size w X ∧ w.heap.size < X.heap.size ∧ T8 X w.heap.size 0 ⟨.mk kd lo hi s y m o fs, f, fl, fc⟩) := by
    rw [← hX]
    exact Lib.hid ⟨bl_alloc (Below.refl _ _), by simp, T8.box0 w ⟨.mk kd lo hi s y m o fs, f, fl, fc⟩ 31⟩
  have VB : Hid (∀ W, Below X.heap.size X W → T8 W w.heap.size 0 ⟨.mk kd lo hi s y m o fs, f, fl, fc⟩) := Lib.hid fun W hW => HXB.out.2.2.to (fun r _ => hW.cell (p := ⟨w.heap.size, 0 + r, none⟩) HXB.out.2.1)
  have HTD : Hid (∀ j (hj : j < d.length), ∃ b off, t = some ⟨b, off, none⟩ ∧ b < w.heap.size ∧ T8 w b (off + j * 8) d[j]) := Lib.hid fun j hj => by
    obtain ⟨b, off, e, -⟩ := (HSW.out w (Below.refl _ _)).2.2 j (by simpa using hj)
    exact ⟨b, off, e, HD.out.2 b off e j hj⟩
  show Calls Tryz.prog 77 #[.slice t d.length tc, tv kd lo hi s y m o f fl fc] w _
  go_enter Tryz.func77, Tryz.ntmps77
  go_upto_region 1 with fail
  clear hX
  go_wp2_with fail
  go_loopw [5, 6, 7] (fun u b i wr => ∃ (k : Nat) (inb : Bool) (O : List Hr), k ≤ d.length ∧ b = .bool inb ∧ i = .int .i64 k ∧ Hid (PutI (cmpT (cmpV n)) (Tm.mk kd lo hi s y m o fs) (d.map (·.x)) k inb (O.map (·.x))) ∧ Hid (OwnH wr X.heap.size u O) ∧ Hid (∀ h ∈ O, h.ok n w) ∧ Hid (O.length ≤ k + 1) ∧ Hid (Below X.heap.size X wr)) (fun _ _ i _ => d.length - (intOf i).toNat)
  case atStart => exact ⟨0, false, [], Nat.zero_le _, rfl, rfl, Lib.hid putI_zero, Lib.hid (OwnH.nil _ _), Lib.hid (by simp), Lib.hid (by simp), Lib.hid (Below.refl _ _)⟩
  case round =>
    obtain ⟨k, inb, O, hk, rfl, rfl, hI, hO, hOk, hOl, hB⟩ := hrel
    rename World => wr
    by_cases hlt : k < d.length
    · have hki : (k : Int) < (d.length : Int) := by omega
      have hk0 : (0 : Int) ≤ (k : Int) := by omega
      obtain ⟨b, off, rfl, hbw, hrk⟩ := HTD.out k hlt
      have HRK : Hid (∀ W, Below X.heap.size X W → T8 W b (off + k * 8) d[k]) := Lib.hid fun W hW => hrk.to (fun r _ => (bl_step HXB.out.1 hW).cell (p := ⟨b, off + k * 8 + r, none⟩) hbw)
      have HKD : Hid (d[k].ok n w) := Lib.hid (HD.out.1 _ (List.getElem_mem hlt))
      have HCK := Lib.hid (fun (W : World) (hW : Below X.heap.size X W) => HCAL.out W (bl_step HXB.out.1 hW) d[k] (List.getElem_mem hlt))
      have HX : (d.map (·.x))[k]'(by simpa using hlt) = d[k].x := by simp
      have HI : Hid ((∀ r, cmpT (cmpV n) (Tm.mk kd lo hi s y m o fs) d[k].x = r → (r = 0 → putL (cmpT (cmpV n)) (Tm.mk kd lo hi s y m o fs) (d.map (·.x)) = d.map (·.x)) ∧ (r < 0 → inb = false → PutI (cmpT (cmpV n)) (Tm.mk kd lo hi s y m o fs) (d.map (·.x)) (k + 1) true (O.map (·.x) ++ [(Tm.mk kd lo hi s y m o fs)] ++ [d[k].x])) ∧ (inb = true → PutI (cmpT (cmpV n)) (Tm.mk kd lo hi s y m o fs) (d.map (·.x)) (k + 1) true (O.map (·.x) ++ [d[k].x])) ∧ (0 < r → inb = false → PutI (cmpT (cmpV n)) (Tm.mk kd lo hi s y m o fs) (d.map (·.x)) (k + 1) false (O.map (·.x) ++ [d[k].x])))) := Lib.hid fun r hr => by
        have hl' : k < (d.map (·.x)).length := by simpa using hlt
        rw [← HX] at hr ⊢
        refine ⟨fun e => putI_same hI.out hl' (by omega), fun e e2 => ?_, fun e2 => ?_, fun e e2 => ?_⟩
        · subst e2; exact putI_first (cmpT_cmp n) HU.out hI.out hl' (by omega)
        · subst e2; exact putI_in hI.out hl'
        · subst e2; exact putI_out hI.out hl' (by omega)
      obtain ⟨hk5, hhk⟩ : ∃ q, d[k] = q := ⟨_, rfl⟩
      rw [hhk] at HRK HKD HCK HI
      have HLO : Hid (inb = false → O.length ≤ k) := Lib.hid fun e => by
        have h := congrArg List.length (hI.out.2 e).1
        rw [List.length_map, List.length_take] at h; omega
      clear hrk HX hI hhk
      obtain ⟨⟨k5, lo5, hi5, s5, y5, m5, o5, g5⟩, f5, fl5, fc5⟩ := hk5
      simp only [Hr.v, Tm.k, Tm.lo, Tm.hi, Tm.s, Tm.y, Tm.m, Tm.o] at HCK
      obtain ⟨r, hr⟩ : ∃ r, cmpT (cmpV n) (Tm.mk kd lo hi s y m o fs) (Tm.mk k5 lo5 hi5 s5 y5 m5 o5 g5) = r := ⟨_, rfl⟩
      have HI2 := Lib.hid (HI.out r hr)
      have KC : Hid (∀ W, Below wr.heap.size wr W → Calls Tryz.prog 40 #[tv kd lo hi s y m o f fl fc, tv k5 lo5 hi5 s5 y5 m5 o5 f5 fl5 fc5] W fun e w' => e = .returned (.int .i64 r) ∧ Below wr.heap.size wr w') := Lib.hid fun W hW => by
        have h := HCK.out W (bl_step hB.out hW)
        rw [hr] at h
        exact h.mono fun _ _ ⟨a, b⟩ => ⟨a, bl_step hW b⟩
      clear hr HI HCK
      go_upto_region 6 with fail
      refine region_class (C := fun W => Below wr.heap.size wr W) (by kernel_rfl) (by kernel_rfl) ((Below.refl _ _).drew) ?_
      repeat (first | go_big_quiet_skip | (go_big_quiet_want; go_big_quiet_op; first | go_big_quiet_on | (apply Exists.intro; refine ⟨fun W hW => ?_, ?_⟩; (first | rfl | with_reducible exact (KC.out W hW) | (obtain ⟨q0, q1, q2, q3, q4, q5, q6, q7⟩ := VB.out W (bl_step hB.out hW); obtain ⟨p0, p1, p2, p3, p4, p5, p6, p7⟩ := HRK.out W (bl_step hB.out hW); simp only [Tm.k, Tm.lo, Tm.hi, Tm.s, Tm.y, Tm.m, Tm.o] at q0 q1 q2 q3 q4 q5 q6 q7; simp only [Tm.k, Tm.lo, Tm.hi, Tm.s, Tm.y, Tm.m, Tm.o] at p0 p1 p2 p3 p4 p5 p6 p7; go_simp; first | done | rfl | exact ⟨rfl, rfl⟩)); go_big_quiet_on)))
      refine wpQuiet_nil ?_
      intro w9 hW9
      have HB9 := Lib.hid (bl_step hB.out hW9)
      have HO9 := Lib.hid (hO.out.below hW9)
      clear hW9 KC
      have HOL : Hid (O.length ≤ k + 1 ∧ k < d.length) := Lib.hid ⟨hOl.out, hlt⟩
      obtain ⟨p0, p1, p2, p3, p4, p5, p6, p7⟩ := HRK.out w9 HB9.out
      simp only [Tm.k, Tm.lo, Tm.hi, Tm.s, Tm.y, Tm.m, Tm.o] at p0 p1 p2 p3 p4 p5 p6 p7
      rcases Int.lt_trichotomy r 0 with hr | rfl | hr
      · have e0 : (r == 0) = false := by simp; omega
        cases inb
        · obtain ⟨g1, cap1, v1, hap1, hb1, ho1⟩ := HO9.out.append (by have := HOL.out; have := HZ.out; omega) HB9.out.size (⟨.mk kd lo hi s y m o fs, f, fl, fc⟩ : Hr)
          have HB10 : Hid (Below X.heap.size X v1) := Lib.hid (HB9.out.trans hb1)
          obtain ⟨g2, cap2, v2, hap2, hb2, ho2⟩ := ho1.append (by have e := len_snoc O (⟨.mk kd lo hi s y m o fs, f, fl, fc⟩ : Hr); have := HOL.out; have := HZ.out; omega) HB10.out.size (⟨.mk k5 lo5 hi5 s5 y5 m5 o5 g5, f5, fl5, fc5⟩ : Hr)
          have HB11 : Hid (Below X.heap.size X v2) := Lib.hid (HB10.out.trans hb2)
          have HAP1 := Lib.hid hap1
          have HAP2 := Lib.hid hap2
          have HO2 := Lib.hid ho2
          have HIN := Lib.hid (HI2.out.2.1 hr rfl)
          obtain ⟨q0, q1, q2, q3, q4, q5, q6, q7⟩ := VB.out w9 HB9.out
          simp only [Tm.k, Tm.lo, Tm.hi, Tm.s, Tm.y, Tm.m, Tm.o] at q0 q1 q2 q3 q4 q5 q6 q7
          clear p0 p1 p2 p3 p4 p5 p6 p7
          obtain ⟨p0, p1, p2, p3, p4, p5, p6, p7⟩ := HRK.out v1 HB10.out
          simp only [Tm.k, Tm.lo, Tm.hi, Tm.s, Tm.y, Tm.m, Tm.o] at p0 p1 p2 p3 p4 p5 p6 p7
          simp only [Hr.enc, Tm.k, Tm.lo, Tm.hi, Tm.s, Tm.y, Tm.m, Tm.o] at HAP1 HAP2
          clear hap1 hap2 hb1 hb2 ho1 ho2
          go_upto_region 12 with (at_builtin; refine Lib.wpList_append_run _ rfl _ _ _ _ rfl _ _ rfl rfl _ _ HAP1.out ?_)
          go_wp2_with (at_builtin; refine Lib.wpList_append_run _ rfl _ _ _ _ rfl _ _ rfl rfl _ _ HAP2.out ?_)
          go_roundw
          case rel => exact ⟨k + 1, true, O ++ [⟨.mk kd lo hi s y m o fs, f, fl, fc⟩] ++ [⟨.mk k5 lo5 hi5 s5 y5 m5 o5 g5, f5, fl5, fc5⟩], by omega, rfl, by go_num, Lib.hid (by simpa using HIN.out), (by have h := HO2.out; rw [len_snoc] at h; exact Lib.hid h), Lib.hid (fun h hh => (by
            rcases List.mem_append.1 hh with hh | hh
            · rcases List.mem_append.1 hh with hh | hh
              · exact hOk.out h hh
              · rw [List.mem_singleton.1 hh]; exact HK0.out
            · rw [List.mem_singleton.1 hh]; exact HKD.out)), Lib.hid (by rw [List.length_append, List.length_append]; have := HLO.out rfl; simp only [List.length_cons, List.length_nil]; omega), HB11⟩
          case measure => simp [intOf]; omega
        · obtain ⟨g1, cap1, v1, hap1, hb1, ho1⟩ := HO9.out.append (by have := HOL.out; have := HZ.out; omega) HB9.out.size (⟨.mk k5 lo5 hi5 s5 y5 m5 o5 g5, f5, fl5, fc5⟩ : Hr)
          have HB10 : Hid (Below X.heap.size X v1) := Lib.hid (HB9.out.trans hb1)
          have HAP1 := Lib.hid hap1
          have HO2 := Lib.hid ho1
          have HIN := Lib.hid (HI2.out.2.2.1 rfl)
          simp only [Hr.enc, Tm.k, Tm.lo, Tm.hi, Tm.s, Tm.y, Tm.m, Tm.o] at HAP1
          clear hap1 hb1 ho1
          go_wp2_with ((at_builtin; refine Lib.wpList_append_run _ rfl _ _ _ _ rfl _ _ rfl rfl _ _ HAP1.out ?_))
          go_roundw
          case rel => exact ⟨k + 1, true, _, by omega, rfl, by go_num, Lib.hid (by simpa using HIN.out), HO2, Lib.hid (fun h hh => (by
            rcases List.mem_append.1 hh with hh | hh
            · exact hOk.out h hh
            · rw [List.mem_singleton.1 hh]; exact HKD.out)), Lib.hid (by rw [List.length_append]; have := HOL.out; simp only [List.length_cons, List.length_nil]; omega), HB10⟩
          case measure => simp [intOf]; omega
      · have HP := Lib.hid (HI2.out.1 rfl)
        go_wp2_with fail
        go_ret
        exact ⟨_, _, _, rfl, bl_step HXB.out.1 HB9.out, by rw [HP.out]; exact HSW.out _ (bl_step HXB.out.1 HB9.out)⟩
      · have e0 : (r == 0) = false := by simp; omega
        have e1 : ¬ r < 0 := by omega
        have HIN : Hid (PutI (cmpT (cmpV n)) (Tm.mk kd lo hi s y m o fs) (d.map (·.x)) (k + 1) inb (O.map (·.x) ++ [(Tm.mk k5 lo5 hi5 s5 y5 m5 o5 g5)])) := Lib.hid (by cases inb; exact HI2.out.2.2.2 hr rfl; exact HI2.out.2.2.1 rfl)
        obtain ⟨g1, cap1, v1, hap1, hb1, ho1⟩ := HO9.out.append (by have := HOL.out; have := HZ.out; omega) HB9.out.size (⟨.mk k5 lo5 hi5 s5 y5 m5 o5 g5, f5, fl5, fc5⟩ : Hr)
        have HB10 : Hid (Below X.heap.size X v1) := Lib.hid (HB9.out.trans hb1)
        have HAP1 := Lib.hid hap1
        have HO2 := Lib.hid ho1
        simp only [Hr.enc, Tm.k, Tm.lo, Tm.hi, Tm.s, Tm.y, Tm.m, Tm.o] at HAP1
        clear hap1 hb1 ho1
        go_wp2_with ((at_builtin; refine Lib.wpList_append_run _ rfl _ _ _ _ rfl _ _ rfl rfl _ _ HAP1.out ?_))
        go_roundw
        case rel => exact ⟨k + 1, inb, _, by omega, rfl, by go_num, Lib.hid (by simpa using HIN.out), HO2, Lib.hid (fun h hh => (by
            rcases List.mem_append.1 hh with hh | hh
            · exact hOk.out h hh
            · rw [List.mem_singleton.1 hh]; exact HKD.out)), Lib.hid (by rw [List.length_append]; have := HOL.out; simp only [List.length_cons, List.length_nil]; omega), HB10⟩
        case measure => simp [intOf]; omega
    · have ek : k = d.length := by omega
      have HEND := Lib.hid (putI_end hI.out (by simpa using ek))
      subst ek
      have hdz : (O.length + 1) * 72 ≤ 140737488355328 := by have := hOl.out; omega
      cases inb
      · obtain ⟨g1, cap1, v1, hap1, hb1, ho1⟩ := hO.out.append (by exact hdz) hB.out.size (⟨.mk kd lo hi s y m o fs, f, fl, fc⟩ : Hr)
        have HB10 : Hid (Below X.heap.size X v1) := Lib.hid (hB.out.trans hb1)
        have HAP1 := Lib.hid hap1
        have HO2 := Lib.hid ho1
        obtain ⟨q0, q1, q2, q3, q4, q5, q6, q7⟩ := VB.out wr hB.out
        simp only [Tm.k, Tm.lo, Tm.hi, Tm.s, Tm.y, Tm.m, Tm.o] at q0 q1 q2 q3 q4 q5 q6 q7
        simp only [Hr.enc, Tm.k, Tm.lo, Tm.hi, Tm.s, Tm.y, Tm.m, Tm.o] at HAP1
        clear hap1 hb1 ho1
        go_wp2_with ((at_builtin; refine Lib.wpList_append_run _ rfl _ _ _ _ rfl _ _ rfl rfl _ _ HAP1.out ?_))
        go_ret
        refine ⟨_, _, _, rfl, bl_step HXB.out.1 HB10.out, ?_⟩
        have h := (HO2.out.inV (n := n) (by have e := len_snoc O (⟨.mk kd lo hi s y m o fs, f, fl, fc⟩ : Hr); omega) (fun h hh => (by
            rcases List.mem_append.1 hh with hh | hh
            · exact (hOk.out h hh).below (bl_step HXB.out.1 HB10.out)
            · rw [List.mem_singleton.1 hh]; exact HK0.out.below (bl_step HXB.out.1 HB10.out)))).1
        rw [HEND.out]
        simpa using h
      · obtain ⟨ua, uc, rfl⟩ := slice_of_owns hO.out
        go_wp2_with fail
        go_ret
        refine ⟨_, _, _, rfl, bl_step HXB.out.1 hB.out, ?_⟩
        have h := (hO.out.inV (n := n) (by omega) (fun h hh => (hOk.out h hh).below (bl_step HXB.out.1 hB.out))).1
        rw [HEND.out]
        simpa using h
end Go.Proofs.YtddleeenlpigfaaGreatDoor
