/- Lm -/
import Derived.Test.YtddleeenlpigfaaGreatDoorZ7
import Derived.BigRegion
/- WALK of the reference's get. -/
namespace Go.Proofs.YtddleeenlpigfaaGreatDoor.Ec
open Go.RowKit
theorem bits_kk {n : Nat} (h : n ≤ 47) : ∃ (kk : Int) (y m o : Bool), hdT n = (kk, y, m, o) ∧ (n : Int) / 8 = kk ∧ 0 ≤ kk ∧ kk ≤ 5 ∧ ((n : Int) % 2 == 1) = m ∧ ((n : Int) / 2 % 2 == 1) = y ∧ ((n : Int) / 4 % 2 == 1) = o := by
  refine ⟨_, _, _, _, rfl, by omega, by omega, by omega, ?_, ?_, ?_⟩
  · rw [Bool.eq_iff_iff, beq_iff_eq, decide_eq_true_iff]; omega
  · rw [Bool.eq_iff_iff, beq_iff_eq, decide_eq_true_iff]; omega
  · rw [Bool.eq_iff_iff, beq_iff_eq, decide_eq_true_iff]; omega
theorem RB.drew {w : World} {g p e : Nat} {s : ByteArray} (k : RB w g s p e) : RB w.drew g s p e := k
theorem BxS.drew {w : World} {g : Nat} {v : Value} (k : BxS w g v) : BxS w.drew g v := k
theorem drew_heap (w : World) : w.drew.heap = w.heap := rfl
theorem RB.putS {w : World} {g p e : Nat} {s : ByteArray} (k : RB w g s p e) (s1 : ByteArray) (p1 e1 : Nat) : RB (putR w g s1 p1 e1) g s1 p1 e1 := by
  have h1 := heap_set (i := 0) (v := .string s1) k
  have h2 := heap_set (i := 1) (v := .int .i64 (p1 : Int)) h1
  have h3 := heap_set (i := 2) (v := .int .i64 (e1 : Int)) h2
  unfold RB putR
  rw [h3]
  simp
theorem nm_none (l : Nat) {k lo hi : Int} {s : ByteArray} {y m o : Bool} : NmF (l + 1) (Tm.mk k lo hi s y m o []).fs ∧ ∀ f ∈ (Tm.mk k lo hi s y m o []).fs, LnV (l + 1) f.2 :=
  ⟨nmF_nil _, fun f h => absurd (show f ∈ ([] : List (ByteArray × List Tm)) from h) (by simp)⟩
abbrev bxR (s : ByteArray) (p e : Int) : Obj := .cells #[.string s, .int .i64 p, .int .i64 e] 85
abbrev bxV : Obj := .cells #[.slice none 0 0] 24
theorem four_new (w : World) (A B C D : Obj) : ((((w.alloc A).alloc B).alloc C).alloc D).heap[w.heap.size]? = some A ∧ ((((w.alloc A).alloc B).alloc C).alloc D).heap[w.heap.size + 1]? = some B ∧ ((((w.alloc A).alloc B).alloc C).alloc D).heap[w.heap.size + 2]? = some C ∧ ((((w.alloc A).alloc B).alloc C).alloc D).heap[w.heap.size + 3]? = some D := by
  refine ⟨?_, ?_, ?_, ?_⟩
  · show ((((w.heap.push A).push B).push C).push D)[w.heap.size]? = _
    simp only [Array.getElem?_push, Array.size_push]
    rw [if_neg (by omega), if_neg (by omega), if_neg (by omega), if_pos trivial]
  · show ((((w.heap.push A).push B).push C).push D)[w.heap.size + 1]? = _
    simp only [Array.getElem?_push, Array.size_push]
    rw [if_neg (by omega), if_neg (by omega), if_pos trivial]
  · show ((((w.heap.push A).push B).push C).push D)[w.heap.size + 2]? = _
    simp only [Array.getElem?_push, Array.size_push]
    rw [if_neg (by omega), if_pos trivial]
  · show ((((w.heap.push A).push B).push C).push D)[w.heap.size + 3]? = _
    simp only [Array.getElem?_push, Array.size_push]
    rw [if_pos trivial]
theorem Kp2.two {B R R' : Nat} {w w' : World} (h : Kp2 B R w w') (hR : w.heap.size ≤ R) : Kp2 B R' w w' := ⟨h.os, h.tape, h.output, h.size, fun k hk hB _ => h.block k hk hB (by omega)⟩

set_option maxRecDepth 100000 in
set_option maxHeartbeats 16000000 in
theorem get_step (l : Nat) (hl : l ≤ 16) (GH : GetH l) : GetH (l + 1) := by
  intro w s p e hp hs
  unfold Vn.refR
  have HGH := Lib.hid GH
  obtain ⟨n, p1, e1, hc1, hn5, st1, wn1⟩ := rmost_call (e := e) 512 (by decide) hp hs
  unfold RSub Vn.refR at hc1
  have HC1 := Lib.hid hc1; have ST1 := Lib.hid st1; have WN1 := Lib.hid wn1
  obtain ⟨m, hm⟩ : ∃ m : Int, ((l + 1 : Nat) : Int) = m := ⟨_, rfl⟩
  have hm0 : ¬ m = 0 := by omega
  have hmb : (m == 0) = false := by rw [beq_eq_false_iff_ne]; exact hm0
  have hmw : wrap64 (m - 1) = (l : Int) := by unfold wrap64; omega
  rw [hm]
  clear hm hc1 st1 wn1 GH
  go_enter Tryz.func62, Tryz.ntmps62
  go_upto_region 3 with fail
  obtain ⟨W, hW⟩ : ∃ W, (((w.alloc (bxR s p e)).alloc (bxR ⟨#[]⟩ 0 0)).alloc bxV).alloc bxV = W := ⟨_, rfl⟩
  have hsW : W.heap.size = w.heap.size + 4 := by rw [← hW]; simp
  have HBW := Lib.hid (show Below w.heap.size w W by rw [← hW]; exact bl_alloc (bl_alloc (bl_alloc (bl_alloc (Below.refl _ _)))))
  obtain ⟨N, hN⟩ : ∃ N, w.heap.size = N := ⟨_, rfl⟩
  have HRW := Lib.hid (show RB W N s p e by rw [← hW, ← hN]; exact (four_new w _ _ _ _).1)
  have HVW := Lib.hid (show BxS W (N + 3) (.slice none 0 0) by rw [← hW, ← hN]; exact (four_new w _ _ _ _).2.2.2)
  have HAW := Lib.hid (show RB W (N + 1) ⟨#[]⟩ 0 0 by rw [← hW, ← hN]; exact (four_new w _ _ _ _).2.1)
  have HDW := Lib.hid (show BxS W (N + 2) (.slice none 0 0) by rw [← hW, ← hN]; exact (four_new w _ _ _ _).2.2.1)
  rw [hN] at hsW HBW ⊢
  rw [hW]
  clear hW
  obtain ⟨c0, c1, c2⟩ := HRW.out.cells
  go_wp2_with fail
  go_at_call 105; refine (HC1.out _).mono ?_; rintro en w1 ⟨rfl, hB1⟩
  have HR1 := Lib.hid (HRW.out.below hB1)
  have HV1 := Lib.hid (HVW.out.below hB1)
  have HA1 := Lib.hid (HAW.out.below hB1)
  have HD1 := Lib.hid (HDW.out.below hB1)
  have HB1 := Lib.hid (HBW.out.trans (hB1.mono (by omega)))
  have hs1 : N + 4 ≤ w1.heap.size := by have := hB1.size; omega
  clear hB1 HC1 HRW HVW HAW HDW HBW c0 c1 c2 hsW
  obtain ⟨c0, c1, c2⟩ := HR1.out.cells
  have cf := HR1.out.fz
  go_upto_region 4 with fail
  obtain ⟨X, hX⟩ : ∃ X, putR w1 N s p1 e1 = X := ⟨_, rfl⟩
  have hsX : X.heap.size = w1.heap.size := by rw [← hX, putR_size]
  have HRX := Lib.hid (show RB X N s p1 e1 by rw [← hX]; exact HR1.out.put _ _)
  have HVX := Lib.hid (show BxS X (N + 3) (.slice none 0 0) by rw [← hX]; exact (putR_block _ _ _ _ _ _ (by omega)).trans HV1.out)
  have HAX := Lib.hid (show RB X (N + 1) ⟨#[]⟩ 0 0 by rw [← hX]; exact (putR_block _ _ _ _ _ _ (by omega)).trans HA1.out)
  have HDX := Lib.hid (show BxS X (N + 2) (.slice none 0 0) by rw [← hX]; exact (putR_block _ _ _ _ _ _ (by omega)).trans HD1.out)
  have HBX := Lib.hid (show Below N w X by rw [← hX]; exact kp2_below (R := N) HB1.out (putR_kp2 _ _ _ _ _ _) (by omega) (Nat.le_refl _) (Nat.le_refl _))
  unfold putR at hX
  rw [hX]
  clear hX HR1 HV1 HA1 HD1 HB1 c0 c1 c2 cf
  have hNW : N < X.heap.size := by omega
  have hVW : N + 3 < X.heap.size := by omega
  have HI0 := Lib.hid (RI.start (l := l) HRX.out HVX.out ST1.out WN1.out)
  clear HRX HVX ST1 WN1
  go_upto_region 7 with fail
  go_loopw [8] (fun i wr => ∃ (L : List Hr) (u : Value) (p' e' : Nat), L.length ≤ n ∧ i = .int .u64 (L.length : Int) ∧ Hid (RI l N (N + 3) s p e X n L u wr p' e')) (fun i _ => n - (intOf i).toNat)
  case atStart => exact ⟨[], _, p1, e1, Nat.zero_le _, rfl, HI0⟩
  case round =>
    clear HI0
    obtain ⟨L, u, p', e', hLn, rfl, hI⟩ := hrel
    rename World => wr
    have HI := Lib.hid hI.out
    clear hI
    obtain ⟨q0, q1, q2⟩ := HI.out.rb.cells
    by_cases hgo : L.length < n ∧ e' = 0
    · obtain ⟨hlt, he⟩ := hgo
      subst he
      have hki : (L.length : Int) < (n : Int) := by omega
      have hpl : p' ≤ s.size := HI.out.step.place
      obtain ⟨nh, p2, e2, hc2, hn47, st2, wn2⟩ := rmost_call (e := 0) 47 (by decide) hpl hs
      unfold RSub Vn.refR at hc2
      have HC2 := Lib.hid hc2; have ST2 := Lib.hid st2; have WN2 := Lib.hid wn2
      clear hc2 st2 wn2
      go_wp2_with fail
      go_at_call 105; refine (HC2.out _).mono ?_; rintro en w2 ⟨rfl, hB2⟩
      have HK2 := Lib.hid (Kp2.of_below (B := N) (R := N + 3) hB2)
      have HR2 := Lib.hid (HI.out.rb.below hB2)
      have HV2 := Lib.hid (HI.out.vb.below hB2)
      clear hB2 HC2 q0 q1 q2
      obtain ⟨c0, c1, c2⟩ := HR2.out.cells
      have cf := HR2.out.fz
      go_upto_region 11 with fail
      obtain ⟨X2, hX⟩ : ∃ X2, putR w2 N s p2 e2 = X2 := ⟨_, rfl⟩
      have HR3 := Lib.hid (show RB X2 N s p2 e2 by rw [← hX]; exact HR2.out.put _ _)
      have HK3 := Lib.hid (show Kp2 N (N + 3) wr X2 by rw [← hX]; exact HK2.out.trans (putR_kp2 _ _ _ _ _ _))
      have HV3 := Lib.hid (show BxS X2 (N + 3) u by rw [← hX]; exact (putR_block _ _ _ _ _ _ (by omega)).trans HV2.out)
      unfold putR at hX
      rw [hX]
      clear hX HR2 HK2 HV2 c0 c1 c2 cf
      obtain ⟨kk, y, m5, o, hhd, hkk, hk0, hk5, hm5, hy, ho⟩ := bits_kk hn47
      have HHD := Lib.hid hhd
      have hwk : IntKind.i64.wrap kk = kk := by rw [IntKind.wrap_i64]; omega
      clear hhd
      go_upto_region 12 with fail
      obtain ⟨X3, hX⟩ : ∃ X3, X2.alloc (.cells #[.int .i64 kk, .int .i64 0, .int .i64 0, .string ⟨#[]⟩, .bool y, .bool m5, .bool o, .slice none 0 0] 31) = X3 := ⟨_, rfl⟩
      have hbX : Below X2.heap.size X2 X3 := by rw [← hX]; exact bl_alloc (Below.refl _ _)
      have HT0 : Hid (Bx8 X3 X2.heap.size ⟨.mk kk 0 0 ⟨#[]⟩ y m5 o [], none, 0, 0⟩) := by rw [← hX]; exact w_new X2 _
      have HR4 := Lib.hid (HR3.out.below hbX)
      have HV4 := Lib.hid (HV3.out.below hbX)
      have HK4 := Lib.hid (HK3.out.trans (Kp2.of_below hbX))
      obtain ⟨T, hT⟩ : ∃ T, X2.heap.size = T := ⟨_, rfl⟩
      have hTw : wr.heap.size ≤ T := by rw [← hT]; exact HK3.out.size
      have hwX : X.heap.size ≤ wr.heap.size := HI.out.kp.size
      rw [hT] at HT0 ⊢
      rw [hX]
      clear hX hbX hT HR3 HV3 HK3 hm5 hy ho hwk
      have HKK := Lib.hid hkk
      clear hkk
      obtain hk1 | hk1 | hk1 | hk1 | hk1 | hk1 : kk = 0 ∨ kk = 5 ∨ kk = 3 ∨ kk = 1 ∨ kk = 2 ∨ kk = 4 := by omega
      · subst hk1
        obtain ⟨t0, t1, t2, t3, t4, t5, t6, t7⟩ := HT0.out.cells
        dsimp only [Tm.k, Tm.lo, Tm.hi, Tm.s, Tm.y, Tm.m, Tm.o] at t0 t1 t2 t3 t4 t5 t6 t7
        simp only [Nat.zero_add] at t1 t2 t3 t4 t5 t6 t7
        go_upto_region 33 with fail
        clear t0 t1 t2 t3 t4 t5 t6 t7
        obtain ⟨t0, t1, t2, t3, t4, t5, t6, t7⟩ := HT0.out.cells
        dsimp only [Tm.k, Tm.lo, Tm.hi, Tm.s, Tm.y, Tm.m, Tm.o] at t0 t1 t2 t3 t4 t5 t6 t7
        simp only [Nat.zero_add] at t1 t2 t3 t4 t5 t6 t7
        have v0 := HV4.out.cell
        obtain ⟨g, cap, w9, hrun, hb9, ho9, h9, hg9, hs9⟩ := ownH_grow (owns_kp HI.out.own HK4.out hNW hVW) (by omega) (by have := HI.out.kp.size; have := HK4.out.size; omega) ⟨.mk 0 0 0 ⟨#[]⟩ y m5 o [], none, 0, 0⟩
        have HI9 := Lib.hid (HI.out.round (z := ⟨.mk 0 0 0 ⟨#[]⟩ y m5 o [], none, 0, 0⟩) hlt hNW hVW (by omega) (nm_none _) (hd_step ST2.out HHD.out (by rw [bB_else (by decide) (by decide) (by decide) (by decide)]; exact Step.refl _ ST2.out.place)) (fun x0 Q hw hr => else_want (by decide) (by decide) (by decide) (by decide) WN2.out HHD.out hw hr) HK4.out HR4.out (okP_nil _ _ _) HV4.out hb9 ho9 h9 hg9 hs9)
        have HV9 := Lib.hid (show BxS w9 (N + 3) u from (hb9.block _ hVW).trans HV4.out)
        have v9 := HV9.out.cell
        have f9 := HV9.out.fz
        dsimp only [Hr.enc, Tm.k, Tm.lo, Tm.hi, Tm.s, Tm.y, Tm.m, Tm.o] at hrun
        have HR9 := Lib.hid hrun
        clear hrun hb9 ho9 h9 hg9 hs9
        go_wp2_with (at_builtin; refine Lib.wpList_append_run _ rfl _ _ _ _ rfl _ _ rfl rfl _ _ HR9.out ?_)
        go_roundw
        case rel => exact ⟨_, _, p2, e2, by simp; omega, by rw [List.length_append]; go_num, HI9⟩
        case measure => simp [intOf]; omega
      · subst hk1
        obtain ⟨t0, t1, t2, t3, t4, t5, t6, t7⟩ := HT0.out.cells
        dsimp only [Tm.k, Tm.lo, Tm.hi, Tm.s, Tm.y, Tm.m, Tm.o] at t0 t1 t2 t3 t4 t5 t6 t7
        simp only [Nat.zero_add] at t1 t2 t3 t4 t5 t6 t7
        go_upto_region 33 with fail
        clear t0 t1 t2 t3 t4 t5 t6 t7
        obtain ⟨t0, t1, t2, t3, t4, t5, t6, t7⟩ := HT0.out.cells
        dsimp only [Tm.k, Tm.lo, Tm.hi, Tm.s, Tm.y, Tm.m, Tm.o] at t0 t1 t2 t3 t4 t5 t6 t7
        simp only [Nat.zero_add] at t1 t2 t3 t4 t5 t6 t7
        have v0 := HV4.out.cell
        obtain ⟨g, cap, w9, hrun, hb9, ho9, h9, hg9, hs9⟩ := ownH_grow (owns_kp HI.out.own HK4.out hNW hVW) (by omega) (by have := HI.out.kp.size; have := HK4.out.size; omega) ⟨.mk 5 0 0 ⟨#[]⟩ y m5 o [], none, 0, 0⟩
        have HI9 := Lib.hid (HI.out.round (z := ⟨.mk 5 0 0 ⟨#[]⟩ y m5 o [], none, 0, 0⟩) hlt hNW hVW (by omega) (nm_none _) (hd_step ST2.out HHD.out (by rw [bB_else (by decide) (by decide) (by decide) (by decide)]; exact Step.refl _ ST2.out.place)) (fun x0 Q hw hr => else_want (by decide) (by decide) (by decide) (by decide) WN2.out HHD.out hw hr) HK4.out HR4.out (okP_nil _ _ _) HV4.out hb9 ho9 h9 hg9 hs9)
        have HV9 := Lib.hid (show BxS w9 (N + 3) u from (hb9.block _ hVW).trans HV4.out)
        have v9 := HV9.out.cell
        have f9 := HV9.out.fz
        dsimp only [Hr.enc, Tm.k, Tm.lo, Tm.hi, Tm.s, Tm.y, Tm.m, Tm.o] at hrun
        have HR9 := Lib.hid hrun
        clear hrun hb9 ho9 h9 hg9 hs9
        go_wp2_with (at_builtin; refine Lib.wpList_append_run _ rfl _ _ _ _ rfl _ _ rfl rfl _ _ HR9.out ?_)
        go_roundw
        case rel => exact ⟨_, _, p2, e2, by simp; omega, by rw [List.length_append]; go_num, HI9⟩
        case measure => simp [intOf]; omega
      · subst hk1
        obtain ⟨t, p3, e3, hc3, hts, st3, wn3⟩ := rtext_call (e := e2) 256 (by decide) ST2.out.place hs
        unfold RSub Vn.refR at hc3
        have HC3 := Lib.hid hc3; have ST3 := Lib.hid st3; have WN3 := Lib.hid wn3
        clear hc3 st3 wn3
        obtain ⟨t0, t1, t2, t3, t4, t5, t6, t7⟩ := HT0.out.cells
        dsimp only [Tm.k, Tm.lo, Tm.hi, Tm.s, Tm.y, Tm.m, Tm.o] at t0 t1 t2 t3 t4 t5 t6 t7
        simp only [Nat.zero_add] at t1 t2 t3 t4 t5 t6 t7
        obtain ⟨c0, c1, c2⟩ := HR4.out.cells
        go_wp2_with fail
        go_at_call 107; refine (HC3.out _).mono ?_; rintro en w3 ⟨rfl, hB3⟩
        have HK5 := Lib.hid (HK4.out.trans (Kp2.of_below (B := N) (R := N + 3) hB3))
        have HR5 := Lib.hid (HR4.out.below hB3)
        have HV5 := Lib.hid (HV4.out.below hB3)
        have HT5 := Lib.hid (HT0.out.below hB3)
        clear hB3 HC3 HK4 HR4 HV4 HT0 c0 c1 c2 t0 t1 t2 t3 t4 t5 t6 t7
        obtain ⟨c0, c1, c2⟩ := HR5.out.cells
        have cf := HR5.out.fz
        go_upto_region 21 with fail
        obtain ⟨X5, hX⟩ : ∃ X5, putR w3 N s p3 e3 = X5 := ⟨_, rfl⟩
        have HR6 := Lib.hid (show RB X5 N s p3 e3 by rw [← hX]; exact HR5.out.put _ _)
        have HK6 := Lib.hid (show Kp2 N (N + 3) wr X5 by rw [← hX]; exact HK5.out.trans (putR_kp2 _ _ _ _ _ _))
        have HV6 := Lib.hid (show BxS X5 (N + 3) u by rw [← hX]; exact (putR_block _ _ _ _ _ _ (by omega)).trans HV5.out)
        have HT6 := Lib.hid (show Bx8 X5 T _ by rw [← hX]; exact (putR_block _ _ _ _ _ _ (by omega)).trans HT5.out)
        unfold putR at hX
        rw [hX]
        clear hX HR5 HK5 HV5 HT5 c0 c1 c2 cf
        obtain ⟨t0, t1, t2, t3, t4, t5, t6, t7⟩ := HT6.out.cells
        dsimp only [Tm.k, Tm.lo, Tm.hi, Tm.s, Tm.y, Tm.m, Tm.o] at t0 t1 t2 t3 t4 t5 t6 t7
        simp only [Nat.zero_add] at t1 t2 t3 t4 t5 t6 t7
        have tf := HT6.out.fz
        go_upto_region 22 with fail
        obtain ⟨X7, hX⟩ : ∃ X7, X5.setCell ⟨T, 3, none⟩ (.string t) = X7 := ⟨_, rfl⟩
        have HR7 := Lib.hid (show RB X7 N s p3 e3 by rw [← hX]; exact HR6.out.other (by omega))
        have HK7 := Lib.hid (show Kp2 N (N + 3) wr X7 by rw [← hX]; exact HK6.out.set (.inl hTw))
        have HV7 := Lib.hid (show BxS X7 (N + 3) u by rw [← hX]; exact HV6.out.other (by omega))
        have HT7 := Lib.hid (show Bx8 X7 T ⟨.mk 3 0 0 t y m5 o [], none, 0, 0⟩ by rw [← hX]; exact HT6.out.set3 t)
        rw [hX]
        clear hX HR6 HK6 HV6 HT6 t0 t1 t2 t3 t4 t5 t6 t7 tf
        obtain ⟨t0, t1, t2, t3, t4, t5, t6, t7⟩ := HT7.out.cells
        dsimp only [Tm.k, Tm.lo, Tm.hi, Tm.s, Tm.y, Tm.m, Tm.o] at t0 t1 t2 t3 t4 t5 t6 t7
        simp only [Nat.zero_add] at t1 t2 t3 t4 t5 t6 t7
        go_upto_region 33 with fail
        clear t0 t1 t2 t3 t4 t5 t6 t7
        obtain ⟨t0, t1, t2, t3, t4, t5, t6, t7⟩ := HT7.out.cells
        dsimp only [Tm.k, Tm.lo, Tm.hi, Tm.s, Tm.y, Tm.m, Tm.o] at t0 t1 t2 t3 t4 t5 t6 t7
        simp only [Nat.zero_add] at t1 t2 t3 t4 t5 t6 t7
        have v0 := HV7.out.cell
        obtain ⟨g, cap, w9, hrun, hb9, ho9, h9, hg9, hs9⟩ := ownH_grow (owns_kp HI.out.own HK7.out hNW hVW) (by omega) (by have := HI.out.kp.size; have := HK7.out.size; omega) ⟨.mk 3 0 0 t y m5 o [], none, 0, 0⟩
        have HI9 := Lib.hid (HI.out.round (z := ⟨.mk 3 0 0 t y m5 o [], none, 0, 0⟩) hlt hNW hVW (by omega) (nm_none _) (hd_step ST2.out HHD.out (by rw [bB_text]; exact ST3.out)) (fun x0 Q hw hr => text_want' WN2.out HHD.out WN3.out hw hr) HK7.out HR7.out (okP_nil _ _ _) HV7.out hb9 ho9 h9 hg9 hs9)
        have HV9 := Lib.hid (show BxS w9 (N + 3) u from (hb9.block _ hVW).trans HV7.out)
        have v9 := HV9.out.cell
        have f9 := HV9.out.fz
        dsimp only [Hr.enc, Tm.k, Tm.lo, Tm.hi, Tm.s, Tm.y, Tm.m, Tm.o] at hrun
        have HR9 := Lib.hid hrun
        clear hrun hb9 ho9 h9 hg9 hs9
        go_wp2_with (at_builtin; refine Lib.wpList_append_run _ rfl _ _ _ _ rfl _ _ rfl rfl _ _ HR9.out ?_)
        go_roundw
        case rel => exact ⟨_, _, p3, e3, by simp; omega, by rw [List.length_append]; go_num, HI9⟩
        case measure => simp [intOf]; omega
      · subst hk1
        obtain ⟨a, p3, e3, hc3, st3, wn3⟩ := rint_call (e := e2) ST2.out.place hs
        obtain ⟨b, p4, e4, hc4, st4, wn4⟩ := rint_call (e := e3) st3.place hs
        unfold RSub Vn.refR at hc3 hc4
        have HC3 := Lib.hid hc3; have ST3 := Lib.hid st3; have WN3 := Lib.hid wn3
        have HC4 := Lib.hid hc4; have ST4 := Lib.hid st4; have WN4 := Lib.hid wn4
        clear hc3 st3 wn3 hc4 st4 wn4
        obtain ⟨t0, t1, t2, t3, t4, t5, t6, t7⟩ := HT0.out.cells
        dsimp only [Tm.k, Tm.lo, Tm.hi, Tm.s, Tm.y, Tm.m, Tm.o] at t0 t1 t2 t3 t4 t5 t6 t7
        simp only [Nat.zero_add] at t1 t2 t3 t4 t5 t6 t7
        obtain ⟨c0, c1, c2⟩ := HR4.out.cells
        go_wp2_with fail
        go_at_call 106; refine (HC3.out _).mono ?_; rintro en w3 ⟨rfl, hB3⟩
        have HK5 := Lib.hid (HK4.out.trans (Kp2.of_below (B := N) (R := N + 3) hB3))
        have HR5 := Lib.hid (HR4.out.below hB3)
        have HV5 := Lib.hid (HV4.out.below hB3)
        have HT5 := Lib.hid (HT0.out.below hB3)
        clear hB3 HC3 HK4 HR4 HV4 HT0 c0 c1 c2 t0 t1 t2 t3 t4 t5 t6 t7
        obtain ⟨c0, c1, c2⟩ := HR5.out.cells
        have cf := HR5.out.fz
        go_upto_region 15 with fail
        obtain ⟨X5, hX⟩ : ∃ X5, putR w3 N s p3 e3 = X5 := ⟨_, rfl⟩
        have HR6 := Lib.hid (show RB X5 N s p3 e3 by rw [← hX]; exact HR5.out.put _ _)
        have HK6 := Lib.hid (show Kp2 N (N + 3) wr X5 by rw [← hX]; exact HK5.out.trans (putR_kp2 _ _ _ _ _ _))
        have HV6 := Lib.hid (show BxS X5 (N + 3) u by rw [← hX]; exact (putR_block _ _ _ _ _ _ (by omega)).trans HV5.out)
        have HT6 := Lib.hid (show Bx8 X5 T _ by rw [← hX]; exact (putR_block _ _ _ _ _ _ (by omega)).trans HT5.out)
        unfold putR at hX
        rw [hX]
        clear hX HR5 HK5 HV5 HT5 c0 c1 c2 cf
        obtain ⟨c0, c1, c2⟩ := HR6.out.cells
        go_wp2_with fail
        go_at_call 106; refine (HC4.out _).mono ?_; rintro en w4 ⟨rfl, hB3⟩
        have HK5 := Lib.hid (HK6.out.trans (Kp2.of_below (B := N) (R := N + 3) hB3))
        have HR5 := Lib.hid (HR6.out.below hB3)
        have HV5 := Lib.hid (HV6.out.below hB3)
        have HT5 := Lib.hid (HT6.out.below hB3)
        clear hB3 HC4 HK6 HR6 HV6 HT6 c0 c1 c2
        obtain ⟨c0, c1, c2⟩ := HR5.out.cells
        have cf := HR5.out.fz
        go_upto_region 16 with fail
        obtain ⟨X6, hX⟩ : ∃ X6, putR w4 N s p4 e4 = X6 := ⟨_, rfl⟩
        have HR6 := Lib.hid (show RB X6 N s p4 e4 by rw [← hX]; exact HR5.out.put _ _)
        have HK6 := Lib.hid (show Kp2 N (N + 3) wr X6 by rw [← hX]; exact HK5.out.trans (putR_kp2 _ _ _ _ _ _))
        have HV6 := Lib.hid (show BxS X6 (N + 3) u by rw [← hX]; exact (putR_block _ _ _ _ _ _ (by omega)).trans HV5.out)
        have HT6 := Lib.hid (show Bx8 X6 T _ by rw [← hX]; exact (putR_block _ _ _ _ _ _ (by omega)).trans HT5.out)
        unfold putR at hX
        rw [hX]
        clear hX HR5 HK5 HV5 HT5 c0 c1 c2 cf
        obtain ⟨t0, t1, t2, t3, t4, t5, t6, t7⟩ := HT6.out.cells
        dsimp only [Tm.k, Tm.lo, Tm.hi, Tm.s, Tm.y, Tm.m, Tm.o] at t0 t1 t2 t3 t4 t5 t6 t7
        simp only [Nat.zero_add] at t1 t2 t3 t4 t5 t6 t7
        have tf := HT6.out.fz
        go_upto_region 17 with fail
        obtain ⟨X7, hX⟩ : ∃ X7, X6.setCell ⟨T, 1, none⟩ (.int .i64 (Vn.usg a)) = X7 := ⟨_, rfl⟩
        have HR7 := Lib.hid (show RB X7 N s p4 e4 by rw [← hX]; exact HR6.out.other (by omega))
        have HK7 := Lib.hid (show Kp2 N (N + 3) wr X7 by rw [← hX]; exact HK6.out.set (.inl hTw))
        have HV7 := Lib.hid (show BxS X7 (N + 3) u by rw [← hX]; exact HV6.out.other (by omega))
        have HT7 := Lib.hid (show Bx8 X7 T ⟨.mk 1 (Vn.usg a) 0 ⟨#[]⟩ y m5 o [], none, 0, 0⟩ by rw [← hX]; exact HT6.out.set1 (Vn.usg a))
        rw [hX]
        clear hX HR6 HK6 HV6 HT6 t0 t1 t2 t3 t4 t5 t6 t7 tf
        obtain ⟨t0, t1, t2, t3, t4, t5, t6, t7⟩ := HT7.out.cells
        dsimp only [Tm.k, Tm.lo, Tm.hi, Tm.s, Tm.y, Tm.m, Tm.o] at t0 t1 t2 t3 t4 t5 t6 t7
        simp only [Nat.zero_add] at t1 t2 t3 t4 t5 t6 t7
        have tf := HT7.out.fz
        go_upto_region 18 with fail
        obtain ⟨X8, hX⟩ : ∃ X8, X7.setCell ⟨T, 2, none⟩ (.int .i64 (Vn.usg b)) = X8 := ⟨_, rfl⟩
        have HR8 := Lib.hid (show RB X8 N s p4 e4 by rw [← hX]; exact HR7.out.other (by omega))
        have HK8 := Lib.hid (show Kp2 N (N + 3) wr X8 by rw [← hX]; exact HK7.out.set (.inl hTw))
        have HV8 := Lib.hid (show BxS X8 (N + 3) u by rw [← hX]; exact HV7.out.other (by omega))
        have HT8 := Lib.hid (show Bx8 X8 T ⟨.mk 1 (Vn.usg a) (Vn.usg b) ⟨#[]⟩ y m5 o [], none, 0, 0⟩ by rw [← hX]; exact HT7.out.set2 (Vn.usg b))
        rw [hX]
        clear hX HR7 HK7 HV7 HT7 t0 t1 t2 t3 t4 t5 t6 t7 tf
        obtain ⟨t0, t1, t2, t3, t4, t5, t6, t7⟩ := HT8.out.cells
        dsimp only [Tm.k, Tm.lo, Tm.hi, Tm.s, Tm.y, Tm.m, Tm.o] at t0 t1 t2 t3 t4 t5 t6 t7
        simp only [Nat.zero_add] at t1 t2 t3 t4 t5 t6 t7
        go_upto_region 33 with fail
        clear t0 t1 t2 t3 t4 t5 t6 t7
        obtain ⟨t0, t1, t2, t3, t4, t5, t6, t7⟩ := HT8.out.cells
        dsimp only [Tm.k, Tm.lo, Tm.hi, Tm.s, Tm.y, Tm.m, Tm.o] at t0 t1 t2 t3 t4 t5 t6 t7
        simp only [Nat.zero_add] at t1 t2 t3 t4 t5 t6 t7
        have v0 := HV8.out.cell
        obtain ⟨g, cap, w9, hrun, hb9, ho9, h9, hg9, hs9⟩ := ownH_grow (owns_kp HI.out.own HK8.out hNW hVW) (by omega) (by have := HI.out.kp.size; have := HK8.out.size; omega) ⟨.mk 1 (Vn.usg a) (Vn.usg b) ⟨#[]⟩ y m5 o [], none, 0, 0⟩
        have HI9 := Lib.hid (HI.out.round (z := ⟨.mk 1 (Vn.usg a) (Vn.usg b) ⟨#[]⟩ y m5 o [], none, 0, 0⟩) hlt hNW hVW (by omega) (nm_none _) (int_step (by decide) ST2.out HHD.out ST3.out ST4.out) (fun x0 Q hw hr => int_want (by decide) WN2.out HHD.out WN3.out WN4.out hw hr) HK8.out HR8.out (okP_nil _ _ _) HV8.out hb9 ho9 h9 hg9 hs9)
        have HV9 := Lib.hid (show BxS w9 (N + 3) u from (hb9.block _ hVW).trans HV8.out)
        have v9 := HV9.out.cell
        have f9 := HV9.out.fz
        dsimp only [Hr.enc, Tm.k, Tm.lo, Tm.hi, Tm.s, Tm.y, Tm.m, Tm.o] at hrun
        have HR9 := Lib.hid hrun
        clear hrun hb9 ho9 h9 hg9 hs9
        go_wp2_with (at_builtin; refine Lib.wpList_append_run _ rfl _ _ _ _ rfl _ _ rfl rfl _ _ HR9.out ?_)
        go_roundw
        case rel => exact ⟨_, _, p4, e4, by simp; omega, by rw [List.length_append]; go_num, HI9⟩
        case measure => simp [intOf]; omega
      · subst hk1
        obtain ⟨a, p3, e3, hc3, st3, wn3⟩ := rint_call (e := e2) ST2.out.place hs
        obtain ⟨b, p4, e4, hc4, st4, wn4⟩ := rint_call (e := e3) st3.place hs
        unfold RSub Vn.refR at hc3 hc4
        have HC3 := Lib.hid hc3; have ST3 := Lib.hid st3; have WN3 := Lib.hid wn3
        have HC4 := Lib.hid hc4; have ST4 := Lib.hid st4; have WN4 := Lib.hid wn4
        clear hc3 st3 wn3 hc4 st4 wn4
        obtain ⟨t0, t1, t2, t3, t4, t5, t6, t7⟩ := HT0.out.cells
        dsimp only [Tm.k, Tm.lo, Tm.hi, Tm.s, Tm.y, Tm.m, Tm.o] at t0 t1 t2 t3 t4 t5 t6 t7
        simp only [Nat.zero_add] at t1 t2 t3 t4 t5 t6 t7
        obtain ⟨c0, c1, c2⟩ := HR4.out.cells
        go_wp2_with fail
        go_at_call 106; refine (HC3.out _).mono ?_; rintro en w3 ⟨rfl, hB3⟩
        have HK5 := Lib.hid (HK4.out.trans (Kp2.of_below (B := N) (R := N + 3) hB3))
        have HR5 := Lib.hid (HR4.out.below hB3)
        have HV5 := Lib.hid (HV4.out.below hB3)
        have HT5 := Lib.hid (HT0.out.below hB3)
        clear hB3 HC3 HK4 HR4 HV4 HT0 c0 c1 c2 t0 t1 t2 t3 t4 t5 t6 t7
        obtain ⟨c0, c1, c2⟩ := HR5.out.cells
        have cf := HR5.out.fz
        go_upto_region 15 with fail
        obtain ⟨X5, hX⟩ : ∃ X5, putR w3 N s p3 e3 = X5 := ⟨_, rfl⟩
        have HR6 := Lib.hid (show RB X5 N s p3 e3 by rw [← hX]; exact HR5.out.put _ _)
        have HK6 := Lib.hid (show Kp2 N (N + 3) wr X5 by rw [← hX]; exact HK5.out.trans (putR_kp2 _ _ _ _ _ _))
        have HV6 := Lib.hid (show BxS X5 (N + 3) u by rw [← hX]; exact (putR_block _ _ _ _ _ _ (by omega)).trans HV5.out)
        have HT6 := Lib.hid (show Bx8 X5 T _ by rw [← hX]; exact (putR_block _ _ _ _ _ _ (by omega)).trans HT5.out)
        unfold putR at hX
        rw [hX]
        clear hX HR5 HK5 HV5 HT5 c0 c1 c2 cf
        obtain ⟨c0, c1, c2⟩ := HR6.out.cells
        go_wp2_with fail
        go_at_call 106; refine (HC4.out _).mono ?_; rintro en w4 ⟨rfl, hB3⟩
        have HK5 := Lib.hid (HK6.out.trans (Kp2.of_below (B := N) (R := N + 3) hB3))
        have HR5 := Lib.hid (HR6.out.below hB3)
        have HV5 := Lib.hid (HV6.out.below hB3)
        have HT5 := Lib.hid (HT6.out.below hB3)
        clear hB3 HC4 HK6 HR6 HV6 HT6 c0 c1 c2
        obtain ⟨c0, c1, c2⟩ := HR5.out.cells
        have cf := HR5.out.fz
        go_upto_region 16 with fail
        obtain ⟨X6, hX⟩ : ∃ X6, putR w4 N s p4 e4 = X6 := ⟨_, rfl⟩
        have HR6 := Lib.hid (show RB X6 N s p4 e4 by rw [← hX]; exact HR5.out.put _ _)
        have HK6 := Lib.hid (show Kp2 N (N + 3) wr X6 by rw [← hX]; exact HK5.out.trans (putR_kp2 _ _ _ _ _ _))
        have HV6 := Lib.hid (show BxS X6 (N + 3) u by rw [← hX]; exact (putR_block _ _ _ _ _ _ (by omega)).trans HV5.out)
        have HT6 := Lib.hid (show Bx8 X6 T _ by rw [← hX]; exact (putR_block _ _ _ _ _ _ (by omega)).trans HT5.out)
        unfold putR at hX
        rw [hX]
        clear hX HR5 HK5 HV5 HT5 c0 c1 c2 cf
        obtain ⟨t0, t1, t2, t3, t4, t5, t6, t7⟩ := HT6.out.cells
        dsimp only [Tm.k, Tm.lo, Tm.hi, Tm.s, Tm.y, Tm.m, Tm.o] at t0 t1 t2 t3 t4 t5 t6 t7
        simp only [Nat.zero_add] at t1 t2 t3 t4 t5 t6 t7
        have tf := HT6.out.fz
        go_upto_region 17 with fail
        obtain ⟨X7, hX⟩ : ∃ X7, X6.setCell ⟨T, 1, none⟩ (.int .i64 (Vn.usg a)) = X7 := ⟨_, rfl⟩
        have HR7 := Lib.hid (show RB X7 N s p4 e4 by rw [← hX]; exact HR6.out.other (by omega))
        have HK7 := Lib.hid (show Kp2 N (N + 3) wr X7 by rw [← hX]; exact HK6.out.set (.inl hTw))
        have HV7 := Lib.hid (show BxS X7 (N + 3) u by rw [← hX]; exact HV6.out.other (by omega))
        have HT7 := Lib.hid (show Bx8 X7 T ⟨.mk 2 (Vn.usg a) 0 ⟨#[]⟩ y m5 o [], none, 0, 0⟩ by rw [← hX]; exact HT6.out.set1 (Vn.usg a))
        rw [hX]
        clear hX HR6 HK6 HV6 HT6 t0 t1 t2 t3 t4 t5 t6 t7 tf
        obtain ⟨t0, t1, t2, t3, t4, t5, t6, t7⟩ := HT7.out.cells
        dsimp only [Tm.k, Tm.lo, Tm.hi, Tm.s, Tm.y, Tm.m, Tm.o] at t0 t1 t2 t3 t4 t5 t6 t7
        simp only [Nat.zero_add] at t1 t2 t3 t4 t5 t6 t7
        have tf := HT7.out.fz
        go_upto_region 18 with fail
        obtain ⟨X8, hX⟩ : ∃ X8, X7.setCell ⟨T, 2, none⟩ (.int .i64 (Vn.usg b)) = X8 := ⟨_, rfl⟩
        have HR8 := Lib.hid (show RB X8 N s p4 e4 by rw [← hX]; exact HR7.out.other (by omega))
        have HK8 := Lib.hid (show Kp2 N (N + 3) wr X8 by rw [← hX]; exact HK7.out.set (.inl hTw))
        have HV8 := Lib.hid (show BxS X8 (N + 3) u by rw [← hX]; exact HV7.out.other (by omega))
        have HT8 := Lib.hid (show Bx8 X8 T ⟨.mk 2 (Vn.usg a) (Vn.usg b) ⟨#[]⟩ y m5 o [], none, 0, 0⟩ by rw [← hX]; exact HT7.out.set2 (Vn.usg b))
        rw [hX]
        clear hX HR7 HK7 HV7 HT7 t0 t1 t2 t3 t4 t5 t6 t7 tf
        obtain ⟨t0, t1, t2, t3, t4, t5, t6, t7⟩ := HT8.out.cells
        dsimp only [Tm.k, Tm.lo, Tm.hi, Tm.s, Tm.y, Tm.m, Tm.o] at t0 t1 t2 t3 t4 t5 t6 t7
        simp only [Nat.zero_add] at t1 t2 t3 t4 t5 t6 t7
        go_upto_region 33 with fail
        clear t0 t1 t2 t3 t4 t5 t6 t7
        obtain ⟨t0, t1, t2, t3, t4, t5, t6, t7⟩ := HT8.out.cells
        dsimp only [Tm.k, Tm.lo, Tm.hi, Tm.s, Tm.y, Tm.m, Tm.o] at t0 t1 t2 t3 t4 t5 t6 t7
        simp only [Nat.zero_add] at t1 t2 t3 t4 t5 t6 t7
        have v0 := HV8.out.cell
        obtain ⟨g, cap, w9, hrun, hb9, ho9, h9, hg9, hs9⟩ := ownH_grow (owns_kp HI.out.own HK8.out hNW hVW) (by omega) (by have := HI.out.kp.size; have := HK8.out.size; omega) ⟨.mk 2 (Vn.usg a) (Vn.usg b) ⟨#[]⟩ y m5 o [], none, 0, 0⟩
        have HI9 := Lib.hid (HI.out.round (z := ⟨.mk 2 (Vn.usg a) (Vn.usg b) ⟨#[]⟩ y m5 o [], none, 0, 0⟩) hlt hNW hVW (by omega) (nm_none _) (int_step (by decide) ST2.out HHD.out ST3.out ST4.out) (fun x0 Q hw hr => int_want (by decide) WN2.out HHD.out WN3.out WN4.out hw hr) HK8.out HR8.out (okP_nil _ _ _) HV8.out hb9 ho9 h9 hg9 hs9)
        have HV9 := Lib.hid (show BxS w9 (N + 3) u from (hb9.block _ hVW).trans HV8.out)
        have v9 := HV9.out.cell
        have f9 := HV9.out.fz
        dsimp only [Hr.enc, Tm.k, Tm.lo, Tm.hi, Tm.s, Tm.y, Tm.m, Tm.o] at hrun
        have HR9 := Lib.hid hrun
        clear hrun hb9 ho9 h9 hg9 hs9
        go_wp2_with (at_builtin; refine Lib.wpList_append_run _ rfl _ _ _ _ rfl _ _ rfl rfl _ _ HR9.out ?_)
        go_roundw
        case rel => exact ⟨_, _, p4, e4, by simp; omega, by rw [List.length_append]; go_num, HI9⟩
        case measure => simp [intOf]; omega
      · subst hk1
        obtain ⟨nf, p3, e3, hc3, hn32, st3, wn3⟩ := rmost_call (e := e2) 32 (by decide) ST2.out.place hs
        unfold RSub Vn.refR at hc3
        have HC3 := Lib.hid hc3; have ST3 := Lib.hid st3; have WN3 := Lib.hid wn3
        clear hc3 st3 wn3
        obtain ⟨t0, t1, t2, t3, t4, t5, t6, t7⟩ := HT0.out.cells
        dsimp only [Tm.k, Tm.lo, Tm.hi, Tm.s, Tm.y, Tm.m, Tm.o] at t0 t1 t2 t3 t4 t5 t6 t7
        simp only [Nat.zero_add] at t1 t2 t3 t4 t5 t6 t7
        obtain ⟨c0, c1, c2⟩ := HR4.out.cells
        go_wp2_with fail
        go_at_call 105; refine (HC3.out _).mono ?_; rintro en w3 ⟨rfl, hB3⟩
        have HK5 := Lib.hid (HK4.out.trans (Kp2.of_below (B := N) (R := N + 3) hB3))
        have HR5 := Lib.hid (HR4.out.below hB3)
        have HV5 := Lib.hid (HV4.out.below hB3)
        have HT5 := Lib.hid (HT0.out.below hB3)
        clear hB3 HC3 HK4 HR4 HV4 HT0 c0 c1 c2 t0 t1 t2 t3 t4 t5 t6 t7
        obtain ⟨c0, c1, c2⟩ := HR5.out.cells
        have cf := HR5.out.fz
        go_upto_region 25 with fail
        obtain ⟨X5, hX⟩ : ∃ X5, putR w3 N s p3 e3 = X5 := ⟨_, rfl⟩
        have HR6 := Lib.hid (show RB X5 N s p3 e3 by rw [← hX]; exact HR5.out.put _ _)
        have HK6 := Lib.hid (show Kp2 N (N + 3) wr X5 by rw [← hX]; exact HK5.out.trans (putR_kp2 _ _ _ _ _ _))
        have HV6 := Lib.hid (show BxS X5 (N + 3) u by rw [← hX]; exact (putR_block _ _ _ _ _ _ (by omega)).trans HV5.out)
        have HT6 := Lib.hid (show Bx8 X5 T ⟨.mk 4 0 0 ⟨#[]⟩ y m5 o [], none, 0, 0⟩ by rw [← hX]; exact (putR_block _ _ _ _ _ _ (by omega)).trans HT5.out)
        unfold putR at hX
        rw [hX]
        clear hX HR5 HK5 HV5 HT5 c0 c1 c2 cf
        have hNX : N < X5.heap.size := HR6.out.lt
        have hTX : T < X5.heap.size := HT6.out.lt
        have hVT : N + 3 < T := by omega
        have hwX5 : wr.heap.size ≤ X5.heap.size := HK6.out.size
        have HJ0 := Lib.hid (FJ.start (l := l) (T := T) HR6.out ST3.out WN3.out)
        clear HR6
        go_upto_region 26 with fail
        go_loopw [15] (fun i w5 => ∃ (F : List Fh) (f : Option Addr) (fc : Nat) (q' d' : Nat), F.length ≤ nf ∧ i = .int .u64 (F.length : Int) ∧ Hid (Bx8 w5 T ⟨.mk 4 0 0 ⟨#[]⟩ y m5 o [], f, F.length, fc⟩) ∧ Hid (FJ l N T s p2 e2 X5 nf F (.slice f F.length fc) w5 q' d')) (fun i _ => nf - (intOf i).toNat)
        case atStart => exact ⟨[], none, 0, p3, e3, Nat.zero_le _, rfl, HT6, HJ0⟩
        case round =>
          clear HJ0 HT6
          obtain ⟨F, f, fc, q', d', hFn, rfl, hT, hJ⟩ := hrel
          rename World => w5
          have HT := Lib.hid hT.out
          have HJ := Lib.hid hJ.out
          clear hT hJ
          obtain ⟨c0, c1, c2⟩ := HJ.out.rb.cells
          have hX55 : X5.heap.size ≤ w5.heap.size := HJ.out.kp.size
          by_cases hgo : F.length < nf ∧ d' = 0
          · obtain ⟨hltF, hd⟩ := hgo
            subst hd
            have hkj : (F.length : Int) < (nf : Int) := by omega
            have hql : q' ≤ s.size := HJ.out.step.place
            obtain ⟨t, p6, e6, hc6, hts, st6, wn6⟩ := rtext_call (e := 0) 16 (by decide) hql hs
            unfold RSub Vn.refR at hc6
            have HC6 := Lib.hid hc6; have ST6 := Lib.hid st6; have WN6 := Lib.hid wn6
            clear hc6 st6 wn6
            go_upto_region 30 with fail
            obtain ⟨w6, hX⟩ : ∃ w6, w5.alloc bxV = w6 := ⟨_, rfl⟩
            have hb6 : Below w5.heap.size w5 w6 := by rw [← hX]; exact bl_alloc (Below.refl _ _)
            have HG6 : Hid (BxS w6 w5.heap.size (.slice none 0 0)) := by rw [← hX]; exact w_new w5 _
            have HR6 := Lib.hid (HJ.out.rb.below hb6)
            have HT6 := Lib.hid (HT.out.below hb6)
            have HK6 := Lib.hid (Kp2.of_below (B := N) (R := T) hb6)
            obtain ⟨G, hG⟩ : ∃ G, w5.heap.size = G := ⟨_, rfl⟩
            rw [hG] at HG6 hX55 ⊢
            rw [hX]
            clear hX hb6 HT c0 c1 c2
            obtain ⟨c0, c1, c2⟩ := HR6.out.cells
            go_wp2_with fail
            go_at_call 107; refine (HC6.out _).mono ?_; rintro en w7 ⟨rfl, hB7⟩
            have HR7 := Lib.hid (HR6.out.below hB7)
            have HT7 := Lib.hid (HT6.out.below hB7)
            have HG7 := Lib.hid (HG6.out.below hB7)
            have HK7 := Lib.hid (HK6.out.trans (Kp2.of_below hB7))
            clear hB7 HR6 HT6 HG6 HK6 HC6 c0 c1 c2
            obtain ⟨c0, c1, c2⟩ := HR7.out.cells
            have cf := HR7.out.fz
            go_upto_region 31 with fail
            obtain ⟨X8, hX⟩ : ∃ X8, putR w7 N s p6 e6 = X8 := ⟨_, rfl⟩
            have HR8 := Lib.hid (show RB X8 N s p6 e6 by rw [← hX]; exact HR7.out.put _ _)
            have HK8 := Lib.hid (show Kp2 N T w5 X8 by rw [← hX]; exact HK7.out.trans (putR_kp2 _ _ _ _ _ _))
            have HG8 := Lib.hid (show BxS X8 G (.slice none 0 0) by rw [← hX]; exact (putR_block _ _ _ _ _ _ (by omega)).trans HG7.out)
            have HT8 := Lib.hid (show Bx8 X8 T _ by rw [← hX]; exact (putR_block _ _ _ _ _ _ (by omega)).trans HT7.out)
            unfold putR at hX
            rw [hX]
            clear hX HR7 HK7 HG7 HT7 c0 c1 c2 cf
            obtain ⟨c0, c1, c2⟩ := HR8.out.cells
            have HC9 := HGH.out X8 s p6 e6 ST6.out.place hs
            unfold Vn.refR at HC9
            have HC9 := Lib.hid HC9
            go_wp2_with fail
            go_at_call 62; refine HC9.out.mono ?_; rintro en w9 ⟨ta, tl, tc, A, p9, e9, rfl, hB9, hV9, hn9, hl9, st9, wn9⟩
            unfold Vn.refR
            have HV9 := Lib.hid hV9; have HN9 := Lib.hid hn9; have HL9 := Lib.hid hl9; have ST9 := Lib.hid st9; have WN9 := Lib.hid wn9
            have HR9 := Lib.hid (HR8.out.below hB9)
            have HT9 := Lib.hid (HT8.out.below hB9)
            have HG9 := Lib.hid (HG8.out.below hB9)
            have HK9 := Lib.hid (HK8.out.trans (Kp2.of_below hB9))
            have hs8 : w5.heap.size ≤ X8.heap.size := HK8.out.size
            have hGs : G < X8.heap.size := HG8.out.lt
            clear hB9 HR8 HT8 HG8 HK8 HC9 c0 c1 c2 hV9 hn9 hl9 st9 wn9
            obtain ⟨c0, c1, c2⟩ := HR9.out.cells
            have cf := HR9.out.fz
            have g0 := HG9.out.cell
            have gf := HG9.out.fz
            go_upto_region 32 with fail
            obtain ⟨Y, hX⟩ : ∃ Y, (putR w9 N s p9 e9).setCell ⟨G, 0, none⟩ (.slice ta tl tc) = Y := ⟨_, rfl⟩
            have HRY := Lib.hid (show RB Y N s p9 e9 by rw [← hX]; exact (HR9.out.put _ _).other (by omega))
            have HKY := Lib.hid (show Kp2 N T w5 Y by rw [← hX]; exact (HK9.out.trans (putR_kp2 _ _ _ _ _ _)).set (.inl (by omega)))
            have HGY := Lib.hid (show BxS Y G (.slice ta tl tc) by rw [← hX]; exact BxS.set (show BxS (putR w9 N s p9 e9) G (.slice none 0 0) from (putR_block _ _ _ _ _ _ (by omega)).trans HG9.out) _)
            have HTY := Lib.hid (show Bx8 Y T _ by rw [← hX]; exact Bx8.other (show Bx8 (putR w9 N s p9 e9) T _ from (putR_block _ _ _ _ _ _ (by omega)).trans HT9.out) (by omega))
            have HVY := Lib.hid (show InVP (fun b => w5.heap.size ≤ b) Y (l + 1) ta tl tc A by
              rw [← hX]
              refine HV9.out.to (by simp [World.setCell, putR_size]) fun b hb _ => ⟨Nat.le_trans hs8 hb, ?_⟩
              have hb' : X8.heap.size ≤ b := hb
              rw [Below.heap_setCell _ ⟨G, 0, none⟩ _ b (by intro e; simp at e; omega)]
              exact putR_block _ _ _ _ _ _ (by omega))
            unfold putR at hX
            rw [hX]
            clear hX HR9 HT9 HG9 HK9 HV9 c0 c1 c2 cf g0 gf
            obtain ⟨t0, t1, t2, t3, t4, t5, t6, t7⟩ := HTY.out.cells
            dsimp only [Tm.k, Tm.lo, Tm.hi, Tm.s, Tm.y, Tm.m, Tm.o] at t0 t1 t2 t3 t4 t5 t6 t7
            simp only [Nat.zero_add] at t1 t2 t3 t4 t5 t6 t7
            have g0 := HGY.out.cell
            obtain ⟨gg, cap, w10, hrun, hb10, ho10, h10, hg10, hs10⟩ := ownFh_grow (owns_kp HJ.out.own HKY.out hNX hTX) (by omega) (by have := HKY.out.size; omega) ⟨t, A, ta, tl, tc⟩
            have HJ10 := Lib.hid (HJ.out.round (z := ⟨t, A, ta, tl, tc⟩) hltF hNX hTX (by omega) ⟨⟨by show t.size ≤ _; omega, HN9.out⟩, HL9.out⟩ rfl ST6.out WN6.out ST9.out WN9.out HKY.out HRY.out HVY.out hb10 ho10 h10 hg10 hs10 (.slice (some ⟨gg, 0, none⟩) (F.length + 1) cap))
            have HT10 := Lib.hid (show Bx8 w10 T _ from (hb10.block _ hTX).trans HTY.out)
            have HT11 := Lib.hid (HT10.out.set7 [] (some ⟨gg, 0, none⟩) (F.length + 1) cap)
            obtain ⟨-, -, -, -, -, -, -, s7⟩ := HT10.out.cells
            dsimp only [Tm.k, Tm.lo, Tm.hi, Tm.s, Tm.y, Tm.m, Tm.o] at s7
            simp only [Nat.zero_add] at s7
            have sf := HT10.out.fz
            dsimp only [Fh.enc] at hrun
            have HR10 := Lib.hid hrun
            clear hrun hb10 ho10 h10 hg10 hs10
            go_wp2_with (at_builtin; refine Lib.wpList_append_run _ rfl _ _ _ _ rfl _ _ rfl rfl _ _ HR10.out ?_)
            go_roundw
            case rel => exact ⟨F ++ [⟨t, A, ta, tl, tc⟩], some ⟨gg, 0, none⟩, cap, p9, e9, by simp; omega, by rw [List.length_append]; go_num, by rw [List.length_append]; exact HT11, by rw [List.length_append]; exact HJ10⟩
            case measure => simp [intOf]; omega
          · have hdn : F.length = nf ∨ d' ≠ 0 := by omega
            have HDN := Lib.hid (HJ.out.done hdn)
            have HIF := Lib.hid (HJ.out.inF (by omega))
            have HKR := Lib.hid (show Kp2 N (N + 3) wr w5 from ⟨HJ.out.kp.os.trans HK6.out.os, HJ.out.kp.tape.trans HK6.out.tape, HJ.out.kp.output.trans HK6.out.output, by omega, fun k hk hB hR => (HJ.out.kp.block k (by omega) hB (by omega)).trans (HK6.out.block k hk hB hR)⟩)
            have HVR := Lib.hid (HV6.out.kp2 HJ.out.kp (by omega) (by omega))
            have HRR := Lib.hid HJ.out.rb
            have HTR := Lib.hid (show Bx8 w5 T ⟨.mk 4 0 0 ⟨#[]⟩ y m5 o (F.map Fh.f), f, F.length, fc⟩ from HT.out)
            have HOK := Lib.hid (show Hr.okP (fun b => wr.heap.size ≤ b) (l + 1) w5 ⟨.mk 4 0 0 ⟨#[]⟩ y m5 o (F.map Fh.f), f, F.length, fc⟩ from InFP.to (Nat.le_refl _) (fun b hb _ => ⟨Nat.le_trans hwX5 hb, rfl⟩) (fun _ _ _ _ h => InVP.imp (fun b hb _ => Nat.le_trans hwX5 hb) h) HIF.out)
            have hpd : q' ≤ s.size := HJ.out.step.place
            have hcase : ¬ F.length < nf ∨ (F.length < nf ∧ d' ≠ 0) := by omega
            rcases hcase with hnl | ⟨hltF, hd0⟩
            · have hkj : ¬ (F.length : Int) < (nf : Int) := by omega
              go_upto_region 33 with fail
              clear c0 c1 c2
              obtain ⟨t0, t1, t2, t3, t4, t5, t6, t7⟩ := HTR.out.cells
              dsimp only [Tm.k, Tm.lo, Tm.hi, Tm.s, Tm.y, Tm.m, Tm.o] at t0 t1 t2 t3 t4 t5 t6 t7
              simp only [Nat.zero_add] at t1 t2 t3 t4 t5 t6 t7
              have v0 := HVR.out.cell
              obtain ⟨g, cap, w9, hrun, hb9, ho9, h9, hg9, hs9⟩ := ownH_grow (owns_kp HI.out.own HKR.out hNW hVW) (by omega) (by have := HI.out.kp.size; have := HKR.out.size; omega) ⟨.mk 4 0 0 ⟨#[]⟩ y m5 o (F.map Fh.f), f, F.length, fc⟩
              have HI9 := Lib.hid (HI.out.round (z := ⟨.mk 4 0 0 ⟨#[]⟩ y m5 o (F.map Fh.f), f, F.length, fc⟩) hlt hNW hVW (by omega) HDN.out.1 (hd_step ST2.out HHD.out (by rw [bB_struct]; exact HDN.out.2.1)) (fun x0 Q hw hr => struct_want (room := wF l x0.fs) WN2.out HHD.out (fun fs0 Q h1 h2 _ => HDN.out.2.2 fs0 Q h1 h2) hw hr (Nat.le_refl _)) HKR.out HRR.out HOK.out HVR.out hb9 ho9 h9 hg9 hs9)
              have HV9 := Lib.hid (show BxS w9 (N + 3) u from (hb9.block _ hVW).trans HVR.out)
              have v9 := HV9.out.cell
              have f9 := HV9.out.fz
              dsimp only [Hr.enc, Tm.k, Tm.lo, Tm.hi, Tm.s, Tm.y, Tm.m, Tm.o] at hrun
              have HR9 := Lib.hid hrun
              clear hrun hb9 ho9 h9 hg9 hs9
              go_wp2_with (at_builtin; refine Lib.wpList_append_run _ rfl _ _ _ _ rfl _ _ rfl rfl _ _ HR9.out ?_)
              go_roundw
              case rel => exact ⟨_, _, q', d', by simp; omega, by rw [List.length_append]; go_num, HI9⟩
              case measure => simp [intOf]; omega
            · have hkj : (F.length : Int) < (nf : Int) := by omega
              have hdb : ((d' : Int) == 0) = false := by rw [beq_eq_false_iff_ne]; omega
              go_upto_region 33 with fail
              clear c0 c1 c2
              obtain ⟨t0, t1, t2, t3, t4, t5, t6, t7⟩ := HTR.out.cells
              dsimp only [Tm.k, Tm.lo, Tm.hi, Tm.s, Tm.y, Tm.m, Tm.o] at t0 t1 t2 t3 t4 t5 t6 t7
              simp only [Nat.zero_add] at t1 t2 t3 t4 t5 t6 t7
              have v0 := HVR.out.cell
              obtain ⟨g, cap, w9, hrun, hb9, ho9, h9, hg9, hs9⟩ := ownH_grow (owns_kp HI.out.own HKR.out hNW hVW) (by omega) (by have := HI.out.kp.size; have := HKR.out.size; omega) ⟨.mk 4 0 0 ⟨#[]⟩ y m5 o (F.map Fh.f), f, F.length, fc⟩
              have HI9 := Lib.hid (HI.out.round (z := ⟨.mk 4 0 0 ⟨#[]⟩ y m5 o (F.map Fh.f), f, F.length, fc⟩) hlt hNW hVW (by omega) HDN.out.1 (hd_step ST2.out HHD.out (by rw [bB_struct]; exact HDN.out.2.1)) (fun x0 Q hw hr => struct_want (room := wF l x0.fs) WN2.out HHD.out (fun fs0 Q h1 h2 _ => HDN.out.2.2 fs0 Q h1 h2) hw hr (Nat.le_refl _)) HKR.out HRR.out HOK.out HVR.out hb9 ho9 h9 hg9 hs9)
              have HV9 := Lib.hid (show BxS w9 (N + 3) u from (hb9.block _ hVW).trans HVR.out)
              have v9 := HV9.out.cell
              have f9 := HV9.out.fz
              dsimp only [Hr.enc, Tm.k, Tm.lo, Tm.hi, Tm.s, Tm.y, Tm.m, Tm.o] at hrun
              have HR9 := Lib.hid hrun
              clear hrun hb9 ho9 h9 hg9 hs9
              go_wp2_with (at_builtin; refine Lib.wpList_append_run _ rfl _ _ _ _ rfl _ _ rfl rfl _ _ HR9.out ?_)
              go_roundw
              case rel => exact ⟨_, _, q', d', by simp; omega, by rw [List.length_append]; go_num, HI9⟩
              case measure => simp [intOf]; omega
    · have hdn : L.length = n ∨ e' ≠ 0 := by omega
      obtain ⟨a, cap, hu, -⟩ := OwnH.row HI.out.own
      subst hu
      have HA := Lib.hid (HAX.out.kp2 HI.out.kp (by omega) (by omega))
      have HD := Lib.hid (HDX.out.kp2 HI.out.kp (by omega) (by omega))
      have hcase : ¬ L.length < n ∨ (L.length < n ∧ e' ≠ 0) := by omega
      rcases hcase with hnl | ⟨hlt, he0⟩
      · have hki : ¬ (L.length : Int) < (n : Int) := by omega
        have v0 := HI.out.vb.cell
        obtain ⟨a0, a1, a2⟩ := HA.out.cells
        have af := HA.out.fz
        have d0 := HD.out.cell
        have df := HD.out.fz
        go_upto_region 34 with fail
        go_region
        obtain ⟨Z, hZ⟩ : ∃ Z, ((putR wr (N + 1) s p' e').setCell ⟨N + 1 + 1, 0, none⟩ (.slice a L.length cap)).drew = Z := ⟨_, rfl⟩
        have HZA := Lib.hid (show RB Z (N + 1) s p' e' by rw [← hZ]; exact RB.drew (RB.other (HA.out.putS _ _ _) (by omega)))
        have HZD := Lib.hid (show BxS Z (N + 1 + 1) (.slice a L.length cap) by rw [← hZ]; refine BxS.drew ?_; exact BxS.set (show BxS (putR wr (N + 1) s p' e') (N + 1 + 1) (.slice none 0 0) from (putR_block _ _ _ _ _ _ (by omega)).trans HD.out) _)
        have HZB := Lib.hid (show Below w.heap.size w Z by
          rw [← hZ]
          have h0 : Below w.heap.size w wr := by rw [hN]; exact kp2_below HBX.out HI.out.kp (by omega) (Nat.le_refl _) (by omega)
          unfold putR
          refine Below.drew (bl_set (bl_set (bl_set (bl_set h0 ?_) ?_) ?_) ?_) <;> (dsimp only; omega))
        have HZK := Lib.hid (show wr.heap.size ≤ Z.heap.size ∧ ∀ b, X.heap.size ≤ b → Z.heap[b]? = wr.heap[b]? by
          rw [← hZ]
          rw [drew_heap]
          refine ⟨by simp [World.setCell, putR_size], fun b hb => ?_⟩
          rw [Below.heap_setCell _ ⟨N + 1 + 1, 0, none⟩ _ b (by intro e; simp at e; omega)]
          exact putR_block _ _ _ _ _ _ (by omega))
        unfold putR at hZ
        rw [hZ]
        clear hZ HA HD a0 a1 a2 af d0 df v0 q0 q1 q2
        obtain ⟨a0, a1, a2⟩ := HZA.out.cells
        have d0 := HZD.out.cell
        go_wp2_with fail
        refine bodyPost_ret (v := .tuple #[.agg #[.string s, .int .i64 (p' : Int), .int .i64 (e' : Int)], .agg #[.slice a L.length cap]]) (by simp [results, Tryz.results62, go_sem, a0, a1, a2, d0]) rfl ?_
        exact HI.out.done hn5 hLn hdn (by omega) HZB.out HZK.out.1 HZK.out.2
      · have hki : (L.length : Int) < (n : Int) := by omega
        have heb : ((e' : Int) == 0) = false := by rw [beq_eq_false_iff_ne]; omega
        have v0 := HI.out.vb.cell
        obtain ⟨a0, a1, a2⟩ := HA.out.cells
        have af := HA.out.fz
        have d0 := HD.out.cell
        have df := HD.out.fz
        go_upto_region 34 with fail
        go_region
        obtain ⟨Z, hZ⟩ : ∃ Z, ((putR wr (N + 1) s p' e').setCell ⟨N + 1 + 1, 0, none⟩ (.slice a L.length cap)).drew = Z := ⟨_, rfl⟩
        have HZA := Lib.hid (show RB Z (N + 1) s p' e' by rw [← hZ]; exact RB.drew (RB.other (HA.out.putS _ _ _) (by omega)))
        have HZD := Lib.hid (show BxS Z (N + 1 + 1) (.slice a L.length cap) by rw [← hZ]; refine BxS.drew ?_; exact BxS.set (show BxS (putR wr (N + 1) s p' e') (N + 1 + 1) (.slice none 0 0) from (putR_block _ _ _ _ _ _ (by omega)).trans HD.out) _)
        have HZB := Lib.hid (show Below w.heap.size w Z by
          rw [← hZ]
          have h0 : Below w.heap.size w wr := by rw [hN]; exact kp2_below HBX.out HI.out.kp (by omega) (Nat.le_refl _) (by omega)
          unfold putR
          refine Below.drew (bl_set (bl_set (bl_set (bl_set h0 ?_) ?_) ?_) ?_) <;> (dsimp only; omega))
        have HZK := Lib.hid (show wr.heap.size ≤ Z.heap.size ∧ ∀ b, X.heap.size ≤ b → Z.heap[b]? = wr.heap[b]? by
          rw [← hZ]
          rw [drew_heap]
          refine ⟨by simp [World.setCell, putR_size], fun b hb => ?_⟩
          rw [Below.heap_setCell _ ⟨N + 1 + 1, 0, none⟩ _ b (by intro e; simp at e; omega)]
          exact putR_block _ _ _ _ _ _ (by omega))
        unfold putR at hZ
        rw [hZ]
        clear hZ HA HD a0 a1 a2 af d0 df v0 q0 q1 q2
        obtain ⟨a0, a1, a2⟩ := HZA.out.cells
        have d0 := HZD.out.cell
        go_wp2_with fail
        refine bodyPost_ret (v := .tuple #[.agg #[.string s, .int .i64 (p' : Int), .int .i64 (e' : Int)], .agg #[.slice a L.length cap]]) (by simp [results, Tryz.results62, go_sem, a0, a1, a2, d0]) rfl ?_
        exact HI.out.done hn5 hLn hdn (by omega) HZB.out HZK.out.1 HZK.out.2
end Go.Proofs.YtddleeenlpigfaaGreatDoor.Ec
