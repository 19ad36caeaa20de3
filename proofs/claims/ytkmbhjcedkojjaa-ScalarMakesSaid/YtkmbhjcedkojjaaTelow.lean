/- WALK of the law ScalarMakes: low. -/
import Derived.Test.YtkmbhjcedkojjaaTd
import Derived.Deep.DeepCutAuto
import Derived.Deep.CutBlock
namespace Go.Proofs.Ytkmbhjcedkojjaa
open Go.RowKit
set_option maxRecDepth 100000 in
set_option maxHeartbeats 16000000 in
theorem smakes_low (n0 n1 n2 : Int) (z : ByteArray) (k lo hi : Int) (s : ByteArray) (y m o : Bool) (f : Option Addr) (fl fc : Nat) (kw low hiw : Int) (yw okw : Bool) (kb lob hib : Int) (okb : Bool) (kx : Int) (sx : ByteArray) (okx : Bool) (w : World) (hz : z.size ≤ 400) (h : shortB s fl = true) (hn : n0 < 1)
    (K18 : (∀ W, Calls Try.prog 18 #[.int .i64 n0] W fun e w' => e = .returned (.tuple #[tv kw low hiw ⟨#[]⟩ yw false false none 0 0, .bool okw]) ∧ Below W.heap.size W w')) (K19 : (∀ W, Calls Try.prog 19 #[.int .i64 n1, .int .i64 n2] W fun e w' => e = .returned (.tuple #[tv kb lob hib ⟨#[]⟩ false false false none 0 0, .bool okb]) ∧ Below W.heap.size W w')) (K20 : (∀ W, Calls Try.prog 20 #[.string z] W fun e w' => e = .returned (.tuple #[tv kx 0 0 sx false false false none 0 0, .bool okx]) ∧ Below W.heap.size W w'))
    (L1 : (∀ W, Calls Try.prog 21 #[tv kw low hiw ⟨#[]⟩ yw false false none 0 0, .bool okw, tv n0 0 0 ⟨#[]⟩ false false false none 0 0, .bool false] W fun e w' => e = .returned (.bool true) ∧ Below W.heap.size W w')) (R1 : (∀ W, Calls Try.prog 12 #[tv 2 n1 n2 ⟨#[]⟩ false false false none 0 0] W fun e w' => e = .returned (.bool okb) ∧ Below W.heap.size W w')) (L2 : (∀ W, Calls Try.prog 21 #[tv kb lob hib ⟨#[]⟩ false false false none 0 0, .bool okb, tv 2 n1 n2 ⟨#[]⟩ false false false none 0 0, .bool okb] W fun e w' => e = .returned (.bool true) ∧ Below W.heap.size W w')) (R2 : (∀ W, Calls Try.prog 12 #[tv 3 0 0 z false false false none 0 0] W fun e w' => e = .returned (.bool okx) ∧ Below W.heap.size W w')) (L3 : (∀ W, Calls Try.prog 21 #[tv kx 0 0 sx false false false none 0 0, .bool okx, tv 3 0 0 z false false false none 0 0, .bool okx] W fun e w' => e = .returned (.bool true) ∧ Below W.heap.size W w'))
    (KL : ∀ W, Below w.heap.size w W → Calls Try.prog 22 #[tv k lo hi s y m o f fl fc] W (LaterPost W k lo hi s y (m || (rightB k lo hi s y m o fl && !singleB k lo hi y)) o fl)) :
    Calls Try.prog 4 #[nv n0 n1 n2, .string z, tv k lo hi s y m o f fl fc] w fun e w' => e = .returned (.bool true) ∧ Below w.heap.size w w' := by
  have HS := fun W => Lib.hid (short_any k lo hi s y m o f fl fc W)
  have HA := fun W => Lib.hid (sawake_any W)
  have H18 := fun W => Lib.hid (K18 W)
  have H19 := fun W => Lib.hid (K19 W)
  have H20 := fun W => Lib.hid (K20 W)
  have HL1 := fun W => Lib.hid (L1 W)
  have HR1 := fun W => Lib.hid (R1 W)
  have HL2 := fun W => Lib.hid (L2 W)
  have HR2 := fun W => Lib.hid (R2 W)
  have HL3 := fun W => Lib.hid (L3 W)
  have HRT := fun W => Lib.hid (rright_any k lo hi s y m o f fl fc W)
  have HGT := fun W => Lib.hid (rsingle_any k lo hi s y m o f fl fc W)
  have HT1 := fun W => Lib.hid (truth_yes W)
  have HT0 := fun W => Lib.hid (truth_no W)
  have HY := fun W => Lib.hid (same_yes W)
  have HN := fun W => Lib.hid (same_no W)
  obtain ⟨m2, hm2⟩ : ∃ m2, m2 = (m || (rightB k lo hi s y m o fl && !singleB k lo hi y)) := ⟨_, rfl⟩
  have HSM : Hid (∀ (f' : Option Addr) (fc' : Nat) W, rightB k lo hi s y m o fl = true → Calls Try.prog 17 #[tv k lo hi s y m2 o f' fl fc', tv k lo hi s y m2 o f fl fc] W fun e w' => e = .returned (.bool true) ∧ Below W.heap.size W w') := by
    intro f' fc' W hr
    have := rsame_any k lo hi s y m2 o f' fl fc' k lo hi s y m2 o f fl fc W
    rwa [show decide (SameP k lo hi s y m2 o fl k lo hi s y m2 o fl) = true from by rw [hm2]; exact same_m2 hr] at this
  rw [← hm2] at KL
  have HKL := Lib.hid KL
  have HM2 := Lib.hid hm2
  have h1' : (z.size : Int) ≤ 400 := by omega
  clear K18 K19 K20 L1 R1 L2 R2 L3 KL hm2
  generalize rightB k lo hi s y m o fl = r at *
  generalize singleB k lo hi y = g at *
  generalize shortB s fl = sb at *
  subst h
  have b1 : (n0 == 1) = false := by simp; omega
  have b2 : (n0 == 2) = false := by simp; omega
  have b3 : (n0 == 3) = false := by simp; omega
  have b4 : ¬ 1 ≤ n0 := by omega
  clear hn
  go_enter Try.func4, Try.ntmps4
  go_upto_region 3 with (go_at_call 10; (with_reducible refine (HS _).out.mono ?_); rintro e w2 ⟨rfl, hB⟩; obtain ⟨hn, ht, hb⟩ := makes_boxes w _ _ _ _ _ _ _ _ _ _ _ _ _ hB; have HNX := Lib.hid hn; have HTX := Lib.hid ht; have HB2 := Lib.hid hb; clear hB hn ht hb)
  have z0 := HNX.out.1
  have a0 := HNX.out.2.1
  go_upto_region 14 with (go_at_call 18; (with_reducible refine (H18 _).out.mono ?_); rintro e w3 ⟨rfl, hB⟩; have HT7 := Lib.hid ((Tx.new w2 n0 0 0 ⟨#[]⟩ false false false none 0 0).later hB); have hb := bl_step (bl_alloc (Below.refl _ _)) hB; replace HNX := Lib.hid (HNX.out.later hb); replace HTX := Lib.hid (HTX.out.later hb); have HB3 := Lib.hid (bl_step HB2.out hb); clear hB hb z0 a0)
  have z0 := HNX.out.1
  have a1 := HNX.out.2.2.1
  have a2 := HNX.out.2.2.2
  go_upto_region 15 with (go_at_call 19; (with_reducible refine (H19 _).out.mono ?_); rintro e w4 ⟨rfl, hB⟩; have HT9 := Lib.hid ((Tx.new w3 kw low hiw ⟨#[]⟩ yw false false none 0 0).later hB); have hb := bl_step (bl_alloc (Below.refl _ _)) hB; replace HT7 := Lib.hid (HT7.out.later hb); replace HNX := Lib.hid (HNX.out.later hb); replace HTX := Lib.hid (HTX.out.later hb); have HB4 := Lib.hid (bl_step HB3.out hb); clear hB hb z0 a1 a2)
  have z0 := HNX.out.1
  have a1 := HNX.out.2.2.1
  have a2 := HNX.out.2.2.2
  go_upto_region 17 with (go_at_call 20; (with_reducible refine (H20 _).out.mono ?_); rintro e w5 ⟨rfl, hB⟩; have HT11 := Lib.hid (((Tx.new w4 kb lob hib ⟨#[]⟩ false false false none 0 0).alloc _).later hB); have HT13 := Lib.hid (Tx.two hB); have hb := bl_step (bl_alloc (bl_alloc (Below.refl _ _))) hB; replace HT9 := Lib.hid (HT9.out.later hb); replace HT7 := Lib.hid (HT7.out.later hb); replace HTX := Lib.hid (HTX.out.later hb); have HB5 := Lib.hid (bl_step HB4.out hb); clear hB hb z0 a1 a2)
  go_upto_region 18 with fail
  have HX : Hid (Laid6 w ((w5.alloc (.cells #[.int .i64 kx, .int .i64 0, .int .i64 0, .string sx, .bool false, .bool false, .bool false, .slice none 0 0] 24)).alloc (.cells #[.int .i64 3, .int .i64 0, .int .i64 0, .string z, .bool false, .bool false, .bool false, .slice none 0 0] 24)) w2.heap.size w3.heap.size w4.heap.size (w4.heap.size + 1) w5.heap.size (w5.heap.size + 1) k lo hi s y m o f fl fc n0 0 0 false kw low hiw yw kb lob hib n1 n2 kx sx z) :=
    ⟨(HTX.out.alloc _).alloc _, (HT7.out.alloc _).alloc _, (HT9.out.alloc _).alloc _, (HT11.out.alloc _).alloc _, (HT13.out.alloc _).alloc _, (Tx.new _ _ _ _ _ _ _ _ _ _ _).alloc _, Tx.two (Below.refl _ _), bl_alloc (bl_alloc HB5.out)⟩
  generalize ((w5.alloc (.cells #[.int .i64 kx, .int .i64 0, .int .i64 0, .string sx, .bool false, .bool false, .bool false, .slice none 0 0] 24)).alloc (.cells #[.int .i64 3, .int .i64 0, .int .i64 0, .string z, .bool false, .bool false, .bool false, .slice none 0 0] 24)) = X at *
  clear HT7 HT9 HT11 HT13 HTX HNX HB2 HB3 HB4 HB5
  have J1 := inC (X := X) HL1
  have J2 := inC (X := X) HL2
  have J3 := inC (X := X) HL3
  have Q1 := inC (X := X) HR1
  have Q2 := inC (X := X) HR2
  clear HL1 HL2 HL3 HR1 HR2
  refine region_class (C := fun W => Below X.heap.size X W) (by kernel_rfl) (by kernel_rfl) ((Below.refl _ _).drew) ?_
  repeat (first | go_big_quiet_skip | (go_big_quiet_want; go_big_quiet_op; first | go_big_quiet_on | (apply Exists.intro; refine ⟨fun W hW => ?_, ?_⟩; (first | rfl | with_reducible exact (J1.out W hW) | with_reducible exact (J2.out W hW) | with_reducible exact (J3.out W hW) | with_reducible exact (Q1.out W hW) | with_reducible exact (Q2.out W hW) | (obtain ⟨⟨q0, q1, q2, q3, q4, q5, q6, q7⟩, _⟩ := (HX.out.t7.later hW); go_simp; first | done | rfl | exact ⟨rfl, rfl⟩) | (obtain ⟨⟨q0, q1, q2, q3, q4, q5, q6, q7⟩, _⟩ := (HX.out.t9.later hW); go_simp; first | done | rfl | exact ⟨rfl, rfl⟩) | (obtain ⟨⟨q0, q1, q2, q3, q4, q5, q6, q7⟩, _⟩ := (HX.out.t11.later hW); go_simp; first | done | rfl | exact ⟨rfl, rfl⟩) | (obtain ⟨⟨q0, q1, q2, q3, q4, q5, q6, q7⟩, _⟩ := (HX.out.t13.later hW); go_simp; first | done | rfl | exact ⟨rfl, rfl⟩) | (obtain ⟨⟨q0, q1, q2, q3, q4, q5, q6, q7⟩, _⟩ := (HX.out.t14.later hW); go_simp; first | done | rfl | exact ⟨rfl, rfl⟩) | (obtain ⟨⟨q0, q1, q2, q3, q4, q5, q6, q7⟩, _⟩ := (HX.out.t16.later hW); go_simp; first | done | rfl | exact ⟨rfl, rfl⟩)); go_big_quiet_on)))
  refine wpQuiet_nil ?_
  intro w9 hW9
  have HTT := Lib.hid (HX.out.t.later hW9)
  have HB9 := Lib.hid (bl_step HX.out.below hW9)
  clear hW9 HX J1 J2 J3 Q1 Q2 H18 H19 H20
  cases r <;> cases g
  · have e2 := HM2.out
    have e3 : m = m2 := (by simpa using e2.symm); clear HM2 e2; subst e3
    obtain ⟨c0, c1, c2, c3, c4, c5, c6, c7⟩ := HTT.out.1
    have z1 := HTT.out.2
    go_upto_region 22 with (go_at_call 22; refine (HKL.out _ HB9.out).mono ?_; rintro e w10 ⟨f', fc', rfl, hB⟩; replace HTT := Lib.hid (HTT.out.later hB); have HB10 := Lib.hid (bl_step HB9.out hB); clear hB c0 c1 c2 c3 c4 c5 c6 c7 z1; obtain ⟨c0, c1, c2, c3, c4, c5, c6, c7⟩ := HTT.out.1; have z1 := HTT.out.2)
    have HL : Hid (Laid3 w ((w10.alloc (.cells #[.int .i64 k, .int .i64 lo, .int .i64 hi, .string s, .bool y, .bool m, .bool o, .slice f' fl fc'] 24)).alloc (.cells #[.int .i64 k, .int .i64 lo, .int .i64 hi, .string s, .bool y, .bool m, .bool o, .slice f fl fc] 24)) w10.heap.size (w10.heap.size + 1) k lo hi s y m o f fl fc m m f' fc') :=
      ⟨(HTT.out.alloc _).alloc _, (Tx.new _ _ _ _ _ _ _ _ _ _ _).alloc _, Tx.two (Below.refl _ _), by simp [go_sem], bl_alloc (bl_alloc HB10.out)⟩
    have HNE : Hid (w.heap.size + 1 ≠ w10.heap.size + 1 ∧ w10.heap.size ≠ w10.heap.size + 1 ∧ w.heap.size ≤ w10.heap.size + 1) := by have := HTT.out.2; exact ⟨by omega, by omega, by omega⟩
    clear c0 c1 c2 c3 c4 c5 c6 c7 z1
    generalize ((w10.alloc (.cells #[.int .i64 k, .int .i64 lo, .int .i64 hi, .string s, .bool y, .bool m, .bool o, .slice f' fl fc'] 24)).alloc (.cells #[.int .i64 k, .int .i64 lo, .int .i64 hi, .string s, .bool y, .bool m, .bool o, .slice f fl fc] 24)) = Y at *
    clear HTT HB9 HB10 HKL
    obtain ⟨c0, c1, c2, c3, c4, c5, c6, c7⟩ := HL.out.t.1; have z1 := HL.out.t.2; obtain ⟨d0, d1, d2, d3, d4, d5, d6, d7⟩ := HL.out.t17.1; obtain ⟨e0, e1, e2, e3, e4, e5, e6, e7⟩ := HL.out.t18.1; have fz := HL.out.fz
    go_upto_region 24 with (first
      | (go_at_call 12; (with_reducible refine ((HRT _).out).mono ?_); rintro e w20 ⟨rfl, hB⟩; replace HL := Lib.hid (HL.out.later hB); clear hB; clear c0 c1 c2 c3 c4 c5 c6 c7 d0 d1 d2 d3 d4 d5 d6 d7 e0 e1 e2 e3 e4 e5 e6 e7 z1 fz; obtain ⟨c0, c1, c2, c3, c4, c5, c6, c7⟩ := HL.out.t.1; have z1 := HL.out.t.2; obtain ⟨d0, d1, d2, d3, d4, d5, d6, d7⟩ := HL.out.t17.1; obtain ⟨e0, e1, e2, e3, e4, e5, e6, e7⟩ := HL.out.t18.1; have fz := HL.out.fz)
      | (go_at_call 15; (with_reducible refine ((HGT _).out).mono ?_); rintro e w20 ⟨rfl, hB⟩; replace HL := Lib.hid (HL.out.later hB); clear hB; clear c0 c1 c2 c3 c4 c5 c6 c7 d0 d1 d2 d3 d4 d5 d6 d7 e0 e1 e2 e3 e4 e5 e6 e7 z1 fz; obtain ⟨c0, c1, c2, c3, c4, c5, c6, c7⟩ := HL.out.t.1; have z1 := HL.out.t.2; obtain ⟨d0, d1, d2, d3, d4, d5, d6, d7⟩ := HL.out.t17.1; obtain ⟨e0, e1, e2, e3, e4, e5, e6, e7⟩ := HL.out.t18.1; have fz := HL.out.fz))
    go_upto_region 26 with (first
      | (go_at_call 12; (with_reducible refine ((HRT _).out).mono ?_); rintro e w20 ⟨rfl, hB⟩; replace HL := Lib.hid (HL.out.later hB); clear hB; clear c0 c1 c2 c3 c4 c5 c6 c7 d0 d1 d2 d3 d4 d5 d6 d7 e0 e1 e2 e3 e4 e5 e6 e7 z1 fz; obtain ⟨c0, c1, c2, c3, c4, c5, c6, c7⟩ := HL.out.t.1; have z1 := HL.out.t.2; obtain ⟨d0, d1, d2, d3, d4, d5, d6, d7⟩ := HL.out.t17.1; obtain ⟨e0, e1, e2, e3, e4, e5, e6, e7⟩ := HL.out.t18.1; have fz := HL.out.fz)
      | (go_at_call 17; (with_reducible refine ((HSN _ _ _).out).mono ?_); rintro e w20 ⟨rfl, hB⟩; replace HL := Lib.hid (HL.out.later hB); clear hB; clear c0 c1 c2 c3 c4 c5 c6 c7 d0 d1 d2 d3 d4 d5 d6 d7 e0 e1 e2 e3 e4 e5 e6 e7 z1 fz; obtain ⟨c0, c1, c2, c3, c4, c5, c6, c7⟩ := HL.out.t.1; have z1 := HL.out.t.2; obtain ⟨d0, d1, d2, d3, d4, d5, d6, d7⟩ := HL.out.t17.1; obtain ⟨e0, e1, e2, e3, e4, e5, e6, e7⟩ := HL.out.t18.1; have fz := HL.out.fz))
    clear c0 c1 c2 c3 c4 c5 c6 c7 d0 d1 d2 d3 d4 d5 d6 d7 e0 e1 e2 e3 e4 e5 e6 e7 z1 fz
    have HB20 := Lib.hid HL.out.below
    clear HL HNE
    go_wp2_with (first
      | (go_at_call 23; (with_reducible refine (HT1 _).out.mono ?_); rintro e w21 ⟨rfl, hB⟩; have HB21 := Lib.hid (bl_step HB20.out hB); clear hB)
      | (go_at_call 23; (with_reducible refine (HT0 _).out.mono ?_); rintro e w22 ⟨rfl, hB⟩; have HB22 := Lib.hid (bl_step HB21.out hB); clear hB)
      | (go_at_call 11; (with_reducible refine (HA _).out.mono ?_); rintro e w23 ⟨rfl, hB⟩; have HT19 := Lib.hid (((Tx.new w22 1 1 1 ⟨#[]⟩ false false false none 0 0).alloc _).later hB); have HT20 := Lib.hid (Tx.two hB); have HB23 := Lib.hid (bl_step (bl_alloc (bl_alloc HB22.out)) hB); clear hB; obtain ⟨d0, d1, d2, d3, d4, d5, d6, d7⟩ := HT19.out.1)
      | (go_at_call 17; (with_reducible refine (HY _).out.mono ?_); rintro e w24 ⟨rfl, hB⟩; have HT20 := Lib.hid (HT20.out.later hB); have HB24 := Lib.hid (bl_step HB23.out hB); clear hB d0 d1 d2 d3 d4 d5 d6 d7; obtain ⟨d0, d1, d2, d3, d4, d5, d6, d7⟩ := HT20.out.1)
      | (go_at_call 17; (with_reducible refine (HN _).out.mono ?_); rintro e w25 ⟨rfl, hB⟩; have HB25 := Lib.hid (bl_step HB24.out hB); clear hB))
    go_ret
    exact ⟨rfl, HB25.out⟩
  · have e2 := HM2.out
    have e3 : m = m2 := (by simpa using e2.symm); clear HM2 e2; subst e3
    obtain ⟨c0, c1, c2, c3, c4, c5, c6, c7⟩ := HTT.out.1
    have z1 := HTT.out.2
    go_upto_region 22 with (go_at_call 22; refine (HKL.out _ HB9.out).mono ?_; rintro e w10 ⟨f', fc', rfl, hB⟩; replace HTT := Lib.hid (HTT.out.later hB); have HB10 := Lib.hid (bl_step HB9.out hB); clear hB c0 c1 c2 c3 c4 c5 c6 c7 z1; obtain ⟨c0, c1, c2, c3, c4, c5, c6, c7⟩ := HTT.out.1; have z1 := HTT.out.2)
    have HL : Hid (Laid3 w ((w10.alloc (.cells #[.int .i64 k, .int .i64 lo, .int .i64 hi, .string s, .bool y, .bool m, .bool o, .slice f' fl fc'] 24)).alloc (.cells #[.int .i64 k, .int .i64 lo, .int .i64 hi, .string s, .bool y, .bool m, .bool o, .slice f fl fc] 24)) w10.heap.size (w10.heap.size + 1) k lo hi s y m o f fl fc m m f' fc') :=
      ⟨(HTT.out.alloc _).alloc _, (Tx.new _ _ _ _ _ _ _ _ _ _ _).alloc _, Tx.two (Below.refl _ _), by simp [go_sem], bl_alloc (bl_alloc HB10.out)⟩
    have HNE : Hid (w.heap.size + 1 ≠ w10.heap.size + 1 ∧ w10.heap.size ≠ w10.heap.size + 1 ∧ w.heap.size ≤ w10.heap.size + 1) := by have := HTT.out.2; exact ⟨by omega, by omega, by omega⟩
    clear c0 c1 c2 c3 c4 c5 c6 c7 z1
    generalize ((w10.alloc (.cells #[.int .i64 k, .int .i64 lo, .int .i64 hi, .string s, .bool y, .bool m, .bool o, .slice f' fl fc'] 24)).alloc (.cells #[.int .i64 k, .int .i64 lo, .int .i64 hi, .string s, .bool y, .bool m, .bool o, .slice f fl fc] 24)) = Y at *
    clear HTT HB9 HB10 HKL
    obtain ⟨c0, c1, c2, c3, c4, c5, c6, c7⟩ := HL.out.t.1; have z1 := HL.out.t.2; obtain ⟨d0, d1, d2, d3, d4, d5, d6, d7⟩ := HL.out.t17.1; obtain ⟨e0, e1, e2, e3, e4, e5, e6, e7⟩ := HL.out.t18.1; have fz := HL.out.fz
    go_upto_region 24 with (first
      | (go_at_call 12; (with_reducible refine ((HRT _).out).mono ?_); rintro e w20 ⟨rfl, hB⟩; replace HL := Lib.hid (HL.out.later hB); clear hB; clear c0 c1 c2 c3 c4 c5 c6 c7 d0 d1 d2 d3 d4 d5 d6 d7 e0 e1 e2 e3 e4 e5 e6 e7 z1 fz; obtain ⟨c0, c1, c2, c3, c4, c5, c6, c7⟩ := HL.out.t.1; have z1 := HL.out.t.2; obtain ⟨d0, d1, d2, d3, d4, d5, d6, d7⟩ := HL.out.t17.1; obtain ⟨e0, e1, e2, e3, e4, e5, e6, e7⟩ := HL.out.t18.1; have fz := HL.out.fz)
      | (go_at_call 15; (with_reducible refine ((HGT _).out).mono ?_); rintro e w20 ⟨rfl, hB⟩; replace HL := Lib.hid (HL.out.later hB); clear hB; clear c0 c1 c2 c3 c4 c5 c6 c7 d0 d1 d2 d3 d4 d5 d6 d7 e0 e1 e2 e3 e4 e5 e6 e7 z1 fz; obtain ⟨c0, c1, c2, c3, c4, c5, c6, c7⟩ := HL.out.t.1; have z1 := HL.out.t.2; obtain ⟨d0, d1, d2, d3, d4, d5, d6, d7⟩ := HL.out.t17.1; obtain ⟨e0, e1, e2, e3, e4, e5, e6, e7⟩ := HL.out.t18.1; have fz := HL.out.fz))
    go_upto_region 26 with (first
      | (go_at_call 12; (with_reducible refine ((HRT _).out).mono ?_); rintro e w20 ⟨rfl, hB⟩; replace HL := Lib.hid (HL.out.later hB); clear hB; clear c0 c1 c2 c3 c4 c5 c6 c7 d0 d1 d2 d3 d4 d5 d6 d7 e0 e1 e2 e3 e4 e5 e6 e7 z1 fz; obtain ⟨c0, c1, c2, c3, c4, c5, c6, c7⟩ := HL.out.t.1; have z1 := HL.out.t.2; obtain ⟨d0, d1, d2, d3, d4, d5, d6, d7⟩ := HL.out.t17.1; obtain ⟨e0, e1, e2, e3, e4, e5, e6, e7⟩ := HL.out.t18.1; have fz := HL.out.fz)
      | (go_at_call 17; (with_reducible refine ((HSN _ _ _).out).mono ?_); rintro e w20 ⟨rfl, hB⟩; replace HL := Lib.hid (HL.out.later hB); clear hB; clear c0 c1 c2 c3 c4 c5 c6 c7 d0 d1 d2 d3 d4 d5 d6 d7 e0 e1 e2 e3 e4 e5 e6 e7 z1 fz; obtain ⟨c0, c1, c2, c3, c4, c5, c6, c7⟩ := HL.out.t.1; have z1 := HL.out.t.2; obtain ⟨d0, d1, d2, d3, d4, d5, d6, d7⟩ := HL.out.t17.1; obtain ⟨e0, e1, e2, e3, e4, e5, e6, e7⟩ := HL.out.t18.1; have fz := HL.out.fz))
    clear c0 c1 c2 c3 c4 c5 c6 c7 d0 d1 d2 d3 d4 d5 d6 d7 e0 e1 e2 e3 e4 e5 e6 e7 z1 fz
    have HB20 := Lib.hid HL.out.below
    clear HL HNE
    go_wp2_with (first
      | (go_at_call 23; (with_reducible refine (HT1 _).out.mono ?_); rintro e w21 ⟨rfl, hB⟩; have HB21 := Lib.hid (bl_step HB20.out hB); clear hB)
      | (go_at_call 23; (with_reducible refine (HT0 _).out.mono ?_); rintro e w22 ⟨rfl, hB⟩; have HB22 := Lib.hid (bl_step HB21.out hB); clear hB)
      | (go_at_call 11; (with_reducible refine (HA _).out.mono ?_); rintro e w23 ⟨rfl, hB⟩; have HT19 := Lib.hid (((Tx.new w22 1 1 1 ⟨#[]⟩ false false false none 0 0).alloc _).later hB); have HT20 := Lib.hid (Tx.two hB); have HB23 := Lib.hid (bl_step (bl_alloc (bl_alloc HB22.out)) hB); clear hB; obtain ⟨d0, d1, d2, d3, d4, d5, d6, d7⟩ := HT19.out.1)
      | (go_at_call 17; (with_reducible refine (HY _).out.mono ?_); rintro e w24 ⟨rfl, hB⟩; have HT20 := Lib.hid (HT20.out.later hB); have HB24 := Lib.hid (bl_step HB23.out hB); clear hB d0 d1 d2 d3 d4 d5 d6 d7; obtain ⟨d0, d1, d2, d3, d4, d5, d6, d7⟩ := HT20.out.1)
      | (go_at_call 17; (with_reducible refine (HN _).out.mono ?_); rintro e w25 ⟨rfl, hB⟩; have HB25 := Lib.hid (bl_step HB24.out hB); clear hB))
    go_ret
    exact ⟨rfl, HB25.out⟩
  · have HSN := fun f2 fc2 W => Lib.hid (HSM.out f2 fc2 W rfl)
    clear HSM
    have e2 := HM2.out
    obtain rfl : m2 = true := (by simpa using e2); clear HM2 e2
    obtain ⟨c0, c1, c2, c3, c4, c5, c6, c7⟩ := HTT.out.1
    have z1 := HTT.out.2
    go_upto_region 22 with (go_at_call 22; refine (HKL.out _ HB9.out).mono ?_; rintro e w10 ⟨f', fc', rfl, hB⟩; replace HTT := Lib.hid (HTT.out.later hB); have HB10 := Lib.hid (bl_step HB9.out hB); clear hB c0 c1 c2 c3 c4 c5 c6 c7 z1; obtain ⟨c0, c1, c2, c3, c4, c5, c6, c7⟩ := HTT.out.1; have z1 := HTT.out.2)
    have HL : Hid (Laid3 w ((w10.alloc (.cells #[.int .i64 k, .int .i64 lo, .int .i64 hi, .string s, .bool y, .bool true, .bool o, .slice f' fl fc'] 24)).alloc (.cells #[.int .i64 k, .int .i64 lo, .int .i64 hi, .string s, .bool y, .bool m, .bool o, .slice f fl fc] 24)) w10.heap.size (w10.heap.size + 1) k lo hi s y m o f fl fc true m f' fc') :=
      ⟨(HTT.out.alloc _).alloc _, (Tx.new _ _ _ _ _ _ _ _ _ _ _).alloc _, Tx.two (Below.refl _ _), by simp [go_sem], bl_alloc (bl_alloc HB10.out)⟩
    have HNE : Hid (w.heap.size + 1 ≠ w10.heap.size + 1 ∧ w10.heap.size ≠ w10.heap.size + 1 ∧ w.heap.size ≤ w10.heap.size + 1) := by have := HTT.out.2; exact ⟨by omega, by omega, by omega⟩
    clear c0 c1 c2 c3 c4 c5 c6 c7 z1
    generalize ((w10.alloc (.cells #[.int .i64 k, .int .i64 lo, .int .i64 hi, .string s, .bool y, .bool true, .bool o, .slice f' fl fc'] 24)).alloc (.cells #[.int .i64 k, .int .i64 lo, .int .i64 hi, .string s, .bool y, .bool m, .bool o, .slice f fl fc] 24)) = Y at *
    clear HTT HB9 HB10 HKL
    obtain ⟨c0, c1, c2, c3, c4, c5, c6, c7⟩ := HL.out.t.1; have z1 := HL.out.t.2; obtain ⟨d0, d1, d2, d3, d4, d5, d6, d7⟩ := HL.out.t17.1; obtain ⟨e0, e1, e2, e3, e4, e5, e6, e7⟩ := HL.out.t18.1; have fz := HL.out.fz
    go_upto_region 24 with (first
      | (go_at_call 12; (with_reducible refine ((HRT _).out).mono ?_); rintro e w20 ⟨rfl, hB⟩; replace HL := Lib.hid (HL.out.later hB); clear hB; clear c0 c1 c2 c3 c4 c5 c6 c7 d0 d1 d2 d3 d4 d5 d6 d7 e0 e1 e2 e3 e4 e5 e6 e7 z1 fz; obtain ⟨c0, c1, c2, c3, c4, c5, c6, c7⟩ := HL.out.t.1; have z1 := HL.out.t.2; obtain ⟨d0, d1, d2, d3, d4, d5, d6, d7⟩ := HL.out.t17.1; obtain ⟨e0, e1, e2, e3, e4, e5, e6, e7⟩ := HL.out.t18.1; have fz := HL.out.fz)
      | (go_at_call 15; (with_reducible refine ((HGT _).out).mono ?_); rintro e w20 ⟨rfl, hB⟩; replace HL := Lib.hid (HL.out.later hB); clear hB; clear c0 c1 c2 c3 c4 c5 c6 c7 d0 d1 d2 d3 d4 d5 d6 d7 e0 e1 e2 e3 e4 e5 e6 e7 z1 fz; obtain ⟨c0, c1, c2, c3, c4, c5, c6, c7⟩ := HL.out.t.1; have z1 := HL.out.t.2; obtain ⟨d0, d1, d2, d3, d4, d5, d6, d7⟩ := HL.out.t17.1; obtain ⟨e0, e1, e2, e3, e4, e5, e6, e7⟩ := HL.out.t18.1; have fz := HL.out.fz))
    replace HL := Lib.hid (HL.out.set HNE.out.1 HNE.out.2.1 HNE.out.2.2 true)
    clear c0 c1 c2 c3 c4 c5 c6 c7 d0 d1 d2 d3 d4 d5 d6 d7 e0 e1 e2 e3 e4 e5 e6 e7 z1 fz
    generalize w20.setCell ⟨w10.heap.size + 1, 5, none⟩ (.bool true) = Y2 at *
    obtain ⟨c0, c1, c2, c3, c4, c5, c6, c7⟩ := HL.out.t.1; have z1 := HL.out.t.2; obtain ⟨d0, d1, d2, d3, d4, d5, d6, d7⟩ := HL.out.t17.1; obtain ⟨e0, e1, e2, e3, e4, e5, e6, e7⟩ := HL.out.t18.1; have fz := HL.out.fz
    go_upto_region 26 with (first
      | (go_at_call 12; (with_reducible refine ((HRT _).out).mono ?_); rintro e w20 ⟨rfl, hB⟩; replace HL := Lib.hid (HL.out.later hB); clear hB; clear c0 c1 c2 c3 c4 c5 c6 c7 d0 d1 d2 d3 d4 d5 d6 d7 e0 e1 e2 e3 e4 e5 e6 e7 z1 fz; obtain ⟨c0, c1, c2, c3, c4, c5, c6, c7⟩ := HL.out.t.1; have z1 := HL.out.t.2; obtain ⟨d0, d1, d2, d3, d4, d5, d6, d7⟩ := HL.out.t17.1; obtain ⟨e0, e1, e2, e3, e4, e5, e6, e7⟩ := HL.out.t18.1; have fz := HL.out.fz)
      | (go_at_call 17; (with_reducible refine ((HSN _ _ _).out).mono ?_); rintro e w20 ⟨rfl, hB⟩; replace HL := Lib.hid (HL.out.later hB); clear hB; clear c0 c1 c2 c3 c4 c5 c6 c7 d0 d1 d2 d3 d4 d5 d6 d7 e0 e1 e2 e3 e4 e5 e6 e7 z1 fz; obtain ⟨c0, c1, c2, c3, c4, c5, c6, c7⟩ := HL.out.t.1; have z1 := HL.out.t.2; obtain ⟨d0, d1, d2, d3, d4, d5, d6, d7⟩ := HL.out.t17.1; obtain ⟨e0, e1, e2, e3, e4, e5, e6, e7⟩ := HL.out.t18.1; have fz := HL.out.fz))
    clear c0 c1 c2 c3 c4 c5 c6 c7 d0 d1 d2 d3 d4 d5 d6 d7 e0 e1 e2 e3 e4 e5 e6 e7 z1 fz
    have HB20 := Lib.hid HL.out.below
    clear HL HNE
    go_wp2_with (first
      | (go_at_call 23; (with_reducible refine (HT1 _).out.mono ?_); rintro e w21 ⟨rfl, hB⟩; have HB21 := Lib.hid (bl_step HB20.out hB); clear hB)
      | (go_at_call 23; (with_reducible refine (HT0 _).out.mono ?_); rintro e w22 ⟨rfl, hB⟩; have HB22 := Lib.hid (bl_step HB21.out hB); clear hB)
      | (go_at_call 11; (with_reducible refine (HA _).out.mono ?_); rintro e w23 ⟨rfl, hB⟩; have HT19 := Lib.hid (((Tx.new w22 1 1 1 ⟨#[]⟩ false false false none 0 0).alloc _).later hB); have HT20 := Lib.hid (Tx.two hB); have HB23 := Lib.hid (bl_step (bl_alloc (bl_alloc HB22.out)) hB); clear hB; obtain ⟨d0, d1, d2, d3, d4, d5, d6, d7⟩ := HT19.out.1)
      | (go_at_call 17; (with_reducible refine (HY _).out.mono ?_); rintro e w24 ⟨rfl, hB⟩; have HT20 := Lib.hid (HT20.out.later hB); have HB24 := Lib.hid (bl_step HB23.out hB); clear hB d0 d1 d2 d3 d4 d5 d6 d7; obtain ⟨d0, d1, d2, d3, d4, d5, d6, d7⟩ := HT20.out.1)
      | (go_at_call 17; (with_reducible refine (HN _).out.mono ?_); rintro e w25 ⟨rfl, hB⟩; have HB25 := Lib.hid (bl_step HB24.out hB); clear hB))
    go_ret
    exact ⟨rfl, HB25.out⟩
  · have HSN := fun f2 fc2 W => Lib.hid (HSM.out f2 fc2 W rfl)
    clear HSM
    have e2 := HM2.out
    have e3 : m = m2 := (by simpa using e2.symm); clear HM2 e2; subst e3
    obtain ⟨c0, c1, c2, c3, c4, c5, c6, c7⟩ := HTT.out.1
    have z1 := HTT.out.2
    go_upto_region 22 with (go_at_call 22; refine (HKL.out _ HB9.out).mono ?_; rintro e w10 ⟨f', fc', rfl, hB⟩; replace HTT := Lib.hid (HTT.out.later hB); have HB10 := Lib.hid (bl_step HB9.out hB); clear hB c0 c1 c2 c3 c4 c5 c6 c7 z1; obtain ⟨c0, c1, c2, c3, c4, c5, c6, c7⟩ := HTT.out.1; have z1 := HTT.out.2)
    have HL : Hid (Laid3 w ((w10.alloc (.cells #[.int .i64 k, .int .i64 lo, .int .i64 hi, .string s, .bool y, .bool m, .bool o, .slice f' fl fc'] 24)).alloc (.cells #[.int .i64 k, .int .i64 lo, .int .i64 hi, .string s, .bool y, .bool m, .bool o, .slice f fl fc] 24)) w10.heap.size (w10.heap.size + 1) k lo hi s y m o f fl fc m m f' fc') :=
      ⟨(HTT.out.alloc _).alloc _, (Tx.new _ _ _ _ _ _ _ _ _ _ _).alloc _, Tx.two (Below.refl _ _), by simp [go_sem], bl_alloc (bl_alloc HB10.out)⟩
    have HNE : Hid (w.heap.size + 1 ≠ w10.heap.size + 1 ∧ w10.heap.size ≠ w10.heap.size + 1 ∧ w.heap.size ≤ w10.heap.size + 1) := by have := HTT.out.2; exact ⟨by omega, by omega, by omega⟩
    clear c0 c1 c2 c3 c4 c5 c6 c7 z1
    generalize ((w10.alloc (.cells #[.int .i64 k, .int .i64 lo, .int .i64 hi, .string s, .bool y, .bool m, .bool o, .slice f' fl fc'] 24)).alloc (.cells #[.int .i64 k, .int .i64 lo, .int .i64 hi, .string s, .bool y, .bool m, .bool o, .slice f fl fc] 24)) = Y at *
    clear HTT HB9 HB10 HKL
    obtain ⟨c0, c1, c2, c3, c4, c5, c6, c7⟩ := HL.out.t.1; have z1 := HL.out.t.2; obtain ⟨d0, d1, d2, d3, d4, d5, d6, d7⟩ := HL.out.t17.1; obtain ⟨e0, e1, e2, e3, e4, e5, e6, e7⟩ := HL.out.t18.1; have fz := HL.out.fz
    go_upto_region 24 with (first
      | (go_at_call 12; (with_reducible refine ((HRT _).out).mono ?_); rintro e w20 ⟨rfl, hB⟩; replace HL := Lib.hid (HL.out.later hB); clear hB; clear c0 c1 c2 c3 c4 c5 c6 c7 d0 d1 d2 d3 d4 d5 d6 d7 e0 e1 e2 e3 e4 e5 e6 e7 z1 fz; obtain ⟨c0, c1, c2, c3, c4, c5, c6, c7⟩ := HL.out.t.1; have z1 := HL.out.t.2; obtain ⟨d0, d1, d2, d3, d4, d5, d6, d7⟩ := HL.out.t17.1; obtain ⟨e0, e1, e2, e3, e4, e5, e6, e7⟩ := HL.out.t18.1; have fz := HL.out.fz)
      | (go_at_call 15; (with_reducible refine ((HGT _).out).mono ?_); rintro e w20 ⟨rfl, hB⟩; replace HL := Lib.hid (HL.out.later hB); clear hB; clear c0 c1 c2 c3 c4 c5 c6 c7 d0 d1 d2 d3 d4 d5 d6 d7 e0 e1 e2 e3 e4 e5 e6 e7 z1 fz; obtain ⟨c0, c1, c2, c3, c4, c5, c6, c7⟩ := HL.out.t.1; have z1 := HL.out.t.2; obtain ⟨d0, d1, d2, d3, d4, d5, d6, d7⟩ := HL.out.t17.1; obtain ⟨e0, e1, e2, e3, e4, e5, e6, e7⟩ := HL.out.t18.1; have fz := HL.out.fz))
    go_upto_region 26 with (first
      | (go_at_call 12; (with_reducible refine ((HRT _).out).mono ?_); rintro e w20 ⟨rfl, hB⟩; replace HL := Lib.hid (HL.out.later hB); clear hB; clear c0 c1 c2 c3 c4 c5 c6 c7 d0 d1 d2 d3 d4 d5 d6 d7 e0 e1 e2 e3 e4 e5 e6 e7 z1 fz; obtain ⟨c0, c1, c2, c3, c4, c5, c6, c7⟩ := HL.out.t.1; have z1 := HL.out.t.2; obtain ⟨d0, d1, d2, d3, d4, d5, d6, d7⟩ := HL.out.t17.1; obtain ⟨e0, e1, e2, e3, e4, e5, e6, e7⟩ := HL.out.t18.1; have fz := HL.out.fz)
      | (go_at_call 17; (with_reducible refine ((HSN _ _ _).out).mono ?_); rintro e w20 ⟨rfl, hB⟩; replace HL := Lib.hid (HL.out.later hB); clear hB; clear c0 c1 c2 c3 c4 c5 c6 c7 d0 d1 d2 d3 d4 d5 d6 d7 e0 e1 e2 e3 e4 e5 e6 e7 z1 fz; obtain ⟨c0, c1, c2, c3, c4, c5, c6, c7⟩ := HL.out.t.1; have z1 := HL.out.t.2; obtain ⟨d0, d1, d2, d3, d4, d5, d6, d7⟩ := HL.out.t17.1; obtain ⟨e0, e1, e2, e3, e4, e5, e6, e7⟩ := HL.out.t18.1; have fz := HL.out.fz))
    clear c0 c1 c2 c3 c4 c5 c6 c7 d0 d1 d2 d3 d4 d5 d6 d7 e0 e1 e2 e3 e4 e5 e6 e7 z1 fz
    have HB20 := Lib.hid HL.out.below
    clear HL HNE
    go_wp2_with (first
      | (go_at_call 23; (with_reducible refine (HT1 _).out.mono ?_); rintro e w21 ⟨rfl, hB⟩; have HB21 := Lib.hid (bl_step HB20.out hB); clear hB)
      | (go_at_call 23; (with_reducible refine (HT0 _).out.mono ?_); rintro e w22 ⟨rfl, hB⟩; have HB22 := Lib.hid (bl_step HB21.out hB); clear hB)
      | (go_at_call 11; (with_reducible refine (HA _).out.mono ?_); rintro e w23 ⟨rfl, hB⟩; have HT19 := Lib.hid (((Tx.new w22 1 1 1 ⟨#[]⟩ false false false none 0 0).alloc _).later hB); have HT20 := Lib.hid (Tx.two hB); have HB23 := Lib.hid (bl_step (bl_alloc (bl_alloc HB22.out)) hB); clear hB; obtain ⟨d0, d1, d2, d3, d4, d5, d6, d7⟩ := HT19.out.1)
      | (go_at_call 17; (with_reducible refine (HY _).out.mono ?_); rintro e w24 ⟨rfl, hB⟩; have HT20 := Lib.hid (HT20.out.later hB); have HB24 := Lib.hid (bl_step HB23.out hB); clear hB d0 d1 d2 d3 d4 d5 d6 d7; obtain ⟨d0, d1, d2, d3, d4, d5, d6, d7⟩ := HT20.out.1)
      | (go_at_call 17; (with_reducible refine (HN _).out.mono ?_); rintro e w25 ⟨rfl, hB⟩; have HB25 := Lib.hid (bl_step HB24.out hB); clear hB))
    go_ret
    exact ⟨rfl, HB25.out⟩
end Go.Proofs.Ytkmbhjcedkojjaa
