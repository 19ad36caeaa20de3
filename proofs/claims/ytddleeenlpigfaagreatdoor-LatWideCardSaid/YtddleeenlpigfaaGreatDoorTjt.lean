/- WALK of the reference's both, where the one is open. -/
import Derived.Test.YtddleeenlpigfaaGreatDoorTi
namespace Go.Proofs.YtddleeenlpigfaaGreatDoor
open Go.RowKit
set_option maxRecDepth 100000 in
set_option maxHeartbeats 16000000 in
theorem both_true (P : Nat → Prop) (n : Nat) (ih : RiH n) (w : World) (hP : ∀ b, P b → b < w.heap.size) (kx lox hix : Int) (sx : ByteArray) (yx mx : Bool) (f1 : Option Addr) (fc1 : Nat) (fs : List Fd) (ky loy hiy : Int) (sy : ByteArray) (yy my yo : Bool) (f2 : Option Addr) (fc2 : Nat) (gs : List Fd)
  (h1 : InFP P (fun t tl tc V => InVP P w n t tl tc V) w f1 fs.length fs) (h2 : InFP P (fun t tl tc V => InVP P w n t tl tc V) w f2 gs.length gs) (u1 : Up fs) (u2 : Up gs) (l1 : fs.length ≤ 32) (l2 : gs.length ≤ 32) (n1 : ∀ f ∈ fs, f.1.toList ≠ []) (n2 : ∀ f ∈ gs, f.1.toList ≠ []) (r1 : ∀ f ∈ fs, Rw n f.2) (r2 : ∀ f ∈ gs, Rw n f.2) :
  Calls Tryz.prog 85 #[tv kx lox hix sx yx mx true f1 fs.length fc1, tv ky loy hiy sy yy my yo f2 gs.length fc2] w (BoP P n (comS (meetV n) (.mk kx lox hix sx yx mx true fs) (.mk ky loy hiy sy yy my yo gs)) w) := by
 have i1 := h1.inF (J := fun t tl tc V => InVP P w n t tl tc V) (fun _ _ _ _ h => h)
 have i2 := h2.inF (J := fun t tl tc V => InVP P w n t tl tc V) (fun _ _ _ _ h => h)
 have HBF : Hid (BF (meetV n) true yo fs gs (uni fs gs) (comS (meetV n) (.mk kx lox hix sx yx mx true fs) (.mk ky loy hiy sy yy my yo gs))) := Lib.hid (bf_of (s := .mk kx lox hix sx yx mx true fs) (t := .mk ky loy hiy sy yy my yo gs) u1 u2 l1 l2 n1 n2)
 have HFZ : Hid (∀ W, Below w.heap.size w W → Calls Tryz.prog 119 #[.slice f1 fs.length fc1, .slice f2 gs.length fc2, .string ⟨#[]⟩] W fun e w' => e = .returned (.string (nmAt (uni fs gs) 0)) ∧ Below W.heap.size W w') := Lib.hid fun W hW => by
  have h := rfirst_any _ W f1 _ fc1 fs f2 _ fc2 gs ⟨#[]⟩ (i1.below (fun _ _ _ _ h => h) hW) (i2.below (fun _ _ _ _ h => h) hW)
  rw [first_zero u1 u2 (fun f hf => by
   rcases uni_mem.1 hf with h1 | h1
   ·exact n1 _ h1
   ·exact n2 _ h1.1)] at h
  exact h
 have HFN : Hid (∀ W, Below w.heap.size w W → ∀ j, j < (uni fs gs).length → Calls Tryz.prog 119 #[.slice f1 fs.length fc1, .slice f2 gs.length fc2, .string (nmAt (uni fs gs) j)] W fun e w' => e = .returned (.string (nmAt (uni fs gs) (j + 1))) ∧ Below W.heap.size W w') := Lib.hid fun W hW j hj => by
  have h := rfirst_any _ W f1 _ fc1 fs f2 _ fc2 gs (nmAt (uni fs gs) j) (i1.below (fun _ _ _ _ h => h) hW) (i2.below (fun _ _ _ _ h => h) hW)
  rw [first_next u1 u2 hj] at h
  exact h
 have HD1 : Hid (∀ W, Below w.heap.size w W → ∀ key, Calls Tryz.prog 70 #[.slice f1 fs.length fc1, .string key] W (FndP (fidx fs key) W)) := Lib.hid fun W hW key => rfind_any _ W f1 _ fc1 fs (i1.below (fun _ _ _ _ h => h) hW) key
 have HD2 : Hid (∀ W, Below w.heap.size w W → ∀ key, Calls Tryz.prog 70 #[.slice f2 gs.length fc2, .string key] W (FndP (fidx gs key) W)) := Lib.hid fun W hW key => rfind_any _ W f2 _ fc2 gs (i2.below (fun _ _ _ _ h => h) hW) key
 have HR1 : Hid (∀ i (h : i < fs.length), ∃ b off tl tc t, f1 = some ⟨b, off, none⟩ ∧ b < w.heap.size ∧ w.cell? ⟨b, off + i * 2 + 1, none⟩ = some (.slice t tl tc) ∧ InVP P w n t tl tc fs[i].2 ∧ Rw n fs[i].2) := Lib.hid fun i h => by
  obtain ⟨b, off, tl, tc, t, e, -, lt, -, c1, hv⟩ := h1.2.2 i h
  exact ⟨b, off, tl, tc, t, e, lt, c1, hv, r1 _ (List.getElem_mem h)⟩
 have HR2 : Hid (∀ i (h : i < gs.length), ∃ b off tl tc t, f2 = some ⟨b, off, none⟩ ∧ b < w.heap.size ∧ w.cell? ⟨b, off + i * 2 + 1, none⟩ = some (.slice t tl tc) ∧ InVP P w n t tl tc gs[i].2 ∧ Rw n gs[i].2) := Lib.hid fun i h => by
  obtain ⟨b, off, tl, tc, t, e, -, lt, -, c1, hv⟩ := h2.2.2 i h
  exact ⟨b, off, tl, tc, t, e, lt, c1, hv, r2 _ (List.getElem_mem h)⟩
 have m1 : (fs.length : Int) ≤ 9223372036854775807 := by omega
 have m2 : (gs.length : Int) ≤ 9223372036854775807 := by omega
 have HIH := Lib.hid ih
 have HPP := Lib.hid hP
 obtain ⟨rr, hrr⟩ : ∃ r, comS (meetV n) (.mk kx lox hix sx yx mx true fs) (.mk ky loy hiy sy yy my yo gs) = r := ⟨_, rfl⟩
 rw [hrr] at HBF ⊢
 obtain ⟨U, hU⟩ : ∃ U, uni fs gs = U := ⟨_, rfl⟩
 rw [hU] at HBF HFZ HFN
 clear hrr hU h1 h2 i1 i2 u1 u2 l1 l2 n1 n2 r1 r2 ih hP
 obtain ⟨X2, hX2⟩ : ∃ X2, ((w.alloc (.cells #[.int .i64 kx, .int .i64 lox, .int .i64 hix, .string sx, .bool yx, .bool mx, .bool true, .slice f1 fs.length fc1] 31)).alloc (.cells #[.int .i64 ky, .int .i64 loy, .int .i64 hiy, .string sy, .bool yy, .bool my, .bool yo, .slice f2 gs.length fc2] 31)).alloc (.cells #[.int .i64 0, .int .i64 0, .int .i64 0, .string ⟨#[]⟩, .bool false, .bool false, .bool false, .slice none 0 0] 31) = X2 := ⟨_, rfl⟩
 have HX2 : Hid (Below w.heap.size w X2 ∧ X2.heap.size = w.heap.size + 3 ∧ Bo X2 w.heap.size kx lox hix sx yx mx true f1 fs.length fc1 ∧ Bo X2 (w.heap.size + 1) ky loy hiy sy yy my yo f2 gs.length fc2 ∧ Bo X2 (w.heap.size + 1 + 1) 0 0 0 ⟨#[]⟩ false false false none 0 0) := by
  rw [← hX2]
  have a1 := Bo.new w kx lox hix sx yx mx true f1 fs.length fc1
  have a2 := Bo.new1 w (.cells #[.int .i64 kx, .int .i64 lox, .int .i64 hix, .string sx, .bool yx, .bool mx, .bool true, .slice f1 fs.length fc1] 31) ky loy hiy sy yy my yo f2 gs.length fc2
  have a3 := Bo.new1 (w.alloc (.cells #[.int .i64 kx, .int .i64 lox, .int .i64 hix, .string sx, .bool yx, .bool mx, .bool true, .slice f1 fs.length fc1] 31)) (.cells #[.int .i64 ky, .int .i64 loy, .int .i64 hiy, .string sy, .bool yy, .bool my, .bool yo, .slice f2 gs.length fc2] 31) 0 0 0 ⟨#[]⟩ false false false none 0 0
  rw [show (w.alloc (.cells #[.int .i64 kx, .int .i64 lox, .int .i64 hix, .string sx, .bool yx, .bool mx, .bool true, .slice f1 fs.length fc1] 31)).heap.size = w.heap.size + 1 by simp] at a3
  exact Lib.hid ⟨bl_alloc (bl_alloc (bl_alloc (Below.refl _ _))), by simp, (a1.later (bl_alloc (Below.refl _ _))).later (bl_alloc (Below.refl _ _)), a2.later (bl_alloc (Below.refl _ _)), a3⟩
 have HXX : Hid (∀ W, Below X2.heap.size X2 W → Bo W w.heap.size kx lox hix sx yx mx true f1 fs.length fc1) := Lib.hid fun W hW => HX2.out.2.2.1.later hW
 have HYY : Hid (∀ W, Below X2.heap.size X2 W → Bo W (w.heap.size + 1) ky loy hiy sy yy my yo f2 gs.length fc2) := Lib.hid fun W hW => HX2.out.2.2.2.1.later hW
 have HZZ : Hid (∀ W, Below X2.heap.size X2 W → Bo W (w.heap.size + 1 + 1) 0 0 0 ⟨#[]⟩ false false false none 0 0) := Lib.hid fun W hW => HX2.out.2.2.2.2.later hW
 have HWW : Hid (∀ W, Below X2.heap.size X2 W → Below w.heap.size w W) := Lib.hid fun W hW => bl_step HX2.out.1 hW
 have xz : X2.heap.size = w.heap.size + 3 := HX2.out.2.1
 obtain ⟨-, ⟨-, -, -, -, -, -, xo6, xf7⟩, -⟩ := HXX.out _ (Below.refl _ _)
 obtain ⟨-, ⟨-, -, -, -, -, -, yo6, yf7⟩, -⟩ := HYY.out _ (Below.refl _ _)
 go_enter Tryz.func85, Tryz.ntmps85
 go_upto_region 1 with fail
 clear hX2
 go_upto_region 2 with fail
 obtain ⟨X3, hX3⟩ : ∃ X3, X2.alloc (.cells #[.int .i64 4, .int .i64 0, .int .i64 0, .string ⟨#[]⟩, .bool false, .bool false, .bool yo, .slice none 0 0] 31) = X3 := ⟨_, rfl⟩
 have HX3 : Hid (Below X2.heap.size X2 X3 ∧ X3.heap.size = w.heap.size + 4 ∧ Bo X3 (w.heap.size + 3) 4 0 0 ⟨#[]⟩ false false yo none 0 0) := by
  have a := Bo.new X2 4 0 0 ⟨#[]⟩ false false yo none 0 0
  rw [xz, hX3] at a
  exact Lib.hid ⟨by rw [← hX3]; exact bl_alloc (Below.refl _ _), by rw [← hX3]; simp [xz], a⟩
 rw [hX3]
 clear hX3 xo6 xf7 yo6 yf7
 have KW : Hid (Below X3.heap.size X3 X3) := Below.refl _ _
 obtain ⟨-, ⟨-, -, -, -, -, -, xo6, xf7⟩, -⟩ := HXX.out _ HX3.out.1
 obtain ⟨-, ⟨-, -, -, -, -, -, yo6, yf7⟩, -⟩ := HYY.out _ HX3.out.1
 go_wp2_with (go_at_call 119; refine (HFZ.out _ (HWW.out _ HX3.out.1)).mono ?_; rintro e w1 ⟨rfl, hB⟩; replace KW := Lib.hid hB; clear hB)
 clear xo6 xf7 yo6 yf7
 go_loopw [8, 9] (fun last i wr => ∃ (j : Nat) (s : ByteArray), j ≤ U.length ∧ last = .string s ∧ i = .int .i64 j ∧ Hid (s = nmAt U j) ∧ Hid (∀ q (h : q < U.length), q < j → ¬ LackU true yo fs gs U[q]) ∧ Hid (Below X3.heap.size X3 wr)) (fun _ i _ => U.length - (intOf i).toNat)
 case atStart => exact ⟨0, _, Nat.zero_le _, rfl, rfl, Lib.hid rfl, Lib.hid fun q _ hq => absurd hq (Nat.not_lt_zero _), KW⟩
 case round =>
  obtain ⟨j, s, hj, rfl, rfl, hS, hL, hB⟩ := hrel
  rename World => wr
  have HB2 := Lib.hid (bl_step HX3.out.1 hB.out)
  by_cases hlt : j < U.length
  ·have hj64 : (j : Int) < 64 := by have := HBF.out.u; omega
   have HNM : Hid (s = U[j].1) := Lib.hid (by rw [hS.out]; exact (HBF.out.ne j hlt).1)
   have hs0 : ¬ s.toList = [] := by rw [HNM.out]; exact (HBF.out.ne j hlt).2
   have hs1 : (s.toList == []) = false := by simpa using hs0
   have HFJ : Hid (∀ W, Below X2.heap.size X2 W → Calls Tryz.prog 119 #[.slice f1 fs.length fc1, .slice f2 gs.length fc2, .string s] W fun e w' => e = .returned (.string (nmAt U (j + 1))) ∧ Below W.heap.size W w') := Lib.hid fun W hW => by rw [hS.out]; exact HFN.out W (HWW.out W hW) j hlt
   obtain ⟨s2, hs2⟩ : ∃ s2, nmAt U (j + 1) = s2 := ⟨_, rfl⟩
   have HS2 := Lib.hid hs2.symm
   rw [hs2] at HFJ
   clear hs2
   obtain ⟨i1, hi1⟩ : ∃ r, fidx fs s = r := ⟨_, rfl⟩
   obtain ⟨i2, hi2⟩ : ∃ r, fidx gs s = r := ⟨_, rfl⟩
   have hfi1 := fidx_find fs s
   have hfi2 := fidx_find gs s
   rw [hi1] at hfi1
   rw [hi2] at hfi2
   have HI1 := Lib.hid hfi1
   have HI2 := Lib.hid hfi2
   clear hfi1 hfi2
   go_upto_region 6 with fail
   have KC1 : Hid (∀ W, Below wr.heap.size wr W → Calls Tryz.prog 70 #[.slice f1 fs.length fc1, .string s] W fun e w' => e = .returned (.int .i64 i1) ∧ Below wr.heap.size wr w') := Lib.hid fun W hW => by
    have h := HD1.out W (HWW.out W (bl_step HB2.out hW)) s
    rw [hi1] at h
    exact h.mono fun _ _ ⟨a, b⟩ => ⟨a, bl_step hW b⟩
   have KC2 : Hid (∀ W, Below wr.heap.size wr W → Calls Tryz.prog 70 #[.slice f2 gs.length fc2, .string s] W fun e w' => e = .returned (.int .i64 i2) ∧ Below wr.heap.size wr w') := Lib.hid fun W hW => by
    have h := HD2.out W (HWW.out W (bl_step HB2.out hW)) s
    rw [hi2] at h
    exact h.mono fun _ _ ⟨a, b⟩ => ⟨a, bl_step hW b⟩
   have VX : Hid (∀ W, Below wr.heap.size wr W → W.cell? ⟨w.heap.size, 7, none⟩ = some (.slice f1 fs.length fc1) ∧ W.cell? ⟨w.heap.size + 1, 7, none⟩ = some (.slice f2 gs.length fc2)) := Lib.hid fun W hW => ⟨(HXX.out W (bl_step HB2.out hW)).c.2.2.2.2.2.2.2, (HYY.out W (bl_step HB2.out hW)).c.2.2.2.2.2.2.2⟩
   refine region_class (C := fun W => Below wr.heap.size wr W) (by kernel_rfl) (by kernel_rfl) ((Below.refl _ _).drew) ?_
   repeat (first | go_big_quiet_skip | (go_big_quiet_want; go_big_quiet_op; first | go_big_quiet_on | (apply Exists.intro; refine ⟨fun W hW => ?_, ?_⟩; (first | rfl | with_reducible exact (KC1.out W hW) | with_reducible exact (KC2.out W hW) | (obtain ⟨q0, q1⟩ := VX.out W hW; go_simp; first | done | rfl | exact ⟨rfl, rfl⟩)); go_big_quiet_on)))
   refine wpQuiet_nil ?_
   intro w9 hW9
   have HB9 := Lib.hid (bl_step hB.out hW9)
   have H29 := Lib.hid (bl_step HX3.out.1 HB9.out)
   clear hW9 KC1 KC2 VX hi1 hi2
   obtain ⟨-, ⟨-, -, -, -, -, -, xo6, xf7⟩, -⟩ := HXX.out _ H29.out
   obtain ⟨-, ⟨-, -, -, -, -, -, yo6, yf7⟩, -⟩ := HYY.out _ H29.out
   obtain ⟨zz, ⟨z0, z1, z2, z3, z4, z5, z6, z7⟩, zf⟩ := HZZ.out _ H29.out
   rcases HI1.out with ⟨rfl, hn1⟩ | ⟨a1, ha1, rfl, hn1⟩
   ·rcases HI2.out with ⟨rfl, hn2⟩ | ⟨a2, ha2, rfl, hn2⟩
    ·exfalso
     have h := (HBF.out.fd j hlt).1 (by rw [← HNM.out]; exact hn1)
     rw [← HNM.out, hn2] at h; cases h
    ·have HNL : Hid (∀ q (h : q < U.length), q < j + 1 → ¬ LackU true yo fs gs U[q]) := Lib.hid fun q hq hqj => by
      by_cases e : q = j
      ·subst e
       rintro (⟨a, b⟩ | ⟨a, b⟩)
       ·cases b
       ·rw [← HNM.out, hn2] at a; cases a
      ·exact hL.out q hq (by omega)
     go_wp2_with (go_at_call 119; (with_reducible refine (HFJ.out _ H29.out).mono ?_); rintro e w10 ⟨rfl, hb⟩; have HB10 := Lib.hid (bl_step HB9.out hb); clear hb)
     go_roundw
     case rel => exact ⟨j + 1, s2, by omega, rfl, by go_num, HS2, HNL, HB10⟩
     case measure => simp [intOf]; omega
   ·rcases HI2.out with ⟨rfl, hn2⟩ | ⟨a2, ha2, rfl, hn2⟩
    ·cases yo
     ·have HE : Hid (rr = (0, [])) := Lib.hid (HBF.out.lack j hlt (.inr ⟨(by rw [← HNM.out]; exact hn2), rfl⟩))
      go_wp2_with fail
      obtain ⟨k0, k1, k2, k3, k4, k5, k6, k7⟩ := set8 (HZZ.out _ H29.out) (.int .i64 0) (.int .i64 0) (.int .i64 0) (.string ⟨#[]⟩) (.bool false) (.bool false) (.bool false) (.slice none 0 0)
      refine bodyPost_ret (v := .tuple #[.agg #[.int .i64 0, .int .i64 0, .int .i64 0, .string ⟨#[]⟩, .bool false, .bool false, .bool false, .slice none 0 0], .bool false, .int .i64 0]) (by simp [results, Tryz.results85, go_sem, k0, k1, k2, k3, k4, k5, k6, k7]) rfl ?_
      exact BoP.no HE.out (bl_set8 (HWW.out _ H29.out) (by omega))
     ·have HNL : Hid (∀ q (h : q < U.length), q < j + 1 → ¬ LackU true true fs gs U[q]) := Lib.hid fun q hq hqj => by
       by_cases e : q = j
       ·subst e
        rintro (⟨a, b⟩ | ⟨a, b⟩)
        ·rw [← HNM.out, hn1] at a; cases a
        ·cases b
       ·exact hL.out q hq (by omega)
      go_wp2_with (go_at_call 119; (with_reducible refine (HFJ.out _ H29.out).mono ?_); rintro e w10 ⟨rfl, hb⟩; have HB10 := Lib.hid (bl_step HB9.out hb); clear hb)
      go_roundw
      case rel => exact ⟨j + 1, s2, by omega, rfl, by go_num, HS2, HNL, HB10⟩
      case measure => simp [intOf]; omega
    ·have HNL : Hid (∀ q (h : q < U.length), q < j + 1 → ¬ LackU true yo fs gs U[q]) := Lib.hid fun q hq hqj => by
      by_cases e : q = j
      ·subst e
       rintro (⟨a, b⟩ | ⟨a, b⟩)
       ·rw [← HNM.out, hn1] at a; cases a
       ·rw [← HNM.out, hn2] at a; cases a
      ·exact hL.out q hq (by omega)
     go_wp2_with (go_at_call 119; (with_reducible refine (HFJ.out _ H29.out).mono ?_); rintro e w10 ⟨rfl, hb⟩; have HB10 := Lib.hid (bl_step HB9.out hb); clear hb)
     go_roundw
     case rel => exact ⟨j + 1, s2, by omega, rfl, by go_num, HS2, HNL, HB10⟩
     case measure => simp [intOf]; omega
  ·have ej : j = U.length := by omega
   have HNO : Hid (∀ q (h : q < U.length), ¬ LackU true yo fs gs U[q]) := Lib.hid fun q hq => hL.out q hq (by omega)
   obtain rfl : s = ⟨#[]⟩ := by rw [hS.out]; unfold nmAt; rw [dif_neg (by omega)]
   clear hL hS
   obtain ⟨-, ⟨-, -, -, -, -, -, xo6, xf7⟩, -⟩ := HXX.out _ HB2.out
   obtain ⟨-, ⟨-, -, -, -, -, -, yo6, yf7⟩, -⟩ := HYY.out _ HB2.out
   go_wp2_with (go_at_call 119; refine (HFZ.out _ (HWW.out _ HB2.out)).mono ?_; rintro e w1 ⟨rfl, hb⟩; have HB3 := Lib.hid (bl_step HB2.out hb); have HO3 := Lib.hid ((HX3.out.2.2.later hB.out).later hb); have HZ3 : Hid (w.heap.size + 4 ≤ w1.heap.size) := Lib.hid (by have h1 := HX3.out.2.1; have h2 := hB.out.size; have h3 := hb.size; omega); clear hb)
   clear xo6 xf7 yo6 yf7 ej hlt hj
   go_loopw [8, 12] (fun last i wr => ∃ (j : Nat) (s : ByteArray) (a : Option Addr) (l cap : Nat) (c : List Fh), j ≤ U.length ∧ last = .string s ∧ i = .int .i64 j ∧ Hid (s = nmAt U j) ∧ Hid (BI P n (w.heap.size + 4) wr (.slice a l cap) c fs gs U j) ∧ Hid (Bo wr (w.heap.size + 3) 4 0 0 ⟨#[]⟩ false false yo a l cap) ∧ Hid (Below X2.heap.size X2 wr) ∧ Hid (w.heap.size + 4 ≤ wr.heap.size)) (fun _ i _ => U.length - (intOf i).toNat)
   case atStart => exact ⟨0, _, none, 0, 0, [], Nat.zero_le _, rfl, rfl, Lib.hid rfl, Lib.hid (BI.zero _ _ _ _ _ _ _), HO3, HB3, HZ3⟩
   case round =>
    clear HB2 hB HB3 HO3 HZ3
    obtain ⟨j, s, a, l, cap, c, hj, rfl, rfl, hS, hI, hO, hB, hZ⟩ := hrel
    rename World => wr
    by_cases hlt : j < U.length
    ·have hj64 : (j : Int) < 64 := by have := HBF.out.u; omega
     have HNM : Hid (s = U[j].1) := Lib.hid (by rw [hS.out]; exact (HBF.out.ne j hlt).1)
     have hs0 : ¬ s.toList = [] := by rw [HNM.out]; exact (HBF.out.ne j hlt).2
     have hs1 : (s.toList == []) = false := by simpa using hs0
     have HFJ : Hid (∀ W, Below X2.heap.size X2 W → Calls Tryz.prog 119 #[.slice f1 fs.length fc1, .slice f2 gs.length fc2, .string s] W fun e w' => e = .returned (.string (nmAt U (j + 1))) ∧ Below W.heap.size W w') := Lib.hid fun W hW => by rw [hS.out]; exact HFN.out W (HWW.out W hW) j hlt
     obtain ⟨s2, hs2⟩ : ∃ s2, nmAt U (j + 1) = s2 := ⟨_, rfl⟩
     have HS2 := Lib.hid hs2.symm
     rw [hs2] at HFJ
     clear hs2
     obtain ⟨i1, hi1⟩ : ∃ r, fidx fs s = r := ⟨_, rfl⟩
     obtain ⟨i2, hi2⟩ : ∃ r, fidx gs s = r := ⟨_, rfl⟩
     have hfi1 := fidx_find fs s
     have hfi2 := fidx_find gs s
     rw [hi1] at hfi1
     rw [hi2] at hfi2
     have HI1 := Lib.hid hfi1
     have HI2 := Lib.hid hfi2
     clear hfi1 hfi2
     go_upto_region 14 with fail
     have KC1 : Hid (∀ W, Below wr.heap.size wr W → Calls Tryz.prog 70 #[.slice f1 fs.length fc1, .string s] W fun e w' => e = .returned (.int .i64 i1) ∧ Below wr.heap.size wr w') := Lib.hid fun W hW => by
      have h := HD1.out W (HWW.out W (bl_step hB.out hW)) s
      rw [hi1] at h
      exact h.mono fun _ _ ⟨a, b⟩ => ⟨a, bl_step hW b⟩
     have KC2 : Hid (∀ W, Below wr.heap.size wr W → Calls Tryz.prog 70 #[.slice f2 gs.length fc2, .string s] W fun e w' => e = .returned (.int .i64 i2) ∧ Below wr.heap.size wr w') := Lib.hid fun W hW => by
      have h := HD2.out W (HWW.out W (bl_step hB.out hW)) s
      rw [hi2] at h
      exact h.mono fun _ _ ⟨a, b⟩ => ⟨a, bl_step hW b⟩
     have VX : Hid (∀ W, Below wr.heap.size wr W → W.cell? ⟨w.heap.size, 7, none⟩ = some (.slice f1 fs.length fc1) ∧ W.cell? ⟨w.heap.size + 1, 7, none⟩ = some (.slice f2 gs.length fc2)) := Lib.hid fun W hW => ⟨(HXX.out W (bl_step hB.out hW)).c.2.2.2.2.2.2.2, (HYY.out W (bl_step hB.out hW)).c.2.2.2.2.2.2.2⟩
     refine region_class (C := fun W => Below wr.heap.size wr W) (by kernel_rfl) (by kernel_rfl) ((Below.refl _ _).drew) ?_
     repeat (first | go_big_quiet_skip | (go_big_quiet_want; go_big_quiet_op; first | go_big_quiet_on | (apply Exists.intro; refine ⟨fun W hW => ?_, ?_⟩; (first | rfl | with_reducible exact (KC1.out W hW) | with_reducible exact (KC2.out W hW) | (obtain ⟨q0, q1⟩ := VX.out W hW; go_simp; first | done | rfl | exact ⟨rfl, rfl⟩)); go_big_quiet_on)))
     refine wpQuiet_nil ?_
     intro w9 hW9
     clear KC1 KC2 hi1 hi2
     go_upto_region 16 with fail
     obtain ⟨wf, hwf⟩ : ∃ wf, w9.alloc (.cells #[.string s, .slice none 0 0] 59) = wf := ⟨_, rfl⟩
     have HBf : Hid (Below wr.heap.size wr wf) := by rw [← hwf]; exact Lib.hid (bl_alloc hW9)
     have HQf : Hid (Bq wf w9.heap.size s none 0 0) := by rw [← hwf]; exact Lib.hid (Bq.new w9 s none 0 0)
     have hG9 : wr.heap.size ≤ w9.heap.size := hW9.size
     have HGf : Hid (w9.heap.size < wf.heap.size) := Lib.hid HQf.out.lt
     rw [hwf]
     clear hwf hW9
     generalize w9.heap.size = G at *
     have HG9 := Lib.hid hG9
     clear hG9
     have H2f := Lib.hid (bl_step hB.out HBf.out)
     obtain ⟨-, ⟨-, -, -, -, -, -, xo6, xf7⟩, -⟩ := HXX.out _ H2f.out
     obtain ⟨-, ⟨-, -, -, -, -, -, yo6, yf7⟩, -⟩ := HYY.out _ H2f.out
     obtain ⟨qz, q0, q1, qF⟩ := HQf.out
     rcases HI1.out with ⟨rfl, hn1⟩ | ⟨a1, ha1, rfl, hn1⟩
     ·rcases HI2.out with ⟨rfl, hn2⟩ | ⟨a2, ha2, rfl, hn2⟩
      ·exfalso
       have h := (HBF.out.fd j hlt).1 (by rw [← HNM.out]; exact hn1)
       rw [← HNM.out, hn2] at h; cases h
      ·obtain ⟨b2, off2, tl2, tc2, t2, rfl, lt2, e2, hv2, -⟩ := HR2.out a2 ha2
       have e2' := ((HWW.out _ H2f.out).cell (p := ⟨b2, off2 + a2 * 2 + 1, none⟩) lt2).trans e2
       have ha2' : (a2 : Int) < (gs.length : Int) := by omega
       have HRES : Hid (cm1 (meetV n) fs gs U[j] = (0, some (s, gs[a2].2))) := Lib.hid (by
        have h1 := (HBF.out.fd j hlt).1 (by rw [← HNM.out]; exact hn1)
        rw [← HNM.out, hn2] at h1
        rw [cm1_skip (.inl (by rw [← HNM.out]; exact hn1))]
        rw [show U[j] = (s, gs[a2].2) from Prod.ext HNM.out.symm (Option.some.inj h1).symm])
       have HV0 := Lib.hid hv2
       clear e2 hv2 lt2 hn1 hn2
       go_upto_region 25 with fail
       obtain ⟨Wz, hWz⟩ : ∃ Wz, wf.setCell ⟨G, 1, none⟩ (.slice t2 tl2 tc2) = Wz := ⟨_, rfl⟩
       have HBz : Hid (Below wr.heap.size wr Wz) := by rw [← hWz]; exact Lib.hid (bl_set HBf.out HG9.out)
       have HQz : Hid (Bq Wz G s t2 tl2 tc2) := by rw [← hWz]; exact Lib.hid (HQf.out.set1 t2 tl2 tc2)
       rw [hWz]
       have HVz : Hid (InVP (fun b => P b ∨ (w.heap.size + 4 ≤ b ∧ (Value.slice a l cap).ownBlock ≠ some b)) Wz n t2 tl2 tc2 gs[a2].2) := Lib.hid ((InVP.below (bl_step (HWW.out _ hB.out) HBz.out) HV0.out).imp fun b hb _ => .inl hb)
       clear hWz xo6 xf7 yo6 yf7 qz q0 q1 qF e2'
       generalize gs[a2].2 = V at *
       have HIz := Lib.hid (hI.out.below HBz.out)
       have HOz := Lib.hid (hO.out.later HBz.out)
       have H2z := Lib.hid (bl_step hB.out HBz.out)
       obtain ⟨gg, capg, v1, hap, hb1, ho1, hk1, hg1, hs1⟩ := HIz.out.own.append (by have h1 := HIz.out.len; have h2 := HBF.out.u; omega) (Nat.le_trans hZ.out HBz.out.size) (⟨s, V, t2, tl2, tc2⟩ : Fh)
       have HI1 := Lib.hid (HIz.out.add (z := ⟨s, V, t2, tl2, tc2⟩) (fun b hb => by have := HPP.out b hb; omega) hlt HRES.out HVz.out ho1 hk1 hg1 hs1)
       have HO1 := Lib.hid (HOz.out.keep hb1 (by omega) hs1)
       have H21 : Hid (Below X2.heap.size X2 v1) := Lib.hid (H2z.out.trans (hb1.mono (by omega)))
       have HO2 := Lib.hid (HO1.out.set7 (some ⟨gg, 0, none⟩) (c.length + 1) capg)
       have HI3 := Lib.hid (HI1.out.set (o := 7) (v := .slice (some ⟨gg, 0, none⟩) (c.length + 1) capg) (show w.heap.size + 3 < w.heap.size + 4 by omega) (fun h => by have := HPP.out _ h; omega))
       have H22 := Lib.hid (bl_set (p := ⟨w.heap.size + 3, 7, none⟩) (v := .slice (some ⟨gg, 0, none⟩) (c.length + 1) capg) H21.out (by show X2.heap.size ≤ w.heap.size + 3; omega))
       have HS1 : Hid (w.heap.size + 4 ≤ v1.heap.size) := Lib.hid (by have h1 := hZ.out; have h2 := HBz.out.size; omega)
       have HAP := Lib.hid hap
       simp only [Fh.enc] at HAP
       clear hap hb1 ho1 hk1 hg1 hs1 HVz HRES
       obtain ⟨oz, ⟨o0, o1, o2, o3, o4, o5, o6, o7⟩, oF⟩ := HOz.out
       obtain ⟨pz, ⟨p0, p1, p2, p3, p4, p5, p6, p7⟩, pF⟩ := HO1.out
       obtain ⟨qz, q0, q1, qF⟩ := HQz.out
       go_upto_region 26 with (at_builtin; refine Lib.wpList_append_run _ rfl _ _ _ _ rfl _ _ rfl rfl _ _ HAP.out ?_)
       obtain ⟨W12, hW12⟩ : ∃ W12, v1.setCell ⟨w.heap.size + 3, 7, none⟩ (.slice (some ⟨gg, 0, none⟩) (c.length + 1) capg) = W12 := ⟨_, rfl⟩
       have HZ2 : Hid (w.heap.size + 4 ≤ W12.heap.size) := Lib.hid (by rw [← hW12, set_size]; exact HS1.out)
       rw [hW12] at HO2 HI3 H22 ⊢
       clear hW12 oz o0 o1 o2 o3 o4 o5 o6 o7 oF pz p0 p1 p2 p3 p4 p5 p6 p7 pF qz q0 q1 qF
       obtain ⟨-, ⟨-, -, -, -, -, -, xo6, xf7⟩, -⟩ := HXX.out _ H22.out
       obtain ⟨-, ⟨-, -, -, -, -, -, yo6, yf7⟩, -⟩ := HYY.out _ H22.out
       go_wp2_with (go_at_call 119; (with_reducible refine (HFJ.out _ H22.out).mono ?_); rintro e w13 ⟨rfl, hb⟩; have HB13 := Lib.hid hb; clear hb)
       go_roundw
       case rel => exact ⟨j + 1, s2, some ⟨gg, 0, none⟩, c.length + 1, capg, c ++ [⟨s, V, t2, tl2, tc2⟩], by omega, rfl, by go_num, HS2, Lib.hid (HI3.out.below HB13.out), Lib.hid (HO2.out.later HB13.out), Lib.hid (bl_step H22.out HB13.out), Lib.hid (Nat.le_trans HZ2.out HB13.out.size)⟩
       case measure => simp [intOf]; omega
     ·rcases HI2.out with ⟨rfl, hn2⟩ | ⟨a2, ha2, rfl, hn2⟩
      ·obtain ⟨b2, off2, tl2, tc2, t2, rfl, lt2, e2, hv2, -⟩ := HR1.out a1 ha1
       have e2' := ((HWW.out _ H2f.out).cell (p := ⟨b2, off2 + a1 * 2 + 1, none⟩) lt2).trans e2
       have ha2' : (a1 : Int) < (fs.length : Int) := by omega
       have HRES : Hid (cm1 (meetV n) fs gs U[j] = (0, some (s, fs[a1].2))) := Lib.hid (by
        have h1 := (HBF.out.fd j hlt).2 fs[a1].2 (by rw [← HNM.out]; exact hn1)
        rw [cm1_skip (.inr (by rw [← HNM.out]; exact hn2))]
        rw [show U[j] = (s, fs[a1].2) from Prod.ext HNM.out.symm h1.symm])
       have HV0 := Lib.hid hv2
       clear e2 hv2 lt2 hn1 hn2
       go_upto_region 25 with fail
       obtain ⟨Wz, hWz⟩ : ∃ Wz, wf.setCell ⟨G, 1, none⟩ (.slice t2 tl2 tc2) = Wz := ⟨_, rfl⟩
       have HBz : Hid (Below wr.heap.size wr Wz) := by rw [← hWz]; exact Lib.hid (bl_set HBf.out HG9.out)
       have HQz : Hid (Bq Wz G s t2 tl2 tc2) := by rw [← hWz]; exact Lib.hid (HQf.out.set1 t2 tl2 tc2)
       rw [hWz]
       have HVz : Hid (InVP (fun b => P b ∨ (w.heap.size + 4 ≤ b ∧ (Value.slice a l cap).ownBlock ≠ some b)) Wz n t2 tl2 tc2 fs[a1].2) := Lib.hid ((InVP.below (bl_step (HWW.out _ hB.out) HBz.out) HV0.out).imp fun b hb _ => .inl hb)
       clear hWz xo6 xf7 yo6 yf7 qz q0 q1 qF e2'
       generalize fs[a1].2 = V at *
       have HIz := Lib.hid (hI.out.below HBz.out)
       have HOz := Lib.hid (hO.out.later HBz.out)
       have H2z := Lib.hid (bl_step hB.out HBz.out)
       obtain ⟨gg, capg, v1, hap, hb1, ho1, hk1, hg1, hs1⟩ := HIz.out.own.append (by have h1 := HIz.out.len; have h2 := HBF.out.u; omega) (Nat.le_trans hZ.out HBz.out.size) (⟨s, V, t2, tl2, tc2⟩ : Fh)
       have HI1 := Lib.hid (HIz.out.add (z := ⟨s, V, t2, tl2, tc2⟩) (fun b hb => by have := HPP.out b hb; omega) hlt HRES.out HVz.out ho1 hk1 hg1 hs1)
       have HO1 := Lib.hid (HOz.out.keep hb1 (by omega) hs1)
       have H21 : Hid (Below X2.heap.size X2 v1) := Lib.hid (H2z.out.trans (hb1.mono (by omega)))
       have HO2 := Lib.hid (HO1.out.set7 (some ⟨gg, 0, none⟩) (c.length + 1) capg)
       have HI3 := Lib.hid (HI1.out.set (o := 7) (v := .slice (some ⟨gg, 0, none⟩) (c.length + 1) capg) (show w.heap.size + 3 < w.heap.size + 4 by omega) (fun h => by have := HPP.out _ h; omega))
       have H22 := Lib.hid (bl_set (p := ⟨w.heap.size + 3, 7, none⟩) (v := .slice (some ⟨gg, 0, none⟩) (c.length + 1) capg) H21.out (by show X2.heap.size ≤ w.heap.size + 3; omega))
       have HS1 : Hid (w.heap.size + 4 ≤ v1.heap.size) := Lib.hid (by have h1 := hZ.out; have h2 := HBz.out.size; omega)
       have HAP := Lib.hid hap
       simp only [Fh.enc] at HAP
       clear hap hb1 ho1 hk1 hg1 hs1 HVz HRES
       obtain ⟨oz, ⟨o0, o1, o2, o3, o4, o5, o6, o7⟩, oF⟩ := HOz.out
       obtain ⟨pz, ⟨p0, p1, p2, p3, p4, p5, p6, p7⟩, pF⟩ := HO1.out
       obtain ⟨qz, q0, q1, qF⟩ := HQz.out
       go_upto_region 26 with (at_builtin; refine Lib.wpList_append_run _ rfl _ _ _ _ rfl _ _ rfl rfl _ _ HAP.out ?_)
       obtain ⟨W12, hW12⟩ : ∃ W12, v1.setCell ⟨w.heap.size + 3, 7, none⟩ (.slice (some ⟨gg, 0, none⟩) (c.length + 1) capg) = W12 := ⟨_, rfl⟩
       have HZ2 : Hid (w.heap.size + 4 ≤ W12.heap.size) := Lib.hid (by rw [← hW12, set_size]; exact HS1.out)
       rw [hW12] at HO2 HI3 H22 ⊢
       clear hW12 oz o0 o1 o2 o3 o4 o5 o6 o7 oF pz p0 p1 p2 p3 p4 p5 p6 p7 pF qz q0 q1 qF
       obtain ⟨-, ⟨-, -, -, -, -, -, xo6, xf7⟩, -⟩ := HXX.out _ H22.out
       obtain ⟨-, ⟨-, -, -, -, -, -, yo6, yf7⟩, -⟩ := HYY.out _ H22.out
       go_wp2_with (go_at_call 119; (with_reducible refine (HFJ.out _ H22.out).mono ?_); rintro e w13 ⟨rfl, hb⟩; have HB13 := Lib.hid hb; clear hb)
       go_roundw
       case rel => exact ⟨j + 1, s2, some ⟨gg, 0, none⟩, c.length + 1, capg, c ++ [⟨s, V, t2, tl2, tc2⟩], by omega, rfl, by go_num, HS2, Lib.hid (HI3.out.below HB13.out), Lib.hid (HO2.out.later HB13.out), Lib.hid (bl_step H22.out HB13.out), Lib.hid (Nat.le_trans HZ2.out HB13.out.size)⟩
       case measure => simp [intOf]; omega
      ·obtain ⟨b1, off1, tl1, tc1, t1, rfl, lt1, e1, hv1, hw1⟩ := HR1.out a1 ha1
       obtain ⟨b2, off2, tl2, tc2, t2, rfl, lt2, e2, hv2, hw2⟩ := HR2.out a2 ha2
       have HSV : Hid (∀ W, Below wf.heap.size wf W → W.cell? ⟨w.heap.size, 7, none⟩ = some (.slice (some ⟨b1, off1, none⟩) fs.length fc1) ∧ W.cell? ⟨w.heap.size + 1, 7, none⟩ = some (.slice (some ⟨b2, off2, none⟩) gs.length fc2) ∧ W.cell? ⟨b1, off1 + a1 * 2 + 1, none⟩ = some (.slice t1 tl1 tc1) ∧ W.cell? ⟨b2, off2 + a2 * 2 + 1, none⟩ = some (.slice t2 tl2 tc2)) := Lib.hid fun W hW => by
        have hb := bl_step H2f.out hW
        exact ⟨(HXX.out W hb).c.2.2.2.2.2.2.2, (HYY.out W hb).c.2.2.2.2.2.2.2, ((HWW.out W hb).cell (p := ⟨b1, off1 + a1 * 2 + 1, none⟩) lt1).trans e1, ((HWW.out W hb).cell (p := ⟨b2, off2 + a2 * 2 + 1, none⟩) lt2).trans e2⟩
       have ha1' : (a1 : Int) < (fs.length : Int) := by omega
       have ha2' : (a2 : Int) < (gs.length : Int) := by omega
       obtain ⟨⟨er, M⟩, hm⟩ : ∃ r, meetV n fs[a1].2 gs[a2].2 = r := ⟨_, rfl⟩
       have HRC : Hid (cm1 (meetV n) fs gs U[j] = if er = 0 ∧ M ≠ [] then (0, some (s, M)) else (er, none)) := Lib.hid (by
        rw [cm1_both (f := U[j]) (by rw [← HNM.out]; exact hn1) (by rw [← HNM.out]; exact hn2), hm, ← HNM.out])
       have HIN : Hid (∀ W, Below w.heap.size w W → Calls Tryz.prog 54 #[.agg #[.slice t1 tl1 tc1], .agg #[.slice t2 tl2 tc2]] W (MeP P n (er, M) W)) := Lib.hid fun W hW => by
        rw [← hm]
        exact HIH.out P W t1 tl1 tc1 _ t2 tl2 tc2 _ (fun b hb => Nat.lt_of_lt_of_le (HPP.out b hb) hW.size) (InVP.below hW hv1) (InVP.below hW hv2) hw1 hw2
       clear hm hv1 hv2 hw1 hw2 lt1 lt2 e1 e2 hn1 hn2 xo6 xf7 yo6 yf7 qz q0 q1 qF
       obtain ⟨s1, s2', s3, s4⟩ := HSV.out _ (Below.refl _ _)
       go_upto_region 21 with fail
       refine wp_region_held (S := fun w' => w'.cell? ⟨w.heap.size, 7, none⟩ = some (.slice (some ⟨b1, off1, none⟩) fs.length fc1) ∧ w'.cell? ⟨w.heap.size + 1, 7, none⟩ = some (.slice (some ⟨b2, off2, none⟩) gs.length fc2) ∧ w'.cell? ⟨b1, off1 + a1 * 2 + 1, none⟩ = some (.slice t1 tl1 tc1) ∧ w'.cell? ⟨b2, off2 + a2 * 2 + 1, none⟩ = some (.slice t2 tl2 tc2)) (by kernel_rfl) ?_
       change wpAnyH _ _ _ _ _ _ _ _ wf.drew
       obtain ⟨wd, hwd⟩ : ∃ wd, wf.drew = wd := ⟨_, rfl⟩
       have HBd : Hid (Below wf.heap.size wf wd) := by rw [← hwd]; exact Lib.hid (Below.refl _ _).drew
       rw [hwd]
       have HS0 := Lib.hid (HSV.out wd HBd.out)
       have HW0 := Lib.hid (HWW.out wd (bl_step H2f.out HBd.out))
       clear hwd s1 s2' s3 s4
       refine take_at' (i := 0) 117 (v := ?va0) rfl rfl (by kernel_rfl) (by kernel_rfl) (by kernel_rfl) (fun _ _ _ h => h) (Or.inl ⟨by rfl, fun w' hS => ?hya0⟩) HS0.out ?_
       case hya0 => obtain ⟨s1, s2', s3, s4⟩ := hS; (go_simp; try rfl)
       simp only [List.setIfInBounds_toArray, List.set_cons_succ, List.set_cons_zero]
       refine take_at' (i := 1) 118 (v := ?va1) rfl rfl (by kernel_rfl) (by kernel_rfl) (by kernel_rfl) (fun _ _ _ h => h) (Or.inl ⟨by rfl, fun w' hS => ?hya1⟩) HS0.out ?_
       case hya1 => obtain ⟨s1, s2', s3, s4⟩ := hS; (go_simp; try rfl)
       simp only [List.setIfInBounds_toArray, List.set_cons_succ, List.set_cons_zero]
       refine take_at' (i := 2) 119 (v := ?va2) rfl rfl (by kernel_rfl) (by kernel_rfl) (by kernel_rfl) (fun _ _ _ h => h) (Or.inl ⟨by rfl, fun w' hS => ?hya2⟩) HS0.out ?_
       case hya2 => obtain ⟨s1, s2', s3, s4⟩ := hS; (go_simp; try rfl)
       simp only [List.setIfInBounds_toArray, List.set_cons_succ, List.set_cons_zero]
       refine take_at' (i := 3) 120 (v := ?va3) rfl rfl (by kernel_rfl) (by kernel_rfl) (by kernel_rfl) (fun _ _ _ h => h) (Or.inl ⟨by rfl, fun w' hS => ?hya3⟩) HS0.out ?_
       case hya3 => obtain ⟨s1, s2', s3, s4⟩ := hS; (go_simp; try rfl)
       simp only [List.setIfInBounds_toArray, List.set_cons_succ, List.set_cons_zero]
       refine take_at' (i := 4) 121 (v := ?va4) rfl rfl (by kernel_rfl) (by kernel_rfl) (by kernel_rfl) (fun _ _ _ h => h) (Or.inl ⟨by rfl, fun w' hS => ?hya4⟩) HS0.out ?_
       case hya4 => obtain ⟨s1, s2', s3, s4⟩ := hS; (go_simp; try rfl)
       simp only [List.setIfInBounds_toArray, List.set_cons_succ, List.set_cons_zero]
       refine take_at' (i := 5) 122 (v := ?va5) rfl rfl (by kernel_rfl) (by kernel_rfl) (by kernel_rfl) (fun _ _ _ h => h) (Or.inl ⟨by rfl, fun w' hS => ?hya5⟩) HS0.out ?_
       case hya5 => obtain ⟨s1, s2', s3, s4⟩ := hS; (go_simp; try rfl)
       simp only [List.setIfInBounds_toArray, List.set_cons_succ, List.set_cons_zero]
       refine take_at' (i := 6) 123 (v := ?va6) rfl rfl (by kernel_rfl) (by kernel_rfl) (by kernel_rfl) (fun _ _ _ h => h) (Or.inl ⟨by rfl, fun w' hS => ?hya6⟩) HS0.out ?_
       case hya6 => obtain ⟨s1, s2', s3, s4⟩ := hS; (go_simp; try rfl)
       simp only [List.setIfInBounds_toArray, List.set_cons_succ, List.set_cons_zero]
       refine take_at' (i := 7) 124 (v := ?va7) rfl rfl (by kernel_rfl) (by kernel_rfl) (by kernel_rfl) (fun _ _ _ h => h) (Or.inl ⟨by rfl, fun w' hS => ?hya7⟩) HS0.out ?_
       case hya7 => obtain ⟨s1, s2', s3, s4⟩ := hS; (go_simp; try rfl)
       simp only [List.setIfInBounds_toArray, List.set_cons_succ, List.set_cons_zero]
       refine take_at' (i := 8) 125 (v := ?va8) rfl rfl (by kernel_rfl) (by kernel_rfl) (by kernel_rfl) (fun _ _ _ h => h) (Or.inl ⟨by rfl, fun w' hS => ?hya8⟩) HS0.out ?_
       case hya8 => obtain ⟨s1, s2', s3, s4⟩ := hS; (go_simp; try rfl)
       simp only [List.setIfInBounds_toArray, List.set_cons_succ, List.set_cons_zero]
       refine take_at' (i := 9) 126 (v := ?va9) rfl rfl (by kernel_rfl) (by kernel_rfl) (by kernel_rfl) (fun _ _ _ h => h) (Or.inl ⟨by rfl, fun w' hS => ?hya9⟩) HS0.out ?_
       case hya9 => obtain ⟨s1, s2', s3, s4⟩ := hS; (go_simp; try rfl)
       simp only [List.setIfInBounds_toArray, List.set_cons_succ, List.set_cons_zero]
       refine take_at' (i := 10) 127 (v := ?va10) rfl rfl (by kernel_rfl) (by kernel_rfl) (by kernel_rfl) (fun _ _ _ h => h) (Or.inl ⟨by rfl, fun w' hS => ?hya10⟩) HS0.out ?_
       case hya10 => obtain ⟨s1, s2', s3, s4⟩ := hS; (go_simp; try rfl)
       simp only [List.setIfInBounds_toArray, List.set_cons_succ, List.set_cons_zero]
       refine take_at' (i := 11) 128 (v := ?va11) rfl rfl (by kernel_rfl) (by kernel_rfl) (by kernel_rfl) (fun _ _ _ h => h) (Or.inl ⟨by rfl, fun w' hS => ?hya11⟩) HS0.out ?_
       case hya11 => obtain ⟨s1, s2', s3, s4⟩ := hS; (go_simp; try rfl)
       simp only [List.setIfInBounds_toArray, List.set_cons_succ, List.set_cons_zero]
       refine wpAnyH_all (rs := [12, 16]) (by kernel_rfl) (by simp) ?_
       intro i hi
       have hi2 : i = 12 ∨ i = 16 := by simpa using hi
       rcases hi2 with rfl | rfl
       ·refine call_at 129 (f := 54) (args := #[.agg #[.slice t1 tl1 tc1], .agg #[.slice t2 tl2 tc2]]) (w' := wd) rfl rfl rfl (by go_simp) ?_
        refine (HIN.out _ HW0.out).mono ?_
        rintro e wm ⟨tM, tlM, tcM, rfl, hbM, hvM⟩
        have HBM := Lib.hid (bl_step HBd.out hbM)
        have HVM := Lib.hid hvM
        have HS1 := Lib.hid (HSV.out wm HBM.out)
        have HSZ := Lib.hid hbM.size
        clear hbM hvM
        refine ⟨_, rfl, HS1.out, ?_⟩
        simp only [List.setIfInBounds_toArray, List.set_cons_succ, List.set_cons_zero]
        refine take_at' (i := 13) 116 (v := ?vb13) rfl rfl (by kernel_rfl) (by kernel_rfl) (by kernel_rfl) (fun _ _ _ h => h) (Or.inl ⟨by rfl, fun w' hS => ?hyb13⟩) HS1.out ?_
        case hyb13 => obtain ⟨s1, s2', s3, s4⟩ := hS; (go_simp; try rfl)
        simp only [List.setIfInBounds_toArray, List.set_cons_succ, List.set_cons_zero]
        refine take_at' (i := 14) 130 (v := ?vb14) rfl rfl (by kernel_rfl) (by kernel_rfl) (by kernel_rfl) (fun _ _ _ h => h) (Or.inl ⟨by rfl, fun w' hS => ?hyb14⟩) HS1.out ?_
        case hyb14 => obtain ⟨s1, s2', s3, s4⟩ := hS; (go_simp; try rfl)
        simp only [List.setIfInBounds_toArray, List.set_cons_succ, List.set_cons_zero]
        refine take_at' (i := 15) 131 (v := ?vb15) rfl rfl (by kernel_rfl) (by kernel_rfl) (by kernel_rfl) (fun _ _ _ h => h) (Or.inl ⟨by rfl, fun w' hS => ?hyb15⟩) HS1.out ?_
        case hyb15 => obtain ⟨s1, s2', s3, s4⟩ := hS; (go_simp; try rfl)
        simp only [List.setIfInBounds_toArray, List.set_cons_succ, List.set_cons_zero]
        refine wpAnyH_all (rs := [16]) (by kernel_rfl) (by simp) ?_
        intro i hi
        obtain rfl : i = 16 := by simpa using hi
        refine value_at 16 (v := .pointer (some ⟨wm.heap.size, 0, none⟩)) (w' := wm.alloc (.cells #[.slice none 0 0] 24)) rfl rfl rfl (by go_simp) ⟨HSV.out _ (bl_alloc HBM.out), ?_⟩
        simp only [List.setIfInBounds_toArray, List.set_cons_succ, List.set_cons_zero]
        refine wpAnyH_all (rs := [17]) (by kernel_rfl) (by simp) ?_
        intro i hi
        obtain rfl : i = 17 := by simpa using hi
        refine skip_at (w' := wm.alloc (.cells #[.slice tM tlM tcM] 24)) rfl rfl rfl (by go_simp) ⟨HSV.out _ (bl_alloc HBM.out), ?_⟩
        have HS2b := Lib.hid (HSV.out _ (bl_alloc (o := .cells #[.slice tM tlM tcM] 24) HBM.out))
        refine take_at' (i := 18) 17 (v := ?vb18) rfl rfl (by kernel_rfl) (by kernel_rfl) (by kernel_rfl) (fun _ _ _ h => h) (Or.inl ⟨by rfl, fun w' hS => ?hyb18⟩) HS2b.out ?_
        case hyb18 => obtain ⟨s1, s2', s3, s4⟩ := hS; (go_simp; try rfl)
        simp only [List.setIfInBounds_toArray, List.set_cons_succ, List.set_cons_zero]
        refine wpAnyH_done (by kernel_rfl) ?_ _
        obtain ⟨Wv, hWv⟩ : ∃ Wv, wm.alloc (.cells #[.slice tM tlM tcM] 24) = Wv := ⟨_, rfl⟩
        have HBv : Hid (Below wr.heap.size wr Wv) := by rw [← hWv]; exact Lib.hid (bl_alloc (bl_step HBf.out HBM.out))
        have HXv : Hid (Bx Wv wm.heap.size tM tlM tcM) := by rw [← hWv]; exact Lib.hid ⟨by simp, by simp [go_sem]⟩
        have HVv : Hid (InVP (fun b => P b ∨ wf.heap.size ≤ b) Wv n tM tlM tcM M) := by rw [← hWv]; exact Lib.hid ((InVP.below (bl_alloc (Below.refl _ _)) HVM.out).imp fun b hb _ => hb.imp id fun h => Nat.le_trans HBd.out.size h)
        have HQv : Hid (Bq Wv G s none 0 0) := by rw [← hWv]; exact Lib.hid (HQf.out.later (bl_alloc HBM.out))
        have H2v := Lib.hid (bl_step hB.out HBv.out)
        rw [hWv]
        clear hWv HS0 HS1 HS2b HVM HBM HSZ HSV HIN HBd HW0 HQf H2f HBf
        generalize wm.heap.size = gv at *
        by_cases her : er = 0
        ·subst her
         have hML : M.length = tlM := inVP_len HVv.out
         by_cases hM : tlM = 0
         ·subst hM
          have hM0 : M = [] := List.eq_nil_of_length_eq_zero hML
          have HE : Hid (rr = (0, [])) := Lib.hid (HBF.out.bad HNO.out c 0 (by rw [hI.out.len]; exact hlt) hI.out.res (by
           have e1 : U[c.length]'(by rw [hI.out.len]; exact hlt) = U[j] := by congr 1; exact hI.out.len
           rw [e1, HRC.out, if_neg (by rintro ⟨-, h⟩; exact h hM0)]))
          clear hM0 hML
          obtain ⟨-, v0⟩ := HXv.out
          obtain ⟨zz, ⟨z0, z1, z2, z3, z4, z5, z6, z7⟩, zf⟩ := HZZ.out _ H2v.out
          go_wp2_with fail
          obtain ⟨k0, k1, k2, k3, k4, k5, k6, k7⟩ := set8 (HZZ.out _ H2v.out) (.int .i64 0) (.int .i64 0) (.int .i64 0) (.string ⟨#[]⟩) (.bool false) (.bool false) (.bool false) (.slice none 0 0)
          refine bodyPost_ret (v := .tuple #[.agg #[.int .i64 0, .int .i64 0, .int .i64 0, .string ⟨#[]⟩, .bool false, .bool false, .bool false, .slice none 0 0], .bool false, .int .i64 0]) (by simp [results, Tryz.results85, go_sem, k0, k1, k2, k3, k4, k5, k6, k7]) rfl ?_
          exact BoP.no HE.out (bl_set8 (HWW.out _ H2v.out) (by omega))
         ·have hMn : M ≠ [] := fun e => hM (by rw [← hML, e]; rfl)
          have hM1 : ((tlM : Int) == 0) = false := by simp; omega
          have HRES : Hid (cm1 (meetV n) fs gs U[j] = (0, some (s, M))) := Lib.hid (by rw [HRC.out, if_pos ⟨rfl, hMn⟩])
          clear hM hMn hML HRC
          obtain ⟨-, v0⟩ := HXv.out
          obtain ⟨qz, q0, q1, qF⟩ := HQv.out
          go_upto_region 25 with fail
          obtain ⟨Wz, hWz⟩ : ∃ Wz, Wv.setCell ⟨G, 1, none⟩ (.slice tM tlM tcM) = Wz := ⟨_, rfl⟩
          have HBz : Hid (Below wr.heap.size wr Wz) := by rw [← hWz]; exact Lib.hid (bl_set HBv.out HG9.out)
          have HQz : Hid (Bq Wz G s tM tlM tcM) := by rw [← hWz]; exact Lib.hid (HQv.out.set1 tM tlM tcM)
          have HVz : Hid (InVP (fun b => P b ∨ (w.heap.size + 4 ≤ b ∧ (Value.slice a l cap).ownBlock ≠ some b)) Wz n tM tlM tcM M) := by
           rw [← hWz]
           exact Lib.hid (InVP.to (Nat.le_of_eq set_size.symm) (fun b hb _ => by
            have h1 := hZ.out
            have h2 := HG9.out
            have h3 := HGf.out
            refine ⟨hb.imp id fun hb => ⟨by omega, fun e => ?_⟩, Below.heap_setCell _ _ _ _ ?_⟩
            ·have := (hI.out.own.lt _ e).2; omega
            ·show b ≠ G
             rcases hb with hb | hb
             ·have := HPP.out b hb; omega
             ·omega) HVv.out)
          rw [hWz]
          clear hWz qz q0 q1 qF v0 HVv HXv HQv
          have HIz := Lib.hid (hI.out.below HBz.out)
          have HOz := Lib.hid (hO.out.later HBz.out)
          have H2z := Lib.hid (bl_step hB.out HBz.out)
          obtain ⟨gg, capg, v1, hap, hb1, ho1, hk1, hg1, hs1⟩ := HIz.out.own.append (by have h1 := HIz.out.len; have h2 := HBF.out.u; omega) (Nat.le_trans hZ.out HBz.out.size) (⟨s, M, tM, tlM, tcM⟩ : Fh)
          have HI1 := Lib.hid (HIz.out.add (z := ⟨s, M, tM, tlM, tcM⟩) (fun b hb => by have := HPP.out b hb; omega) hlt HRES.out HVz.out ho1 hk1 hg1 hs1)
          have HO1 := Lib.hid (HOz.out.keep hb1 (by omega) hs1)
          have H21 : Hid (Below X2.heap.size X2 v1) := Lib.hid (H2z.out.trans (hb1.mono (by omega)))
          have HO2 := Lib.hid (HO1.out.set7 (some ⟨gg, 0, none⟩) (c.length + 1) capg)
          have HI3 := Lib.hid (HI1.out.set (o := 7) (v := .slice (some ⟨gg, 0, none⟩) (c.length + 1) capg) (show w.heap.size + 3 < w.heap.size + 4 by omega) (fun h => by have := HPP.out _ h; omega))
          have H22 := Lib.hid (bl_set (p := ⟨w.heap.size + 3, 7, none⟩) (v := .slice (some ⟨gg, 0, none⟩) (c.length + 1) capg) H21.out (by show X2.heap.size ≤ w.heap.size + 3; omega))
          have HS1 : Hid (w.heap.size + 4 ≤ v1.heap.size) := Lib.hid (by have h1 := hZ.out; have h2 := HBz.out.size; omega)
          have HAP := Lib.hid hap
          simp only [Fh.enc] at HAP
          clear hap hb1 ho1 hk1 hg1 hs1 HVz HRES
          obtain ⟨oz, ⟨o0, o1, o2, o3, o4, o5, o6, o7⟩, oF⟩ := HOz.out
          obtain ⟨pz, ⟨p0, p1, p2, p3, p4, p5, p6, p7⟩, pF⟩ := HO1.out
          obtain ⟨qz, q0, q1, qF⟩ := HQz.out
          go_upto_region 26 with (at_builtin; refine Lib.wpList_append_run _ rfl _ _ _ _ rfl _ _ rfl rfl _ _ HAP.out ?_)
          obtain ⟨W12, hW12⟩ : ∃ W12, v1.setCell ⟨w.heap.size + 3, 7, none⟩ (.slice (some ⟨gg, 0, none⟩) (c.length + 1) capg) = W12 := ⟨_, rfl⟩
          have HZ2 : Hid (w.heap.size + 4 ≤ W12.heap.size) := Lib.hid (by rw [← hW12, set_size]; exact HS1.out)
          rw [hW12] at HO2 HI3 H22 ⊢
          clear hW12 oz o0 o1 o2 o3 o4 o5 o6 o7 oF pz p0 p1 p2 p3 p4 p5 p6 p7 pF qz q0 q1 qF
          obtain ⟨-, ⟨-, -, -, -, -, -, xo6, xf7⟩, -⟩ := HXX.out _ H22.out
          obtain ⟨-, ⟨-, -, -, -, -, -, yo6, yf7⟩, -⟩ := HYY.out _ H22.out
          go_wp2_with (go_at_call 119; (with_reducible refine (HFJ.out _ H22.out).mono ?_); rintro e w13 ⟨rfl, hb⟩; have HB13 := Lib.hid hb; clear hb)
          go_roundw
          case rel => exact ⟨j + 1, s2, some ⟨gg, 0, none⟩, c.length + 1, capg, c ++ [⟨s, M, tM, tlM, tcM⟩], by omega, rfl, by go_num, HS2, Lib.hid (HI3.out.below HB13.out), Lib.hid (HO2.out.later HB13.out), Lib.hid (bl_step H22.out HB13.out), Lib.hid (Nat.le_trans HZ2.out HB13.out.size)⟩
          case measure => simp [intOf]; omega
        ·have hne : (er != 0) = true := by simpa using her
         have HE : Hid (rr = (er, [])) := Lib.hid (HBF.out.bad HNO.out c er (by rw [hI.out.len]; exact hlt) hI.out.res (by
          have e1 : U[c.length]'(by rw [hI.out.len]; exact hlt) = U[j] := by congr 1; exact hI.out.len
          rw [e1, HRC.out, if_neg (by rintro ⟨h, -⟩; exact her h)]))
         clear her
         obtain ⟨zz, ⟨z0, z1, z2, z3, z4, z5, z6, z7⟩, zf⟩ := HZZ.out _ H2v.out
         go_wp2_with fail
         obtain ⟨k0, k1, k2, k3, k4, k5, k6, k7⟩ := set8 (HZZ.out _ H2v.out) (.int .i64 0) (.int .i64 0) (.int .i64 0) (.string ⟨#[]⟩) (.bool false) (.bool false) (.bool false) (.slice none 0 0)
         refine bodyPost_ret (v := .tuple #[.agg #[.int .i64 0, .int .i64 0, .int .i64 0, .string ⟨#[]⟩, .bool false, .bool false, .bool false, .slice none 0 0], .bool false, .int .i64 er]) (by simp [results, Tryz.results85, go_sem, k0, k1, k2, k3, k4, k5, k6, k7]) rfl ?_
         exact BoP.no HE.out (bl_set8 (HWW.out _ H2v.out) (by omega))
       ·refine value_at 16 (v := .pointer (some ⟨wd.heap.size, 0, none⟩)) (w' := wd.alloc (.cells #[.slice none 0 0] 24)) rfl rfl rfl (by go_simp) ⟨HSV.out _ (bl_alloc HBd.out), ?_⟩
        simp only [List.setIfInBounds_toArray, List.set_cons_succ, List.set_cons_zero]
        refine wpAnyH_all (rs := [12]) (by kernel_rfl) (by simp) ?_
        intro i hi
        obtain rfl : i = 12 := by simpa using hi
        have HNV := Lib.hid (show Bvv (wd.alloc (.cells #[.slice none 0 0] 24)) wd.heap.size none 0 0 from ⟨by simp, by simp [go_sem], by simp [go_sem]⟩)
        refine call_at 129 (f := 54) (args := #[.agg #[.slice t1 tl1 tc1], .agg #[.slice t2 tl2 tc2]]) (w' := wd.alloc (.cells #[.slice none 0 0] 24)) rfl rfl rfl (by go_simp) ?_
        refine (HIN.out _ (bl_alloc HW0.out)).mono ?_
        rintro e wm ⟨tM, tlM, tcM, rfl, hbM, hvM⟩
        have HBM := Lib.hid (bl_step (bl_alloc HBd.out) hbM)
        have HVM := Lib.hid hvM
        have HBC := Lib.hid hbM
        have HS1 := Lib.hid (HSV.out wm HBM.out)
        have HSZ := Lib.hid hbM.size
        clear hbM hvM
        refine ⟨_, rfl, HS1.out, ?_⟩
        simp only [List.setIfInBounds_toArray, List.set_cons_succ, List.set_cons_zero]
        have HNW := Lib.hid (HNV.out.later HBC.out)
        obtain ⟨nv0, nv1, nv2⟩ := HNW.out
        refine take_at' (i := 13) 116 (v := ?vc13) rfl rfl (by kernel_rfl) (by kernel_rfl) (by kernel_rfl) (fun _ _ _ h => h) (Or.inl ⟨by rfl, fun w' hS => ?hyc13⟩) HS1.out ?_
        case hyc13 => obtain ⟨s1, s2', s3, s4⟩ := hS; (go_simp; try rfl)
        simp only [List.setIfInBounds_toArray, List.set_cons_succ, List.set_cons_zero]
        refine take_at' (i := 14) 130 (v := ?vc14) rfl rfl (by kernel_rfl) (by kernel_rfl) (by kernel_rfl) (fun _ _ _ h => h) (Or.inl ⟨by rfl, fun w' hS => ?hyc14⟩) HS1.out ?_
        case hyc14 => obtain ⟨s1, s2', s3, s4⟩ := hS; (go_simp; try rfl)
        simp only [List.setIfInBounds_toArray, List.set_cons_succ, List.set_cons_zero]
        refine take_at' (i := 15) 131 (v := ?vc15) rfl rfl (by kernel_rfl) (by kernel_rfl) (by kernel_rfl) (fun _ _ _ h => h) (Or.inl ⟨by rfl, fun w' hS => ?hyc15⟩) HS1.out ?_
        case hyc15 => obtain ⟨s1, s2', s3, s4⟩ := hS; (go_simp; try rfl)
        simp only [List.setIfInBounds_toArray, List.set_cons_succ, List.set_cons_zero]
        have HSQ := Lib.hid (HSV.out (wm.setCell ⟨wd.heap.size, 0, none⟩ (.slice tM tlM tcM)) (bl_set HBM.out HBd.out.size))
        refine wpAnyH_all (rs := [17]) (by kernel_rfl) (by simp) ?_
        intro i hi
        obtain rfl : i = 17 := by simpa using hi
        refine skip_at (w' := wm.setCell ⟨wd.heap.size, 0, none⟩ (.slice tM tlM tcM)) rfl rfl rfl (by go_simp) ⟨HSQ.out, ?_⟩
        refine take_at' (i := 18) 17 (v := ?vc18) rfl rfl (by kernel_rfl) (by kernel_rfl) (by kernel_rfl) (fun _ _ _ h => h) (Or.inl ⟨by rfl, fun w' hS => ?hyc18⟩) HSQ.out ?_
        case hyc18 => obtain ⟨s1, s2', s3, s4⟩ := hS; (go_simp; try rfl)
        simp only [List.setIfInBounds_toArray, List.set_cons_succ, List.set_cons_zero]
        refine wpAnyH_done (by kernel_rfl) ?_ _
        obtain ⟨Wv, hWv⟩ : ∃ Wv, wm.setCell ⟨wd.heap.size, 0, none⟩ (.slice tM tlM tcM) = Wv := ⟨_, rfl⟩
        have HBv : Hid (Below wr.heap.size wr Wv) := by rw [← hWv]; exact Lib.hid (bl_set (bl_step HBf.out HBM.out) (Nat.le_trans HBf.out.size HBd.out.size))
        have HXv : Hid (Bx Wv wd.heap.size tM tlM tcM) := by rw [← hWv]; exact Lib.hid ⟨by rw [set_size]; exact nv0, set_here nv1⟩
        have HVv : Hid (InVP (fun b => P b ∨ wf.heap.size ≤ b) Wv n tM tlM tcM M) := by
         rw [← hWv]
         exact Lib.hid (InVP.to (Nat.le_of_eq set_size.symm) (fun b hb _ => ⟨hb.imp id fun h => by have h1 := HBd.out.size; rw [new_size] at h; omega, Below.heap_setCell _ _ _ _ (by
          show b ≠ wd.heap.size
          rcases hb with hb | hb
          ·have h1 := HPP.out b hb; have h2 := HW0.out.size; omega
          ·rw [new_size] at hb; omega)⟩) HVM.out)
        have HQv : Hid (Bq Wv G s none 0 0) := by rw [← hWv]; exact Lib.hid (HQf.out.later (bl_set HBM.out HBd.out.size))
        have H2v := Lib.hid (bl_step hB.out HBv.out)
        rw [hWv]
        clear hWv HS0 HS1 HSQ HVM HBM HSZ HSV HIN HBd HW0 HQf H2f HBf HNV HNW HBC nv0 nv1 nv2
        generalize wd.heap.size = gv at *
        by_cases her : er = 0
        ·subst her
         have hML : M.length = tlM := inVP_len HVv.out
         by_cases hM : tlM = 0
         ·subst hM
          have hM0 : M = [] := List.eq_nil_of_length_eq_zero hML
          have HE : Hid (rr = (0, [])) := Lib.hid (HBF.out.bad HNO.out c 0 (by rw [hI.out.len]; exact hlt) hI.out.res (by
           have e1 : U[c.length]'(by rw [hI.out.len]; exact hlt) = U[j] := by congr 1; exact hI.out.len
           rw [e1, HRC.out, if_neg (by rintro ⟨-, h⟩; exact h hM0)]))
          clear hM0 hML
          obtain ⟨-, v0⟩ := HXv.out
          obtain ⟨zz, ⟨z0, z1, z2, z3, z4, z5, z6, z7⟩, zf⟩ := HZZ.out _ H2v.out
          go_wp2_with fail
          obtain ⟨k0, k1, k2, k3, k4, k5, k6, k7⟩ := set8 (HZZ.out _ H2v.out) (.int .i64 0) (.int .i64 0) (.int .i64 0) (.string ⟨#[]⟩) (.bool false) (.bool false) (.bool false) (.slice none 0 0)
          refine bodyPost_ret (v := .tuple #[.agg #[.int .i64 0, .int .i64 0, .int .i64 0, .string ⟨#[]⟩, .bool false, .bool false, .bool false, .slice none 0 0], .bool false, .int .i64 0]) (by simp [results, Tryz.results85, go_sem, k0, k1, k2, k3, k4, k5, k6, k7]) rfl ?_
          exact BoP.no HE.out (bl_set8 (HWW.out _ H2v.out) (by omega))
         ·have hMn : M ≠ [] := fun e => hM (by rw [← hML, e]; rfl)
          have hM1 : ((tlM : Int) == 0) = false := by simp; omega
          have HRES : Hid (cm1 (meetV n) fs gs U[j] = (0, some (s, M))) := Lib.hid (by rw [HRC.out, if_pos ⟨rfl, hMn⟩])
          clear hM hMn hML HRC
          obtain ⟨-, v0⟩ := HXv.out
          obtain ⟨qz, q0, q1, qF⟩ := HQv.out
          go_upto_region 25 with fail
          obtain ⟨Wz, hWz⟩ : ∃ Wz, Wv.setCell ⟨G, 1, none⟩ (.slice tM tlM tcM) = Wz := ⟨_, rfl⟩
          have HBz : Hid (Below wr.heap.size wr Wz) := by rw [← hWz]; exact Lib.hid (bl_set HBv.out HG9.out)
          have HQz : Hid (Bq Wz G s tM tlM tcM) := by rw [← hWz]; exact Lib.hid (HQv.out.set1 tM tlM tcM)
          have HVz : Hid (InVP (fun b => P b ∨ (w.heap.size + 4 ≤ b ∧ (Value.slice a l cap).ownBlock ≠ some b)) Wz n tM tlM tcM M) := by
           rw [← hWz]
           exact Lib.hid (InVP.to (Nat.le_of_eq set_size.symm) (fun b hb _ => by
            have h1 := hZ.out
            have h2 := HG9.out
            have h3 := HGf.out
            refine ⟨hb.imp id fun hb => ⟨by omega, fun e => ?_⟩, Below.heap_setCell _ _ _ _ ?_⟩
            ·have := (hI.out.own.lt _ e).2; omega
            ·show b ≠ G
             rcases hb with hb | hb
             ·have := HPP.out b hb; omega
             ·omega) HVv.out)
          rw [hWz]
          clear hWz qz q0 q1 qF v0 HVv HXv HQv
          have HIz := Lib.hid (hI.out.below HBz.out)
          have HOz := Lib.hid (hO.out.later HBz.out)
          have H2z := Lib.hid (bl_step hB.out HBz.out)
          obtain ⟨gg, capg, v1, hap, hb1, ho1, hk1, hg1, hs1⟩ := HIz.out.own.append (by have h1 := HIz.out.len; have h2 := HBF.out.u; omega) (Nat.le_trans hZ.out HBz.out.size) (⟨s, M, tM, tlM, tcM⟩ : Fh)
          have HI1 := Lib.hid (HIz.out.add (z := ⟨s, M, tM, tlM, tcM⟩) (fun b hb => by have := HPP.out b hb; omega) hlt HRES.out HVz.out ho1 hk1 hg1 hs1)
          have HO1 := Lib.hid (HOz.out.keep hb1 (by omega) hs1)
          have H21 : Hid (Below X2.heap.size X2 v1) := Lib.hid (H2z.out.trans (hb1.mono (by omega)))
          have HO2 := Lib.hid (HO1.out.set7 (some ⟨gg, 0, none⟩) (c.length + 1) capg)
          have HI3 := Lib.hid (HI1.out.set (o := 7) (v := .slice (some ⟨gg, 0, none⟩) (c.length + 1) capg) (show w.heap.size + 3 < w.heap.size + 4 by omega) (fun h => by have := HPP.out _ h; omega))
          have H22 := Lib.hid (bl_set (p := ⟨w.heap.size + 3, 7, none⟩) (v := .slice (some ⟨gg, 0, none⟩) (c.length + 1) capg) H21.out (by show X2.heap.size ≤ w.heap.size + 3; omega))
          have HS1 : Hid (w.heap.size + 4 ≤ v1.heap.size) := Lib.hid (by have h1 := hZ.out; have h2 := HBz.out.size; omega)
          have HAP := Lib.hid hap
          simp only [Fh.enc] at HAP
          clear hap hb1 ho1 hk1 hg1 hs1 HVz HRES
          obtain ⟨oz, ⟨o0, o1, o2, o3, o4, o5, o6, o7⟩, oF⟩ := HOz.out
          obtain ⟨pz, ⟨p0, p1, p2, p3, p4, p5, p6, p7⟩, pF⟩ := HO1.out
          obtain ⟨qz, q0, q1, qF⟩ := HQz.out
          go_upto_region 26 with (at_builtin; refine Lib.wpList_append_run _ rfl _ _ _ _ rfl _ _ rfl rfl _ _ HAP.out ?_)
          obtain ⟨W12, hW12⟩ : ∃ W12, v1.setCell ⟨w.heap.size + 3, 7, none⟩ (.slice (some ⟨gg, 0, none⟩) (c.length + 1) capg) = W12 := ⟨_, rfl⟩
          have HZ2 : Hid (w.heap.size + 4 ≤ W12.heap.size) := Lib.hid (by rw [← hW12, set_size]; exact HS1.out)
          rw [hW12] at HO2 HI3 H22 ⊢
          clear hW12 oz o0 o1 o2 o3 o4 o5 o6 o7 oF pz p0 p1 p2 p3 p4 p5 p6 p7 pF qz q0 q1 qF
          obtain ⟨-, ⟨-, -, -, -, -, -, xo6, xf7⟩, -⟩ := HXX.out _ H22.out
          obtain ⟨-, ⟨-, -, -, -, -, -, yo6, yf7⟩, -⟩ := HYY.out _ H22.out
          go_wp2_with (go_at_call 119; (with_reducible refine (HFJ.out _ H22.out).mono ?_); rintro e w13 ⟨rfl, hb⟩; have HB13 := Lib.hid hb; clear hb)
          go_roundw
          case rel => exact ⟨j + 1, s2, some ⟨gg, 0, none⟩, c.length + 1, capg, c ++ [⟨s, M, tM, tlM, tcM⟩], by omega, rfl, by go_num, HS2, Lib.hid (HI3.out.below HB13.out), Lib.hid (HO2.out.later HB13.out), Lib.hid (bl_step H22.out HB13.out), Lib.hid (Nat.le_trans HZ2.out HB13.out.size)⟩
          case measure => simp [intOf]; omega
        ·have hne : (er != 0) = true := by simpa using her
         have HE : Hid (rr = (er, [])) := Lib.hid (HBF.out.bad HNO.out c er (by rw [hI.out.len]; exact hlt) hI.out.res (by
          have e1 : U[c.length]'(by rw [hI.out.len]; exact hlt) = U[j] := by congr 1; exact hI.out.len
          rw [e1, HRC.out, if_neg (by rintro ⟨h, -⟩; exact her h)]))
         clear her
         obtain ⟨zz, ⟨z0, z1, z2, z3, z4, z5, z6, z7⟩, zf⟩ := HZZ.out _ H2v.out
         go_wp2_with fail
         obtain ⟨k0, k1, k2, k3, k4, k5, k6, k7⟩ := set8 (HZZ.out _ H2v.out) (.int .i64 0) (.int .i64 0) (.int .i64 0) (.string ⟨#[]⟩) (.bool false) (.bool false) (.bool false) (.slice none 0 0)
         refine bodyPost_ret (v := .tuple #[.agg #[.int .i64 0, .int .i64 0, .int .i64 0, .string ⟨#[]⟩, .bool false, .bool false, .bool false, .slice none 0 0], .bool false, .int .i64 er]) (by simp [results, Tryz.results85, go_sem, k0, k1, k2, k3, k4, k5, k6, k7]) rfl ?_
         exact BoP.no HE.out (bl_set8 (HWW.out _ H2v.out) (by omega))
    ·have ej : j = U.length := by omega
     obtain rfl : s = ⟨#[]⟩ := by rw [hS.out]; unfold nmAt; rw [dif_neg (by omega)]
     have hcz : (c.length : Int) ≤ 9223372036854775807 := by have h1 := hI.out.len; have h2 := HBF.out.u; omega
     obtain ⟨hlc, hfp⟩ := hI.out.inF (w := X3) (Nat.le_of_eq HX3.out.2.1) hcz
     have HFP := Lib.hid hfp
     have HFI := Lib.hid (HBF.out.fine HNO.out c (by rw [hI.out.len, ej]) hI.out.res)
     subst hlc
     clear hfp hS ej hlt
     obtain ⟨oz, ⟨o0, o1, o2, o3, o4, o5, o6, o7⟩, oF⟩ := hO.out
     obtain ⟨zz, ⟨z0, z1, z2, z3, z4, z5, z6, z7⟩, zf⟩ := HZZ.out _ hB.out
     by_cases h32 : (32 : Int) < (c.length : Int)
     ·have HE : Hid (rr = (30, [])) := Lib.hid (by rw [HFI.out, if_pos (by omega)])
      go_wp2_with fail
      obtain ⟨k0, k1, k2, k3, k4, k5, k6, k7⟩ := set8 (HZZ.out _ hB.out) (.int .i64 0) (.int .i64 0) (.int .i64 0) (.string ⟨#[]⟩) (.bool false) (.bool false) (.bool false) (.slice none 0 0)
      refine bodyPost_ret (v := .tuple #[.agg #[.int .i64 0, .int .i64 0, .int .i64 0, .string ⟨#[]⟩, .bool false, .bool false, .bool false, .slice none 0 0], .bool false, .int .i64 30]) (by simp [results, Tryz.results85, go_sem, k0, k1, k2, k3, k4, k5, k6, k7]) rfl ?_
      exact BoP.no HE.out (bl_set8 (HWW.out _ hB.out) (by omega))
     ·have HE : Hid (rr = (0, [.mk 4 0 0 ⟨#[]⟩ false false yo (c.map Fh.f)])) := Lib.hid (by rw [HFI.out, if_neg (by omega)]; rfl)
      go_wp2_with fail
      obtain ⟨k0, k1, k2, k3, k4, k5, k6, k7⟩ := set8 (HZZ.out _ hB.out) (.int .i64 4) (.int .i64 0) (.int .i64 0) (.string ⟨#[]⟩) (.bool false) (.bool false) (.bool yo) (.slice a c.length cap)
      refine bodyPost_ret (v := .tuple #[.agg #[.int .i64 4, .int .i64 0, .int .i64 0, .string ⟨#[]⟩, .bool false, .bool false, .bool yo, .slice a c.length cap], .bool true, .int .i64 0]) (by simp [results, Tryz.results85, go_sem, k0, k1, k2, k3, k4, k5, k6, k7]) rfl ?_
      rw [HE.out]
      refine ⟨true, ⟨.mk 4 0 0 ⟨#[]⟩ false false yo (c.map Fh.f), a, c.length, cap⟩, rfl, bl_set8 (HWW.out _ hB.out) (by omega), fun _ => ⟨rfl, ?_⟩, fun h => absurd h (by decide)⟩
      have hQ : ∀ b, (P b ∨ X3.heap.size ≤ b) → b < wr.heap.size → (P b ∨ w.heap.size ≤ b) ∧ ((((((((wr.setCell ⟨w.heap.size + 1 + 1, 0, none⟩ (.int .i64 4)).setCell ⟨w.heap.size + 1 + 1, 1, none⟩ (.int .i64 0)).setCell ⟨w.heap.size + 1 + 1, 2, none⟩ (.int .i64 0)).setCell ⟨w.heap.size + 1 + 1, 3, none⟩ (.string ⟨#[]⟩)).setCell ⟨w.heap.size + 1 + 1, 4, none⟩ (.bool false)).setCell ⟨w.heap.size + 1 + 1, 5, none⟩ (.bool false)).setCell ⟨w.heap.size + 1 + 1, 6, none⟩ (.bool yo)).setCell ⟨w.heap.size + 1 + 1, 7, none⟩ (.slice a c.length cap)).heap[b]? = wr.heap[b]? := fun b hb _ => by
       have h3 := HX3.out.2.1
       have hne : b ≠ w.heap.size + 1 + 1 := by
        rcases hb with hb | hb
        ·have := HPP.out b hb; omega
        ·omega
       refine ⟨hb.imp id fun h => by omega, ?_⟩
       rw [Below.heap_setCell _ _ _ _ hne, Below.heap_setCell _ _ _ _ hne, Below.heap_setCell _ _ _ _ hne, Below.heap_setCell _ _ _ _ hne, Below.heap_setCell _ _ _ _ hne, Below.heap_setCell _ _ _ _ hne, Below.heap_setCell _ _ _ _ hne, Below.heap_setCell _ _ _ _ hne]
      exact InFP.to (by rw [set_size, set_size, set_size, set_size, set_size, set_size, set_size, set_size]; exact Nat.le_refl _) hQ (fun _ _ _ _ h => InVP.to (by rw [set_size, set_size, set_size, set_size, set_size, set_size, set_size, set_size]; exact Nat.le_refl _) hQ h) HFP.out
end Go.Proofs.YtddleeenlpigfaaGreatDoor
