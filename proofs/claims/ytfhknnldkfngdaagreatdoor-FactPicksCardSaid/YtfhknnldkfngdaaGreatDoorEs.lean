/- WALK of FactPicks. -/
import Derived.Test.YtfhknnldkfngdaaGreatDoorY37
namespace Go.Proofs.YtfhknnldkfngdaaGreatDoor
open Go.RowKit
theorem Ks.below {w w' : World} {p : Option Addr} {pl : Nat} {ks : List ByteArray} (hb : Below w.heap.size w w') (h : Ks w p pl ks) : Ks w' p pl ks :=
  ⟨h.1, h.2.1, fun i hi => by
    obtain ⟨b, off, e, lt, c⟩ := h.2.2 i hi
    exact ⟨b, off, e, Nat.lt_of_lt_of_le lt hb.size, (hb.cell (p := ⟨b, off + i, none⟩) lt).trans c⟩⟩
theorem same_pk (n : Nat) (B : List Tm) (W : World) (m : Nat) (t : Option Addr) (tl tc : Nat) (m2 : Nat) (t2 : Option Addr) (tl2 tc2 : Nat) (h1 : m ≤ n) (i1 : InV W m t tl tc B) (h2 : m2 ≤ n) (i2 : InV W m2 t2 tl2 tc2 B) : Calls Tryz.prog 19 #[.agg #[.slice t tl tc], .agg #[.slice t2 tl2 tc2]] W (LackP true W) := by
  have h := rsame_in n W t tl tc B t2 tl2 tc2 B (i1.le h1) (i2.le h2)
  rw [show (cmpV n B B == 0) = true by rw [(cmpV_cmp n).refl]; rfl] at h
  exact h
set_option maxRecDepth 100000 in
set_option maxHeartbeats 8000000 in
theorem fpicks_walk (n : Nat) (w : World) (ta : Option Addr) (la ca : Nat) (A : List Tm) (p : Option Addr) (pl pc : Nat) (ks : List ByteArray) (hA : InV w (n + 1) ta la ca A) (nA : NmV (n + 1) A) (eA : LnV (n + 1) A) (hE : Nm.Env w) (hk : Ks w p pl ks) :
    Calls Tryz.prog 4 #[.agg #[.slice ta la ca], .slice p pl pc] w (LackP true w) := by
  have HXE : ∃ X, w.alloc (.cells #[.slice ta la ca] 24) = X := ⟨_, rfl⟩
  obtain ⟨X, hX⟩ := HXE
  have HXB : Hid (Below w.heap.size w X ∧ Bx X w.heap.size ta la ca) := by
    rw [← hX]; exact ⟨bl_alloc (Below.refl _ _), ⟨by simp, by simp [go_sem]⟩⟩
  have HXW := Lib.hid HXB.out.1
  have V : Hid (∀ W, Below X.heap.size X W → W.cell? ⟨w.heap.size, 0, none⟩ = some (.slice ta la ca)) := fun W hW => (HXB.out.2.later hW).2
  have iA := Lib.hid (fun (W : World) (hW : Below X.heap.size X W) => (show Vif W (n + 1) ta la ca A from ⟨⟨InV.below (bl_step HXW.out hW) hA, nA, hE.below (bl_step HXW.out hW)⟩, eA⟩))
  have FA := Lib.hid (fun (W : World) (hW : Below X.heap.size X W) => few9_any (n + 1) W ta la ca A (iA.out W hW).v.v)
  have AW := Lib.hid (fun (W : World) (hW : Below X.heap.size X W) => awake11_in W (iA.out W hW).v.env)
  have AWC : Hid (∀ W, Below X.heap.size X W → Calls Tryz.prog 7 #[] W fun e w' => e = .returned (.bool true) ∧ Below W.heap.size W w') := fun W hW => AW.out W hW
  have PK := Lib.hid (fun (W : World) (hW : Below X.heap.size X W) => pick_in (n + 1) W ta la ca A p pl pc ks (iA.out W hW).v (hk.below (bl_step HXW.out hW)))
  have RPK := Lib.hid (fun (W : World) (hW : Below X.heap.size X W) => rpick_in (n + 1) W ta la ca A p pl pc ks (iA.out W hW) (hk.below (bl_step HXW.out hW)))
  have EN := Lib.hid (fun (W : World) (hW : Below X.heap.size X W) => hE.below (bl_step HXW.out hW))
  obtain ⟨⟨E, B⟩, hr⟩ : ∃ r, pickR (n + 1) A ks = r := ⟨_, rfl⟩
  rw [hr] at PK RPK
  have SM := Lib.hid (same_pk (n + 1) B)
  by_cases hpl : (20 : Int) < (pl : Int)
  · clear hA nA eA hE iA HXB hk PK RPK hr SM
    go_enter Tryz.func4, Tryz.ntmps4
    go_upto_region 1 with fail
    clear hX
    have KW : Hid (Below X.heap.size X X) := Below.refl _ _
    have x2 := V.out _ KW.out
    go_wp2_with (first
      | (go_at_call 6; (with_reducible refine (FA.out _ KW.out).mono ?_); rintro e w1 ⟨b, rfl, hB, -⟩; replace KW := Lib.hid (bl_step KW.out hB); clear hB; have x2 := V.out _ KW.out; cases b)
      | (go_at_call 7; (with_reducible refine (AW.out _ KW.out).mono ?_); rintro e w1 ⟨rfl, hB⟩; replace KW := Lib.hid (bl_step KW.out hB); clear hB; have x2 := V.out _ KW.out))
    · go_ret
      exact ⟨rfl, bl_step HXW.out KW.out⟩
    · go_wp2_with (first
        | (go_at_call 7; (with_reducible refine (AW.out _ KW.out).mono ?_); rintro e w1 ⟨rfl, hB⟩; replace KW := Lib.hid (bl_step KW.out hB); clear hB; have x2 := V.out _ KW.out))
      go_ret
      exact ⟨rfl, bl_step HXW.out KW.out⟩
  · clear hA nA eA hE iA HXB hk hr
    go_enter Tryz.func4, Tryz.ntmps4
    go_upto_region 1 with fail
    clear hX
    have KW : Hid (Below X.heap.size X X) := Below.refl _ _
    have x2 := V.out _ KW.out
    go_wp2_with (first
      | (go_at_call 6; (with_reducible refine (FA.out _ KW.out).mono ?_); rintro e w1 ⟨b, rfl, hB, -⟩; replace KW := Lib.hid (bl_step KW.out hB); clear hB; have x2 := V.out _ KW.out; cases b)
      | (go_at_call 7; (with_reducible refine (AW.out _ KW.out).mono ?_); rintro e w1 ⟨rfl, hB⟩; replace KW := Lib.hid (bl_step KW.out hB); clear hB; have x2 := V.out _ KW.out))
    · go_ret
      exact ⟨rfl, bl_step HXW.out KW.out⟩
    go_upto_region 5 with (first
      | (go_at_call 17; refine (PK.out _ KW.out).mono ?_; rintro e w2 ⟨m, t, tl, tc, hm, rfl, hB, hr⟩; have HR1 := Lib.hid hr; have HM1 := Lib.hid hm; replace KW := Lib.hid (bl_step KW.out (bl_alloc (o := .cells #[.slice t tl tc] 24) hB)); have HB1 := Lib.hid (Bv.new w2 t tl tc 24); clear hB hr hm; have x2 := V.out _ KW.out)
      | (go_at_call 18; refine (RPK.out _ KW.out).mono ?_; rintro e w3 ⟨m2, t2, tl2, tc2, hm, rfl, hB, hr, hn, hl⟩; have HR2 := Lib.hid hr; have HNL := Lib.hid (And.intro hn hl); have HM2 := Lib.hid hm; have HBB := Lib.hid hB; clear hB hr hm hn hl))
    obtain ⟨Z, hZ⟩ : ∃ Z, w3.alloc (.cells #[.slice t2 tl2 tc2] 24) = Z := ⟨_, rfl⟩
    have hbZ : Below w3.heap.size w3 Z := by rw [← hZ]; exact bl_alloc (Below.refl _ _)
    have hw23 : Below w2.heap.size w2 Z := bl_step (bl_step (bl_alloc (Below.refl _ _)) HBB.out) hbZ
    have hXZ : Below X.heap.size X Z := bl_step (bl_step KW.out HBB.out) hbZ
    have BO1 := Lib.hid ((HB1.out.later HBB.out).later hbZ)
    have BO2 : Hid (Bv Z w3.heap.size t2 tl2 tc2) := by rw [← hZ]; exact Lib.hid (Bv.new w3 t2 tl2 tc2 24)
    have J1 := Lib.hid (fun (W : World) (hW : Below Z.heap.size Z W) => InV.below (bl_step hw23 hW) HR1.out)
    have J2 := Lib.hid (fun (W : World) (hW : Below Z.heap.size Z W) => InV.below (bl_step (bl_step HBB.out hbZ) hW) HR2.out)
    have SMC := Lib.hid (fun (W : World) (hW : Below Z.heap.size Z W) => SM.out W m t tl tc (m2 + 1) t2 tl2 tc2 HM1.out (J1.out W hW) HM2.out (J2.out W hW))
    have VI := Lib.hid (fun (W : World) (hW : Below Z.heap.size Z W) => (show Vif W (m2 + 1) t2 tl2 tc2 B from ⟨⟨J2.out W hW, HNL.out.1, EN.out W (bl_step hXZ hW)⟩, HNL.out.2⟩))
    have KX := Lib.hid hXZ
    have NU := Lib.hid (fun (W : World) (hW : Below Z.heap.size Z W) => number_in m2 W W t2 tl2 tc2 B (VI.out W hW).v (Below.refl _ _))
    have TX := Lib.hid (fun (W : World) (hW : Below Z.heap.size Z W) => text_in m2 W W t2 tl2 tc2 B (VI.out W hW).v (Below.refl _ _))
    have PN := Lib.hid (fun (W : World) (hW : Below Z.heap.size Z W) => rplain_in m2 2 (by decide) (by decide) W W t2 tl2 tc2 B (VI.out W hW) (Below.refl _ _))
    have PT := Lib.hid (fun (W : World) (hW : Below Z.heap.size Z W) => rplain_in m2 3 (by decide) (by decide) W W t2 tl2 tc2 B (VI.out W hW) (Below.refl _ _))
    have AWZ : Hid (∀ W, Below Z.heap.size Z W → Calls Tryz.prog 7 #[] W fun e w' => e = .returned (.bool true) ∧ Below W.heap.size W w') := Lib.hid fun W hW => AWC.out W (bl_step hXZ hW)
    generalize plR (m2 + 1) 2 B = rn at NU PN
    generalize plR (m2 + 1) 3 B = rt at TX PT
    obtain ⟨nlo, ns, nb, nE⟩ := rn
    obtain ⟨tlo, ts, tb, tE⟩ := rt
    rw [hZ]
    clear hZ hbZ hw23 hXZ HB1 HBB HR1 HR2 HM1 HM2 HNL SM PK RPK FA AW AWC x2 V EN J1 J2 VI KW
    generalize w2.heap.size = g2 at *
    generalize w3.heap.size = g3 at *
    have KZ : Hid (Below Z.heap.size Z Z) := Below.refl _ _
    obtain ⟨c1, c2, c3⟩ := BO1.out
    obtain ⟨d1, d2, d3⟩ := BO2.out
    go_upto_region 7 with (go_at_call 19; refine (SMC.out _ (Below.refl _ _)).mono ?_; rintro e w5 ⟨rfl, hB⟩; replace KZ := Lib.hid (bl_step KZ.out hB); clear hB)
    clear c1 c2 c3 d1 d2 d3
    obtain ⟨d1, d2, d3⟩ := BO2.out.later KZ.out
    go_upto_region 11 with (first
      | (go_at_call 20; (with_reducible refine (NU.out _ KZ.out).mono ?_); rintro e w6 ⟨rfl, hB⟩; replace KZ := Lib.hid (bl_step KZ.out hB); clear hB; clear d1 d2 d3; obtain ⟨d1, d2, d3⟩ := BO2.out.later KZ.out)
      | (go_at_call 22; (with_reducible refine (TX.out _ KZ.out).mono ?_); rintro e w8 ⟨rfl, hB⟩; have HB8 := Lib.hid hB; replace KZ := Lib.hid (bl_step KZ.out hB); clear hB; clear d1 d2 d3; obtain ⟨d1, d2, d3⟩ := BO2.out.later KZ.out)
      | (go_at_call 21; (with_reducible refine (PN.out _ KZ.out).mono ?_); rintro e w7 ⟨a7, b7, c7, p7, q7, r7, u7, v7, rfl, hB⟩; have HBN := Lib.hid (Bo.new w7 a7 nlo b7 ns c7 p7 q7 r7 u7 v7); replace KZ := Lib.hid (bl_step KZ.out (bl_alloc (o := .cells #[.int .i64 a7, .int .i64 nlo, .int .i64 b7, .string ns, .bool c7, .bool p7, .bool q7, .slice r7 u7 v7] 29) hB)); have HB7 := Lib.hid hB; clear hB; clear d1 d2 d3; obtain ⟨d1, d2, d3⟩ := BO2.out.later KZ.out)
      | (go_at_call 21; (with_reducible refine (PT.out _ KZ.out).mono ?_); rintro e w9 ⟨a9, b9, c9, p9, q9, r9, u9, v9, rfl, hB⟩; have HBT := Lib.hid (Bo.new w9 a9 tlo b9 ts c9 p9 q9 r9 u9 v9); replace KZ := Lib.hid (bl_step KZ.out (bl_alloc (o := .cells #[.int .i64 a9, .int .i64 tlo, .int .i64 b9, .string ts, .bool c9, .bool p9, .bool q9, .slice r9 u9 v9] 29) hB)); have HB9 := Lib.hid hB; clear hB; clear d1 d2 d3; obtain ⟨d1, d2, d3⟩ := BO2.out.later KZ.out))
    clear d1 d2 d3
    obtain ⟨Y, hY⟩ : ∃ Y, w9.alloc (.cells #[.int .i64 a9, .int .i64 tlo, .int .i64 b9, .string ts, .bool c9, .bool p9, .bool q9, .slice r9 u9 v9] 29) = Y := ⟨_, rfl⟩
    have HN : Hid (Bo Y w7.heap.size a7 nlo b7 ns c7 p7 q7 r7 u7 v7) := by rw [← hY]; exact Lib.hid ((HBN.out.later HB8.out).later (bl_step HB9.out (bl_alloc (Below.refl _ _))))
    have HT : Hid (Bo Y w9.heap.size a9 tlo b9 ts c9 p9 q9 r9 u9 v9) := by rw [← hY]; exact HBT
    have KY : Hid (Below Z.heap.size Z Y) := by rw [← hY]; exact KZ
    rw [hY]
    have AWY : Hid (∀ W, Below Y.heap.size Y W → Calls Tryz.prog 7 #[] W fun e w' => e = .returned (.bool true) ∧ Below W.heap.size W w') := Lib.hid fun W hW => AWZ.out W (bl_step KY.out hW)
    have V2 : Hid (∀ W, Below Y.heap.size Y W → W.cell? ⟨w7.heap.size, 1, none⟩ = some (.int .i64 nlo) ∧ W.cell? ⟨w9.heap.size, 3, none⟩ = some (.string ts)) := Lib.hid fun W hW => ⟨(HN.out.later hW).c.2.1, (HT.out.later hW).c.2.2.2.1⟩
    have KF := Lib.hid (bl_step HXW.out (bl_step KX.out KY.out))
    clear hY HBN HB8 HB9 HBT KZ HN HT KY AWZ NU PN TX PT SMC BO1 BO2 KX HXW HB7
    generalize w7.heap.size = g7 at *
    generalize w9.heap.size = g9 at *
    go_wp2_with (go_at_call 7; (with_reducible refine (AWY.out _ (Below.refl _ _)).mono ?_); rintro e wf ⟨rfl, hB⟩; have HF := Lib.hid (bl_step KF.out hB); obtain ⟨q0, q1⟩ := V2.out _ hB; clear hB)
    go_ret
    exact ⟨rfl, HF.out⟩
end Go.Proofs.YtfhknnldkfngdaaGreatDoor
