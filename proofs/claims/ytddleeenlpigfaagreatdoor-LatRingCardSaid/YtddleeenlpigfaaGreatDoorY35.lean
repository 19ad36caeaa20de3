/- WALK of LatRing. -/
import Derived.Test.YtddleeenlpigfaaGreatDoorY34
namespace Go.Proofs.YtddleeenlpigfaaGreatDoor
open Go.RowKit
theorem rg_nil {m : Nat} : RG (m + 1) [] := ⟨⟨fun x h => absurd h (by simp), List.Pairwise.nil, List.Pairwise.nil⟩, by rw [wN_nil]; omega⟩
theorem meetR_v {n : Nat} {A B : List Tm} (hA : RG n A) (hB : RG n B) : meetR n A B = meetV n A B := by
  unfold meetR
  rw [rgV_yes.2 hA, rgV_yes.2 hB, if_pos (by rfl)]
theorem joinR_v {m : Nat} {A B : List Tm} (hA : RG (m + 1) A) (hB : RG (m + 1) B) : joinR (m + 1) A B = joinV m A B := by
  unfold joinR
  rw [rgV_yes.2 hA, rgV_yes.2 hB, if_pos (by rfl)]; rfl
/-- What a meet's pair is. -/
theorem mt_in {m : Nat} {A B : List Tm} {r : Int × List Tm} (hA : RG (m + 1) A) (hB : RG (m + 1) B) (h : meetR (m + 1) A B = r) : RG (m + 1) r.2 ∧ (r.1 = 0 → ∀ x, Gt m 15 x → (inV m r.2 x ↔ inV m A x ∧ inV m B x)) := by
  rw [meetR_v hA hB] at h
  rcases meet_rv hA.1 hB.1 with e | ⟨M, h1, h2, h3, h5⟩
  · rw [e] at h; subst h; exact ⟨rg_nil, fun h => absurd h (by decide)⟩
  · rw [h1] at h; subst h; exact ⟨⟨h2, h3⟩, fun _ => h5⟩
theorem jn_in {m : Nat} {A B : List Tm} {r : Int × List Tm} (hA : RG (m + 1) A) (hB : RG (m + 1) B) (h : joinR (m + 1) A B = r) : RG (m + 1) r.2 ∧ (r.1 = 0 → ∀ x, Gt m 15 x → (inV m r.2 x ↔ inV m A x ∨ inV m B x)) ∧ (wN (m + 1) A + wN (m + 1) B ≤ 512 → r.1 = 0 ∧ wN (m + 1) r.2 ≤ wN (m + 1) A + wN (m + 1) B) := by
  rw [joinR_v hA hB] at h
  rcases join_rv hA.1 hB.1 with ⟨e, hw⟩ | ⟨J, h1, h2, h3, h4, h5⟩
  · rw [e] at h; subst h; exact ⟨rg_nil, fun h => absurd h (by decide), fun h => absurd hw (by omega)⟩
  · rw [h1] at h; subst h; exact ⟨⟨h2, h3⟩, fun _ => h5, fun _ => ⟨rfl, h4⟩⟩
theorem same_val {n : Nat} {A B : List Tm} (h : A = B) : (cmpV n A B == 0) = true := by rw [h, (cmpV_cmp n).refl]; rfl
/-- All that the law asks of its meets and joins. -/
structure RingF (m : Nat) (A B C : List Tm) (ab ba bc ac lf rt jab jba jbc jl jr ov ea bk : Int × List Tm) : Prop where
  g : RG (m + 1) ab.2 ∧ RG (m + 1) bc.2 ∧ RG (m + 1) ac.2 ∧ RG (m + 1) jab.2 ∧ RG (m + 1) jbc.2
  c1 : ba = ab
  c2 : jba = jab
  z : jab.1 = 0 ∧ jbc.1 = 0 ∧ jl.1 = 0 ∧ jr.1 = 0
  s1 : (cmpV (m + 1) jl.2 jr.2 == 0) = true
  s2 : ab.1 = 0 → bc.1 = 0 → lf.1 = 0 → rt.1 = 0 → (cmpV (m + 1) lf.2 rt.2 == 0) = true
  s3 : ab.1 = 0 → ac.1 = 0 → ov.1 = 0 → ea.1 = 0 → (cmpV (m + 1) ov.2 ea.2 == 0) = true
  s4 : bk.1 = 0 → (cmpV (m + 1) bk.2 A == 0) = true
theorem ring_f {m : Nat} {A B C : List Tm} {ab ba bc ac lf rt jab jba jbc jl jr ov ea bk : Int × List Tm} (hA : RG (m + 1) A) (hB : RG (m + 1) B) (hC : RG (m + 1) C) (wa : wtV (m + 1) A ≤ 40) (wb : wtV (m + 1) B ≤ 40) (wc : wtV (m + 1) C ≤ 40)
    (e1 : meetR (m + 1) A B = ab) (e2 : meetR (m + 1) B A = ba) (e3 : meetR (m + 1) B C = bc) (e4 : meetR (m + 1) A C = ac) (e5 : meetR (m + 1) ab.2 C = lf) (e6 : meetR (m + 1) A bc.2 = rt) (e7 : joinR (m + 1) A B = jab) (e8 : joinR (m + 1) B A = jba) (e9 : joinR (m + 1) B C = jbc)
    (e10 : joinR (m + 1) jab.2 C = jl) (e11 : joinR (m + 1) A jbc.2 = jr) (e12 : meetR (m + 1) A jbc.2 = ov) (e13 : joinR (m + 1) ab.2 ac.2 = ea) (e14 : meetR (m + 1) A jab.2 = bk) : RingF m A B C ab ba bc ac lf rt jab jba jbc jl jr ov ea bk := by
  have ha := hA.2
  have hb := hB.2
  have hc := hC.2
  rw [wtV_exact (by omega)] at wa wb wc
  obtain ⟨g1, i1⟩ := mt_in hA hB e1
  obtain ⟨g3, i3⟩ := mt_in hB hC e3
  obtain ⟨g4, i4⟩ := mt_in hA hC e4
  obtain ⟨g5, i5⟩ := mt_in g1 hC e5
  obtain ⟨g6, i6⟩ := mt_in hA g3 e6
  obtain ⟨g7, i7, k7⟩ := jn_in hA hB e7
  obtain ⟨g9, i9, k9⟩ := jn_in hB hC e9
  obtain ⟨z7, w7⟩ := k7 (by omega)
  obtain ⟨z9, w9⟩ := k9 (by omega)
  obtain ⟨g10, i10, k10⟩ := jn_in g7 hC e10
  obtain ⟨g11, i11, k11⟩ := jn_in hA g9 e11
  obtain ⟨z10, w10⟩ := k10 (by omega)
  obtain ⟨z11, w11⟩ := k11 (by omega)
  obtain ⟨g12, i12⟩ := mt_in hA g9 e12
  obtain ⟨g13, i13, k13⟩ := jn_in g1 g4 e13
  obtain ⟨g14, i14⟩ := mt_in hA g7 e14
  refine ⟨⟨g1, g3, g4, g7, g9⟩, ?_, ?_, ⟨z7, z9, z10, z11⟩, same_val (val_ext g10.1 g11.1 fun x gx => ?_), fun a b c d => same_val (val_ext g5.1 g6.1 fun x gx => ?_), fun a b c d => same_val (val_ext g12.1 g13.1 fun x gx => ?_), fun a => same_val (val_ext g14.1 hA.1 fun x gx => ?_)⟩
  · rw [← e2, ← e1, meetR_v hA hB, meetR_v hB hA]; exact (meet_comm_v hA.1 hB.1).symm
  · rw [← e8, ← e7, joinR_v hA hB, joinR_v hB hA]; exact (join_comm_v hA.1 hB.1).symm
  · rw [i10 z10 x gx, i11 z11 x gx, i7 z7 x gx, i9 z9 x gx, or_assoc]
  · rw [i5 c x gx, i6 d x gx, i1 a x gx, i3 b x gx, and_assoc]
  · rw [i12 c x gx, i13 d x gx, i9 z9 x gx, i1 a x gx, i4 b x gx, and_or_left]
  · rw [i14 a x gx, i7 z7 x gx]
    exact ⟨fun h => h.1, fun h => ⟨h, .inl h⟩⟩
theorem lmeet_rg (n : Nat) (w : World) (t : Option Addr) (tl tc : Nat) (A : List Tm) (t2 : Option Addr) (tl2 tc2 : Nat) (B : List Tm) (hA : InV w n t tl tc A) (hB : InV w n t2 tl2 tc2 B) (rA : RG n A) (rB : RG n B) (hE : Nm.Env w) (r : Int × List Tm) (hr : meetR n A B = r) :
    Calls Tryz.prog 26 #[.agg #[.slice t tl tc], .agg #[.slice t2 tl2 tc2]] w (LmP n r w) := by
  rw [← hr]; exact lmeet_in n w t tl tc A t2 tl2 tc2 B ⟨hA, rA.nm, hE⟩ ⟨hB, rB.nm, hE⟩
theorem ljoin_rg (n : Nat) (w : World) (t : Option Addr) (tl tc : Nat) (A : List Tm) (t2 : Option Addr) (tl2 tc2 : Nat) (B : List Tm) (hA : InV w n t tl tc A) (hB : InV w n t2 tl2 tc2 B) (rA : RG n A) (rB : RG n B) (hE : Nm.Env w) (r : Int × List Tm) (hr : joinR n A B = r) :
    Calls Tryz.prog 28 #[.agg #[.slice t tl tc], .agg #[.slice t2 tl2 tc2]] w (LmP n r w) := by
  rw [← hr]; exact ljoin_in n w t tl tc A t2 tl2 tc2 B ⟨hA, rA.nm, hE⟩ ⟨hB, rB.nm, hE⟩
set_option maxRecDepth 100000 in
set_option maxHeartbeats 16000000 in
theorem lring_walk (n : Nat) (w : World) (ta : Option Addr) (la ca : Nat) (A : List Tm) (tb : Option Addr) (lb cb : Nat) (B : List Tm) (tc : Option Addr) (lc cc : Nat) (C : List Tm)
    (hA : InV w (n + 1) ta la ca A) (hB : InV w (n + 1) tb lb cb B) (hC : InV w (n + 1) tc lc cc C) (nA : NmV (n + 1) A) (nB : NmV (n + 1) B) (nC : NmV (n + 1) C) (eA : LnV (n + 1) A) (eB : LnV (n + 1) B) (eC : LnV (n + 1) C) (hE : Nm.Env w) :
    Calls Tryz.prog 8 #[.agg #[.slice ta la ca], .agg #[.slice tb lb cb], .agg #[.slice tc lc cc]] w (LackP true w) := by
  have HA := Lib.hid (fun (W : World) (hW : Below w.heap.size w W) => InV.below hW hA)
  have HB := Lib.hid (fun (W : World) (hW : Below w.heap.size w W) => InV.below hW hB)
  have HC := Lib.hid (fun (W : World) (hW : Below w.heap.size w W) => InV.below hW hC)
  have HE := Lib.hid (fun (W : World) (hW : Below w.heap.size w W) => hE.below hW)
  have FA := Lib.hid (fun (W : World) (hW : Below w.heap.size w W) => few9_any (n + 1) W ta la ca A (InV.below hW hA))
  have FB := Lib.hid (fun (W : World) (hW : Below w.heap.size w W) => few9_any (n + 1) W tb lb cb B (InV.below hW hB))
  have FC := Lib.hid (fun (W : World) (hW : Below w.heap.size w W) => few9_any (n + 1) W tc lc cc C (InV.below hW hC))
  have RA := Lib.hid (fun (W : World) (hW : Below w.heap.size w W) => rrv_in (n + 1) W ta la ca A (InV.below hW hA) nA eA)
  have RB := Lib.hid (fun (W : World) (hW : Below w.heap.size w W) => rrv_in (n + 1) W tb lb cb B (InV.below hW hB) nB eB)
  have RC := Lib.hid (fun (W : World) (hW : Below w.heap.size w W) => rrv_in (n + 1) W tc lc cc C (InV.below hW hC) nC eC)
  have AW := Lib.hid (fun (W : World) (hW : Below w.heap.size w W) => awake_in W (hE.below hW))
  clear hA hB hC nA nB nC eA eB eC hE
  have RF := Lib.hid (fun ab ba bc ac lf rt jab jba jbc jl jr ov ea bk => @ring_f n A B C ab ba bc ac lf rt jab jba jbc jl jr ov ea bk)
  generalize wtV (n + 1) A = wa at *
  generalize wtV (n + 1) B = wb at *
  generalize wtV (n + 1) C = wc at *
  obtain ⟨qa, hqa⟩ : ∃ q, rgV (n + 1) A = q := ⟨_, rfl⟩
  obtain ⟨qb, hqb⟩ : ∃ q, rgV (n + 1) B = q := ⟨_, rfl⟩
  obtain ⟨qc, hqc⟩ : ∃ q, rgV (n + 1) C = q := ⟨_, rfl⟩
  rw [hqa] at RA
  rw [hqb] at RB
  rw [hqc] at RC
  have GA := Lib.hid hqa
  have GB := Lib.hid hqb
  have GC := Lib.hid hqc
  clear hqa hqb hqc
  go_enter Tryz.func8, Tryz.ntmps8
  go_upto_region 1 with fail
  have HXE : ∃ X, ((w.alloc (.cells #[.slice ta la ca] 24)).alloc (.cells #[.slice tb lb cb] 24)).alloc (.cells #[.slice tc lc cc] 24) = X := ⟨_, rfl⟩
  obtain ⟨X, hX⟩ := HXE
  have HXB : Hid (Below w.heap.size w X ∧ B3 X w.heap.size ta la ca tb lb cb tc lc cc) := by
    rw [← hX]; exact ⟨bl_alloc (bl_alloc (bl_alloc (Below.refl _ _))), ⟨⟨by simp; omega, by simp [go_sem]⟩, ⟨by simp, by simp [go_sem]⟩, ⟨by simp, by simp [go_sem]⟩⟩⟩
  rw [hX]
  clear hX
  have KW : Hid (Below X.heap.size X X) := Below.refl _ _
  obtain ⟨x3, x4, x5⟩ := (HXB.out.2.later KW.out).cells
  go_wp2_with (first
    | (go_at_call 12; (with_reducible refine (FA.out _ (bl_step HXB.out.1 KW.out)).mono ?_); rintro e w1 ⟨b, rfl, hB, h40⟩; replace KW := Lib.hid (bl_step KW.out hB); have WA := Lib.hid h40; clear hB h40; obtain ⟨x3, x4, x5⟩ := (HXB.out.2.later KW.out).cells; cases b)
    | (go_at_call 13; (with_reducible refine (AW.out _ (bl_step HXB.out.1 KW.out)).mono ?_); rintro e w1 ⟨rfl, hB⟩; replace KW := Lib.hid (bl_step KW.out hB); clear hB))
  · go_ret
    exact ⟨rfl, bl_step HXB.out.1 KW.out⟩
  go_wp2_with (first
    | (go_at_call 12; (with_reducible refine (FB.out _ (bl_step HXB.out.1 KW.out)).mono ?_); rintro e w1 ⟨b, rfl, hB, h40⟩; replace KW := Lib.hid (bl_step KW.out hB); have WB := Lib.hid h40; clear hB h40; obtain ⟨x3, x4, x5⟩ := (HXB.out.2.later KW.out).cells; cases b)
    | (go_at_call 13; (with_reducible refine (AW.out _ (bl_step HXB.out.1 KW.out)).mono ?_); rintro e w1 ⟨rfl, hB⟩; replace KW := Lib.hid (bl_step KW.out hB); clear hB))
  · go_ret
    exact ⟨rfl, bl_step HXB.out.1 KW.out⟩
  go_wp2_with (first
    | (go_at_call 12; (with_reducible refine (FC.out _ (bl_step HXB.out.1 KW.out)).mono ?_); rintro e w1 ⟨b, rfl, hB, h40⟩; replace KW := Lib.hid (bl_step KW.out hB); have WC := Lib.hid h40; clear hB h40; obtain ⟨x3, x4, x5⟩ := (HXB.out.2.later KW.out).cells; cases b)
    | (go_at_call 13; (with_reducible refine (AW.out _ (bl_step HXB.out.1 KW.out)).mono ?_); rintro e w1 ⟨rfl, hB⟩; replace KW := Lib.hid (bl_step KW.out hB); clear hB))
  · go_ret
    exact ⟨rfl, bl_step HXB.out.1 KW.out⟩
  cases qa
  · go_wp2_with (first
      | (go_at_call 14; (with_reducible refine (RA.out _ (bl_step HXB.out.1 KW.out)).mono ?_); rintro e w1 ⟨rfl, hB⟩; replace KW := Lib.hid (bl_step KW.out hB); clear hB; obtain ⟨x3, x4, x5⟩ := (HXB.out.2.later KW.out).cells)
      | (go_at_call 14; (with_reducible refine (RB.out _ (bl_step HXB.out.1 KW.out)).mono ?_); rintro e w1 ⟨rfl, hB⟩; replace KW := Lib.hid (bl_step KW.out hB); clear hB; obtain ⟨x3, x4, x5⟩ := (HXB.out.2.later KW.out).cells)
      | (go_at_call 14; (with_reducible refine (RC.out _ (bl_step HXB.out.1 KW.out)).mono ?_); rintro e w1 ⟨rfl, hB⟩; replace KW := Lib.hid (bl_step KW.out hB); clear hB; obtain ⟨x3, x4, x5⟩ := (HXB.out.2.later KW.out).cells)
      | (go_at_call 13; (with_reducible refine (AW.out _ (bl_step HXB.out.1 KW.out)).mono ?_); rintro e w1 ⟨rfl, hB⟩; replace KW := Lib.hid (bl_step KW.out hB); clear hB))
    go_ret
    exact ⟨rfl, bl_step HXB.out.1 KW.out⟩
  cases qb
  · go_wp2_with (first
      | (go_at_call 14; (with_reducible refine (RA.out _ (bl_step HXB.out.1 KW.out)).mono ?_); rintro e w1 ⟨rfl, hB⟩; replace KW := Lib.hid (bl_step KW.out hB); clear hB; obtain ⟨x3, x4, x5⟩ := (HXB.out.2.later KW.out).cells)
      | (go_at_call 14; (with_reducible refine (RB.out _ (bl_step HXB.out.1 KW.out)).mono ?_); rintro e w1 ⟨rfl, hB⟩; replace KW := Lib.hid (bl_step KW.out hB); clear hB; obtain ⟨x3, x4, x5⟩ := (HXB.out.2.later KW.out).cells)
      | (go_at_call 14; (with_reducible refine (RC.out _ (bl_step HXB.out.1 KW.out)).mono ?_); rintro e w1 ⟨rfl, hB⟩; replace KW := Lib.hid (bl_step KW.out hB); clear hB; obtain ⟨x3, x4, x5⟩ := (HXB.out.2.later KW.out).cells)
      | (go_at_call 13; (with_reducible refine (AW.out _ (bl_step HXB.out.1 KW.out)).mono ?_); rintro e w1 ⟨rfl, hB⟩; replace KW := Lib.hid (bl_step KW.out hB); clear hB))
    go_ret
    exact ⟨rfl, bl_step HXB.out.1 KW.out⟩
  cases qc
  · go_wp2_with (first
      | (go_at_call 14; (with_reducible refine (RA.out _ (bl_step HXB.out.1 KW.out)).mono ?_); rintro e w1 ⟨rfl, hB⟩; replace KW := Lib.hid (bl_step KW.out hB); clear hB; obtain ⟨x3, x4, x5⟩ := (HXB.out.2.later KW.out).cells)
      | (go_at_call 14; (with_reducible refine (RB.out _ (bl_step HXB.out.1 KW.out)).mono ?_); rintro e w1 ⟨rfl, hB⟩; replace KW := Lib.hid (bl_step KW.out hB); clear hB; obtain ⟨x3, x4, x5⟩ := (HXB.out.2.later KW.out).cells)
      | (go_at_call 14; (with_reducible refine (RC.out _ (bl_step HXB.out.1 KW.out)).mono ?_); rintro e w1 ⟨rfl, hB⟩; replace KW := Lib.hid (bl_step KW.out hB); clear hB; obtain ⟨x3, x4, x5⟩ := (HXB.out.2.later KW.out).cells)
      | (go_at_call 13; (with_reducible refine (AW.out _ (bl_step HXB.out.1 KW.out)).mono ?_); rintro e w1 ⟨rfl, hB⟩; replace KW := Lib.hid (bl_step KW.out hB); clear hB))
    go_ret
    exact ⟨rfl, bl_step HXB.out.1 KW.out⟩
  obtain ⟨ab, h_ab⟩ : ∃ r, meetR (n + 1) A B = r := ⟨_, rfl⟩
  obtain ⟨ba, h_ba⟩ : ∃ r, meetR (n + 1) B A = r := ⟨_, rfl⟩
  obtain ⟨bc, h_bc⟩ : ∃ r, meetR (n + 1) B C = r := ⟨_, rfl⟩
  obtain ⟨ac, h_ac⟩ : ∃ r, meetR (n + 1) A C = r := ⟨_, rfl⟩
  obtain ⟨lf, h_lf⟩ : ∃ r, meetR (n + 1) ab.2 C = r := ⟨_, rfl⟩
  obtain ⟨rt, h_rt⟩ : ∃ r, meetR (n + 1) A bc.2 = r := ⟨_, rfl⟩
  obtain ⟨jab, h_jab⟩ : ∃ r, joinR (n + 1) A B = r := ⟨_, rfl⟩
  obtain ⟨jba, h_jba⟩ : ∃ r, joinR (n + 1) B A = r := ⟨_, rfl⟩
  obtain ⟨jbc, h_jbc⟩ : ∃ r, joinR (n + 1) B C = r := ⟨_, rfl⟩
  obtain ⟨jl, h_jl⟩ : ∃ r, joinR (n + 1) jab.2 C = r := ⟨_, rfl⟩
  obtain ⟨jr, h_jr⟩ : ∃ r, joinR (n + 1) A jbc.2 = r := ⟨_, rfl⟩
  obtain ⟨ov, h_ov⟩ : ∃ r, meetR (n + 1) A jbc.2 = r := ⟨_, rfl⟩
  obtain ⟨ea, h_ea⟩ : ∃ r, joinR (n + 1) ab.2 ac.2 = r := ⟨_, rfl⟩
  obtain ⟨bk, h_bk⟩ : ∃ r, meetR (n + 1) A jab.2 = r := ⟨_, rfl⟩
  have RG0 := Lib.hid (And.intro (rgV_yes.1 GA.out) (And.intro (rgV_yes.1 GB.out) (rgV_yes.1 GC.out)))
  have FF := Lib.hid (RF.out _ _ _ _ _ _ _ _ _ _ _ _ _ _ RG0.out.1 RG0.out.2.1 RG0.out.2.2 (by first | exact WA.out rfl | exact WA.out trivial) (by first | exact WB.out rfl | exact WB.out trivial) (by first | exact WC.out rfl | exact WC.out trivial) h_ab h_ba h_bc h_ac h_lf h_rt h_jab h_jba h_jbc h_jl h_jr h_ov h_ea h_bk)
  have HH := Lib.hid (show meetR (n + 1) A B = ab ∧ meetR (n + 1) B A = ba ∧ meetR (n + 1) B C = bc ∧ meetR (n + 1) A C = ac ∧ meetR (n + 1) ab.2 C = lf ∧ meetR (n + 1) A bc.2 = rt ∧ joinR (n + 1) A B = jab ∧ joinR (n + 1) B A = jba ∧ joinR (n + 1) B C = jbc ∧ joinR (n + 1) jab.2 C = jl ∧ joinR (n + 1) A jbc.2 = jr ∧ meetR (n + 1) A jbc.2 = ov ∧ joinR (n + 1) ab.2 ac.2 = ea ∧ meetR (n + 1) A jab.2 = bk from ⟨h_ab, h_ba, h_bc, h_ac, h_lf, h_rt, h_jab, h_jba, h_jbc, h_jl, h_jr, h_ov, h_ea, h_bk⟩)
  clear h_ab h_ba h_bc h_ac h_lf h_rt h_jab h_jba h_jbc h_jl h_jr h_ov h_ea h_bk RF GA GB GC WA WB WC FA FB FC
  go_upto_region 3 with (first
    | (go_at_call 14; (with_reducible refine (RA.out _ (bl_step HXB.out.1 KW.out)).mono ?_); rintro e w1 ⟨rfl, hB⟩; replace KW := Lib.hid (bl_step KW.out hB); clear hB; obtain ⟨x3, x4, x5⟩ := (HXB.out.2.later KW.out).cells)
    | (go_at_call 14; (with_reducible refine (RB.out _ (bl_step HXB.out.1 KW.out)).mono ?_); rintro e w1 ⟨rfl, hB⟩; replace KW := Lib.hid (bl_step KW.out hB); clear hB; obtain ⟨x3, x4, x5⟩ := (HXB.out.2.later KW.out).cells)
    | (go_at_call 14; (with_reducible refine (RC.out _ (bl_step HXB.out.1 KW.out)).mono ?_); rintro e w1 ⟨rfl, hB⟩; replace KW := Lib.hid (bl_step KW.out hB); clear hB; obtain ⟨x3, x4, x5⟩ := (HXB.out.2.later KW.out).cells))
  have VA := Lib.hid (HA.out _ (bl_step HXB.out.1 KW.out))
  have VB := Lib.hid (HB.out _ (bl_step HXB.out.1 KW.out))
  have VC := Lib.hid (HC.out _ (bl_step HXB.out.1 KW.out))
  have EE := Lib.hid (HE.out _ (bl_step HXB.out.1 KW.out))
  have BX := Lib.hid (HXB.out.2.later KW.out)
  replace KW := Lib.hid (bl_step HXB.out.1 KW.out)
  clear HA HB HC HE RA RB RC HXB
  have K1 := Lib.hid (lmeet_rg (n + 1) _ ta la ca _ tb lb cb _ VA.out VB.out RG0.out.1 RG0.out.2.1 EE.out ab HH.out.1)
  go_upto_region 4 with (go_at_call 26; (with_reducible refine K1.out.mono ?_); rintro e w1 ⟨t_ab, l_ab, c_ab, rfl, hB, hv⟩; have K2 := Lib.hid hB; have VN := Lib.hid hv; clear hB hv)
  obtain ⟨W_ab, hW⟩ : ∃ W, w1.alloc (.cells #[.slice t_ab l_ab c_ab] 24) = W := ⟨_, rfl⟩
  have K3 : Hid (Below w1.heap.size w1 W_ab ∧ Bx W_ab w1.heap.size t_ab l_ab c_ab) := by rw [← hW]; exact ⟨bl_alloc (Below.refl _ _), ⟨by simp, by simp [go_sem]⟩⟩
  rw [hW]
  clear hW K1
  have V_ab := Lib.hid (InV.below K3.out.1 VN.out)
  have B_ab := Lib.hid K3.out.2
  replace K2 := Lib.hid (bl_step K2.out K3.out.1)
  replace VA := Lib.hid (InV.below K2.out VA.out)
  replace VB := Lib.hid (InV.below K2.out VB.out)
  replace VC := Lib.hid (InV.below K2.out VC.out)
  replace EE := Lib.hid (EE.out.below K2.out)
  replace BX := Lib.hid (BX.out.later K2.out)
  replace KW := Lib.hid (bl_step KW.out K2.out)
  generalize w1.heap.size = N_ab at *
  clear K2 K3 VN x3 x4 x5
  obtain ⟨x3, x4, x5⟩ := BX.out.cells
  have y_ab := B_ab.out.2
  have K1 := Lib.hid (lmeet_rg (n + 1) _ tb lb cb _ ta la ca _ VB.out VA.out RG0.out.2.1 RG0.out.1 EE.out ba HH.out.2.1)
  go_upto_region 5 with (go_at_call 26; (with_reducible refine K1.out.mono ?_); rintro e w1 ⟨t_ba, l_ba, c_ba, rfl, hB, hv⟩; have K2 := Lib.hid hB; have VN := Lib.hid hv; clear hB hv)
  obtain ⟨W_ba, hW⟩ : ∃ W, w1.alloc (.cells #[.slice t_ba l_ba c_ba] 24) = W := ⟨_, rfl⟩
  have K3 : Hid (Below w1.heap.size w1 W_ba ∧ Bx W_ba w1.heap.size t_ba l_ba c_ba) := by rw [← hW]; exact ⟨bl_alloc (Below.refl _ _), ⟨by simp, by simp [go_sem]⟩⟩
  rw [hW]
  clear hW K1
  have V_ba := Lib.hid (InV.below K3.out.1 VN.out)
  have B_ba := Lib.hid K3.out.2
  replace K2 := Lib.hid (bl_step K2.out K3.out.1)
  replace VA := Lib.hid (InV.below K2.out VA.out)
  replace VB := Lib.hid (InV.below K2.out VB.out)
  replace VC := Lib.hid (InV.below K2.out VC.out)
  replace V_ab := Lib.hid (InV.below K2.out V_ab.out)
  replace B_ab := Lib.hid (B_ab.out.later K2.out)
  replace EE := Lib.hid (EE.out.below K2.out)
  replace BX := Lib.hid (BX.out.later K2.out)
  replace KW := Lib.hid (bl_step KW.out K2.out)
  generalize w1.heap.size = N_ba at *
  clear K2 K3 VN x3 x4 x5 y_ab
  obtain ⟨x3, x4, x5⟩ := BX.out.cells
  have y_ab := B_ab.out.2
  have y_ba := B_ba.out.2
  have K1 := Lib.hid (lmeet_rg (n + 1) _ tb lb cb _ tc lc cc _ VB.out VC.out RG0.out.2.1 RG0.out.2.2 EE.out bc HH.out.2.2.1)
  go_upto_region 6 with (go_at_call 26; (with_reducible refine K1.out.mono ?_); rintro e w1 ⟨t_bc, l_bc, c_bc, rfl, hB, hv⟩; have K2 := Lib.hid hB; have VN := Lib.hid hv; clear hB hv)
  obtain ⟨W_bc, hW⟩ : ∃ W, w1.alloc (.cells #[.slice t_bc l_bc c_bc] 24) = W := ⟨_, rfl⟩
  have K3 : Hid (Below w1.heap.size w1 W_bc ∧ Bx W_bc w1.heap.size t_bc l_bc c_bc) := by rw [← hW]; exact ⟨bl_alloc (Below.refl _ _), ⟨by simp, by simp [go_sem]⟩⟩
  rw [hW]
  clear hW K1
  have V_bc := Lib.hid (InV.below K3.out.1 VN.out)
  have B_bc := Lib.hid K3.out.2
  replace K2 := Lib.hid (bl_step K2.out K3.out.1)
  replace VA := Lib.hid (InV.below K2.out VA.out)
  replace VB := Lib.hid (InV.below K2.out VB.out)
  replace VC := Lib.hid (InV.below K2.out VC.out)
  replace V_ab := Lib.hid (InV.below K2.out V_ab.out)
  replace V_ba := Lib.hid (InV.below K2.out V_ba.out)
  replace B_ab := Lib.hid (B_ab.out.later K2.out)
  replace B_ba := Lib.hid (B_ba.out.later K2.out)
  replace EE := Lib.hid (EE.out.below K2.out)
  replace BX := Lib.hid (BX.out.later K2.out)
  replace KW := Lib.hid (bl_step KW.out K2.out)
  generalize w1.heap.size = N_bc at *
  clear K2 K3 VN x3 x4 x5 y_ab y_ba
  obtain ⟨x3, x4, x5⟩ := BX.out.cells
  have y_ab := B_ab.out.2
  have y_ba := B_ba.out.2
  have y_bc := B_bc.out.2
  have K1 := Lib.hid (lmeet_rg (n + 1) _ ta la ca _ tc lc cc _ VA.out VC.out RG0.out.1 RG0.out.2.2 EE.out ac HH.out.2.2.2.1)
  go_upto_region 7 with (go_at_call 26; (with_reducible refine K1.out.mono ?_); rintro e w1 ⟨t_ac, l_ac, c_ac, rfl, hB, hv⟩; have K2 := Lib.hid hB; have VN := Lib.hid hv; clear hB hv)
  obtain ⟨W_ac, hW⟩ : ∃ W, w1.alloc (.cells #[.slice t_ac l_ac c_ac] 24) = W := ⟨_, rfl⟩
  have K3 : Hid (Below w1.heap.size w1 W_ac ∧ Bx W_ac w1.heap.size t_ac l_ac c_ac) := by rw [← hW]; exact ⟨bl_alloc (Below.refl _ _), ⟨by simp, by simp [go_sem]⟩⟩
  rw [hW]
  clear hW K1
  have V_ac := Lib.hid (InV.below K3.out.1 VN.out)
  have B_ac := Lib.hid K3.out.2
  replace K2 := Lib.hid (bl_step K2.out K3.out.1)
  replace VA := Lib.hid (InV.below K2.out VA.out)
  replace VB := Lib.hid (InV.below K2.out VB.out)
  replace VC := Lib.hid (InV.below K2.out VC.out)
  replace V_ab := Lib.hid (InV.below K2.out V_ab.out)
  replace V_ba := Lib.hid (InV.below K2.out V_ba.out)
  replace V_bc := Lib.hid (InV.below K2.out V_bc.out)
  replace B_ab := Lib.hid (B_ab.out.later K2.out)
  replace B_ba := Lib.hid (B_ba.out.later K2.out)
  replace B_bc := Lib.hid (B_bc.out.later K2.out)
  replace EE := Lib.hid (EE.out.below K2.out)
  replace BX := Lib.hid (BX.out.later K2.out)
  replace KW := Lib.hid (bl_step KW.out K2.out)
  generalize w1.heap.size = N_ac at *
  clear K2 K3 VN x3 x4 x5 y_ab y_ba y_bc
  obtain ⟨x3, x4, x5⟩ := BX.out.cells
  have y_ab := B_ab.out.2
  have y_ba := B_ba.out.2
  have y_bc := B_bc.out.2
  have y_ac := B_ac.out.2
  have K1 := Lib.hid (lmeet_rg (n + 1) _ t_ab l_ab c_ab _ tc lc cc _ V_ab.out VC.out FF.out.g.1 RG0.out.2.2 EE.out lf HH.out.2.2.2.2.1)
  go_upto_region 8 with (go_at_call 26; (with_reducible refine K1.out.mono ?_); rintro e w1 ⟨t_lf, l_lf, c_lf, rfl, hB, hv⟩; have K2 := Lib.hid hB; have VN := Lib.hid hv; clear hB hv)
  obtain ⟨W_lf, hW⟩ : ∃ W, w1.alloc (.cells #[.slice t_lf l_lf c_lf] 24) = W := ⟨_, rfl⟩
  have K3 : Hid (Below w1.heap.size w1 W_lf ∧ Bx W_lf w1.heap.size t_lf l_lf c_lf) := by rw [← hW]; exact ⟨bl_alloc (Below.refl _ _), ⟨by simp, by simp [go_sem]⟩⟩
  rw [hW]
  clear hW K1
  have V_lf := Lib.hid (InV.below K3.out.1 VN.out)
  have B_lf := Lib.hid K3.out.2
  replace K2 := Lib.hid (bl_step K2.out K3.out.1)
  replace VA := Lib.hid (InV.below K2.out VA.out)
  replace VB := Lib.hid (InV.below K2.out VB.out)
  replace VC := Lib.hid (InV.below K2.out VC.out)
  replace V_ab := Lib.hid (InV.below K2.out V_ab.out)
  replace V_ba := Lib.hid (InV.below K2.out V_ba.out)
  replace V_bc := Lib.hid (InV.below K2.out V_bc.out)
  replace V_ac := Lib.hid (InV.below K2.out V_ac.out)
  replace B_ab := Lib.hid (B_ab.out.later K2.out)
  replace B_ba := Lib.hid (B_ba.out.later K2.out)
  replace B_bc := Lib.hid (B_bc.out.later K2.out)
  replace B_ac := Lib.hid (B_ac.out.later K2.out)
  replace EE := Lib.hid (EE.out.below K2.out)
  replace BX := Lib.hid (BX.out.later K2.out)
  replace KW := Lib.hid (bl_step KW.out K2.out)
  generalize w1.heap.size = N_lf at *
  clear K2 K3 VN x3 x4 x5 y_ab y_ba y_bc y_ac
  obtain ⟨x3, x4, x5⟩ := BX.out.cells
  have y_ab := B_ab.out.2
  have y_ba := B_ba.out.2
  have y_bc := B_bc.out.2
  have y_ac := B_ac.out.2
  have y_lf := B_lf.out.2
  have K1 := Lib.hid (lmeet_rg (n + 1) _ ta la ca _ t_bc l_bc c_bc _ VA.out V_bc.out RG0.out.1 FF.out.g.2.1 EE.out rt HH.out.2.2.2.2.2.1)
  go_upto_region 9 with (go_at_call 26; (with_reducible refine K1.out.mono ?_); rintro e w1 ⟨t_rt, l_rt, c_rt, rfl, hB, hv⟩; have K2 := Lib.hid hB; have VN := Lib.hid hv; clear hB hv)
  obtain ⟨W_rt, hW⟩ : ∃ W, w1.alloc (.cells #[.slice t_rt l_rt c_rt] 24) = W := ⟨_, rfl⟩
  have K3 : Hid (Below w1.heap.size w1 W_rt ∧ Bx W_rt w1.heap.size t_rt l_rt c_rt) := by rw [← hW]; exact ⟨bl_alloc (Below.refl _ _), ⟨by simp, by simp [go_sem]⟩⟩
  rw [hW]
  clear hW K1
  have V_rt := Lib.hid (InV.below K3.out.1 VN.out)
  have B_rt := Lib.hid K3.out.2
  replace K2 := Lib.hid (bl_step K2.out K3.out.1)
  replace VA := Lib.hid (InV.below K2.out VA.out)
  replace VB := Lib.hid (InV.below K2.out VB.out)
  replace VC := Lib.hid (InV.below K2.out VC.out)
  replace V_ab := Lib.hid (InV.below K2.out V_ab.out)
  replace V_ba := Lib.hid (InV.below K2.out V_ba.out)
  replace V_bc := Lib.hid (InV.below K2.out V_bc.out)
  replace V_ac := Lib.hid (InV.below K2.out V_ac.out)
  replace V_lf := Lib.hid (InV.below K2.out V_lf.out)
  replace B_ab := Lib.hid (B_ab.out.later K2.out)
  replace B_ba := Lib.hid (B_ba.out.later K2.out)
  replace B_bc := Lib.hid (B_bc.out.later K2.out)
  replace B_ac := Lib.hid (B_ac.out.later K2.out)
  replace B_lf := Lib.hid (B_lf.out.later K2.out)
  replace EE := Lib.hid (EE.out.below K2.out)
  replace BX := Lib.hid (BX.out.later K2.out)
  replace KW := Lib.hid (bl_step KW.out K2.out)
  generalize w1.heap.size = N_rt at *
  clear K2 K3 VN x3 x4 x5 y_ab y_ba y_bc y_ac y_lf
  obtain ⟨x3, x4, x5⟩ := BX.out.cells
  have y_ab := B_ab.out.2
  have y_ba := B_ba.out.2
  have y_bc := B_bc.out.2
  have y_ac := B_ac.out.2
  have y_lf := B_lf.out.2
  have y_rt := B_rt.out.2
  have K1 := Lib.hid (ljoin_rg (n + 1) _ ta la ca _ tb lb cb _ VA.out VB.out RG0.out.1 RG0.out.2.1 EE.out jab HH.out.2.2.2.2.2.2.1)
  go_upto_region 10 with (go_at_call 28; (with_reducible refine K1.out.mono ?_); rintro e w1 ⟨t_jab, l_jab, c_jab, rfl, hB, hv⟩; have K2 := Lib.hid hB; have VN := Lib.hid hv; clear hB hv)
  obtain ⟨W_jab, hW⟩ : ∃ W, w1.alloc (.cells #[.slice t_jab l_jab c_jab] 24) = W := ⟨_, rfl⟩
  have K3 : Hid (Below w1.heap.size w1 W_jab ∧ Bx W_jab w1.heap.size t_jab l_jab c_jab) := by rw [← hW]; exact ⟨bl_alloc (Below.refl _ _), ⟨by simp, by simp [go_sem]⟩⟩
  rw [hW]
  clear hW K1
  have V_jab := Lib.hid (InV.below K3.out.1 VN.out)
  have B_jab := Lib.hid K3.out.2
  replace K2 := Lib.hid (bl_step K2.out K3.out.1)
  replace VA := Lib.hid (InV.below K2.out VA.out)
  replace VB := Lib.hid (InV.below K2.out VB.out)
  replace VC := Lib.hid (InV.below K2.out VC.out)
  replace V_ab := Lib.hid (InV.below K2.out V_ab.out)
  replace V_ba := Lib.hid (InV.below K2.out V_ba.out)
  replace V_bc := Lib.hid (InV.below K2.out V_bc.out)
  replace V_ac := Lib.hid (InV.below K2.out V_ac.out)
  replace V_lf := Lib.hid (InV.below K2.out V_lf.out)
  replace V_rt := Lib.hid (InV.below K2.out V_rt.out)
  replace B_ab := Lib.hid (B_ab.out.later K2.out)
  replace B_ba := Lib.hid (B_ba.out.later K2.out)
  replace B_bc := Lib.hid (B_bc.out.later K2.out)
  replace B_ac := Lib.hid (B_ac.out.later K2.out)
  replace B_lf := Lib.hid (B_lf.out.later K2.out)
  replace B_rt := Lib.hid (B_rt.out.later K2.out)
  replace EE := Lib.hid (EE.out.below K2.out)
  replace BX := Lib.hid (BX.out.later K2.out)
  replace KW := Lib.hid (bl_step KW.out K2.out)
  generalize w1.heap.size = N_jab at *
  clear K2 K3 VN x3 x4 x5 y_ab y_ba y_bc y_ac y_lf y_rt
  obtain ⟨x3, x4, x5⟩ := BX.out.cells
  have y_ab := B_ab.out.2
  have y_ba := B_ba.out.2
  have y_bc := B_bc.out.2
  have y_ac := B_ac.out.2
  have y_lf := B_lf.out.2
  have y_rt := B_rt.out.2
  have y_jab := B_jab.out.2
  have K1 := Lib.hid (ljoin_rg (n + 1) _ tb lb cb _ ta la ca _ VB.out VA.out RG0.out.2.1 RG0.out.1 EE.out jba HH.out.2.2.2.2.2.2.2.1)
  go_upto_region 11 with (go_at_call 28; (with_reducible refine K1.out.mono ?_); rintro e w1 ⟨t_jba, l_jba, c_jba, rfl, hB, hv⟩; have K2 := Lib.hid hB; have VN := Lib.hid hv; clear hB hv)
  obtain ⟨W_jba, hW⟩ : ∃ W, w1.alloc (.cells #[.slice t_jba l_jba c_jba] 24) = W := ⟨_, rfl⟩
  have K3 : Hid (Below w1.heap.size w1 W_jba ∧ Bx W_jba w1.heap.size t_jba l_jba c_jba) := by rw [← hW]; exact ⟨bl_alloc (Below.refl _ _), ⟨by simp, by simp [go_sem]⟩⟩
  rw [hW]
  clear hW K1
  have V_jba := Lib.hid (InV.below K3.out.1 VN.out)
  have B_jba := Lib.hid K3.out.2
  replace K2 := Lib.hid (bl_step K2.out K3.out.1)
  replace VA := Lib.hid (InV.below K2.out VA.out)
  replace VB := Lib.hid (InV.below K2.out VB.out)
  replace VC := Lib.hid (InV.below K2.out VC.out)
  replace V_ab := Lib.hid (InV.below K2.out V_ab.out)
  replace V_ba := Lib.hid (InV.below K2.out V_ba.out)
  replace V_bc := Lib.hid (InV.below K2.out V_bc.out)
  replace V_ac := Lib.hid (InV.below K2.out V_ac.out)
  replace V_lf := Lib.hid (InV.below K2.out V_lf.out)
  replace V_rt := Lib.hid (InV.below K2.out V_rt.out)
  replace V_jab := Lib.hid (InV.below K2.out V_jab.out)
  replace B_ab := Lib.hid (B_ab.out.later K2.out)
  replace B_ba := Lib.hid (B_ba.out.later K2.out)
  replace B_bc := Lib.hid (B_bc.out.later K2.out)
  replace B_ac := Lib.hid (B_ac.out.later K2.out)
  replace B_lf := Lib.hid (B_lf.out.later K2.out)
  replace B_rt := Lib.hid (B_rt.out.later K2.out)
  replace B_jab := Lib.hid (B_jab.out.later K2.out)
  replace EE := Lib.hid (EE.out.below K2.out)
  replace BX := Lib.hid (BX.out.later K2.out)
  replace KW := Lib.hid (bl_step KW.out K2.out)
  generalize w1.heap.size = N_jba at *
  clear K2 K3 VN x3 x4 x5 y_ab y_ba y_bc y_ac y_lf y_rt y_jab
  obtain ⟨x3, x4, x5⟩ := BX.out.cells
  have y_ab := B_ab.out.2
  have y_ba := B_ba.out.2
  have y_bc := B_bc.out.2
  have y_ac := B_ac.out.2
  have y_lf := B_lf.out.2
  have y_rt := B_rt.out.2
  have y_jab := B_jab.out.2
  have y_jba := B_jba.out.2
  have K1 := Lib.hid (ljoin_rg (n + 1) _ tb lb cb _ tc lc cc _ VB.out VC.out RG0.out.2.1 RG0.out.2.2 EE.out jbc HH.out.2.2.2.2.2.2.2.2.1)
  go_upto_region 12 with (go_at_call 28; (with_reducible refine K1.out.mono ?_); rintro e w1 ⟨t_jbc, l_jbc, c_jbc, rfl, hB, hv⟩; have K2 := Lib.hid hB; have VN := Lib.hid hv; clear hB hv)
  obtain ⟨W_jbc, hW⟩ : ∃ W, w1.alloc (.cells #[.slice t_jbc l_jbc c_jbc] 24) = W := ⟨_, rfl⟩
  have K3 : Hid (Below w1.heap.size w1 W_jbc ∧ Bx W_jbc w1.heap.size t_jbc l_jbc c_jbc) := by rw [← hW]; exact ⟨bl_alloc (Below.refl _ _), ⟨by simp, by simp [go_sem]⟩⟩
  rw [hW]
  clear hW K1
  have V_jbc := Lib.hid (InV.below K3.out.1 VN.out)
  have B_jbc := Lib.hid K3.out.2
  replace K2 := Lib.hid (bl_step K2.out K3.out.1)
  replace VA := Lib.hid (InV.below K2.out VA.out)
  replace VB := Lib.hid (InV.below K2.out VB.out)
  replace VC := Lib.hid (InV.below K2.out VC.out)
  replace V_ab := Lib.hid (InV.below K2.out V_ab.out)
  replace V_ba := Lib.hid (InV.below K2.out V_ba.out)
  replace V_bc := Lib.hid (InV.below K2.out V_bc.out)
  replace V_ac := Lib.hid (InV.below K2.out V_ac.out)
  replace V_lf := Lib.hid (InV.below K2.out V_lf.out)
  replace V_rt := Lib.hid (InV.below K2.out V_rt.out)
  replace V_jab := Lib.hid (InV.below K2.out V_jab.out)
  replace V_jba := Lib.hid (InV.below K2.out V_jba.out)
  replace B_ab := Lib.hid (B_ab.out.later K2.out)
  replace B_ba := Lib.hid (B_ba.out.later K2.out)
  replace B_bc := Lib.hid (B_bc.out.later K2.out)
  replace B_ac := Lib.hid (B_ac.out.later K2.out)
  replace B_lf := Lib.hid (B_lf.out.later K2.out)
  replace B_rt := Lib.hid (B_rt.out.later K2.out)
  replace B_jab := Lib.hid (B_jab.out.later K2.out)
  replace B_jba := Lib.hid (B_jba.out.later K2.out)
  replace EE := Lib.hid (EE.out.below K2.out)
  replace BX := Lib.hid (BX.out.later K2.out)
  replace KW := Lib.hid (bl_step KW.out K2.out)
  generalize w1.heap.size = N_jbc at *
  clear K2 K3 VN x3 x4 x5 y_ab y_ba y_bc y_ac y_lf y_rt y_jab y_jba
  obtain ⟨x3, x4, x5⟩ := BX.out.cells
  have y_ab := B_ab.out.2
  have y_ba := B_ba.out.2
  have y_bc := B_bc.out.2
  have y_ac := B_ac.out.2
  have y_lf := B_lf.out.2
  have y_rt := B_rt.out.2
  have y_jab := B_jab.out.2
  have y_jba := B_jba.out.2
  have y_jbc := B_jbc.out.2
  have K1 := Lib.hid (ljoin_rg (n + 1) _ t_jab l_jab c_jab _ tc lc cc _ V_jab.out VC.out FF.out.g.2.2.2.1 RG0.out.2.2 EE.out jl HH.out.2.2.2.2.2.2.2.2.2.1)
  go_upto_region 13 with (go_at_call 28; (with_reducible refine K1.out.mono ?_); rintro e w1 ⟨t_jl, l_jl, c_jl, rfl, hB, hv⟩; have K2 := Lib.hid hB; have VN := Lib.hid hv; clear hB hv)
  obtain ⟨W_jl, hW⟩ : ∃ W, w1.alloc (.cells #[.slice t_jl l_jl c_jl] 24) = W := ⟨_, rfl⟩
  have K3 : Hid (Below w1.heap.size w1 W_jl ∧ Bx W_jl w1.heap.size t_jl l_jl c_jl) := by rw [← hW]; exact ⟨bl_alloc (Below.refl _ _), ⟨by simp, by simp [go_sem]⟩⟩
  rw [hW]
  clear hW K1
  have V_jl := Lib.hid (InV.below K3.out.1 VN.out)
  have B_jl := Lib.hid K3.out.2
  replace K2 := Lib.hid (bl_step K2.out K3.out.1)
  replace VA := Lib.hid (InV.below K2.out VA.out)
  replace VB := Lib.hid (InV.below K2.out VB.out)
  replace VC := Lib.hid (InV.below K2.out VC.out)
  replace V_ab := Lib.hid (InV.below K2.out V_ab.out)
  replace V_ba := Lib.hid (InV.below K2.out V_ba.out)
  replace V_bc := Lib.hid (InV.below K2.out V_bc.out)
  replace V_ac := Lib.hid (InV.below K2.out V_ac.out)
  replace V_lf := Lib.hid (InV.below K2.out V_lf.out)
  replace V_rt := Lib.hid (InV.below K2.out V_rt.out)
  replace V_jab := Lib.hid (InV.below K2.out V_jab.out)
  replace V_jba := Lib.hid (InV.below K2.out V_jba.out)
  replace V_jbc := Lib.hid (InV.below K2.out V_jbc.out)
  replace B_ab := Lib.hid (B_ab.out.later K2.out)
  replace B_ba := Lib.hid (B_ba.out.later K2.out)
  replace B_bc := Lib.hid (B_bc.out.later K2.out)
  replace B_ac := Lib.hid (B_ac.out.later K2.out)
  replace B_lf := Lib.hid (B_lf.out.later K2.out)
  replace B_rt := Lib.hid (B_rt.out.later K2.out)
  replace B_jab := Lib.hid (B_jab.out.later K2.out)
  replace B_jba := Lib.hid (B_jba.out.later K2.out)
  replace B_jbc := Lib.hid (B_jbc.out.later K2.out)
  replace EE := Lib.hid (EE.out.below K2.out)
  replace BX := Lib.hid (BX.out.later K2.out)
  replace KW := Lib.hid (bl_step KW.out K2.out)
  generalize w1.heap.size = N_jl at *
  clear K2 K3 VN x3 x4 x5 y_ab y_ba y_bc y_ac y_lf y_rt y_jab y_jba y_jbc
  obtain ⟨x3, x4, x5⟩ := BX.out.cells
  have y_ab := B_ab.out.2
  have y_ba := B_ba.out.2
  have y_bc := B_bc.out.2
  have y_ac := B_ac.out.2
  have y_lf := B_lf.out.2
  have y_rt := B_rt.out.2
  have y_jab := B_jab.out.2
  have y_jba := B_jba.out.2
  have y_jbc := B_jbc.out.2
  have y_jl := B_jl.out.2
  have K1 := Lib.hid (ljoin_rg (n + 1) _ ta la ca _ t_jbc l_jbc c_jbc _ VA.out V_jbc.out RG0.out.1 FF.out.g.2.2.2.2 EE.out jr HH.out.2.2.2.2.2.2.2.2.2.2.1)
  go_upto_region 14 with (go_at_call 28; (with_reducible refine K1.out.mono ?_); rintro e w1 ⟨t_jr, l_jr, c_jr, rfl, hB, hv⟩; have K2 := Lib.hid hB; have VN := Lib.hid hv; clear hB hv)
  obtain ⟨W_jr, hW⟩ : ∃ W, w1.alloc (.cells #[.slice t_jr l_jr c_jr] 24) = W := ⟨_, rfl⟩
  have K3 : Hid (Below w1.heap.size w1 W_jr ∧ Bx W_jr w1.heap.size t_jr l_jr c_jr) := by rw [← hW]; exact ⟨bl_alloc (Below.refl _ _), ⟨by simp, by simp [go_sem]⟩⟩
  rw [hW]
  clear hW K1
  have V_jr := Lib.hid (InV.below K3.out.1 VN.out)
  have B_jr := Lib.hid K3.out.2
  replace K2 := Lib.hid (bl_step K2.out K3.out.1)
  replace VA := Lib.hid (InV.below K2.out VA.out)
  replace VB := Lib.hid (InV.below K2.out VB.out)
  replace VC := Lib.hid (InV.below K2.out VC.out)
  replace V_ab := Lib.hid (InV.below K2.out V_ab.out)
  replace V_ba := Lib.hid (InV.below K2.out V_ba.out)
  replace V_bc := Lib.hid (InV.below K2.out V_bc.out)
  replace V_ac := Lib.hid (InV.below K2.out V_ac.out)
  replace V_lf := Lib.hid (InV.below K2.out V_lf.out)
  replace V_rt := Lib.hid (InV.below K2.out V_rt.out)
  replace V_jab := Lib.hid (InV.below K2.out V_jab.out)
  replace V_jba := Lib.hid (InV.below K2.out V_jba.out)
  replace V_jbc := Lib.hid (InV.below K2.out V_jbc.out)
  replace V_jl := Lib.hid (InV.below K2.out V_jl.out)
  replace B_ab := Lib.hid (B_ab.out.later K2.out)
  replace B_ba := Lib.hid (B_ba.out.later K2.out)
  replace B_bc := Lib.hid (B_bc.out.later K2.out)
  replace B_ac := Lib.hid (B_ac.out.later K2.out)
  replace B_lf := Lib.hid (B_lf.out.later K2.out)
  replace B_rt := Lib.hid (B_rt.out.later K2.out)
  replace B_jab := Lib.hid (B_jab.out.later K2.out)
  replace B_jba := Lib.hid (B_jba.out.later K2.out)
  replace B_jbc := Lib.hid (B_jbc.out.later K2.out)
  replace B_jl := Lib.hid (B_jl.out.later K2.out)
  replace EE := Lib.hid (EE.out.below K2.out)
  replace BX := Lib.hid (BX.out.later K2.out)
  replace KW := Lib.hid (bl_step KW.out K2.out)
  generalize w1.heap.size = N_jr at *
  clear K2 K3 VN x3 x4 x5 y_ab y_ba y_bc y_ac y_lf y_rt y_jab y_jba y_jbc y_jl
  obtain ⟨x3, x4, x5⟩ := BX.out.cells
  have y_ab := B_ab.out.2
  have y_ba := B_ba.out.2
  have y_bc := B_bc.out.2
  have y_ac := B_ac.out.2
  have y_lf := B_lf.out.2
  have y_rt := B_rt.out.2
  have y_jab := B_jab.out.2
  have y_jba := B_jba.out.2
  have y_jbc := B_jbc.out.2
  have y_jl := B_jl.out.2
  have y_jr := B_jr.out.2
  have K1 := Lib.hid (lmeet_rg (n + 1) _ ta la ca _ t_jbc l_jbc c_jbc _ VA.out V_jbc.out RG0.out.1 FF.out.g.2.2.2.2 EE.out ov HH.out.2.2.2.2.2.2.2.2.2.2.2.1)
  go_upto_region 15 with (go_at_call 26; (with_reducible refine K1.out.mono ?_); rintro e w1 ⟨t_ov, l_ov, c_ov, rfl, hB, hv⟩; have K2 := Lib.hid hB; have VN := Lib.hid hv; clear hB hv)
  obtain ⟨W_ov, hW⟩ : ∃ W, w1.alloc (.cells #[.slice t_ov l_ov c_ov] 24) = W := ⟨_, rfl⟩
  have K3 : Hid (Below w1.heap.size w1 W_ov ∧ Bx W_ov w1.heap.size t_ov l_ov c_ov) := by rw [← hW]; exact ⟨bl_alloc (Below.refl _ _), ⟨by simp, by simp [go_sem]⟩⟩
  rw [hW]
  clear hW K1
  have V_ov := Lib.hid (InV.below K3.out.1 VN.out)
  have B_ov := Lib.hid K3.out.2
  replace K2 := Lib.hid (bl_step K2.out K3.out.1)
  replace VA := Lib.hid (InV.below K2.out VA.out)
  replace VB := Lib.hid (InV.below K2.out VB.out)
  replace VC := Lib.hid (InV.below K2.out VC.out)
  replace V_ab := Lib.hid (InV.below K2.out V_ab.out)
  replace V_ba := Lib.hid (InV.below K2.out V_ba.out)
  replace V_bc := Lib.hid (InV.below K2.out V_bc.out)
  replace V_ac := Lib.hid (InV.below K2.out V_ac.out)
  replace V_lf := Lib.hid (InV.below K2.out V_lf.out)
  replace V_rt := Lib.hid (InV.below K2.out V_rt.out)
  replace V_jab := Lib.hid (InV.below K2.out V_jab.out)
  replace V_jba := Lib.hid (InV.below K2.out V_jba.out)
  replace V_jbc := Lib.hid (InV.below K2.out V_jbc.out)
  replace V_jl := Lib.hid (InV.below K2.out V_jl.out)
  replace V_jr := Lib.hid (InV.below K2.out V_jr.out)
  replace B_ab := Lib.hid (B_ab.out.later K2.out)
  replace B_ba := Lib.hid (B_ba.out.later K2.out)
  replace B_bc := Lib.hid (B_bc.out.later K2.out)
  replace B_ac := Lib.hid (B_ac.out.later K2.out)
  replace B_lf := Lib.hid (B_lf.out.later K2.out)
  replace B_rt := Lib.hid (B_rt.out.later K2.out)
  replace B_jab := Lib.hid (B_jab.out.later K2.out)
  replace B_jba := Lib.hid (B_jba.out.later K2.out)
  replace B_jbc := Lib.hid (B_jbc.out.later K2.out)
  replace B_jl := Lib.hid (B_jl.out.later K2.out)
  replace B_jr := Lib.hid (B_jr.out.later K2.out)
  replace EE := Lib.hid (EE.out.below K2.out)
  replace BX := Lib.hid (BX.out.later K2.out)
  replace KW := Lib.hid (bl_step KW.out K2.out)
  generalize w1.heap.size = N_ov at *
  clear K2 K3 VN x3 x4 x5 y_ab y_ba y_bc y_ac y_lf y_rt y_jab y_jba y_jbc y_jl y_jr
  obtain ⟨x3, x4, x5⟩ := BX.out.cells
  have y_ab := B_ab.out.2
  have y_ba := B_ba.out.2
  have y_bc := B_bc.out.2
  have y_ac := B_ac.out.2
  have y_lf := B_lf.out.2
  have y_rt := B_rt.out.2
  have y_jab := B_jab.out.2
  have y_jba := B_jba.out.2
  have y_jbc := B_jbc.out.2
  have y_jl := B_jl.out.2
  have y_jr := B_jr.out.2
  have y_ov := B_ov.out.2
  have K1 := Lib.hid (ljoin_rg (n + 1) _ t_ab l_ab c_ab _ t_ac l_ac c_ac _ V_ab.out V_ac.out FF.out.g.1 FF.out.g.2.2.1 EE.out ea HH.out.2.2.2.2.2.2.2.2.2.2.2.2.1)
  go_upto_region 16 with (go_at_call 28; (with_reducible refine K1.out.mono ?_); rintro e w1 ⟨t_ea, l_ea, c_ea, rfl, hB, hv⟩; have K2 := Lib.hid hB; have VN := Lib.hid hv; clear hB hv)
  obtain ⟨W_ea, hW⟩ : ∃ W, w1.alloc (.cells #[.slice t_ea l_ea c_ea] 24) = W := ⟨_, rfl⟩
  have K3 : Hid (Below w1.heap.size w1 W_ea ∧ Bx W_ea w1.heap.size t_ea l_ea c_ea) := by rw [← hW]; exact ⟨bl_alloc (Below.refl _ _), ⟨by simp, by simp [go_sem]⟩⟩
  rw [hW]
  clear hW K1
  have V_ea := Lib.hid (InV.below K3.out.1 VN.out)
  have B_ea := Lib.hid K3.out.2
  replace K2 := Lib.hid (bl_step K2.out K3.out.1)
  replace VA := Lib.hid (InV.below K2.out VA.out)
  replace VB := Lib.hid (InV.below K2.out VB.out)
  replace VC := Lib.hid (InV.below K2.out VC.out)
  replace V_ab := Lib.hid (InV.below K2.out V_ab.out)
  replace V_ba := Lib.hid (InV.below K2.out V_ba.out)
  replace V_bc := Lib.hid (InV.below K2.out V_bc.out)
  replace V_ac := Lib.hid (InV.below K2.out V_ac.out)
  replace V_lf := Lib.hid (InV.below K2.out V_lf.out)
  replace V_rt := Lib.hid (InV.below K2.out V_rt.out)
  replace V_jab := Lib.hid (InV.below K2.out V_jab.out)
  replace V_jba := Lib.hid (InV.below K2.out V_jba.out)
  replace V_jbc := Lib.hid (InV.below K2.out V_jbc.out)
  replace V_jl := Lib.hid (InV.below K2.out V_jl.out)
  replace V_jr := Lib.hid (InV.below K2.out V_jr.out)
  replace V_ov := Lib.hid (InV.below K2.out V_ov.out)
  replace B_ab := Lib.hid (B_ab.out.later K2.out)
  replace B_ba := Lib.hid (B_ba.out.later K2.out)
  replace B_bc := Lib.hid (B_bc.out.later K2.out)
  replace B_ac := Lib.hid (B_ac.out.later K2.out)
  replace B_lf := Lib.hid (B_lf.out.later K2.out)
  replace B_rt := Lib.hid (B_rt.out.later K2.out)
  replace B_jab := Lib.hid (B_jab.out.later K2.out)
  replace B_jba := Lib.hid (B_jba.out.later K2.out)
  replace B_jbc := Lib.hid (B_jbc.out.later K2.out)
  replace B_jl := Lib.hid (B_jl.out.later K2.out)
  replace B_jr := Lib.hid (B_jr.out.later K2.out)
  replace B_ov := Lib.hid (B_ov.out.later K2.out)
  replace EE := Lib.hid (EE.out.below K2.out)
  replace BX := Lib.hid (BX.out.later K2.out)
  replace KW := Lib.hid (bl_step KW.out K2.out)
  generalize w1.heap.size = N_ea at *
  clear K2 K3 VN x3 x4 x5 y_ab y_ba y_bc y_ac y_lf y_rt y_jab y_jba y_jbc y_jl y_jr y_ov
  obtain ⟨x3, x4, x5⟩ := BX.out.cells
  have y_ab := B_ab.out.2
  have y_ba := B_ba.out.2
  have y_bc := B_bc.out.2
  have y_ac := B_ac.out.2
  have y_lf := B_lf.out.2
  have y_rt := B_rt.out.2
  have y_jab := B_jab.out.2
  have y_jba := B_jba.out.2
  have y_jbc := B_jbc.out.2
  have y_jl := B_jl.out.2
  have y_jr := B_jr.out.2
  have y_ov := B_ov.out.2
  have y_ea := B_ea.out.2
  have K1 := Lib.hid (lmeet_rg (n + 1) _ ta la ca _ t_jab l_jab c_jab _ VA.out V_jab.out RG0.out.1 FF.out.g.2.2.2.1 EE.out bk HH.out.2.2.2.2.2.2.2.2.2.2.2.2.2)
  go_upto_region 17 with (go_at_call 26; (with_reducible refine K1.out.mono ?_); rintro e w1 ⟨t_bk, l_bk, c_bk, rfl, hB, hv⟩; have K2 := Lib.hid hB; have VN := Lib.hid hv; clear hB hv)
  obtain ⟨W_bk, hW⟩ : ∃ W, w1.alloc (.cells #[.slice t_bk l_bk c_bk] 24) = W := ⟨_, rfl⟩
  have K3 : Hid (Below w1.heap.size w1 W_bk ∧ Bx W_bk w1.heap.size t_bk l_bk c_bk) := by rw [← hW]; exact ⟨bl_alloc (Below.refl _ _), ⟨by simp, by simp [go_sem]⟩⟩
  rw [hW]
  clear hW K1
  have V_bk := Lib.hid (InV.below K3.out.1 VN.out)
  have B_bk := Lib.hid K3.out.2
  replace K2 := Lib.hid (bl_step K2.out K3.out.1)
  replace VA := Lib.hid (InV.below K2.out VA.out)
  replace VB := Lib.hid (InV.below K2.out VB.out)
  replace VC := Lib.hid (InV.below K2.out VC.out)
  replace V_ab := Lib.hid (InV.below K2.out V_ab.out)
  replace V_ba := Lib.hid (InV.below K2.out V_ba.out)
  replace V_bc := Lib.hid (InV.below K2.out V_bc.out)
  replace V_ac := Lib.hid (InV.below K2.out V_ac.out)
  replace V_lf := Lib.hid (InV.below K2.out V_lf.out)
  replace V_rt := Lib.hid (InV.below K2.out V_rt.out)
  replace V_jab := Lib.hid (InV.below K2.out V_jab.out)
  replace V_jba := Lib.hid (InV.below K2.out V_jba.out)
  replace V_jbc := Lib.hid (InV.below K2.out V_jbc.out)
  replace V_jl := Lib.hid (InV.below K2.out V_jl.out)
  replace V_jr := Lib.hid (InV.below K2.out V_jr.out)
  replace V_ov := Lib.hid (InV.below K2.out V_ov.out)
  replace V_ea := Lib.hid (InV.below K2.out V_ea.out)
  replace B_ab := Lib.hid (B_ab.out.later K2.out)
  replace B_ba := Lib.hid (B_ba.out.later K2.out)
  replace B_bc := Lib.hid (B_bc.out.later K2.out)
  replace B_ac := Lib.hid (B_ac.out.later K2.out)
  replace B_lf := Lib.hid (B_lf.out.later K2.out)
  replace B_rt := Lib.hid (B_rt.out.later K2.out)
  replace B_jab := Lib.hid (B_jab.out.later K2.out)
  replace B_jba := Lib.hid (B_jba.out.later K2.out)
  replace B_jbc := Lib.hid (B_jbc.out.later K2.out)
  replace B_jl := Lib.hid (B_jl.out.later K2.out)
  replace B_jr := Lib.hid (B_jr.out.later K2.out)
  replace B_ov := Lib.hid (B_ov.out.later K2.out)
  replace B_ea := Lib.hid (B_ea.out.later K2.out)
  replace EE := Lib.hid (EE.out.below K2.out)
  replace BX := Lib.hid (BX.out.later K2.out)
  replace KW := Lib.hid (bl_step KW.out K2.out)
  generalize w1.heap.size = N_bk at *
  clear K2 K3 VN x3 x4 x5 y_ab y_ba y_bc y_ac y_lf y_rt y_jab y_jba y_jbc y_jl y_jr y_ov y_ea
  obtain ⟨x3, x4, x5⟩ := BX.out.cells
  have y_ab := B_ab.out.2
  have y_ba := B_ba.out.2
  have y_bc := B_bc.out.2
  have y_ac := B_ac.out.2
  have y_lf := B_lf.out.2
  have y_rt := B_rt.out.2
  have y_jab := B_jab.out.2
  have y_jba := B_jba.out.2
  have y_jbc := B_jbc.out.2
  have y_jl := B_jl.out.2
  have y_jr := B_jr.out.2
  have y_ov := B_ov.out.2
  have y_ea := B_ea.out.2
  have y_bk := B_bk.out.2
  clear x3 x4 x5 y_ab y_ba y_bc y_ac y_lf y_rt y_jab y_jba y_jbc y_jl y_jr y_ov y_ea y_bk
  have V : Hid (∀ W, Below W_bk.heap.size W_bk W → W.cell? ⟨w.heap.size, 0, none⟩ = some (.slice ta la ca) ∧ W.cell? ⟨w.heap.size + 1, 0, none⟩ = some (.slice tb lb cb) ∧ W.cell? ⟨w.heap.size + 1 + 1, 0, none⟩ = some (.slice tc lc cc) ∧ W.cell? ⟨N_ab, 0, none⟩ = some (.slice t_ab l_ab c_ab) ∧ W.cell? ⟨N_ba, 0, none⟩ = some (.slice t_ba l_ba c_ba) ∧ W.cell? ⟨N_bc, 0, none⟩ = some (.slice t_bc l_bc c_bc) ∧ W.cell? ⟨N_ac, 0, none⟩ = some (.slice t_ac l_ac c_ac) ∧ W.cell? ⟨N_lf, 0, none⟩ = some (.slice t_lf l_lf c_lf) ∧ W.cell? ⟨N_rt, 0, none⟩ = some (.slice t_rt l_rt c_rt) ∧ W.cell? ⟨N_jab, 0, none⟩ = some (.slice t_jab l_jab c_jab) ∧ W.cell? ⟨N_jba, 0, none⟩ = some (.slice t_jba l_jba c_jba) ∧ W.cell? ⟨N_jbc, 0, none⟩ = some (.slice t_jbc l_jbc c_jbc) ∧ W.cell? ⟨N_jl, 0, none⟩ = some (.slice t_jl l_jl c_jl) ∧ W.cell? ⟨N_jr, 0, none⟩ = some (.slice t_jr l_jr c_jr) ∧ W.cell? ⟨N_ov, 0, none⟩ = some (.slice t_ov l_ov c_ov) ∧ W.cell? ⟨N_ea, 0, none⟩ = some (.slice t_ea l_ea c_ea) ∧ W.cell? ⟨N_bk, 0, none⟩ = some (.slice t_bk l_bk c_bk)) := fun W hW => by
    obtain ⟨a, b, c⟩ := (BX.out.later hW).cells
    exact ⟨a, b, c, (B_ab.out.later hW).2, (B_ba.out.later hW).2, (B_bc.out.later hW).2, (B_ac.out.later hW).2, (B_lf.out.later hW).2, (B_rt.out.later hW).2, (B_jab.out.later hW).2, (B_jba.out.later hW).2, (B_jbc.out.later hW).2, (B_jl.out.later hW).2, (B_jr.out.later hW).2, (B_ov.out.later hW).2, (B_ea.out.later hW).2, (B_bk.out.later hW).2⟩
  have S1 : Hid (∀ W, Below W_bk.heap.size W_bk W → Calls Tryz.prog 17 #[.agg #[.slice t_ab l_ab c_ab], .agg #[.slice t_ba l_ba c_ba]] W fun e w' => e = .returned (.bool true) ∧ Below W_bk.heap.size W_bk w') := fun  W hW => (rsame_rg (n + 1) W t_ab l_ab c_ab _ t_ba l_ba c_ba _ (InV.below hW V_ab.out) (InV.below hW V_ba.out) true (same_val (by rw [FF.out.c1]))).mono fun _ _ ⟨a, b⟩ => ⟨a, bl_step hW b⟩
  have S2 : Hid (∀ W, Below W_bk.heap.size W_bk W → Calls Tryz.prog 17 #[.agg #[.slice t_jab l_jab c_jab], .agg #[.slice t_jba l_jba c_jba]] W fun e w' => e = .returned (.bool true) ∧ Below W_bk.heap.size W_bk w') := fun  W hW => (rsame_rg (n + 1) W t_jab l_jab c_jab _ t_jba l_jba c_jba _ (InV.below hW V_jab.out) (InV.below hW V_jba.out) true (same_val (by rw [FF.out.c2]))).mono fun _ _ ⟨a, b⟩ => ⟨a, bl_step hW b⟩
  have S3 : Hid (∀ W, Below W_bk.heap.size W_bk W → Calls Tryz.prog 17 #[.agg #[.slice t_jl l_jl c_jl], .agg #[.slice t_jr l_jr c_jr]] W fun e w' => e = .returned (.bool true) ∧ Below W_bk.heap.size W_bk w') := fun  W hW => (rsame_rg (n + 1) W t_jl l_jl c_jl _ t_jr l_jr c_jr _ (InV.below hW V_jl.out) (InV.below hW V_jr.out) true (FF.out.s1)).mono fun _ _ ⟨a, b⟩ => ⟨a, bl_step hW b⟩
  have S4 : Hid (ab.1 = 0 → bc.1 = 0 → lf.1 = 0 → rt.1 = 0 → ∀ W, Below W_bk.heap.size W_bk W → Calls Tryz.prog 17 #[.agg #[.slice t_lf l_lf c_lf], .agg #[.slice t_rt l_rt c_rt]] W fun e w' => e = .returned (.bool true) ∧ Below W_bk.heap.size W_bk w') := fun h0 h1 h2 h3 W hW => (rsame_rg (n + 1) W t_lf l_lf c_lf _ t_rt l_rt c_rt _ (InV.below hW V_lf.out) (InV.below hW V_rt.out) true (FF.out.s2 h0 h1 h2 h3)).mono fun _ _ ⟨a, b⟩ => ⟨a, bl_step hW b⟩
  have S5 : Hid (ab.1 = 0 → ac.1 = 0 → ov.1 = 0 → ea.1 = 0 → ∀ W, Below W_bk.heap.size W_bk W → Calls Tryz.prog 17 #[.agg #[.slice t_ov l_ov c_ov], .agg #[.slice t_ea l_ea c_ea]] W fun e w' => e = .returned (.bool true) ∧ Below W_bk.heap.size W_bk w') := fun h0 h1 h2 h3 W hW => (rsame_rg (n + 1) W t_ov l_ov c_ov _ t_ea l_ea c_ea _ (InV.below hW V_ov.out) (InV.below hW V_ea.out) true (FF.out.s3 h0 h1 h2 h3)).mono fun _ _ ⟨a, b⟩ => ⟨a, bl_step hW b⟩
  have S6 : Hid (bk.1 = 0 → ∀ W, Below W_bk.heap.size W_bk W → Calls Tryz.prog 17 #[.agg #[.slice t_bk l_bk c_bk], .agg #[.slice ta la ca]] W fun e w' => e = .returned (.bool true) ∧ Below W_bk.heap.size W_bk w') := fun h0 W hW => (rsame_rg (n + 1) W t_bk l_bk c_bk _ ta la ca _ (InV.below hW V_bk.out) (InV.below hW VA.out) true (FF.out.s4 h0)).mono fun _ _ ⟨a, b⟩ => ⟨a, bl_step hW b⟩
  have AWJ : Hid (∀ W, Below W_bk.heap.size W_bk W → Calls Tryz.prog 13 #[] W fun e w' => e = .returned (.bool true) ∧ Below W_bk.heap.size W_bk w') := fun W hW => (AW.out W (bl_step KW.out hW)).mono fun _ _ ⟨a, b⟩ => ⟨a, bl_step hW b⟩
  have ZZ := Lib.hid (And.intro FF.out.z (And.intro (congrArg Prod.fst FF.out.c1) (congrArg Prod.fst FF.out.c2)))
  have KWW := Lib.hid KW.out
  clear KW
  have KW : Hid (Below W_bk.heap.size W_bk W_bk) := Below.refl _ _
  clear AW FF HH RG0 EE BX VA VB VC V_ab V_ba V_bc V_ac V_lf V_rt V_jab V_jba V_jbc V_jl V_jr V_ov V_ea V_bk B_ab B_ba B_bc B_ac B_lf B_rt B_jab B_jba B_jbc B_jl B_jr B_ov B_ea B_bk
  generalize ab.1 = e_ab at *
  generalize ba.1 = e_ba at *
  generalize bc.1 = e_bc at *
  generalize ac.1 = e_ac at *
  generalize lf.1 = e_lf at *
  generalize rt.1 = e_rt at *
  generalize jab.1 = e_jab at *
  generalize jba.1 = e_jba at *
  generalize jbc.1 = e_jbc at *
  generalize jl.1 = e_jl at *
  generalize jr.1 = e_jr at *
  generalize ov.1 = e_ov at *
  generalize ea.1 = e_ea at *
  generalize bk.1 = e_bk at *
  obtain ⟨⟨rfl, rfl, rfl, rfl⟩, rfl, rfl⟩ := ZZ.out
  clear ZZ
  obtain ⟨q3, q4, q5, q_ab, q_ba, q_bc, q_ac, q_lf, q_rt, q_jab, q_jba, q_jbc, q_jl, q_jr, q_ov, q_ea, q_bk⟩ := V.out _ KW.out
  go_wp2_with (first
    | (go_at_call 17; (with_reducible refine (S1.out _ KW.out).mono ?_); rintro e w3 ⟨rfl, hB⟩; replace KW := Lib.hid hB; clear hB; obtain ⟨q3, q4, q5, q_ab, q_ba, q_bc, q_ac, q_lf, q_rt, q_jab, q_jba, q_jbc, q_jl, q_jr, q_ov, q_ea, q_bk⟩ := V.out _ KW.out)
    | (go_at_call 17; (with_reducible refine (S2.out _ KW.out).mono ?_); rintro e w3 ⟨rfl, hB⟩; replace KW := Lib.hid hB; clear hB; obtain ⟨q3, q4, q5, q_ab, q_ba, q_bc, q_ac, q_lf, q_rt, q_jab, q_jba, q_jbc, q_jl, q_jr, q_ov, q_ea, q_bk⟩ := V.out _ KW.out)
    | (go_at_call 17; (with_reducible refine (S3.out _ KW.out).mono ?_); rintro e w3 ⟨rfl, hB⟩; replace KW := Lib.hid hB; clear hB; obtain ⟨q3, q4, q5, q_ab, q_ba, q_bc, q_ac, q_lf, q_rt, q_jab, q_jba, q_jbc, q_jl, q_jr, q_ov, q_ea, q_bk⟩ := V.out _ KW.out)
    | (go_at_call 17; (with_reducible refine (S4.out (by first | rfl | assumption | trivial) (by first | rfl | assumption | trivial) (by first | rfl | assumption | trivial) (by first | rfl | assumption | trivial) _ KW.out).mono ?_); rintro e w3 ⟨rfl, hB⟩; replace KW := Lib.hid hB; clear hB; obtain ⟨q3, q4, q5, q_ab, q_ba, q_bc, q_ac, q_lf, q_rt, q_jab, q_jba, q_jbc, q_jl, q_jr, q_ov, q_ea, q_bk⟩ := V.out _ KW.out)
    | (go_at_call 17; (with_reducible refine (S5.out (by first | rfl | assumption | trivial) (by first | rfl | assumption | trivial) (by first | rfl | assumption | trivial) (by first | rfl | assumption | trivial) _ KW.out).mono ?_); rintro e w3 ⟨rfl, hB⟩; replace KW := Lib.hid hB; clear hB; obtain ⟨q3, q4, q5, q_ab, q_ba, q_bc, q_ac, q_lf, q_rt, q_jab, q_jba, q_jbc, q_jl, q_jr, q_ov, q_ea, q_bk⟩ := V.out _ KW.out)
    | (go_at_call 17; (with_reducible refine (S6.out (by first | rfl | assumption | trivial) _ KW.out).mono ?_); rintro e w3 ⟨rfl, hB⟩; replace KW := Lib.hid hB; clear hB; obtain ⟨q3, q4, q5, q_ab, q_ba, q_bc, q_ac, q_lf, q_rt, q_jab, q_jba, q_jbc, q_jl, q_jr, q_ov, q_ea, q_bk⟩ := V.out _ KW.out)
    | (go_at_call 13; (with_reducible refine (AWJ.out _ KW.out).mono ?_); rintro e w3 ⟨rfl, hB⟩; replace KW := Lib.hid hB; clear hB; obtain ⟨q3, q4, q5, q_ab, q_ba, q_bc, q_ac, q_lf, q_rt, q_jab, q_jba, q_jbc, q_jl, q_jr, q_ov, q_ea, q_bk⟩ := V.out _ KW.out))
  all_goals
    go_ret
    exact ⟨rfl, bl_step KWW.out KW.out⟩
end Go.Proofs.YtddleeenlpigfaaGreatDoor
