/- WALK of the reference's In. -/
import Derived.Test.YtddleeenlpigfaaGreatDoorTk
namespace Go.Proofs.YtddleeenlpigfaaGreatDoor
open Go.RowKit
theorem Bo.far8 {w : World} {N g : Nat} {k lo hi : Int} {s : ByteArray} {y m o : Bool} {f : Option Addr} {fl fc : Nat} (h : Bo w N k lo hi s y m o f fl fc) (hne : N ≠ g) {v0 v1 v2 v3 v4 v5 v6 v7 : Value} :
  Bo ((((((((w.setCell ⟨g, 0, none⟩ v0).setCell ⟨g, 1, none⟩ v1).setCell ⟨g, 2, none⟩ v2).setCell ⟨g, 3, none⟩ v3).setCell ⟨g, 4, none⟩ v4).setCell ⟨g, 5, none⟩ v5).setCell ⟨g, 6, none⟩ v6).setCell ⟨g, 7, none⟩ v7) N k lo hi s y m o f fl fc := by
 have one : ∀ (w : World) (q : Nat) (v : Value), Bo w N k lo hi s y m o f fl fc → Bo (w.setCell ⟨g, q, none⟩ v) N k lo hi s y m o f fl fc := fun w q v h => by
  obtain ⟨lt, ⟨c0, c1, c2, c3, c4, c5, c6, c7⟩, fz⟩ := h
  have far : ∀ i, (w.setCell ⟨g, q, none⟩ v).cell? ⟨N, i, none⟩ = w.cell? ⟨N, i, none⟩ := fun i => set_far (.inl hne)
  exact ⟨by rw [set_size]; exact lt, ⟨(far 0).trans c0, (far 1).trans c1, (far 2).trans c2, (far 3).trans c3, (far 4).trans c4, (far 5).trans c5, (far 6).trans c6, (far 7).trans c7⟩, fun i => by rw [World.frozen?_setCell]; exact fz i⟩
 exact one _ _ _ (one _ _ _ (one _ _ _ (one _ _ _ (one _ _ _ (one _ _ _ (one _ _ _ (one _ _ _ h)))))))
theorem sum_wt {n : Nat} : ∀ {A : List Tm}, (∀ x ∈ A, wF n x.fs ≤ 16384) → wN (n + 1) A ≤ A.length * 16385
 | [], _ => by rw [wN_nil]; simp
 | x :: A, h => by
  rw [wN_cons, List.length_cons]
  have h1 := h x (by simp)
  have h2 := sum_wt (A := A) fun y hy => h y (by simp [hy])
  omega
set_option maxRecDepth 100000 in
set_option maxHeartbeats 16000000 in
theorem rin_step (n : Nat) (ih : RiH n) : RiH (n + 1) := by
 intro P w t tl tc A t2 tl2 tc2 B hP hA hB rA rB
 obtain ⟨⟨lA, vA⟩, wA⟩ := rA
 obtain ⟨⟨lB, vB⟩, wB⟩ := rB
 replace vA := vA.le (Nat.le_max_left lA lB)
 replace vB := vB.le (Nat.le_max_right lA lB)
 generalize max lA lB = l9 at vA vB
 cases l9 with
 | zero => unfold RV at vA; exact vA.elim
 | succ l =>
 have gA : ∀ x ∈ A, Gt n l x := vA.1
 have gB : ∀ x ∈ B, Gt n l x := vB.1
 obtain ⟨da, hda, oka, rowa⟩ := pheads hA
 obtain ⟨db, hdb, okb, rowb⟩ := pheads hB
 obtain rfl : A.length = tl := inVP_len hA
 obtain rfl : B.length = tl2 := inVP_len hB
 have HA := Lib.hid (And.intro hda (And.intro oka rowa))
 have HB := Lib.hid (And.intro hdb (And.intro okb rowb))
 have HGA := Lib.hid (And.intro gA wA)
 have HGB := Lib.hid (And.intro gB wB)
 have HG := Lib.hid (meet_good n l)
 have HP := Lib.hid hP
 have HIH := Lib.hid ih
 have HNA : Hid (0 < A.length → ∃ b off, t = some ⟨b, off, none⟩) := fun h => by
  obtain ⟨b, off, e, _⟩ := hA.2.2 0 h; exact ⟨b, off, e⟩
 have HNB : Hid (0 < B.length → ∃ b off, t2 = some ⟨b, off, none⟩) := fun h => by
  obtain ⟨b, off, e, _⟩ := hB.2.2 0 h; exact ⟨b, off, e⟩
 have hlA : (A.length : Int) ≤ 512 := by rw [wN_U] at wA; omega
 have hlB : (B.length : Int) ≤ 512 := by rw [wN_U] at wB; omega
 have hm0 : (0 : Int) ≤ (A.length : Int) * (B.length : Int) := Int.mul_nonneg (by omega) (by omega)
 have hm1 : (A.length : Int) * (B.length : Int) ≤ 262144 := by
  have : (A.length : Int) * (B.length : Int) ≤ 512 * 512 := Int.mul_le_mul hlA hlB (by omega) (by omega)
  omega
 have HMM : Hid ((A.length : Int) * (B.length : Int) = ((A.length * B.length : Nat) : Int)) := by show _ = _; exact (Int.natCast_mul _ _).symm
 obtain ⟨mv, hmv⟩ : ∃ mv, meetV (n + 1) A B = mv := ⟨_, rfl⟩
 rw [hmv]
 have HMV := Lib.hid hmv
 clear hA hB vA vB gA gB hda hdb oka okb rowa rowb wA wB hP ih hmv
 go_enter Tryz.func54, Tryz.ntmps54
 go_upto_region 1 with fail
 have HXE : ∃ X, ((w.alloc (.cells #[.slice t A.length tc] 24)).alloc (.cells #[.slice t2 B.length tc2] 24)).alloc (.cells #[.slice none 0 0] 24) = X := ⟨_, rfl⟩
 obtain ⟨X, hX⟩ := HXE
 have HXB : Hid (MBox t A.length tc t2 B.length tc2 w X) := by rw [← hX]; exact MBox.new w t A.length tc t2 B.length tc2
 rw [hX]
 clear hX
 obtain ⟨-, x0, -⟩ := HXB.out.ba
 obtain ⟨-, x1, -⟩ := HXB.out.bb
 by_cases hbig : 512 < A.length * B.length
 ·have hv : mv = (30, []) := by rw [← HMV.out, meetV_big hbig]
  subst hv
  have hbig' : (512 : Int) < (A.length : Int) * (B.length : Int) := by have := HMM.out; omega
  clear hbig
  obtain ⟨rz, rc, rf⟩ := HXB.out.br
  go_wp2_with fail
  have hset := set_here (v := .slice none 0 0) rc
  exact bodyPost_ret (v := .tuple #[.agg #[.slice none 0 0], .int .i64 30]) (by simp [results, Tryz.results54, go_sem, hset]) rfl (⟨none, 0, 0, rfl, bl_set HXB.out.old (by show w.heap.size ≤ w.heap.size + 1 + 1; omega), inVP_nil⟩)
 ·have hbig' : ¬ ((512 : Int) < (A.length : Int) * (B.length : Int)) := by have := HMM.out; omega
  have HBG := Lib.hid hbig
  clear hbig
  have hda : da.length = A.length := by rw [← HA.out.1, List.length_map]
  have hdb : db.length = B.length := by rw [← HB.out.1, List.length_map]
  have HLN := Lib.hid (And.intro hda hdb)
  clear hda hdb
  go_wp2_with fail
  clear x0 x1
  go_loopw [6, 7] (fun v i wr => ∃ (k : Nat) (L : List Hr), k ≤ A.length ∧ i = .int .i64 k ∧ Hid (MInv P n X wr v L (prs (A.take k) B))) (fun _ i _ => A.length - (intOf i).toNat)
  case atStart => exact ⟨0, [], Nat.zero_le _, rfl, Below.refl _ _, OwnH.nil _ _, fun h hh => by simp at hh, by simp [prs], fun p hp => by simp [prs] at hp, by simp⟩
  case round =>
   obtain ⟨k, L, hk, rfl, hI⟩ := hrel
   rename World => wr
   obtain ⟨-, y0, -⟩ := HXB.out.ba.later hI.out.old
   obtain ⟨-, y1, -⟩ := HXB.out.bb.later hI.out.old
   by_cases hlt : k < A.length
   ·have hki : (k : Int) < (A.length : Int) := by omega
    have hk0 : (0 : Int) ≤ (k : Int) := by omega
    have HST : Hid (MInv P n X wr u6 L (prs (A.take k) B ++ (B.take 0).map fun b => (A[k], b))) := by
     have e0 : prs (A.take k) B ++ ((B.take 0).map fun b => (A[k], b)) = prs (A.take k) B := by simp
     rw [e0]
     exact hI
    go_wp2_with fail
    clear y0 y1
    go_loopw [6, 8] (fun v i wi => ∃ (j : Nat) (L : List Hr), j ≤ B.length ∧ i = .int .i64 j ∧ Hid (MInv P n X wi v L (prs (A.take k) B ++ (B.take j).map fun b => (A[k], b)))) (fun _ i _ => B.length - (intOf i).toNat)
    case atStart => exact ⟨0, L, Nat.zero_le _, rfl, HST⟩
    case round =>
     obtain ⟨j, L2, hj, rfl, hI2⟩ := hrel
     rename World => wi
     clear HST
     obtain ⟨-, y0, -⟩ := HXB.out.ba.later hI2.out.old
     obtain ⟨-, y1, -⟩ := HXB.out.bb.later hI2.out.old
     by_cases hjl : j < B.length
     ·have hji : (j : Int) < (B.length : Int) := by omega
      have hj0 : (0 : Int) ≤ (j : Int) := by omega
      obtain ⟨b1, off1, rfl⟩ := HNA.out (by omega)
      obtain ⟨b2, off2, rfl⟩ := HNB.out (by omega)
      have hkd : k < da.length := by rw [HLN.out.1]; exact hlt
      have hjd : j < db.length := by rw [HLN.out.2]; exact hjl
      have HBW := Lib.hid (bl_step HXB.out.old hI2.out.old)
      have HSV : Hid (∀ W, Below wi.heap.size wi W → W.cell? ⟨w.heap.size, 0, none⟩ = some (.slice (some ⟨b1, off1, none⟩) A.length tc) ∧ W.cell? ⟨w.heap.size + 1, 0, none⟩ = some (.slice (some ⟨b2, off2, none⟩) B.length tc2) ∧ T8 W b1 (off1 + k * 8) da[k] ∧ T8 W b2 (off2 + j * 8) db[j]) := Lib.hid fun W hW => by
       have hb := bl_step HBW.out hW
       obtain ⟨lt1, t1⟩ := HA.out.2.2 b1 off1 rfl k hkd
       obtain ⟨lt2, t2⟩ := HB.out.2.2 b2 off2 rfl j hjd
       exact ⟨((HXB.out.ba.later hI2.out.old).later hW).2.1, ((HXB.out.bb.later hI2.out.old).later hW).2.1, t1.to (fun r _ => hb.cell (p := ⟨b1, off1 + k * 8 + r, none⟩) lt1), t2.to (fun r _ => hb.cell (p := ⟨b2, off2 + j * 8 + r, none⟩) lt2)⟩
      have hoka := HA.out.2.1 _ (List.getElem_mem hkd)
      have hokb := HB.out.2.1 _ (List.getElem_mem hjd)
      have hxa : da[k].x = A[k] := by
       have := congrArg (fun l => l[k]?) HA.out.1
       simpa [hkd, hlt] using this
      have hxb : db[j].x = B[j] := by
       have := congrArg (fun l => l[j]?) HB.out.1
       simpa [hjd, hjl] using this
      have hgA := HGA.out.1 _ (List.getElem_mem hlt)
      have hgB := HGB.out.1 _ (List.getElem_mem hjl)
      have hwA : wF n A[k].fs ≤ 512 := by have h1 := wN_mem (n := n) (List.getElem_mem hlt); have := HGA.out.2; omega
      have hwB : wF n B[j].fs ≤ 512 := by have h1 := wN_mem (n := n) (List.getElem_mem hjl); have := HGB.out.2; omega
      have HErr := Lib.hid (comT_ok HG.out hgA hgB).1
      rw [← hxa] at hgA hwA
      rw [← hxb] at hgB hwB
      have HBO : Hid (∀ W, Below wi.heap.size wi W → da[k].x.k = 4 → db[j].x.k = 4 → Calls Tryz.prog 85 #[da[k].v, db[j].v] W (BoP P n (comS (meetV n) da[k].x db[j].x) W)) := Lib.hid fun W hW a4 b4 => both_hr P n l HIH.out w HP.out da[k] db[j] hoka hokb hgA hgB a4 b4 hwA hwB W (bl_step HBW.out hW)
      have HRM : Hid (∀ W, Calls Tryz.prog 86 #[da[k].v, db[j].v] W (RmP (scM da[k].x db[j].x) da[k].f da[k].fc W)) := Lib.hid fun W => by
       have h := rsmeet_tm da[k].x db[j].x da[k].f db[j].f da[k].fc db[j].fc W
       rw [hoka.1, hokb.1] at h
       exact h
      obtain ⟨q, hq⟩ : ∃ q, comT (meetV n) A[k] B[j] = q := ⟨_, rfl⟩
      have HQ := Lib.hid hq
      have HQ2 : Hid (comT (meetV n) da[k].x db[j].x = q) := Lib.hid (by rw [hxa, hxb]; exact hq)
      have HOA := Lib.hid hoka
      have HOB := Lib.hid hokb
      rw [hq] at HErr
      have HTK : Hid ((B.take (j + 1)).map (fun b => (A[k], b)) = (B.take j).map (fun b => (A[k], b)) ++ [(A[k], B[j])]) := by
       rw [List.take_succ_eq_append_getElem hjl, List.map_append]; rfl
      have HLB : Hid (L2.length ≤ 512) := by
       have hl2 := hI2.out.len
       have h1 : (prs (A.take k) B ++ (B.take j).map fun b => (A[k], b)).length = k * B.length + j := by
        have : ∀ T : List Tm, (prs T B).length = T.length * B.length := fun T => by
         induction T with
         | nil => simp [prs]
         | cons a T ih => unfold prs at *; rw [List.flatMap_cons, List.length_append, ih, List.length_map, List.length_cons, Nat.add_mul]; omega
        rw [List.length_append, this, List.length_map, List.length_take, List.length_take]
        rw [Nat.min_eq_left (by omega), Nat.min_eq_left (by omega)]
       have h2 : k * B.length + j ≤ A.length * B.length := by
        have : (k + 1) * B.length ≤ A.length * B.length := Nat.mul_le_mul_right _ hlt
        rw [Nat.add_mul] at this
        omega
       have h3 := HBG.out
       have h4 : L2.length ≤ 512 := by omega
       exact h4
      clear hq hgA hgB hwA hwB hxa hxb hoka hokb
      generalize da[k] = ha at *
      generalize db[j] = hb at *
      obtain ⟨⟨ka, loa, hia, sa, ya, ma, xa, fa⟩, f1, fl1, fc1⟩ := ha
      obtain ⟨⟨kb, lob, hib, sb, yb, mb, xb, fb⟩, f2, fl2, fc2⟩ := hb
      dsimp only at HQ2
      simp only [Hr.v, Tm.k, Tm.lo, Tm.hi, Tm.s, Tm.y, Tm.m, Tm.o] at HBO HRM
      go_upto_region 10 with fail
      clear y0 y1
      refine wp_region_held (S := fun w' => w'.cell? ⟨w.heap.size, 0, none⟩ = some (.slice (some ⟨b1, off1, none⟩) A.length tc) ∧ w'.cell? ⟨w.heap.size + 1, 0, none⟩ = some (.slice (some ⟨b2, off2, none⟩) B.length tc2) ∧ T8 w' b1 (off1 + k * 8) ⟨.mk ka loa hia sa ya ma xa fa, f1, fl1, fc1⟩ ∧ T8 w' b2 (off2 + j * 8) ⟨.mk kb lob hib sb yb mb xb fb, f2, fl2, fc2⟩) (by kernel_rfl) ?_
      change wpAnyH _ _ _ _ _ _ _ _ wi.drew
      obtain ⟨W0, hwd⟩ : ∃ wd, wi.drew = wd := ⟨_, rfl⟩
      have KB0 : Hid (Below wi.heap.size wi W0) := by rw [← hwd]; exact Lib.hid (Below.refl _ _).drew
      rw [hwd]
      have HS0 := Lib.hid (HSV.out W0 KB0.out)
      clear hwd
      refine take_at' (i := 0) 37 (v := ?vt1) rfl rfl (by kernel_rfl) (by kernel_rfl) (by kernel_rfl) (fun _ _ _ h => h) (Or.inl ⟨by rfl, fun w' hS => ?hyt1⟩) HS0.out ?_
      case hyt1 => obtain ⟨s1, s2', ⟨q0, q1, q2, q3, q4, q5, q6, q7⟩, ⟨p0, p1, p2, p3, p4, p5, p6, p7⟩⟩ := hS; simp only [Tm.k, Tm.lo, Tm.hi, Tm.s, Tm.y, Tm.m, Tm.o] at q0 q1 q2 q3 q4 q5 q6 q7 p0 p1 p2 p3 p4 p5 p6 p7; (go_simp; try rfl)
      simp only [List.setIfInBounds_toArray, List.set_cons_succ, List.set_cons_zero]
      refine take_at' (i := 1) 38 (v := ?vt2) rfl rfl (by kernel_rfl) (by kernel_rfl) (by kernel_rfl) (fun _ _ _ h => h) (Or.inl ⟨by rfl, fun w' hS => ?hyt2⟩) HS0.out ?_
      case hyt2 => obtain ⟨s1, s2', ⟨q0, q1, q2, q3, q4, q5, q6, q7⟩, ⟨p0, p1, p2, p3, p4, p5, p6, p7⟩⟩ := hS; simp only [Tm.k, Tm.lo, Tm.hi, Tm.s, Tm.y, Tm.m, Tm.o] at q0 q1 q2 q3 q4 q5 q6 q7 p0 p1 p2 p3 p4 p5 p6 p7; (go_simp; try rfl)
      simp only [List.setIfInBounds_toArray, List.set_cons_succ, List.set_cons_zero]
      refine take_at' (i := 2) 39 (v := ?vt3) rfl rfl (by kernel_rfl) (by kernel_rfl) (by kernel_rfl) (fun _ _ _ h => h) (Or.inl ⟨by rfl, fun w' hS => ?hyt3⟩) HS0.out ?_
      case hyt3 => obtain ⟨s1, s2', ⟨q0, q1, q2, q3, q4, q5, q6, q7⟩, ⟨p0, p1, p2, p3, p4, p5, p6, p7⟩⟩ := hS; simp only [Tm.k, Tm.lo, Tm.hi, Tm.s, Tm.y, Tm.m, Tm.o] at q0 q1 q2 q3 q4 q5 q6 q7 p0 p1 p2 p3 p4 p5 p6 p7; (go_simp; try rfl)
      simp only [List.setIfInBounds_toArray, List.set_cons_succ, List.set_cons_zero]
      refine take_at' (i := 3) 40 (v := ?vt4) rfl rfl (by kernel_rfl) (by kernel_rfl) (by kernel_rfl) (fun _ _ _ h => h) (Or.inl ⟨by rfl, fun w' hS => ?hyt4⟩) HS0.out ?_
      case hyt4 => obtain ⟨s1, s2', ⟨q0, q1, q2, q3, q4, q5, q6, q7⟩, ⟨p0, p1, p2, p3, p4, p5, p6, p7⟩⟩ := hS; simp only [Tm.k, Tm.lo, Tm.hi, Tm.s, Tm.y, Tm.m, Tm.o] at q0 q1 q2 q3 q4 q5 q6 q7 p0 p1 p2 p3 p4 p5 p6 p7; (go_simp; try rfl)
      simp only [List.setIfInBounds_toArray, List.set_cons_succ, List.set_cons_zero]
      refine take_at' (i := 4) 41 (v := ?vt5) rfl rfl (by kernel_rfl) (by kernel_rfl) (by kernel_rfl) (fun _ _ _ h => h) (Or.inl ⟨by rfl, fun w' hS => ?hyt5⟩) HS0.out ?_
      case hyt5 => obtain ⟨s1, s2', ⟨q0, q1, q2, q3, q4, q5, q6, q7⟩, ⟨p0, p1, p2, p3, p4, p5, p6, p7⟩⟩ := hS; simp only [Tm.k, Tm.lo, Tm.hi, Tm.s, Tm.y, Tm.m, Tm.o] at q0 q1 q2 q3 q4 q5 q6 q7 p0 p1 p2 p3 p4 p5 p6 p7; (go_simp; try rfl)
      simp only [List.setIfInBounds_toArray, List.set_cons_succ, List.set_cons_zero]
      refine take_at' (i := 5) 42 (v := ?vt6) rfl rfl (by kernel_rfl) (by kernel_rfl) (by kernel_rfl) (fun _ _ _ h => h) (Or.inl ⟨by rfl, fun w' hS => ?hyt6⟩) HS0.out ?_
      case hyt6 => obtain ⟨s1, s2', ⟨q0, q1, q2, q3, q4, q5, q6, q7⟩, ⟨p0, p1, p2, p3, p4, p5, p6, p7⟩⟩ := hS; simp only [Tm.k, Tm.lo, Tm.hi, Tm.s, Tm.y, Tm.m, Tm.o] at q0 q1 q2 q3 q4 q5 q6 q7 p0 p1 p2 p3 p4 p5 p6 p7; (go_simp; try rfl)
      simp only [List.setIfInBounds_toArray, List.set_cons_succ, List.set_cons_zero]
      refine take_at' (i := 6) 43 (v := ?vt7) rfl rfl (by kernel_rfl) (by kernel_rfl) (by kernel_rfl) (fun _ _ _ h => h) (Or.inl ⟨by rfl, fun w' hS => ?hyt7⟩) HS0.out ?_
      case hyt7 => obtain ⟨s1, s2', ⟨q0, q1, q2, q3, q4, q5, q6, q7⟩, ⟨p0, p1, p2, p3, p4, p5, p6, p7⟩⟩ := hS; simp only [Tm.k, Tm.lo, Tm.hi, Tm.s, Tm.y, Tm.m, Tm.o] at q0 q1 q2 q3 q4 q5 q6 q7 p0 p1 p2 p3 p4 p5 p6 p7; (go_simp; try rfl)
      simp only [List.setIfInBounds_toArray, List.set_cons_succ, List.set_cons_zero]
      refine take_at' (i := 7) 44 (v := ?vt8) rfl rfl (by kernel_rfl) (by kernel_rfl) (by kernel_rfl) (fun _ _ _ h => h) (Or.inl ⟨by rfl, fun w' hS => ?hyt8⟩) HS0.out ?_
      case hyt8 => obtain ⟨s1, s2', ⟨q0, q1, q2, q3, q4, q5, q6, q7⟩, ⟨p0, p1, p2, p3, p4, p5, p6, p7⟩⟩ := hS; simp only [Tm.k, Tm.lo, Tm.hi, Tm.s, Tm.y, Tm.m, Tm.o] at q0 q1 q2 q3 q4 q5 q6 q7 p0 p1 p2 p3 p4 p5 p6 p7; (go_simp; try rfl)
      simp only [List.setIfInBounds_toArray, List.set_cons_succ, List.set_cons_zero]
      refine take_at' (i := 8) 45 (v := ?vt9) rfl rfl (by kernel_rfl) (by kernel_rfl) (by kernel_rfl) (fun _ _ _ h => h) (Or.inl ⟨by rfl, fun w' hS => ?hyt9⟩) HS0.out ?_
      case hyt9 => obtain ⟨s1, s2', ⟨q0, q1, q2, q3, q4, q5, q6, q7⟩, ⟨p0, p1, p2, p3, p4, p5, p6, p7⟩⟩ := hS; simp only [Tm.k, Tm.lo, Tm.hi, Tm.s, Tm.y, Tm.m, Tm.o] at q0 q1 q2 q3 q4 q5 q6 q7 p0 p1 p2 p3 p4 p5 p6 p7; (go_simp; try rfl)
      simp only [List.setIfInBounds_toArray, List.set_cons_succ, List.set_cons_zero]
      refine take_at' (i := 9) 46 (v := ?vt10) rfl rfl (by kernel_rfl) (by kernel_rfl) (by kernel_rfl) (fun _ _ _ h => h) (Or.inl ⟨by rfl, fun w' hS => ?hyt10⟩) HS0.out ?_
      case hyt10 => obtain ⟨s1, s2', ⟨q0, q1, q2, q3, q4, q5, q6, q7⟩, ⟨p0, p1, p2, p3, p4, p5, p6, p7⟩⟩ := hS; simp only [Tm.k, Tm.lo, Tm.hi, Tm.s, Tm.y, Tm.m, Tm.o] at q0 q1 q2 q3 q4 q5 q6 q7 p0 p1 p2 p3 p4 p5 p6 p7; (go_simp; try rfl)
      simp only [List.setIfInBounds_toArray, List.set_cons_succ, List.set_cons_zero]
      refine wpAnyH_all (rs := [10, 11]) (by kernel_rfl) (by simp) ?_
      intro i hi
      have hi2 : i = 10 ∨ i = 11 := by simpa using hi
      clear hi
      rcases hi2 with rfl | rfl
      ·refine value_at 9 (v := .pointer (some ⟨W0.heap.size, 0, none⟩)) (w' := W0.alloc (.cells #[.int .i64 0, .int .i64 0, .int .i64 0, .string ⟨#[]⟩, .bool false, .bool false, .bool false, .slice none 0 0] 31)) rfl rfl rfl (by go_simp) ⟨HSV.out _ (bl_alloc KB0.out), ?_⟩
       simp only [List.setIfInBounds_toArray, List.set_cons_succ, List.set_cons_zero]
       obtain ⟨W1, hWv⟩ : ∃ Wv, W0.alloc (.cells #[.int .i64 0, .int .i64 0, .int .i64 0, .string ⟨#[]⟩, .bool false, .bool false, .bool false, .slice none 0 0] 31) = Wv := ⟨_, rfl⟩
       have KB1 : Hid (Below wi.heap.size wi W1) := by rw [← hWv]; exact Lib.hid (bl_alloc KB0.out)
       have XA1 : Hid (Bo W1 W0.heap.size 0 0 0 ⟨#[]⟩ false false false none 0 0) := by rw [← hWv]; exact Lib.hid (Bo.new W0 0 0 0 ⟨#[]⟩ false false false none 0 0)
       have XB1 : Hid True := Lib.hid trivial
       rw [hWv]
       clear hWv
       refine wpAnyH_all (rs := [11]) (by kernel_rfl) (by simp) ?_
       intro i hi
       obtain rfl : i = 11 := by simpa using hi
       refine value_at 10 (v := .pointer (some ⟨W1.heap.size, 0, none⟩)) (w' := W1.alloc (.cells #[.int .i64 0, .int .i64 0, .int .i64 0, .string ⟨#[]⟩, .bool false, .bool false, .bool false, .slice none 0 0] 31)) rfl rfl rfl (by go_simp) ⟨HSV.out _ (bl_alloc KB1.out), ?_⟩
       simp only [List.setIfInBounds_toArray, List.set_cons_succ, List.set_cons_zero]
       obtain ⟨W2, hWv⟩ : ∃ Wv, W1.alloc (.cells #[.int .i64 0, .int .i64 0, .int .i64 0, .string ⟨#[]⟩, .bool false, .bool false, .bool false, .slice none 0 0] 31) = Wv := ⟨_, rfl⟩
       have KB2 : Hid (Below wi.heap.size wi W2) := by rw [← hWv]; exact Lib.hid (bl_alloc KB1.out)
       have XB2 : Hid (Bo W2 W1.heap.size 0 0 0 ⟨#[]⟩ false false false none 0 0) := by rw [← hWv]; exact Lib.hid (Bo.new W1 0 0 0 ⟨#[]⟩ false false false none 0 0)
       have XA2 := Lib.hid (XA1.out.later (show Below W1.heap.size W1 W2 by rw [← hWv]; exact bl_alloc (Below.refl _ _)))
       have NE : Hid (W0.heap.size ≠ W1.heap.size) := Lib.hid (by have := XA1.out.lt; omega)
       rw [hWv]
       clear hWv
       refine wpAnyH_all (rs := [12]) (by kernel_rfl) (by simp) ?_
       intro i hi
       obtain rfl : i = 12 := by simpa using hi
       obtain ⟨e0, ⟨c0, c1, c2, c3, c4, c5, c6, c7⟩, ef⟩ := XA2.out
       have hge : wi.heap.size ≤ W0.heap.size := KB0.out.size
       refine skip_at (w' := ((((((((W2.setCell ⟨W0.heap.size, 0, none⟩ (.int .i64 ka)).setCell ⟨W0.heap.size, 1, none⟩ (.int .i64 loa)).setCell ⟨W0.heap.size, 2, none⟩ (.int .i64 hia)).setCell ⟨W0.heap.size, 3, none⟩ (.string sa)).setCell ⟨W0.heap.size, 4, none⟩ (.bool ya)).setCell ⟨W0.heap.size, 5, none⟩ (.bool ma)).setCell ⟨W0.heap.size, 6, none⟩ (.bool xa)).setCell ⟨W0.heap.size, 7, none⟩ (.slice f1 fl1 fc1))) rfl rfl rfl (by go_simp) ⟨HSV.out _ (bl_set8 KB2.out hge), ?_⟩
       try simp only [List.setIfInBounds_toArray, List.set_cons_succ, List.set_cons_zero]
       clear e0 c0 c1 c2 c3 c4 c5 c6 c7 ef
       obtain ⟨W3, hWv⟩ : ∃ Wv, ((((((((W2.setCell ⟨W0.heap.size, 0, none⟩ (.int .i64 ka)).setCell ⟨W0.heap.size, 1, none⟩ (.int .i64 loa)).setCell ⟨W0.heap.size, 2, none⟩ (.int .i64 hia)).setCell ⟨W0.heap.size, 3, none⟩ (.string sa)).setCell ⟨W0.heap.size, 4, none⟩ (.bool ya)).setCell ⟨W0.heap.size, 5, none⟩ (.bool ma)).setCell ⟨W0.heap.size, 6, none⟩ (.bool xa)).setCell ⟨W0.heap.size, 7, none⟩ (.slice f1 fl1 fc1)) = Wv := ⟨_, rfl⟩
       have KB3 : Hid (Below wi.heap.size wi W3) := by rw [← hWv]; exact Lib.hid (bl_set8 KB2.out hge)
       have XA3 : Hid (Bo W3 W0.heap.size ka loa hia sa ya ma xa f1 fl1 fc1) := by rw [← hWv]; exact Lib.hid (XA2.out.set8 ka loa hia sa ya ma xa f1 fl1 fc1)
       have XB3 : Hid (Bo W3 W1.heap.size 0 0 0 ⟨#[]⟩ false false false none 0 0) := by rw [← hWv]; exact Lib.hid (XB2.out.far8 (by have := NE.out; omega))
       rw [hWv]
       clear hWv hge
       refine wpAnyH_all (rs := [13]) (by kernel_rfl) (by simp) ?_
       intro i hi
       obtain rfl : i = 13 := by simpa using hi
       obtain ⟨e0, ⟨c0, c1, c2, c3, c4, c5, c6, c7⟩, ef⟩ := XB3.out
       have hge : wi.heap.size ≤ W1.heap.size := KB1.out.size
       refine skip_at (w' := ((((((((W3.setCell ⟨W1.heap.size, 0, none⟩ (.int .i64 kb)).setCell ⟨W1.heap.size, 1, none⟩ (.int .i64 lob)).setCell ⟨W1.heap.size, 2, none⟩ (.int .i64 hib)).setCell ⟨W1.heap.size, 3, none⟩ (.string sb)).setCell ⟨W1.heap.size, 4, none⟩ (.bool yb)).setCell ⟨W1.heap.size, 5, none⟩ (.bool mb)).setCell ⟨W1.heap.size, 6, none⟩ (.bool xb)).setCell ⟨W1.heap.size, 7, none⟩ (.slice f2 fl2 fc2))) rfl rfl rfl (by go_simp) ⟨HSV.out _ (bl_set8 KB3.out hge), ?_⟩
       try simp only [List.setIfInBounds_toArray, List.set_cons_succ, List.set_cons_zero]
       clear e0 c0 c1 c2 c3 c4 c5 c6 c7 ef
       obtain ⟨W4, hWv⟩ : ∃ Wv, ((((((((W3.setCell ⟨W1.heap.size, 0, none⟩ (.int .i64 kb)).setCell ⟨W1.heap.size, 1, none⟩ (.int .i64 lob)).setCell ⟨W1.heap.size, 2, none⟩ (.int .i64 hib)).setCell ⟨W1.heap.size, 3, none⟩ (.string sb)).setCell ⟨W1.heap.size, 4, none⟩ (.bool yb)).setCell ⟨W1.heap.size, 5, none⟩ (.bool mb)).setCell ⟨W1.heap.size, 6, none⟩ (.bool xb)).setCell ⟨W1.heap.size, 7, none⟩ (.slice f2 fl2 fc2)) = Wv := ⟨_, rfl⟩
       have KB4 : Hid (Below wi.heap.size wi W4) := by rw [← hWv]; exact Lib.hid (bl_set8 KB3.out hge)
       have XB4 : Hid (Bo W4 W1.heap.size kb lob hib sb yb mb xb f2 fl2 fc2) := by rw [← hWv]; exact Lib.hid (XB3.out.set8 kb lob hib sb yb mb xb f2 fl2 fc2)
       have XA4 : Hid (Bo W4 W0.heap.size ka loa hia sa ya ma xa f1 fl1 fc1) := by rw [← hWv]; exact Lib.hid (XA3.out.far8 (by have := NE.out; omega))
       rw [hWv]
       clear hWv hge
       refine wpAnyH_done (by kernel_rfl) ?_ _
       have XA := XA4
       have XB := XB4
       have KB := KB4
       clear XA4 XB4 KB4 HSV HS0 KB0 KB1 KB2 KB3 NE XA2 XB2 XA3 XB3
       generalize W0.heap.size = gA at *
       generalize W1.heap.size = gB at *
       have HWW := Lib.hid (bl_step HBW.out KB.out)
       go_upto_region 12 with fail
       obtain ⟨Wr, hWr⟩ : ∃ Wr, W4.alloc (.cells #[.int .i64 0, .int .i64 0, .int .i64 0, .string ⟨#[]⟩, .bool false, .bool false, .bool false, .slice none 0 0] 31) = Wr := ⟨_, rfl⟩
       have KR : Hid (Below wi.heap.size wi Wr) := by rw [← hWr]; exact Lib.hid (bl_alloc KB.out)
       have XC : Hid (Bo Wr W4.heap.size 0 0 0 ⟨#[]⟩ false false false none 0 0) := by rw [← hWr]; exact Lib.hid (Bo.new W4 0 0 0 ⟨#[]⟩ false false false none 0 0)
       replace XA := Lib.hid (XA.out.later (show Below W4.heap.size W4 Wr by rw [← hWr]; exact bl_alloc (Below.refl _ _)))
       replace XB := Lib.hid (XB.out.later (show Below W4.heap.size W4 Wr by rw [← hWr]; exact bl_alloc (Below.refl _ _)))
       have hgc : wi.heap.size ≤ W4.heap.size := KB.out.size
       have HGC := Lib.hid hgc
       rw [hWr]
       clear hWr KB HWW hgc
       generalize W4.heap.size = gC at *
       obtain ⟨az, ⟨a0, a1, a2, a3, a4, a5, a6, a7⟩, af⟩ := XA.out
       obtain ⟨bz, ⟨b0, b1', b2', b3, b4, b5, b6, b7⟩, bf⟩ := XB.out
       obtain ⟨cz, ⟨c0, c1, c2, c3, c4, c5, c6, c7⟩, cf⟩ := XC.out
       by_cases k5a : ka = 5
       ·subst k5a
        have HQ5 : Hid (comT (meetV n) A[k] B[j] = (0, [.mk kb lob hib sb yb mb xb fb])) := Lib.hid (by rw [HQ.out, ← HQ2.out]; unfold comT; rw [if_pos (by rfl)])
        clear HBO HRM HErr HQ HQ2
        go_upto_region 19 with fail
        obtain ⟨Wq, hWq⟩ : ∃ Wq, ((((((((Wr.setCell ⟨gC, 0, none⟩ (.int .i64 kb)).setCell ⟨gC, 1, none⟩ (.int .i64 lob)).setCell ⟨gC, 2, none⟩ (.int .i64 hib)).setCell ⟨gC, 3, none⟩ (.string sb)).setCell ⟨gC, 4, none⟩ (.bool yb)).setCell ⟨gC, 5, none⟩ (.bool mb)).setCell ⟨gC, 6, none⟩ (.bool xb)).setCell ⟨gC, 7, none⟩ (.slice f2 fl2 fc2)) = Wq := ⟨_, rfl⟩
        replace KR : Hid (Below wi.heap.size wi Wq) := by rw [← hWq]; exact Lib.hid (bl_set8 KR.out HGC.out)
        replace XC : Hid (Bo Wq gC kb lob hib sb yb mb xb f2 fl2 fc2) := by rw [← hWq]; exact Lib.hid (XC.out.set8 kb lob hib sb yb mb xb f2 fl2 fc2)
        rw [hWq]
        clear hWq
        clear az a0 a1 a2 a3 a4 a5 a6 a7 af bz b0 b1' b2' b3 b4 b5 b6 b7 bf cz c0 c1 c2 c3 c4 c5 c6 c7 cf
        obtain ⟨gz, ⟨g0, g1, g2, g3, g4, g5, g6, g7⟩, gf⟩ := XC.out
        obtain ⟨gg, cap, w6, hap, hown, hgrow, hat⟩ := (hI2.out.own.below KR.out).grow (by have := HLB.out; omega) (Nat.le_trans hI2.out.old.size KR.out.size) (⟨.mk kb lob hib sb yb mb xb fb, f2, fl2, fc2⟩ : Hr)
        have HAP := Lib.hid hap
        have HMI : Hid (MInv P n X w6 (.slice (some ⟨gg, 0, none⟩) (L2.length + 1) cap) (L2 ++ [⟨.mk kb lob hib sb yb mb xb fb, f2, fl2, fc2⟩]) ((prs (A.take k) B ++ (B.take j).map fun b => (A[k], b)) ++ [(A[k], B[j])])) := Lib.hid (MInv.add HXB.out.old HP.out ((hI2.out.below KR.out).below (bl_alloc (Below.refl _ _))) (by rw [HQ5.out]) (Hr.okP.to (bl_alloc (o := _) (bl_step HBW.out KR.out)).size (fun b hp lt => ⟨.inl hp, (bl_alloc (o := _) (bl_step HBW.out KR.out)).block b lt⟩) HOB.out) (by rw [new_size]) hown hgrow hat)
        simp only [Hr.enc, Tm.k, Tm.lo, Tm.hi, Tm.s, Tm.y, Tm.m, Tm.o] at HAP
        clear hap hown hgrow hat
        go_wp2_with (at_builtin; refine Lib.wpList_append_run _ rfl _ _ _ _ rfl _ _ rfl rfl _ _ HAP.out ?_)
        go_roundw
        case rel => exact ⟨j + 1, _, by omega, by go_num, by rw [HTK.out, ← List.append_assoc]; exact HMI⟩
        case measure => simp [intOf]; omega
       ·have n5a : (ka == 5) = false := by simpa using k5a
        have HN5a := Lib.hid k5a
        clear k5a
        by_cases k5b : kb = 5
        ·subst k5b
         have HQ5 : Hid (comT (meetV n) A[k] B[j] = (0, [.mk ka loa hia sa ya ma xa fa])) := Lib.hid (by rw [HQ.out, ← HQ2.out]; unfold comT; rw [if_neg (by exact HN5a.out), if_pos (by rfl)])
         clear HBO HRM HErr HQ HQ2
         go_upto_region 19 with fail
         obtain ⟨Wq, hWq⟩ : ∃ Wq, ((((((((Wr.setCell ⟨gC, 0, none⟩ (.int .i64 ka)).setCell ⟨gC, 1, none⟩ (.int .i64 loa)).setCell ⟨gC, 2, none⟩ (.int .i64 hia)).setCell ⟨gC, 3, none⟩ (.string sa)).setCell ⟨gC, 4, none⟩ (.bool ya)).setCell ⟨gC, 5, none⟩ (.bool ma)).setCell ⟨gC, 6, none⟩ (.bool xa)).setCell ⟨gC, 7, none⟩ (.slice f1 fl1 fc1)) = Wq := ⟨_, rfl⟩
         replace KR : Hid (Below wi.heap.size wi Wq) := by rw [← hWq]; exact Lib.hid (bl_set8 KR.out HGC.out)
         replace XC : Hid (Bo Wq gC ka loa hia sa ya ma xa f1 fl1 fc1) := by rw [← hWq]; exact Lib.hid (XC.out.set8 ka loa hia sa ya ma xa f1 fl1 fc1)
         rw [hWq]
         clear hWq
         clear az a0 a1 a2 a3 a4 a5 a6 a7 af bz b0 b1' b2' b3 b4 b5 b6 b7 bf cz c0 c1 c2 c3 c4 c5 c6 c7 cf
         obtain ⟨gz, ⟨g0, g1, g2, g3, g4, g5, g6, g7⟩, gf⟩ := XC.out
         obtain ⟨gg, cap, w6, hap, hown, hgrow, hat⟩ := (hI2.out.own.below KR.out).grow (by have := HLB.out; omega) (Nat.le_trans hI2.out.old.size KR.out.size) (⟨.mk ka loa hia sa ya ma xa fa, f1, fl1, fc1⟩ : Hr)
         have HAP := Lib.hid hap
         have HMI : Hid (MInv P n X w6 (.slice (some ⟨gg, 0, none⟩) (L2.length + 1) cap) (L2 ++ [⟨.mk ka loa hia sa ya ma xa fa, f1, fl1, fc1⟩]) ((prs (A.take k) B ++ (B.take j).map fun b => (A[k], b)) ++ [(A[k], B[j])])) := Lib.hid (MInv.add HXB.out.old HP.out ((hI2.out.below KR.out).below (bl_alloc (Below.refl _ _))) (by rw [HQ5.out]) (Hr.okP.to (bl_alloc (o := _) (bl_step HBW.out KR.out)).size (fun b hp lt => ⟨.inl hp, (bl_alloc (o := _) (bl_step HBW.out KR.out)).block b lt⟩) HOA.out) (by rw [new_size]) hown hgrow hat)
         simp only [Hr.enc, Tm.k, Tm.lo, Tm.hi, Tm.s, Tm.y, Tm.m, Tm.o] at HAP
         clear hap hown hgrow hat
         go_wp2_with (at_builtin; refine Lib.wpList_append_run _ rfl _ _ _ _ rfl _ _ rfl rfl _ _ HAP.out ?_)
         go_roundw
         case rel => exact ⟨j + 1, _, by omega, by go_num, by rw [HTK.out, ← List.append_assoc]; exact HMI⟩
         case measure => simp [intOf]; omega
        ·have n5b : (kb == 5) = false := by simpa using k5b
         have HN5b := Lib.hid k5b
         clear k5b
         by_cases k44 : ka = 4 ∧ kb = 4
         ·obtain ⟨rfl, rfl⟩ := k44
          have HQ4 : Hid (q = comS (meetV n) (.mk 4 loa hia sa ya ma xa fa) (.mk 4 lob hib sb yb mb xb fb)) := Lib.hid (by rw [← HQ2.out]; unfold comT; rw [if_neg (by exact HN5a.out), if_neg (by exact HN5b.out), if_pos ⟨rfl, rfl⟩])
          have HB4 : Hid (∀ W, Below wi.heap.size wi W → Calls Tryz.prog 85 #[tv 4 loa hia sa ya ma xa f1 fl1 fc1, tv 4 lob hib sb yb mb xb f2 fl2 fc2] W fun e w' => ∃ (okb : Bool) (kc loc hic : Int) (sc : ByteArray) (yc mc xc : Bool) (gsc : List Fd) (fC : Option Addr) (flC fcC : Nat), e = .returned (.tuple #[tv kc loc hic sc yc mc xc fC flC fcC, .bool okb, .int .i64 q.1]) ∧ Below W.heap.size W w' ∧ (okb = true → q = (0, [.mk kc loc hic sc yc mc xc gsc]) ∧ Hr.okP (fun b => P b ∨ W.heap.size ≤ b) n w' ⟨.mk kc loc hic sc yc mc xc gsc, fC, flC, fcC⟩) ∧ (okb = false → q.2 = [])) := Lib.hid fun W hW => by
           have h : Calls Tryz.prog 85 #[tv 4 loa hia sa ya ma xa f1 fl1 fc1, tv 4 lob hib sb yb mb xb f2 fl2 fc2] W (BoP P n q W) := by
            rw [HQ4.out]
            first | exact HBO.out W hW rfl rfl | exact HBO.out W hW trivial trivial | exact HBO.out W hW
           exact h.mono fun e w' ⟨okb, ⟨⟨kc, loc, hic, sc, yc, mc, xc, gsc⟩, fC, flC, fcC⟩, he, hb, h1, h0⟩ => ⟨okb, kc, loc, hic, sc, yc, mc, xc, gsc, fC, flC, fcC, he, hb, h1, h0⟩
          clear HBO HRM HQ2 HQ4
          obtain ⟨qe, qL⟩ := q
          have HRG := Lib.hid (And.intro KR.out.size XC.out.lt)
          have HX4 := Lib.hid (fun (W : World) (hW : Below Wr.heap.size Wr W) => XC.out.later hW)
          go_upto_region 19 with (go_at_call 85; refine (HB4.out _ KR.out).mono ?_; rintro e wb ⟨okb, kc, loc, hic, sc, yc, mc, xc, gsc, fC, flC, fcC, rfl, hb, h1, h0⟩; replace XC := Lib.hid (XC.out.later hb); replace KR := Lib.hid (bl_step KR.out hb); have HOK1 := Lib.hid h1; have HOK0 := Lib.hid h0; have HSZ := Lib.hid hb.size; have HKO := Lib.hid KR.out.size; clear hb h1 h0 cz c0 c1 c2 c3 c4 c5 c6 c7 cf; obtain ⟨cz, ⟨c0, c1, c2, c3, c4, c5, c6, c7⟩, cf⟩ := XC.out)
          have HW1 := Lib.hid (show ∀ b, b ≠ gC → (((((((((wb.setCell ⟨gC, 0, none⟩ (.int .i64 kc)).setCell ⟨gC, 1, none⟩ (.int .i64 loc)).setCell ⟨gC, 2, none⟩ (.int .i64 hic)).setCell ⟨gC, 3, none⟩ (.string sc)).setCell ⟨gC, 4, none⟩ (.bool yc)).setCell ⟨gC, 5, none⟩ (.bool mc)).setCell ⟨gC, 6, none⟩ (.bool xc)).setCell ⟨gC, 7, none⟩ (.slice fC flC fcC))).heap[b]? = wb.heap[b]? from fun b hne => by rw [Below.heap_setCell _ _ _ _ hne, Below.heap_setCell _ _ _ _ hne, Below.heap_setCell _ _ _ _ hne, Below.heap_setCell _ _ _ _ hne, Below.heap_setCell _ _ _ _ hne, Below.heap_setCell _ _ _ _ hne, Below.heap_setCell _ _ _ _ hne, Below.heap_setCell _ _ _ _ hne])
          have HGL := Lib.hid cz
          obtain ⟨Wq, hWq⟩ : ∃ Wq, ((((((((wb.setCell ⟨gC, 0, none⟩ (.int .i64 kc)).setCell ⟨gC, 1, none⟩ (.int .i64 loc)).setCell ⟨gC, 2, none⟩ (.int .i64 hic)).setCell ⟨gC, 3, none⟩ (.string sc)).setCell ⟨gC, 4, none⟩ (.bool yc)).setCell ⟨gC, 5, none⟩ (.bool mc)).setCell ⟨gC, 6, none⟩ (.bool xc)).setCell ⟨gC, 7, none⟩ (.slice fC flC fcC)) = Wq := ⟨_, rfl⟩
          have HSQ : Hid (Wq.heap.size = wb.heap.size) := by rw [← hWq]; exact Lib.hid (by rw [set_size, set_size, set_size, set_size, set_size, set_size, set_size, set_size])
          replace KR : Hid (Below wi.heap.size wi Wq) := by rw [← hWq]; exact Lib.hid (bl_set8 KR.out HGC.out)
          replace XC : Hid (Bo Wq gC kc loc hic sc yc mc xc fC flC fcC) := by rw [← hWq]; exact Lib.hid (XC.out.set8 kc loc hic sc yc mc xc fC flC fcC)
          rw [hWq] at HW1 ⊢
          clear hWq az a0 a1 a2 a3 a4 a5 a6 a7 af bz b0 b1' b2' b3 b4 b5 b6 b7 bf cz c0 c1 c2 c3 c4 c5 c6 c7 cf
          by_cases hq3 : qe = 30
          ·subst hq3
           have hv : mv = (30, []) := by
            rw [← HMV.out]
            refine meetV_bad HBG.out (fun p hp => ?_) ⟨(A[k], B[j]), pair_in hlt hjl, by rw [HQ.out]; show (30 : Int) ≠ 0; decide⟩
            obtain ⟨h1, h2⟩ := mem_prs.1 hp
            exact (comT_ok HG.out (HGA.out.1 _ h1) (HGB.out.1 _ h2)).1.imp id fun h => h.1
           subst hv
           obtain ⟨rz, rc, rf⟩ := HXB.out.br.later (bl_step hI2.out.old KR.out)
           go_wp2_with fail
           have hset := set_here (v := .slice none 0 0) rc
           exact bodyPost_ret (v := .tuple #[.agg #[.slice none 0 0], .int .i64 30]) (by simp [results, Tryz.results54, go_sem, hset]) rfl (⟨none, 0, 0, rfl, bl_set (bl_step HBW.out KR.out) (by show w.heap.size ≤ w.heap.size + 1 + 1; omega), inVP_nil⟩)
          ·have hq0 : qe = 0 := HErr.out.resolve_right fun c => hq3 c.1
           subst hq0
           clear hq3
           cases okb
           ·have HQ5 : Hid (comT (meetV n) A[k] B[j] = (0, [])) := Lib.hid (by
             have h : qL = [] := by first | exact HOK0.out rfl | exact HOK0.out trivial
             rw [HQ.out, h])
            rw [HQ5.out] at HQ
            go_wp2_with fail
            go_roundw
            case rel => exact ⟨j + 1, L2, by omega, by go_num, by rw [HTK.out, ← List.append_assoc]; exact Lib.hid ((hI2.out.below KR.out).skip HQ5.out)⟩
            case measure => simp [intOf]; omega
           ·have HP1 := Lib.hid (show ((0, qL) : Int × List Tm) = (0, [.mk kc loc hic sc yc mc xc gsc]) ∧ Hr.okP (fun b => P b ∨ Wr.heap.size ≤ b) n wb ⟨.mk kc loc hic sc yc mc xc gsc, fC, flC, fcC⟩ from by first | exact HOK1.out rfl | exact HOK1.out trivial)
            have HQ5 : Hid (comT (meetV n) A[k] B[j] = (0, [.mk kc loc hic sc yc mc xc gsc])) := Lib.hid (by rw [HQ.out]; exact HP1.out.1)
            obtain ⟨gz, ⟨g0, g1, g2, g3, g4, g5, g6, g7⟩, gf⟩ := XC.out
            obtain ⟨gg, cap, w6, hap, hown, hgrow, hat⟩ := (hI2.out.own.below KR.out).grow (by have := HLB.out; omega) (Nat.le_trans hI2.out.old.size KR.out.size) (⟨.mk kc loc hic sc yc mc xc gsc, fC, flC, fcC⟩ : Hr)
            have HAP := Lib.hid hap
            have HMI : Hid (MInv P n X w6 (.slice (some ⟨gg, 0, none⟩) (L2.length + 1) cap) (L2 ++ [⟨.mk kc loc hic sc yc mc xc gsc, fC, flC, fcC⟩]) ((prs (A.take k) B ++ (B.take j).map fun b => (A[k], b)) ++ [(A[k], B[j])])) := Lib.hid (MInv.add HXB.out.old HP.out ((hI2.out.below KR.out).below (bl_alloc (Below.refl _ _))) (by rw [HQ5.out]) (HP1.out.2.to (by rw [new_size, HSQ.out]; omega) (fun b hp lt => ⟨hp.imp id fun h => ⟨by have h1 := HRG.out.1; have h2 := hI2.out.old.size; omega, fun e => by have h1 := (hI2.out.own.lt _ e).2; have h2 := HRG.out.1; omega⟩, ((bl_alloc (o := _) (Below.refl Wq.heap.size Wq)).block b (by rw [HSQ.out]; exact lt)).trans (HW1.out b (by rintro rfl; rcases hp with hp | hp; (have h1 := HP.out _ hp; have h2 := HBW.out.size; have h3 := HGC.out; omega); (have h1 := HRG.out.2; omega)))⟩)) (by rw [new_size]) hown hgrow hat)
            simp only [Hr.enc, Tm.k, Tm.lo, Tm.hi, Tm.s, Tm.y, Tm.m, Tm.o] at HAP
            clear hap hown hgrow hat
            go_wp2_with (at_builtin; refine Lib.wpList_append_run _ rfl _ _ _ _ rfl _ _ rfl rfl _ _ HAP.out ?_)
            go_roundw
            case rel => exact ⟨j + 1, _, by omega, by go_num, by rw [HTK.out, ← List.append_assoc]; exact HMI⟩
            case measure => simp [intOf]; omega
         ·have HQe : Hid (q = match scM (.mk ka loa hia sa ya ma xa fa) (.mk kb lob hib sb yb mb xb fb) with | none => (0, []) | some c => (0, [c.tm])) := Lib.hid (by rw [← HQ2.out]; unfold comT; rw [if_neg (by exact HN5a.out), if_neg (by exact HN5b.out), if_neg (by exact k44)]; rfl)
          obtain ⟨rsc, hrs⟩ : ∃ r, scM (.mk ka loa hia sa ya ma xa fa) (.mk kb lob hib sb yb mb xb fb) = r := ⟨_, rfl⟩
          rw [hrs] at HQe HRM
          clear hrs HBO HQ2 HErr
          by_cases k4 : ka = 4
          ·subst k4
           have n4 : (kb == 4) = false := by
            have h : kb ≠ 4 := fun e => k44 ⟨rfl, e⟩
            simpa using h
           clear k44
           cases rsc with
           | none =>
            have HRN : Hid (∀ W, Calls Tryz.prog 86 _ W fun e w' => e = .returned (.tuple #[zv, .bool false]) ∧ Below W.heap.size W w') := Lib.hid fun W => HRM.out W
            have HQ5 : Hid (comT (meetV n) A[k] B[j] = (0, [])) := Lib.hid (by rw [HQ.out, HQe.out])
            clear HRM HQe
            go_upto_region 19 with (go_at_call 86; refine (HRN.out _).mono ?_; rintro e wb ⟨rfl, hb⟩; replace XC := Lib.hid (XC.out.later hb); replace KR := Lib.hid (bl_step KR.out hb); clear hb cz c0 c1 c2 c3 c4 c5 c6 c7 cf; obtain ⟨cz, ⟨c0, c1, c2, c3, c4, c5, c6, c7⟩, cf⟩ := XC.out)
            obtain ⟨Wq, hWq⟩ : ∃ Wq, ((((((((wb.setCell ⟨gC, 0, none⟩ (.int .i64 0)).setCell ⟨gC, 1, none⟩ (.int .i64 0)).setCell ⟨gC, 2, none⟩ (.int .i64 0)).setCell ⟨gC, 3, none⟩ (.string ⟨#[]⟩)).setCell ⟨gC, 4, none⟩ (.bool false)).setCell ⟨gC, 5, none⟩ (.bool false)).setCell ⟨gC, 6, none⟩ (.bool false)).setCell ⟨gC, 7, none⟩ (.slice none 0 0)) = Wq := ⟨_, rfl⟩
            replace KR : Hid (Below wi.heap.size wi Wq) := by rw [← hWq]; exact Lib.hid (bl_set8 KR.out HGC.out)
            replace XC : Hid (Bo Wq gC 0 0 0 ⟨#[]⟩ false false false none 0 0) := by rw [← hWq]; exact Lib.hid (XC.out.set8 0 0 0 ⟨#[]⟩ false false false none 0 0)
            rw [hWq]
            clear hWq
            clear az a0 a1 a2 a3 a4 a5 a6 a7 af bz b0 b1' b2' b3 b4 b5 b6 b7 bf cz c0 c1 c2 c3 c4 c5 c6 c7 cf
            go_wp2_with fail
            go_roundw
            case rel => exact ⟨j + 1, L2, by omega, by go_num, by rw [HTK.out, ← List.append_assoc]; exact Lib.hid ((hI2.out.below KR.out).skip HQ5.out)⟩
            case measure => simp [intOf]; omega
           | some c =>
            obtain ⟨kc, loc, hic, sc, yc, mc⟩ := c
            have HRN : Hid (∀ W, Calls Tryz.prog 86 _ W fun e w' => e = .returned (.tuple #[tv kc loc hic sc yc mc false f1 0 fc1, .bool true]) ∧ Below W.heap.size W w') := Lib.hid fun W => HRM.out W
            have HQ5 : Hid (comT (meetV n) A[k] B[j] = (0, [.mk kc loc hic sc yc mc false []])) := Lib.hid (by rw [HQ.out, HQe.out]; rfl)
            clear HRM HQe
            go_upto_region 19 with (go_at_call 86; refine (HRN.out _).mono ?_; rintro e wb ⟨rfl, hb⟩; replace XC := Lib.hid (XC.out.later hb); replace KR := Lib.hid (bl_step KR.out hb); clear hb cz c0 c1 c2 c3 c4 c5 c6 c7 cf; obtain ⟨cz, ⟨c0, c1, c2, c3, c4, c5, c6, c7⟩, cf⟩ := XC.out)
            obtain ⟨Wq, hWq⟩ : ∃ Wq, ((((((((wb.setCell ⟨gC, 0, none⟩ (.int .i64 kc)).setCell ⟨gC, 1, none⟩ (.int .i64 loc)).setCell ⟨gC, 2, none⟩ (.int .i64 hic)).setCell ⟨gC, 3, none⟩ (.string sc)).setCell ⟨gC, 4, none⟩ (.bool yc)).setCell ⟨gC, 5, none⟩ (.bool mc)).setCell ⟨gC, 6, none⟩ (.bool false)).setCell ⟨gC, 7, none⟩ (.slice f1 0 fc1)) = Wq := ⟨_, rfl⟩
            replace KR : Hid (Below wi.heap.size wi Wq) := by rw [← hWq]; exact Lib.hid (bl_set8 KR.out HGC.out)
            replace XC : Hid (Bo Wq gC kc loc hic sc yc mc false f1 0 fc1) := by rw [← hWq]; exact Lib.hid (XC.out.set8 kc loc hic sc yc mc false f1 0 fc1)
            rw [hWq]
            clear hWq
            clear az a0 a1 a2 a3 a4 a5 a6 a7 af bz b0 b1' b2' b3 b4 b5 b6 b7 bf cz c0 c1 c2 c3 c4 c5 c6 c7 cf
            obtain ⟨gz, ⟨g0, g1, g2, g3, g4, g5, g6, g7⟩, gf⟩ := XC.out
            obtain ⟨gg, cap, w6, hap, hown, hgrow, hat⟩ := (hI2.out.own.below KR.out).grow (by have := HLB.out; omega) (Nat.le_trans hI2.out.old.size KR.out.size) (⟨.mk kc loc hic sc yc mc false [], f1, 0, fc1⟩ : Hr)
            have HAP := Lib.hid hap
            have HMI : Hid (MInv P n X w6 (.slice (some ⟨gg, 0, none⟩) (L2.length + 1) cap) (L2 ++ [⟨.mk kc loc hic sc yc mc false [], f1, 0, fc1⟩]) ((prs (A.take k) B ++ (B.take j).map fun b => (A[k], b)) ++ [(A[k], B[j])])) := Lib.hid (MInv.add HXB.out.old HP.out ((hI2.out.below KR.out).below (bl_alloc (Below.refl _ _))) (by rw [HQ5.out]) (⟨rfl, (show ((0 : Nat) : Int) ≤ 9223372036854775807 by decide), fun i h => absurd h (Nat.not_lt_zero _)⟩) (by rw [new_size]) hown hgrow hat)
            simp only [Hr.enc, Tm.k, Tm.lo, Tm.hi, Tm.s, Tm.y, Tm.m, Tm.o] at HAP
            clear hap hown hgrow hat
            go_wp2_with (at_builtin; refine Lib.wpList_append_run _ rfl _ _ _ _ rfl _ _ rfl rfl _ _ HAP.out ?_)
            go_roundw
            case rel => exact ⟨j + 1, _, by omega, by go_num, by rw [HTK.out, ← List.append_assoc]; exact HMI⟩
            case measure => simp [intOf]; omega
          ·have n4 : (ka == 4) = false := by simpa using k4
           clear k44 k4
           cases rsc with
           | none =>
            have HRN : Hid (∀ W, Calls Tryz.prog 86 _ W fun e w' => e = .returned (.tuple #[zv, .bool false]) ∧ Below W.heap.size W w') := Lib.hid fun W => HRM.out W
            have HQ5 : Hid (comT (meetV n) A[k] B[j] = (0, [])) := Lib.hid (by rw [HQ.out, HQe.out])
            clear HRM HQe
            go_upto_region 19 with (go_at_call 86; refine (HRN.out _).mono ?_; rintro e wb ⟨rfl, hb⟩; replace XC := Lib.hid (XC.out.later hb); replace KR := Lib.hid (bl_step KR.out hb); clear hb cz c0 c1 c2 c3 c4 c5 c6 c7 cf; obtain ⟨cz, ⟨c0, c1, c2, c3, c4, c5, c6, c7⟩, cf⟩ := XC.out)
            obtain ⟨Wq, hWq⟩ : ∃ Wq, ((((((((wb.setCell ⟨gC, 0, none⟩ (.int .i64 0)).setCell ⟨gC, 1, none⟩ (.int .i64 0)).setCell ⟨gC, 2, none⟩ (.int .i64 0)).setCell ⟨gC, 3, none⟩ (.string ⟨#[]⟩)).setCell ⟨gC, 4, none⟩ (.bool false)).setCell ⟨gC, 5, none⟩ (.bool false)).setCell ⟨gC, 6, none⟩ (.bool false)).setCell ⟨gC, 7, none⟩ (.slice none 0 0)) = Wq := ⟨_, rfl⟩
            replace KR : Hid (Below wi.heap.size wi Wq) := by rw [← hWq]; exact Lib.hid (bl_set8 KR.out HGC.out)
            replace XC : Hid (Bo Wq gC 0 0 0 ⟨#[]⟩ false false false none 0 0) := by rw [← hWq]; exact Lib.hid (XC.out.set8 0 0 0 ⟨#[]⟩ false false false none 0 0)
            rw [hWq]
            clear hWq
            clear az a0 a1 a2 a3 a4 a5 a6 a7 af bz b0 b1' b2' b3 b4 b5 b6 b7 bf cz c0 c1 c2 c3 c4 c5 c6 c7 cf
            go_wp2_with fail
            go_roundw
            case rel => exact ⟨j + 1, L2, by omega, by go_num, by rw [HTK.out, ← List.append_assoc]; exact Lib.hid ((hI2.out.below KR.out).skip HQ5.out)⟩
            case measure => simp [intOf]; omega
           | some c =>
            obtain ⟨kc, loc, hic, sc, yc, mc⟩ := c
            have HRN : Hid (∀ W, Calls Tryz.prog 86 _ W fun e w' => e = .returned (.tuple #[tv kc loc hic sc yc mc false f1 0 fc1, .bool true]) ∧ Below W.heap.size W w') := Lib.hid fun W => HRM.out W
            have HQ5 : Hid (comT (meetV n) A[k] B[j] = (0, [.mk kc loc hic sc yc mc false []])) := Lib.hid (by rw [HQ.out, HQe.out]; rfl)
            clear HRM HQe
            go_upto_region 19 with (go_at_call 86; refine (HRN.out _).mono ?_; rintro e wb ⟨rfl, hb⟩; replace XC := Lib.hid (XC.out.later hb); replace KR := Lib.hid (bl_step KR.out hb); clear hb cz c0 c1 c2 c3 c4 c5 c6 c7 cf; obtain ⟨cz, ⟨c0, c1, c2, c3, c4, c5, c6, c7⟩, cf⟩ := XC.out)
            obtain ⟨Wq, hWq⟩ : ∃ Wq, ((((((((wb.setCell ⟨gC, 0, none⟩ (.int .i64 kc)).setCell ⟨gC, 1, none⟩ (.int .i64 loc)).setCell ⟨gC, 2, none⟩ (.int .i64 hic)).setCell ⟨gC, 3, none⟩ (.string sc)).setCell ⟨gC, 4, none⟩ (.bool yc)).setCell ⟨gC, 5, none⟩ (.bool mc)).setCell ⟨gC, 6, none⟩ (.bool false)).setCell ⟨gC, 7, none⟩ (.slice f1 0 fc1)) = Wq := ⟨_, rfl⟩
            replace KR : Hid (Below wi.heap.size wi Wq) := by rw [← hWq]; exact Lib.hid (bl_set8 KR.out HGC.out)
            replace XC : Hid (Bo Wq gC kc loc hic sc yc mc false f1 0 fc1) := by rw [← hWq]; exact Lib.hid (XC.out.set8 kc loc hic sc yc mc false f1 0 fc1)
            rw [hWq]
            clear hWq
            clear az a0 a1 a2 a3 a4 a5 a6 a7 af bz b0 b1' b2' b3 b4 b5 b6 b7 bf cz c0 c1 c2 c3 c4 c5 c6 c7 cf
            obtain ⟨gz, ⟨g0, g1, g2, g3, g4, g5, g6, g7⟩, gf⟩ := XC.out
            obtain ⟨gg, cap, w6, hap, hown, hgrow, hat⟩ := (hI2.out.own.below KR.out).grow (by have := HLB.out; omega) (Nat.le_trans hI2.out.old.size KR.out.size) (⟨.mk kc loc hic sc yc mc false [], f1, 0, fc1⟩ : Hr)
            have HAP := Lib.hid hap
            have HMI : Hid (MInv P n X w6 (.slice (some ⟨gg, 0, none⟩) (L2.length + 1) cap) (L2 ++ [⟨.mk kc loc hic sc yc mc false [], f1, 0, fc1⟩]) ((prs (A.take k) B ++ (B.take j).map fun b => (A[k], b)) ++ [(A[k], B[j])])) := Lib.hid (MInv.add HXB.out.old HP.out ((hI2.out.below KR.out).below (bl_alloc (Below.refl _ _))) (by rw [HQ5.out]) (⟨rfl, (show ((0 : Nat) : Int) ≤ 9223372036854775807 by decide), fun i h => absurd h (Nat.not_lt_zero _)⟩) (by rw [new_size]) hown hgrow hat)
            simp only [Hr.enc, Tm.k, Tm.lo, Tm.hi, Tm.s, Tm.y, Tm.m, Tm.o] at HAP
            clear hap hown hgrow hat
            go_wp2_with (at_builtin; refine Lib.wpList_append_run _ rfl _ _ _ _ rfl _ _ rfl rfl _ _ HAP.out ?_)
            go_roundw
            case rel => exact ⟨j + 1, _, by omega, by go_num, by rw [HTK.out, ← List.append_assoc]; exact HMI⟩
            case measure => simp [intOf]; omega
      ·refine value_at 10 (v := .pointer (some ⟨W0.heap.size, 0, none⟩)) (w' := W0.alloc (.cells #[.int .i64 0, .int .i64 0, .int .i64 0, .string ⟨#[]⟩, .bool false, .bool false, .bool false, .slice none 0 0] 31)) rfl rfl rfl (by go_simp) ⟨HSV.out _ (bl_alloc KB0.out), ?_⟩
       simp only [List.setIfInBounds_toArray, List.set_cons_succ, List.set_cons_zero]
       obtain ⟨W1, hWv⟩ : ∃ Wv, W0.alloc (.cells #[.int .i64 0, .int .i64 0, .int .i64 0, .string ⟨#[]⟩, .bool false, .bool false, .bool false, .slice none 0 0] 31) = Wv := ⟨_, rfl⟩
       have KB1 : Hid (Below wi.heap.size wi W1) := by rw [← hWv]; exact Lib.hid (bl_alloc KB0.out)
       have XB1 : Hid (Bo W1 W0.heap.size 0 0 0 ⟨#[]⟩ false false false none 0 0) := by rw [← hWv]; exact Lib.hid (Bo.new W0 0 0 0 ⟨#[]⟩ false false false none 0 0)
       have XA1 : Hid True := Lib.hid trivial
       rw [hWv]
       clear hWv
       refine wpAnyH_all (rs := [10]) (by kernel_rfl) (by simp) ?_
       intro i hi
       obtain rfl : i = 10 := by simpa using hi
       refine value_at 9 (v := .pointer (some ⟨W1.heap.size, 0, none⟩)) (w' := W1.alloc (.cells #[.int .i64 0, .int .i64 0, .int .i64 0, .string ⟨#[]⟩, .bool false, .bool false, .bool false, .slice none 0 0] 31)) rfl rfl rfl (by go_simp) ⟨HSV.out _ (bl_alloc KB1.out), ?_⟩
       simp only [List.setIfInBounds_toArray, List.set_cons_succ, List.set_cons_zero]
       obtain ⟨W2, hWv⟩ : ∃ Wv, W1.alloc (.cells #[.int .i64 0, .int .i64 0, .int .i64 0, .string ⟨#[]⟩, .bool false, .bool false, .bool false, .slice none 0 0] 31) = Wv := ⟨_, rfl⟩
       have KB2 : Hid (Below wi.heap.size wi W2) := by rw [← hWv]; exact Lib.hid (bl_alloc KB1.out)
       have XA2 : Hid (Bo W2 W1.heap.size 0 0 0 ⟨#[]⟩ false false false none 0 0) := by rw [← hWv]; exact Lib.hid (Bo.new W1 0 0 0 ⟨#[]⟩ false false false none 0 0)
       have XB2 := Lib.hid (XB1.out.later (show Below W1.heap.size W1 W2 by rw [← hWv]; exact bl_alloc (Below.refl _ _)))
       have NE : Hid (W0.heap.size ≠ W1.heap.size) := Lib.hid (by have := XB1.out.lt; omega)
       rw [hWv]
       clear hWv
       refine wpAnyH_all (rs := [12]) (by kernel_rfl) (by simp) ?_
       intro i hi
       obtain rfl : i = 12 := by simpa using hi
       obtain ⟨e0, ⟨c0, c1, c2, c3, c4, c5, c6, c7⟩, ef⟩ := XA2.out
       have hge : wi.heap.size ≤ W1.heap.size := KB1.out.size
       refine skip_at (w' := ((((((((W2.setCell ⟨W1.heap.size, 0, none⟩ (.int .i64 ka)).setCell ⟨W1.heap.size, 1, none⟩ (.int .i64 loa)).setCell ⟨W1.heap.size, 2, none⟩ (.int .i64 hia)).setCell ⟨W1.heap.size, 3, none⟩ (.string sa)).setCell ⟨W1.heap.size, 4, none⟩ (.bool ya)).setCell ⟨W1.heap.size, 5, none⟩ (.bool ma)).setCell ⟨W1.heap.size, 6, none⟩ (.bool xa)).setCell ⟨W1.heap.size, 7, none⟩ (.slice f1 fl1 fc1))) rfl rfl rfl (by go_simp) ⟨HSV.out _ (bl_set8 KB2.out hge), ?_⟩
       try simp only [List.setIfInBounds_toArray, List.set_cons_succ, List.set_cons_zero]
       clear e0 c0 c1 c2 c3 c4 c5 c6 c7 ef
       obtain ⟨W3, hWv⟩ : ∃ Wv, ((((((((W2.setCell ⟨W1.heap.size, 0, none⟩ (.int .i64 ka)).setCell ⟨W1.heap.size, 1, none⟩ (.int .i64 loa)).setCell ⟨W1.heap.size, 2, none⟩ (.int .i64 hia)).setCell ⟨W1.heap.size, 3, none⟩ (.string sa)).setCell ⟨W1.heap.size, 4, none⟩ (.bool ya)).setCell ⟨W1.heap.size, 5, none⟩ (.bool ma)).setCell ⟨W1.heap.size, 6, none⟩ (.bool xa)).setCell ⟨W1.heap.size, 7, none⟩ (.slice f1 fl1 fc1)) = Wv := ⟨_, rfl⟩
       have KB3 : Hid (Below wi.heap.size wi W3) := by rw [← hWv]; exact Lib.hid (bl_set8 KB2.out hge)
       have XA3 : Hid (Bo W3 W1.heap.size ka loa hia sa ya ma xa f1 fl1 fc1) := by rw [← hWv]; exact Lib.hid (XA2.out.set8 ka loa hia sa ya ma xa f1 fl1 fc1)
       have XB3 : Hid (Bo W3 W0.heap.size 0 0 0 ⟨#[]⟩ false false false none 0 0) := by rw [← hWv]; exact Lib.hid (XB2.out.far8 (by have := NE.out; omega))
       rw [hWv]
       clear hWv hge
       refine wpAnyH_all (rs := [13]) (by kernel_rfl) (by simp) ?_
       intro i hi
       obtain rfl : i = 13 := by simpa using hi
       obtain ⟨e0, ⟨c0, c1, c2, c3, c4, c5, c6, c7⟩, ef⟩ := XB3.out
       have hge : wi.heap.size ≤ W0.heap.size := KB0.out.size
       refine skip_at (w' := ((((((((W3.setCell ⟨W0.heap.size, 0, none⟩ (.int .i64 kb)).setCell ⟨W0.heap.size, 1, none⟩ (.int .i64 lob)).setCell ⟨W0.heap.size, 2, none⟩ (.int .i64 hib)).setCell ⟨W0.heap.size, 3, none⟩ (.string sb)).setCell ⟨W0.heap.size, 4, none⟩ (.bool yb)).setCell ⟨W0.heap.size, 5, none⟩ (.bool mb)).setCell ⟨W0.heap.size, 6, none⟩ (.bool xb)).setCell ⟨W0.heap.size, 7, none⟩ (.slice f2 fl2 fc2))) rfl rfl rfl (by go_simp) ⟨HSV.out _ (bl_set8 KB3.out hge), ?_⟩
       try simp only [List.setIfInBounds_toArray, List.set_cons_succ, List.set_cons_zero]
       clear e0 c0 c1 c2 c3 c4 c5 c6 c7 ef
       obtain ⟨W4, hWv⟩ : ∃ Wv, ((((((((W3.setCell ⟨W0.heap.size, 0, none⟩ (.int .i64 kb)).setCell ⟨W0.heap.size, 1, none⟩ (.int .i64 lob)).setCell ⟨W0.heap.size, 2, none⟩ (.int .i64 hib)).setCell ⟨W0.heap.size, 3, none⟩ (.string sb)).setCell ⟨W0.heap.size, 4, none⟩ (.bool yb)).setCell ⟨W0.heap.size, 5, none⟩ (.bool mb)).setCell ⟨W0.heap.size, 6, none⟩ (.bool xb)).setCell ⟨W0.heap.size, 7, none⟩ (.slice f2 fl2 fc2)) = Wv := ⟨_, rfl⟩
       have KB4 : Hid (Below wi.heap.size wi W4) := by rw [← hWv]; exact Lib.hid (bl_set8 KB3.out hge)
       have XB4 : Hid (Bo W4 W0.heap.size kb lob hib sb yb mb xb f2 fl2 fc2) := by rw [← hWv]; exact Lib.hid (XB3.out.set8 kb lob hib sb yb mb xb f2 fl2 fc2)
       have XA4 : Hid (Bo W4 W1.heap.size ka loa hia sa ya ma xa f1 fl1 fc1) := by rw [← hWv]; exact Lib.hid (XA3.out.far8 (by have := NE.out; omega))
       rw [hWv]
       clear hWv hge
       refine wpAnyH_done (by kernel_rfl) ?_ _
       have XA := XA4
       have XB := XB4
       have KB := KB4
       clear XA4 XB4 KB4 HSV HS0 KB0 KB1 KB2 KB3 NE XA2 XB2 XA3 XB3
       generalize W1.heap.size = gA at *
       generalize W0.heap.size = gB at *
       have HWW := Lib.hid (bl_step HBW.out KB.out)
       go_upto_region 12 with fail
       obtain ⟨Wr, hWr⟩ : ∃ Wr, W4.alloc (.cells #[.int .i64 0, .int .i64 0, .int .i64 0, .string ⟨#[]⟩, .bool false, .bool false, .bool false, .slice none 0 0] 31) = Wr := ⟨_, rfl⟩
       have KR : Hid (Below wi.heap.size wi Wr) := by rw [← hWr]; exact Lib.hid (bl_alloc KB.out)
       have XC : Hid (Bo Wr W4.heap.size 0 0 0 ⟨#[]⟩ false false false none 0 0) := by rw [← hWr]; exact Lib.hid (Bo.new W4 0 0 0 ⟨#[]⟩ false false false none 0 0)
       replace XA := Lib.hid (XA.out.later (show Below W4.heap.size W4 Wr by rw [← hWr]; exact bl_alloc (Below.refl _ _)))
       replace XB := Lib.hid (XB.out.later (show Below W4.heap.size W4 Wr by rw [← hWr]; exact bl_alloc (Below.refl _ _)))
       have hgc : wi.heap.size ≤ W4.heap.size := KB.out.size
       have HGC := Lib.hid hgc
       rw [hWr]
       clear hWr KB HWW hgc
       generalize W4.heap.size = gC at *
       obtain ⟨az, ⟨a0, a1, a2, a3, a4, a5, a6, a7⟩, af⟩ := XA.out
       obtain ⟨bz, ⟨b0, b1', b2', b3, b4, b5, b6, b7⟩, bf⟩ := XB.out
       obtain ⟨cz, ⟨c0, c1, c2, c3, c4, c5, c6, c7⟩, cf⟩ := XC.out
       by_cases k5a : ka = 5
       ·subst k5a
        have HQ5 : Hid (comT (meetV n) A[k] B[j] = (0, [.mk kb lob hib sb yb mb xb fb])) := Lib.hid (by rw [HQ.out, ← HQ2.out]; unfold comT; rw [if_pos (by rfl)])
        clear HBO HRM HErr HQ HQ2
        go_upto_region 19 with fail
        obtain ⟨Wq, hWq⟩ : ∃ Wq, ((((((((Wr.setCell ⟨gC, 0, none⟩ (.int .i64 kb)).setCell ⟨gC, 1, none⟩ (.int .i64 lob)).setCell ⟨gC, 2, none⟩ (.int .i64 hib)).setCell ⟨gC, 3, none⟩ (.string sb)).setCell ⟨gC, 4, none⟩ (.bool yb)).setCell ⟨gC, 5, none⟩ (.bool mb)).setCell ⟨gC, 6, none⟩ (.bool xb)).setCell ⟨gC, 7, none⟩ (.slice f2 fl2 fc2)) = Wq := ⟨_, rfl⟩
        replace KR : Hid (Below wi.heap.size wi Wq) := by rw [← hWq]; exact Lib.hid (bl_set8 KR.out HGC.out)
        replace XC : Hid (Bo Wq gC kb lob hib sb yb mb xb f2 fl2 fc2) := by rw [← hWq]; exact Lib.hid (XC.out.set8 kb lob hib sb yb mb xb f2 fl2 fc2)
        rw [hWq]
        clear hWq
        clear az a0 a1 a2 a3 a4 a5 a6 a7 af bz b0 b1' b2' b3 b4 b5 b6 b7 bf cz c0 c1 c2 c3 c4 c5 c6 c7 cf
        obtain ⟨gz, ⟨g0, g1, g2, g3, g4, g5, g6, g7⟩, gf⟩ := XC.out
        obtain ⟨gg, cap, w6, hap, hown, hgrow, hat⟩ := (hI2.out.own.below KR.out).grow (by have := HLB.out; omega) (Nat.le_trans hI2.out.old.size KR.out.size) (⟨.mk kb lob hib sb yb mb xb fb, f2, fl2, fc2⟩ : Hr)
        have HAP := Lib.hid hap
        have HMI : Hid (MInv P n X w6 (.slice (some ⟨gg, 0, none⟩) (L2.length + 1) cap) (L2 ++ [⟨.mk kb lob hib sb yb mb xb fb, f2, fl2, fc2⟩]) ((prs (A.take k) B ++ (B.take j).map fun b => (A[k], b)) ++ [(A[k], B[j])])) := Lib.hid (MInv.add HXB.out.old HP.out ((hI2.out.below KR.out).below (bl_alloc (Below.refl _ _))) (by rw [HQ5.out]) (Hr.okP.to (bl_alloc (o := _) (bl_step HBW.out KR.out)).size (fun b hp lt => ⟨.inl hp, (bl_alloc (o := _) (bl_step HBW.out KR.out)).block b lt⟩) HOB.out) (by rw [new_size]) hown hgrow hat)
        simp only [Hr.enc, Tm.k, Tm.lo, Tm.hi, Tm.s, Tm.y, Tm.m, Tm.o] at HAP
        clear hap hown hgrow hat
        go_wp2_with (at_builtin; refine Lib.wpList_append_run _ rfl _ _ _ _ rfl _ _ rfl rfl _ _ HAP.out ?_)
        go_roundw
        case rel => exact ⟨j + 1, _, by omega, by go_num, by rw [HTK.out, ← List.append_assoc]; exact HMI⟩
        case measure => simp [intOf]; omega
       ·have n5a : (ka == 5) = false := by simpa using k5a
        have HN5a := Lib.hid k5a
        clear k5a
        by_cases k5b : kb = 5
        ·subst k5b
         have HQ5 : Hid (comT (meetV n) A[k] B[j] = (0, [.mk ka loa hia sa ya ma xa fa])) := Lib.hid (by rw [HQ.out, ← HQ2.out]; unfold comT; rw [if_neg (by exact HN5a.out), if_pos (by rfl)])
         clear HBO HRM HErr HQ HQ2
         go_upto_region 19 with fail
         obtain ⟨Wq, hWq⟩ : ∃ Wq, ((((((((Wr.setCell ⟨gC, 0, none⟩ (.int .i64 ka)).setCell ⟨gC, 1, none⟩ (.int .i64 loa)).setCell ⟨gC, 2, none⟩ (.int .i64 hia)).setCell ⟨gC, 3, none⟩ (.string sa)).setCell ⟨gC, 4, none⟩ (.bool ya)).setCell ⟨gC, 5, none⟩ (.bool ma)).setCell ⟨gC, 6, none⟩ (.bool xa)).setCell ⟨gC, 7, none⟩ (.slice f1 fl1 fc1)) = Wq := ⟨_, rfl⟩
         replace KR : Hid (Below wi.heap.size wi Wq) := by rw [← hWq]; exact Lib.hid (bl_set8 KR.out HGC.out)
         replace XC : Hid (Bo Wq gC ka loa hia sa ya ma xa f1 fl1 fc1) := by rw [← hWq]; exact Lib.hid (XC.out.set8 ka loa hia sa ya ma xa f1 fl1 fc1)
         rw [hWq]
         clear hWq
         clear az a0 a1 a2 a3 a4 a5 a6 a7 af bz b0 b1' b2' b3 b4 b5 b6 b7 bf cz c0 c1 c2 c3 c4 c5 c6 c7 cf
         obtain ⟨gz, ⟨g0, g1, g2, g3, g4, g5, g6, g7⟩, gf⟩ := XC.out
         obtain ⟨gg, cap, w6, hap, hown, hgrow, hat⟩ := (hI2.out.own.below KR.out).grow (by have := HLB.out; omega) (Nat.le_trans hI2.out.old.size KR.out.size) (⟨.mk ka loa hia sa ya ma xa fa, f1, fl1, fc1⟩ : Hr)
         have HAP := Lib.hid hap
         have HMI : Hid (MInv P n X w6 (.slice (some ⟨gg, 0, none⟩) (L2.length + 1) cap) (L2 ++ [⟨.mk ka loa hia sa ya ma xa fa, f1, fl1, fc1⟩]) ((prs (A.take k) B ++ (B.take j).map fun b => (A[k], b)) ++ [(A[k], B[j])])) := Lib.hid (MInv.add HXB.out.old HP.out ((hI2.out.below KR.out).below (bl_alloc (Below.refl _ _))) (by rw [HQ5.out]) (Hr.okP.to (bl_alloc (o := _) (bl_step HBW.out KR.out)).size (fun b hp lt => ⟨.inl hp, (bl_alloc (o := _) (bl_step HBW.out KR.out)).block b lt⟩) HOA.out) (by rw [new_size]) hown hgrow hat)
         simp only [Hr.enc, Tm.k, Tm.lo, Tm.hi, Tm.s, Tm.y, Tm.m, Tm.o] at HAP
         clear hap hown hgrow hat
         go_wp2_with (at_builtin; refine Lib.wpList_append_run _ rfl _ _ _ _ rfl _ _ rfl rfl _ _ HAP.out ?_)
         go_roundw
         case rel => exact ⟨j + 1, _, by omega, by go_num, by rw [HTK.out, ← List.append_assoc]; exact HMI⟩
         case measure => simp [intOf]; omega
        ·have n5b : (kb == 5) = false := by simpa using k5b
         have HN5b := Lib.hid k5b
         clear k5b
         by_cases k44 : ka = 4 ∧ kb = 4
         ·obtain ⟨rfl, rfl⟩ := k44
          have HQ4 : Hid (q = comS (meetV n) (.mk 4 loa hia sa ya ma xa fa) (.mk 4 lob hib sb yb mb xb fb)) := Lib.hid (by rw [← HQ2.out]; unfold comT; rw [if_neg (by exact HN5a.out), if_neg (by exact HN5b.out), if_pos ⟨rfl, rfl⟩])
          have HB4 : Hid (∀ W, Below wi.heap.size wi W → Calls Tryz.prog 85 #[tv 4 loa hia sa ya ma xa f1 fl1 fc1, tv 4 lob hib sb yb mb xb f2 fl2 fc2] W fun e w' => ∃ (okb : Bool) (kc loc hic : Int) (sc : ByteArray) (yc mc xc : Bool) (gsc : List Fd) (fC : Option Addr) (flC fcC : Nat), e = .returned (.tuple #[tv kc loc hic sc yc mc xc fC flC fcC, .bool okb, .int .i64 q.1]) ∧ Below W.heap.size W w' ∧ (okb = true → q = (0, [.mk kc loc hic sc yc mc xc gsc]) ∧ Hr.okP (fun b => P b ∨ W.heap.size ≤ b) n w' ⟨.mk kc loc hic sc yc mc xc gsc, fC, flC, fcC⟩) ∧ (okb = false → q.2 = [])) := Lib.hid fun W hW => by
           have h : Calls Tryz.prog 85 #[tv 4 loa hia sa ya ma xa f1 fl1 fc1, tv 4 lob hib sb yb mb xb f2 fl2 fc2] W (BoP P n q W) := by
            rw [HQ4.out]
            first | exact HBO.out W hW rfl rfl | exact HBO.out W hW trivial trivial | exact HBO.out W hW
           exact h.mono fun e w' ⟨okb, ⟨⟨kc, loc, hic, sc, yc, mc, xc, gsc⟩, fC, flC, fcC⟩, he, hb, h1, h0⟩ => ⟨okb, kc, loc, hic, sc, yc, mc, xc, gsc, fC, flC, fcC, he, hb, h1, h0⟩
          clear HBO HRM HQ2 HQ4
          obtain ⟨qe, qL⟩ := q
          have HRG := Lib.hid (And.intro KR.out.size XC.out.lt)
          have HX4 := Lib.hid (fun (W : World) (hW : Below Wr.heap.size Wr W) => XC.out.later hW)
          go_upto_region 19 with (go_at_call 85; refine (HB4.out _ KR.out).mono ?_; rintro e wb ⟨okb, kc, loc, hic, sc, yc, mc, xc, gsc, fC, flC, fcC, rfl, hb, h1, h0⟩; replace XC := Lib.hid (XC.out.later hb); replace KR := Lib.hid (bl_step KR.out hb); have HOK1 := Lib.hid h1; have HOK0 := Lib.hid h0; have HSZ := Lib.hid hb.size; have HKO := Lib.hid KR.out.size; clear hb h1 h0 cz c0 c1 c2 c3 c4 c5 c6 c7 cf; obtain ⟨cz, ⟨c0, c1, c2, c3, c4, c5, c6, c7⟩, cf⟩ := XC.out)
          have HW1 := Lib.hid (show ∀ b, b ≠ gC → (((((((((wb.setCell ⟨gC, 0, none⟩ (.int .i64 kc)).setCell ⟨gC, 1, none⟩ (.int .i64 loc)).setCell ⟨gC, 2, none⟩ (.int .i64 hic)).setCell ⟨gC, 3, none⟩ (.string sc)).setCell ⟨gC, 4, none⟩ (.bool yc)).setCell ⟨gC, 5, none⟩ (.bool mc)).setCell ⟨gC, 6, none⟩ (.bool xc)).setCell ⟨gC, 7, none⟩ (.slice fC flC fcC))).heap[b]? = wb.heap[b]? from fun b hne => by rw [Below.heap_setCell _ _ _ _ hne, Below.heap_setCell _ _ _ _ hne, Below.heap_setCell _ _ _ _ hne, Below.heap_setCell _ _ _ _ hne, Below.heap_setCell _ _ _ _ hne, Below.heap_setCell _ _ _ _ hne, Below.heap_setCell _ _ _ _ hne, Below.heap_setCell _ _ _ _ hne])
          have HGL := Lib.hid cz
          obtain ⟨Wq, hWq⟩ : ∃ Wq, ((((((((wb.setCell ⟨gC, 0, none⟩ (.int .i64 kc)).setCell ⟨gC, 1, none⟩ (.int .i64 loc)).setCell ⟨gC, 2, none⟩ (.int .i64 hic)).setCell ⟨gC, 3, none⟩ (.string sc)).setCell ⟨gC, 4, none⟩ (.bool yc)).setCell ⟨gC, 5, none⟩ (.bool mc)).setCell ⟨gC, 6, none⟩ (.bool xc)).setCell ⟨gC, 7, none⟩ (.slice fC flC fcC)) = Wq := ⟨_, rfl⟩
          have HSQ : Hid (Wq.heap.size = wb.heap.size) := by rw [← hWq]; exact Lib.hid (by rw [set_size, set_size, set_size, set_size, set_size, set_size, set_size, set_size])
          replace KR : Hid (Below wi.heap.size wi Wq) := by rw [← hWq]; exact Lib.hid (bl_set8 KR.out HGC.out)
          replace XC : Hid (Bo Wq gC kc loc hic sc yc mc xc fC flC fcC) := by rw [← hWq]; exact Lib.hid (XC.out.set8 kc loc hic sc yc mc xc fC flC fcC)
          rw [hWq] at HW1 ⊢
          clear hWq az a0 a1 a2 a3 a4 a5 a6 a7 af bz b0 b1' b2' b3 b4 b5 b6 b7 bf cz c0 c1 c2 c3 c4 c5 c6 c7 cf
          by_cases hq3 : qe = 30
          ·subst hq3
           have hv : mv = (30, []) := by
            rw [← HMV.out]
            refine meetV_bad HBG.out (fun p hp => ?_) ⟨(A[k], B[j]), pair_in hlt hjl, by rw [HQ.out]; show (30 : Int) ≠ 0; decide⟩
            obtain ⟨h1, h2⟩ := mem_prs.1 hp
            exact (comT_ok HG.out (HGA.out.1 _ h1) (HGB.out.1 _ h2)).1.imp id fun h => h.1
           subst hv
           obtain ⟨rz, rc, rf⟩ := HXB.out.br.later (bl_step hI2.out.old KR.out)
           go_wp2_with fail
           have hset := set_here (v := .slice none 0 0) rc
           exact bodyPost_ret (v := .tuple #[.agg #[.slice none 0 0], .int .i64 30]) (by simp [results, Tryz.results54, go_sem, hset]) rfl (⟨none, 0, 0, rfl, bl_set (bl_step HBW.out KR.out) (by show w.heap.size ≤ w.heap.size + 1 + 1; omega), inVP_nil⟩)
          ·have hq0 : qe = 0 := HErr.out.resolve_right fun c => hq3 c.1
           subst hq0
           clear hq3
           cases okb
           ·have HQ5 : Hid (comT (meetV n) A[k] B[j] = (0, [])) := Lib.hid (by
             have h : qL = [] := by first | exact HOK0.out rfl | exact HOK0.out trivial
             rw [HQ.out, h])
            rw [HQ5.out] at HQ
            go_wp2_with fail
            go_roundw
            case rel => exact ⟨j + 1, L2, by omega, by go_num, by rw [HTK.out, ← List.append_assoc]; exact Lib.hid ((hI2.out.below KR.out).skip HQ5.out)⟩
            case measure => simp [intOf]; omega
           ·have HP1 := Lib.hid (show ((0, qL) : Int × List Tm) = (0, [.mk kc loc hic sc yc mc xc gsc]) ∧ Hr.okP (fun b => P b ∨ Wr.heap.size ≤ b) n wb ⟨.mk kc loc hic sc yc mc xc gsc, fC, flC, fcC⟩ from by first | exact HOK1.out rfl | exact HOK1.out trivial)
            have HQ5 : Hid (comT (meetV n) A[k] B[j] = (0, [.mk kc loc hic sc yc mc xc gsc])) := Lib.hid (by rw [HQ.out]; exact HP1.out.1)
            obtain ⟨gz, ⟨g0, g1, g2, g3, g4, g5, g6, g7⟩, gf⟩ := XC.out
            obtain ⟨gg, cap, w6, hap, hown, hgrow, hat⟩ := (hI2.out.own.below KR.out).grow (by have := HLB.out; omega) (Nat.le_trans hI2.out.old.size KR.out.size) (⟨.mk kc loc hic sc yc mc xc gsc, fC, flC, fcC⟩ : Hr)
            have HAP := Lib.hid hap
            have HMI : Hid (MInv P n X w6 (.slice (some ⟨gg, 0, none⟩) (L2.length + 1) cap) (L2 ++ [⟨.mk kc loc hic sc yc mc xc gsc, fC, flC, fcC⟩]) ((prs (A.take k) B ++ (B.take j).map fun b => (A[k], b)) ++ [(A[k], B[j])])) := Lib.hid (MInv.add HXB.out.old HP.out ((hI2.out.below KR.out).below (bl_alloc (Below.refl _ _))) (by rw [HQ5.out]) (HP1.out.2.to (by rw [new_size, HSQ.out]; omega) (fun b hp lt => ⟨hp.imp id fun h => ⟨by have h1 := HRG.out.1; have h2 := hI2.out.old.size; omega, fun e => by have h1 := (hI2.out.own.lt _ e).2; have h2 := HRG.out.1; omega⟩, ((bl_alloc (o := _) (Below.refl Wq.heap.size Wq)).block b (by rw [HSQ.out]; exact lt)).trans (HW1.out b (by rintro rfl; rcases hp with hp | hp; (have h1 := HP.out _ hp; have h2 := HBW.out.size; have h3 := HGC.out; omega); (have h1 := HRG.out.2; omega)))⟩)) (by rw [new_size]) hown hgrow hat)
            simp only [Hr.enc, Tm.k, Tm.lo, Tm.hi, Tm.s, Tm.y, Tm.m, Tm.o] at HAP
            clear hap hown hgrow hat
            go_wp2_with (at_builtin; refine Lib.wpList_append_run _ rfl _ _ _ _ rfl _ _ rfl rfl _ _ HAP.out ?_)
            go_roundw
            case rel => exact ⟨j + 1, _, by omega, by go_num, by rw [HTK.out, ← List.append_assoc]; exact HMI⟩
            case measure => simp [intOf]; omega
         ·have HQe : Hid (q = match scM (.mk ka loa hia sa ya ma xa fa) (.mk kb lob hib sb yb mb xb fb) with | none => (0, []) | some c => (0, [c.tm])) := Lib.hid (by rw [← HQ2.out]; unfold comT; rw [if_neg (by exact HN5a.out), if_neg (by exact HN5b.out), if_neg (by exact k44)]; rfl)
          obtain ⟨rsc, hrs⟩ : ∃ r, scM (.mk ka loa hia sa ya ma xa fa) (.mk kb lob hib sb yb mb xb fb) = r := ⟨_, rfl⟩
          rw [hrs] at HQe HRM
          clear hrs HBO HQ2 HErr
          by_cases k4 : ka = 4
          ·subst k4
           have n4 : (kb == 4) = false := by
            have h : kb ≠ 4 := fun e => k44 ⟨rfl, e⟩
            simpa using h
           clear k44
           cases rsc with
           | none =>
            have HRN : Hid (∀ W, Calls Tryz.prog 86 _ W fun e w' => e = .returned (.tuple #[zv, .bool false]) ∧ Below W.heap.size W w') := Lib.hid fun W => HRM.out W
            have HQ5 : Hid (comT (meetV n) A[k] B[j] = (0, [])) := Lib.hid (by rw [HQ.out, HQe.out])
            clear HRM HQe
            go_upto_region 19 with (go_at_call 86; refine (HRN.out _).mono ?_; rintro e wb ⟨rfl, hb⟩; replace XC := Lib.hid (XC.out.later hb); replace KR := Lib.hid (bl_step KR.out hb); clear hb cz c0 c1 c2 c3 c4 c5 c6 c7 cf; obtain ⟨cz, ⟨c0, c1, c2, c3, c4, c5, c6, c7⟩, cf⟩ := XC.out)
            obtain ⟨Wq, hWq⟩ : ∃ Wq, ((((((((wb.setCell ⟨gC, 0, none⟩ (.int .i64 0)).setCell ⟨gC, 1, none⟩ (.int .i64 0)).setCell ⟨gC, 2, none⟩ (.int .i64 0)).setCell ⟨gC, 3, none⟩ (.string ⟨#[]⟩)).setCell ⟨gC, 4, none⟩ (.bool false)).setCell ⟨gC, 5, none⟩ (.bool false)).setCell ⟨gC, 6, none⟩ (.bool false)).setCell ⟨gC, 7, none⟩ (.slice none 0 0)) = Wq := ⟨_, rfl⟩
            replace KR : Hid (Below wi.heap.size wi Wq) := by rw [← hWq]; exact Lib.hid (bl_set8 KR.out HGC.out)
            replace XC : Hid (Bo Wq gC 0 0 0 ⟨#[]⟩ false false false none 0 0) := by rw [← hWq]; exact Lib.hid (XC.out.set8 0 0 0 ⟨#[]⟩ false false false none 0 0)
            rw [hWq]
            clear hWq
            clear az a0 a1 a2 a3 a4 a5 a6 a7 af bz b0 b1' b2' b3 b4 b5 b6 b7 bf cz c0 c1 c2 c3 c4 c5 c6 c7 cf
            go_wp2_with fail
            go_roundw
            case rel => exact ⟨j + 1, L2, by omega, by go_num, by rw [HTK.out, ← List.append_assoc]; exact Lib.hid ((hI2.out.below KR.out).skip HQ5.out)⟩
            case measure => simp [intOf]; omega
           | some c =>
            obtain ⟨kc, loc, hic, sc, yc, mc⟩ := c
            have HRN : Hid (∀ W, Calls Tryz.prog 86 _ W fun e w' => e = .returned (.tuple #[tv kc loc hic sc yc mc false f1 0 fc1, .bool true]) ∧ Below W.heap.size W w') := Lib.hid fun W => HRM.out W
            have HQ5 : Hid (comT (meetV n) A[k] B[j] = (0, [.mk kc loc hic sc yc mc false []])) := Lib.hid (by rw [HQ.out, HQe.out]; rfl)
            clear HRM HQe
            go_upto_region 19 with (go_at_call 86; refine (HRN.out _).mono ?_; rintro e wb ⟨rfl, hb⟩; replace XC := Lib.hid (XC.out.later hb); replace KR := Lib.hid (bl_step KR.out hb); clear hb cz c0 c1 c2 c3 c4 c5 c6 c7 cf; obtain ⟨cz, ⟨c0, c1, c2, c3, c4, c5, c6, c7⟩, cf⟩ := XC.out)
            obtain ⟨Wq, hWq⟩ : ∃ Wq, ((((((((wb.setCell ⟨gC, 0, none⟩ (.int .i64 kc)).setCell ⟨gC, 1, none⟩ (.int .i64 loc)).setCell ⟨gC, 2, none⟩ (.int .i64 hic)).setCell ⟨gC, 3, none⟩ (.string sc)).setCell ⟨gC, 4, none⟩ (.bool yc)).setCell ⟨gC, 5, none⟩ (.bool mc)).setCell ⟨gC, 6, none⟩ (.bool false)).setCell ⟨gC, 7, none⟩ (.slice f1 0 fc1)) = Wq := ⟨_, rfl⟩
            replace KR : Hid (Below wi.heap.size wi Wq) := by rw [← hWq]; exact Lib.hid (bl_set8 KR.out HGC.out)
            replace XC : Hid (Bo Wq gC kc loc hic sc yc mc false f1 0 fc1) := by rw [← hWq]; exact Lib.hid (XC.out.set8 kc loc hic sc yc mc false f1 0 fc1)
            rw [hWq]
            clear hWq
            clear az a0 a1 a2 a3 a4 a5 a6 a7 af bz b0 b1' b2' b3 b4 b5 b6 b7 bf cz c0 c1 c2 c3 c4 c5 c6 c7 cf
            obtain ⟨gz, ⟨g0, g1, g2, g3, g4, g5, g6, g7⟩, gf⟩ := XC.out
            obtain ⟨gg, cap, w6, hap, hown, hgrow, hat⟩ := (hI2.out.own.below KR.out).grow (by have := HLB.out; omega) (Nat.le_trans hI2.out.old.size KR.out.size) (⟨.mk kc loc hic sc yc mc false [], f1, 0, fc1⟩ : Hr)
            have HAP := Lib.hid hap
            have HMI : Hid (MInv P n X w6 (.slice (some ⟨gg, 0, none⟩) (L2.length + 1) cap) (L2 ++ [⟨.mk kc loc hic sc yc mc false [], f1, 0, fc1⟩]) ((prs (A.take k) B ++ (B.take j).map fun b => (A[k], b)) ++ [(A[k], B[j])])) := Lib.hid (MInv.add HXB.out.old HP.out ((hI2.out.below KR.out).below (bl_alloc (Below.refl _ _))) (by rw [HQ5.out]) (⟨rfl, (show ((0 : Nat) : Int) ≤ 9223372036854775807 by decide), fun i h => absurd h (Nat.not_lt_zero _)⟩) (by rw [new_size]) hown hgrow hat)
            simp only [Hr.enc, Tm.k, Tm.lo, Tm.hi, Tm.s, Tm.y, Tm.m, Tm.o] at HAP
            clear hap hown hgrow hat
            go_wp2_with (at_builtin; refine Lib.wpList_append_run _ rfl _ _ _ _ rfl _ _ rfl rfl _ _ HAP.out ?_)
            go_roundw
            case rel => exact ⟨j + 1, _, by omega, by go_num, by rw [HTK.out, ← List.append_assoc]; exact HMI⟩
            case measure => simp [intOf]; omega
          ·have n4 : (ka == 4) = false := by simpa using k4
           clear k44 k4
           cases rsc with
           | none =>
            have HRN : Hid (∀ W, Calls Tryz.prog 86 _ W fun e w' => e = .returned (.tuple #[zv, .bool false]) ∧ Below W.heap.size W w') := Lib.hid fun W => HRM.out W
            have HQ5 : Hid (comT (meetV n) A[k] B[j] = (0, [])) := Lib.hid (by rw [HQ.out, HQe.out])
            clear HRM HQe
            go_upto_region 19 with (go_at_call 86; refine (HRN.out _).mono ?_; rintro e wb ⟨rfl, hb⟩; replace XC := Lib.hid (XC.out.later hb); replace KR := Lib.hid (bl_step KR.out hb); clear hb cz c0 c1 c2 c3 c4 c5 c6 c7 cf; obtain ⟨cz, ⟨c0, c1, c2, c3, c4, c5, c6, c7⟩, cf⟩ := XC.out)
            obtain ⟨Wq, hWq⟩ : ∃ Wq, ((((((((wb.setCell ⟨gC, 0, none⟩ (.int .i64 0)).setCell ⟨gC, 1, none⟩ (.int .i64 0)).setCell ⟨gC, 2, none⟩ (.int .i64 0)).setCell ⟨gC, 3, none⟩ (.string ⟨#[]⟩)).setCell ⟨gC, 4, none⟩ (.bool false)).setCell ⟨gC, 5, none⟩ (.bool false)).setCell ⟨gC, 6, none⟩ (.bool false)).setCell ⟨gC, 7, none⟩ (.slice none 0 0)) = Wq := ⟨_, rfl⟩
            replace KR : Hid (Below wi.heap.size wi Wq) := by rw [← hWq]; exact Lib.hid (bl_set8 KR.out HGC.out)
            replace XC : Hid (Bo Wq gC 0 0 0 ⟨#[]⟩ false false false none 0 0) := by rw [← hWq]; exact Lib.hid (XC.out.set8 0 0 0 ⟨#[]⟩ false false false none 0 0)
            rw [hWq]
            clear hWq
            clear az a0 a1 a2 a3 a4 a5 a6 a7 af bz b0 b1' b2' b3 b4 b5 b6 b7 bf cz c0 c1 c2 c3 c4 c5 c6 c7 cf
            go_wp2_with fail
            go_roundw
            case rel => exact ⟨j + 1, L2, by omega, by go_num, by rw [HTK.out, ← List.append_assoc]; exact Lib.hid ((hI2.out.below KR.out).skip HQ5.out)⟩
            case measure => simp [intOf]; omega
           | some c =>
            obtain ⟨kc, loc, hic, sc, yc, mc⟩ := c
            have HRN : Hid (∀ W, Calls Tryz.prog 86 _ W fun e w' => e = .returned (.tuple #[tv kc loc hic sc yc mc false f1 0 fc1, .bool true]) ∧ Below W.heap.size W w') := Lib.hid fun W => HRM.out W
            have HQ5 : Hid (comT (meetV n) A[k] B[j] = (0, [.mk kc loc hic sc yc mc false []])) := Lib.hid (by rw [HQ.out, HQe.out]; rfl)
            clear HRM HQe
            go_upto_region 19 with (go_at_call 86; refine (HRN.out _).mono ?_; rintro e wb ⟨rfl, hb⟩; replace XC := Lib.hid (XC.out.later hb); replace KR := Lib.hid (bl_step KR.out hb); clear hb cz c0 c1 c2 c3 c4 c5 c6 c7 cf; obtain ⟨cz, ⟨c0, c1, c2, c3, c4, c5, c6, c7⟩, cf⟩ := XC.out)
            obtain ⟨Wq, hWq⟩ : ∃ Wq, ((((((((wb.setCell ⟨gC, 0, none⟩ (.int .i64 kc)).setCell ⟨gC, 1, none⟩ (.int .i64 loc)).setCell ⟨gC, 2, none⟩ (.int .i64 hic)).setCell ⟨gC, 3, none⟩ (.string sc)).setCell ⟨gC, 4, none⟩ (.bool yc)).setCell ⟨gC, 5, none⟩ (.bool mc)).setCell ⟨gC, 6, none⟩ (.bool false)).setCell ⟨gC, 7, none⟩ (.slice f1 0 fc1)) = Wq := ⟨_, rfl⟩
            replace KR : Hid (Below wi.heap.size wi Wq) := by rw [← hWq]; exact Lib.hid (bl_set8 KR.out HGC.out)
            replace XC : Hid (Bo Wq gC kc loc hic sc yc mc false f1 0 fc1) := by rw [← hWq]; exact Lib.hid (XC.out.set8 kc loc hic sc yc mc false f1 0 fc1)
            rw [hWq]
            clear hWq
            clear az a0 a1 a2 a3 a4 a5 a6 a7 af bz b0 b1' b2' b3 b4 b5 b6 b7 bf cz c0 c1 c2 c3 c4 c5 c6 c7 cf
            obtain ⟨gz, ⟨g0, g1, g2, g3, g4, g5, g6, g7⟩, gf⟩ := XC.out
            obtain ⟨gg, cap, w6, hap, hown, hgrow, hat⟩ := (hI2.out.own.below KR.out).grow (by have := HLB.out; omega) (Nat.le_trans hI2.out.old.size KR.out.size) (⟨.mk kc loc hic sc yc mc false [], f1, 0, fc1⟩ : Hr)
            have HAP := Lib.hid hap
            have HMI : Hid (MInv P n X w6 (.slice (some ⟨gg, 0, none⟩) (L2.length + 1) cap) (L2 ++ [⟨.mk kc loc hic sc yc mc false [], f1, 0, fc1⟩]) ((prs (A.take k) B ++ (B.take j).map fun b => (A[k], b)) ++ [(A[k], B[j])])) := Lib.hid (MInv.add HXB.out.old HP.out ((hI2.out.below KR.out).below (bl_alloc (Below.refl _ _))) (by rw [HQ5.out]) (⟨rfl, (show ((0 : Nat) : Int) ≤ 9223372036854775807 by decide), fun i h => absurd h (Nat.not_lt_zero _)⟩) (by rw [new_size]) hown hgrow hat)
            simp only [Hr.enc, Tm.k, Tm.lo, Tm.hi, Tm.s, Tm.y, Tm.m, Tm.o] at HAP
            clear hap hown hgrow hat
            go_wp2_with (at_builtin; refine Lib.wpList_append_run _ rfl _ _ _ _ rfl _ _ rfl rfl _ _ HAP.out ?_)
            go_roundw
            case rel => exact ⟨j + 1, _, by omega, by go_num, by rw [HTK.out, ← List.append_assoc]; exact HMI⟩
            case measure => simp [intOf]; omega
     ·have ej : j = B.length := by omega
      subst ej
      have HTE : Hid (prs (A.take k) B ++ ((B.take B.length).map fun b => (A[k], b)) = prs (A.take (k + 1)) B) := by
       rw [List.take_length, prs_succ hlt]; rfl
      go_wp2_with fail
      go_roundw
      case rel => exact ⟨k + 1, L2, by omega, by go_num, by rw [← HTE.out]; exact hI2⟩
      case measure => simp [intOf]; omega
   ·have ek : k = A.length := by omega
    subst ek
    have hD : (prs (A.take A.length) B) = prs A B := by rw [List.take_length]
    rw [hD] at hI
    obtain ⟨ua, uc, rfl, hrow⟩ := hI.out.own.row
    have hGt : ∀ x ∈ (L.map fun h : Hr => h.x), Gt n l x ∧ wF n x.fs ≤ 16384 := fun x hx => by
     rw [hI.out.res] at hx
     obtain ⟨p, hp, hx⟩ := List.mem_flatMap.1 hx
     obtain ⟨h1, h2⟩ := mem_prs.1 hp
     have ga := HGA.out.1 _ h1
     have gb := HGB.out.1 _ h2
     exact ⟨((comT_ok HG.out ga gb).2 (hI.out.fine p hp)).1 x hx, comT_w ga gb (by have h3 := wN_mem (n := n) h1; have := HGA.out.2; omega) (by have h3 := wN_mem (n := n) h2; have := HGB.out.2; omega) x hx⟩
    have hlen : L.length ≤ 512 := by
     have h1 := hI.out.len
     have h2 : (prs A B).length = A.length * B.length := by
      have : ∀ T : List Tm, (prs T B).length = T.length * B.length := fun T => by
       induction T with
       | nil => simp [prs]
       | cons a T ih => unfold prs at *; rw [List.flatMap_cons, List.length_append, ih, List.length_map, List.length_cons, Nat.add_mul]; omega
      exact this A
     have h3 := HBG.out
     omega
    have hwt := sum_wt (fun x hx => (hGt x hx).2)
    rw [List.length_map] at hwt
    have HMN : Hid (mv = nrm n (L.map fun h : Hr => h.x)) := by
     rw [← HMV.out, meetV_fine HBG.out hI.out.fine, hI.out.res]; rfl
    have HBW : Hid (Below w.heap.size w wr) := bl_step HXB.out.old hI.out.old
    have HBX : Hid (Below X.heap.size X wr) := hI.out.old
    have hPv : InVP (fun b => P b ∨ (w.heap.size + 3 ≤ b ∧ b < wr.heap.size)) wr (n + 1) ua L.length uc (L.map fun h : Hr => h.x) := by
     have h0 := hI.out.own.inVP (P := fun b => P b ∨ X.heap.size ≤ b) (n := n) (by omega) (fun b hb => .inr hb) (fun h hh => (hI.out.ok h hh).to (Nat.le_refl _) fun b hb _ => ⟨hb.imp id fun h => h.1, rfl⟩)
     exact h0.imp fun b hb lt => hb.imp id fun h => ⟨by have := HXB.out.size; omega, lt⟩
    have HNO : Hid (Calls Tryz.prog 47 #[.slice ua L.length uc] wr (MeP (fun b => P b ∨ (w.heap.size + 3 ≤ b ∧ b < wr.heap.size)) (n + 1) (nrm n (L.map fun h : Hr => h.x)) wr)) := Lib.hid (normP_any _ n wr (fun b hb => by
     rcases hb with hb | hb
     ·exact Nat.lt_of_lt_of_le (HP.out b hb) HBW.out.size
     ·exact hb.2) ua L.length uc _ hPv (by rw [List.length_map]; omega) (by omega))
    clear hD hrow hGt hlen hwt hPv y1 hI
    rw [← HMN.out] at HNO
    obtain ⟨me, mL⟩ := mv
    go_wp2_with (go_at_call 47; refine HNO.out.mono ?_; rintro e w7 ⟨t3, tl3, tc3, rfl, hB7, hv7⟩; obtain ⟨rz, rc, rf⟩ := HXB.out.br.later (bl_step HBX.out hB7); have HB7 := Lib.hid hB7; have HV7 := Lib.hid hv7; clear hB7 hv7)
    have hset := set_here (v := .slice t3 tl3 tc3) rc
    refine bodyPost_ret (v := .tuple #[.agg #[.slice t3 tl3 tc3], .int .i64 me]) (by simp [results, Tryz.results54, go_sem, hset]) rfl ⟨t3, tl3, tc3, rfl, bl_set (bl_step HBW.out HB7.out) (by show w.heap.size ≤ w.heap.size + 1 + 1; omega), ?_⟩
    refine HV7.out.to (Nat.le_of_eq set_size.symm) fun b hb lt => ?_
    have h1 := HBW.out.size
    have h2 := HXB.out.size
    have h3 := HBX.out.size
    refine ⟨?_, set_heap ?_⟩
    ·rcases hb with (hb | hb) | hb
     ·exact .inl hb
     ·exact .inr (by omega)
     ·exact .inr (by omega)
    ·rcases hb with (hb | hb) | hb
     ·have := HP.out b hb; omega
     ·omega
     ·omega
/-- The reference's In, whole. -/
theorem rin_in : ∀ n : Nat, RiH n
 | 0 => fun _ _ _ _ _ _ _ _ _ _ _ h _ _ _ => h.elim
 | n + 1 => rin_step n (rin_in n)
end Go.Proofs.YtddleeenlpigfaaGreatDoor
