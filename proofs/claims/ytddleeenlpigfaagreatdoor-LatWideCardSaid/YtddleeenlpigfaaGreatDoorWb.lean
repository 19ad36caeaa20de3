/- WALK of lat.Of. -/
import Derived.Test.YtddleeenlpigfaaGreatDoorWa
import Derived.Test.YtddleeenlpigfaaGreatDoorUb
namespace Go.Proofs.YtddleeenlpigfaaGreatDoor.Lw
open Go.RowKit
theorem rtb_gr {n : Nat} {x : Tm} (h : Gr1 n x) : RTb (fun i => rgV n (fAt x.fs i).2) x := by
  have hr : RT (RG n) x := h
  by_cases h5 : x.k = 5
  · rw [rtb_k5 h5]; unfold RT at hr; rw [if_pos h5] at hr; exact hr
  · by_cases h4 : x.k = 4
    · rw [rtb_k4 h4]
      unfold RT at hr
      rw [if_neg h5, if_pos h4] at hr
      obtain ⟨a, b, c, d, e, ⟨f1, f2, f3⟩, g⟩ := hr
      exact ⟨a, b, c, d, e, ⟨f1, f2, fun i hi => by rw [rgV_yes, fAt_eq hi]; exact f3 _ (List.getElem_mem hi)⟩, g⟩
    · rw [rtb_ks h5 h4]; exact hr.scalar h4 h5
theorem gr_rtb {n : Nat} {x : Tm} (h : RTb (fun i => rgV n (fAt x.fs i).2) x) : Gr1 n x := by
  show RT (RG n) x
  unfold RT
  by_cases h5 : x.k = 5
  · rw [if_pos h5]; exact (rtb_k5 h5).1 h
  · rw [if_neg h5]
    by_cases h4 : x.k = 4
    · rw [if_pos h4]
      obtain ⟨a, b, c, d, e, f, g⟩ := (rtb_k4 h4).1 h
      exact ⟨a, b, c, d, e, rfb_rf f, g⟩
    · rw [if_neg h4]; exact (rtb_ks h5 h4).1 h
theorem term_is (n : Nat) (w0 w : World) (x : Tm) (f : Option Addr) (fl fc : Nat) (hF : InF (fun t tl tc V => InV w0 n t tl tc V) w0 f fl x.fs) (hw : Below w0.heap.size w0 w) (hE : Nm.Env w0) (hn : ∀ y ∈ x.fs, y.1.size ≤ 140737488355328 ∧ NmV n y.2) :
    Calls Tryz.prog 45 #[tv x.k x.lo x.hi x.s x.y x.m x.o f fl fc, .func (.func 18) #[] #[]] w (LackP (gtB n x) w) := by
  refine (rightTerm_any (w.heap.size + 2) (fun t tl tc V => InV w0 n t tl tc V) (fun t tl tc V h => by cases n with | zero => exact h.elim | succ n => exact h.1) 18 #[] enters18 (fun _ W => Below w0.heap.size w0 W) (fun i => rgV n (fAt x.fs i).2) w0 x f fl fc hF (fun y hy => (hn y hy).1) hE (fun _ _ h => h) (fun _ _ _ h hb => bl_step h hb) (fun i W hi t tl tc hJ hV => ?_) w hw (.inr (Nat.le_refl _))).mono ?_
  · have h := lright_in n W t tl tc x.fs[i].2 ⟨InV.below hJ hV, (hn _ (List.getElem_mem hi)).2, hE.below hJ⟩
    refine h.mono fun e W' ⟨a, b⟩ => ⟨?_, Kp.of b, fun _ => bl_step hJ b⟩
    show e = .returned (.bool (rgV n (fAt x.fs i).2))
    rw [fAt_eq hi]; exact a
  · rintro e w' ⟨q, rfl, hk, h1, h0⟩
    refine ⟨?_, ⟨hk.os, hk.tape, hk.output, hk.size, fun k hk' => hk.block k hk' (by omega)⟩⟩
    cases q
    · rw [gtB_no.2 (fun h => h0 rfl (rtb_gr h))]
    · rw [gtB_yes.2 (gr_rtb (h1 rfl).1)]
/-- What Of tells. -/
noncomputable def ofV (n : Nat) (A : List Tm) : Int × List Tm := if 512 < A.length then (1, []) else if A.all (gtB n) = true then madeV n A else (1, [])
theorem all_gt {n : Nat} {A : List Tm} (h : A.all (gtB n) = true) : ∀ x ∈ A, Gr1 n x := fun x hx => gtB_yes.1 (List.all_eq_true.1 h x hx)
/-- The first k are right. -/
def GtI (n : Nat) (A : List Tm) (k : Nat) : Prop := ∀ j (h : j < A.length), j < k → gtB n A[j] = true
theorem gtI_all {n : Nat} {A : List Tm} (h : GtI n A A.length) : A.all (gtB n) = true := List.all_eq_true.2 fun x hx => by
  obtain ⟨i, hi, rfl⟩ := List.getElem_of_mem hx
  exact h i hi hi
theorem gtI_no {n : Nat} {A : List Tm} {k : Nat} (hk : k < A.length) (h : gtB n A[k] = false) : ¬ A.all (gtB n) = true := fun e => by
  have := List.all_eq_true.1 e _ (List.getElem_mem hk)
  rw [h] at this; exact absurd this (by decide)
theorem gtI_step {n : Nat} {A : List Tm} {k : Nat} (h : GtI n A k) {hk : k < A.length} (e : gtB n A[k] = true) : GtI n A (k + 1) := fun j hj hjk => by
  by_cases e1 : j = k
  · subst e1; exact e
  · exact h j hj (by omega)
/-- A result's box. -/
structure Rz (w X : World) : Prop where
  b : Below w.heap.size w X
  r : Rx X w.heap.size
  q : Bb' X w.heap.size none 0 0
theorem Rz.new (w : World) : Rz w (w.alloc (.cells #[.slice none 0 0] 24)) := ⟨bl_alloc (Below.refl _ _), ⟨by simp, by simp [go_sem], by simp [go_sem]⟩, Bb'.new w none 0 0⟩
theorem Rz.later {w X Y : World} (h : Rz w X) (hb : Below X.heap.size X Y) : Rz w Y := ⟨bl_step h.b hb, h.r.later hb, h.q.later hb⟩
set_option maxRecDepth 100000 in
set_option maxHeartbeats 8000000 in
theorem of_any (n : Nat) (w : World) (t : Option Addr) (tl tc : Nat) (A : List Tm) (h : Vin w (n + 1) t tl tc A) : Calls Tryz.prog 21 #[.slice t tl tc] w (LmP (n + 1) (ofV n A) w) := by
  obtain rfl : A.length = tl := h.v.1
  have HT : Hid (∀ (x : Tm) (hx : x ∈ A) (f : Option Addr) (fl fc : Nat) (W : World), InF (fun t tl tc V => InV w n t tl tc V) w f fl x.fs → Below w.heap.size w W → Calls Tryz.prog 45 #[tv x.k x.lo x.hi x.s x.y x.m x.o f fl fc, .func (.func 18) #[] #[]] W (LackP (gtB n x) W)) :=
    fun x hx f fl fc W hF hW => term_is n w W x f fl fc hF hW h.env (fun y hy => h.nm x hx y hy)
  have HMD : Hid (A.length ≤ 512 → A.all (gtB n) = true → ∀ W, Below w.heap.size w W → Calls Tryz.prog 46 #[.slice t A.length tc] W (LmP (n + 1) (ofV n A) W)) := Lib.hid fun hl ha W hW => by
    unfold ofV
    rw [if_neg (by omega), if_pos ha]
    exact made_any n W t A.length tc A (InV.below hW h.v) (all_gt ha) hl
  have HL : Hid (512 < A.length → ofV n A = (1, [])) := Lib.hid fun hl => if_pos hl
  have HNO : Hid (A.length ≤ 512 → ¬ A.all (gtB n) = true → ofV n A = (1, [])) := Lib.hid fun hl ha => by unfold ofV; rw [if_neg (by omega), if_neg ha]
  have H1 := Lib.hid h.v.2.2
  have hm := h.v.2.1
  clear h
  have HX0 := Lib.hid (Rz.new w)
  go_enter Tryz.func21, Tryz.ntmps21
  by_cases hl : (512 : Int) < (A.length : Int)
  · obtain ⟨r1, r2, r3⟩ := HX0.out.r
    go_wp2_with (go_at_call 15; refine (none_any _).mono ?_; rintro e w5 ⟨rfl, hb⟩; have HR := Lib.hid (HX0.out.later hb); obtain ⟨q1, q2, q3⟩ := HR.out.r; clear hb)
    have hset := set_here (v := .slice none 0 0) q2
    refine bodyPost_ret (v := .tuple #[.agg #[.slice none 0 0], .int .i64 1]) (by simp [results, Tryz.results21, go_sem, hset]) rfl ?_
    rw [HL.out (by omega)]
    exact ⟨none, 0, 0, rfl, bl_set HR.out.b (Nat.le_refl _), inV_nil⟩
  have HLE : Hid (A.length ≤ 512) := Lib.hid (by omega)
  go_wp2_with fail
  go_loopw [12] (fun i wr => ∃ k : Nat, k ≤ A.length ∧ i = .int .i64 k ∧ Hid (Rz w wr) ∧ Hid (GtI n A k)) (fun i _ => A.length - (intOf i).toNat)
  case atStart => exact ⟨0, Nat.zero_le _, rfl, HX0, Lib.hid fun j _ hj => absurd hj (Nat.not_lt_zero _)⟩
  case round =>
    obtain ⟨k, hk, rfl, hR, hG⟩ := hrel
    rename World => wr
    by_cases hlt : k < A.length
    · have hki : (k : Int) < (A.length : Int) := by omega
      have hk0 : (0 : Int) ≤ (k : Int) := by omega
      obtain ⟨b2, off2, rfl, i2⟩ := H1.out k hlt
      obtain ⟨lt2, f, fl, fc, d0, d1, d2, d3, d4, d5, d6, d7, hF⟩ := i2.cells
      have hb := hR.out.b
      replace d0 := (hb.cell (p := ⟨b2, off2 + k * 8, none⟩) lt2).trans d0
      replace d1 := (hb.cell (p := ⟨b2, off2 + k * 8 + 1, none⟩) lt2).trans d1
      replace d2 := (hb.cell (p := ⟨b2, off2 + k * 8 + 2, none⟩) lt2).trans d2
      replace d3 := (hb.cell (p := ⟨b2, off2 + k * 8 + 3, none⟩) lt2).trans d3
      replace d4 := (hb.cell (p := ⟨b2, off2 + k * 8 + 4, none⟩) lt2).trans d4
      replace d5 := (hb.cell (p := ⟨b2, off2 + k * 8 + 5, none⟩) lt2).trans d5
      replace d6 := (hb.cell (p := ⟨b2, off2 + k * 8 + 6, none⟩) lt2).trans d6
      replace d7 := (hb.cell (p := ⟨b2, off2 + k * 8 + 7, none⟩) lt2).trans d7
      obtain ⟨q, hq⟩ : ∃ q, gtB n A[k] = q := ⟨_, rfl⟩
      have HC : Hid (∀ W, Below w.heap.size w W → Calls Tryz.prog 45 #[tv A[k].k A[k].lo A[k].hi A[k].s A[k].y A[k].m A[k].o f fl fc, .func (.func 18) #[] #[]] W (LackP q W)) := Lib.hid fun W hW => by rw [← hq]; exact HT.out A[k] (List.getElem_mem hlt) f fl fc W hF hW
      have HGS : Hid (q = true → GtI n A (k + 1)) := Lib.hid fun e => gtI_step hG.out (hq.trans e)
      have HGN : Hid (q = false → ofV n A = (1, [])) := Lib.hid fun e => HNO.out HLE.out (gtI_no hlt (hq.trans e))
      clear hF i2 hb lt2 hq
      cases q
      · go_wp2_with (first
          | (go_at_call 45; refine (HC.out _ (bl_alloc hR.out.b)).mono ?_; rintro e w1 ⟨rfl, hb1⟩; have HB1 := Lib.hid (hR.out.later (bl_step (bl_alloc (Below.refl _ _)) hb1)); clear hb1)
          | (go_at_call 15; refine (none_any _).mono ?_; rintro e w5 ⟨rfl, hb⟩; have HR := Lib.hid (HB1.out.later hb); obtain ⟨q1, q2, q3⟩ := HR.out.r; clear hb))
        have hset := set_here (v := .slice none 0 0) q2
        refine bodyPost_ret (v := .tuple #[.agg #[.slice none 0 0], .int .i64 1]) (by simp [results, Tryz.results21, go_sem, hset]) rfl ?_
        rw [show ofV n A = (1, []) from by first | exact HGN.out rfl | exact HGN.out trivial]
        exact ⟨none, 0, 0, rfl, bl_set HR.out.b (Nat.le_refl _), inV_nil⟩
      · go_wp2_with (go_at_call 45; refine (HC.out _ (bl_alloc hR.out.b)).mono ?_; rintro e w1 ⟨rfl, hb1⟩; have HB1 := Lib.hid (hR.out.later (bl_step (bl_alloc (Below.refl _ _)) hb1)); clear hb1)
        go_roundw
        case rel => exact ⟨k + 1, by omega, by go_num, HB1, Lib.hid (by first | exact HGS.out rfl | exact HGS.out trivial)⟩
        case measure => simp [intOf]; omega
    · have hkl : k = A.length := by omega
      subst hkl
      have HM := Lib.hid (HMD.out HLE.out (gtI_all hG.out))
      obtain ⟨⟨er, M⟩, hr⟩ : ∃ r, ofV n A = r := ⟨_, rfl⟩
      have HRR := Lib.hid hr
      rw [hr] at HM
      clear hr HL HNO
      go_wp2_with (go_at_call 46; refine (HM.out _ hR.out.b).mono ?_; rintro e w1 ⟨t1, tl1, tc1, rfl, hb1, hI⟩; have HR := Lib.hid (hR.out.later hb1); have HI := Lib.hid hI; obtain ⟨q1, q2, q3⟩ := HR.out.r; clear hb1 hI)
      have hset := set_here (v := .slice t1 tl1 tc1) q2
      refine bodyPost_ret (v := .tuple #[.agg #[.slice t1 tl1 tc1], .int .i64 er]) (by simp [results, Tryz.results21, go_sem, hset]) rfl ?_
      rw [HRR.out]
      exact ⟨t1, tl1, tc1, rfl, bl_set HR.out.b (Nat.le_refl _), InV.set HR.out.q _ HI.out⟩
theorem ofV_iv {s d k : Nat} (hsd : d < s) (hs : s ≤ 10) (hk : k ≤ 512) : ofV 0 (iv s d k) = (0, iv s d k) := by
  unfold ofV
  rw [if_neg (by rw [iv_len]; omega), if_pos (List.all_eq_true.2 fun x hx => gtB_yes.2 (iv_gr hs (by omega) (by omega) x hx))]
  exact iv_made hsd hs hk
theorem ofV_long {s d k : Nat} (hk : 512 < k) : ofV 0 (iv s d k) = (1, []) := if_pos (by rw [iv_len]; exact hk)
end Go.Proofs.YtddleeenlpigfaaGreatDoor.Lw
