/- Be -/
import Derived.Test.YtddleeenlpigfaaGreatDoorY26
/- WALK of within: terms, and fields in them. -/
namespace Go.Proofs.YtddleeenlpigfaaGreatDoor
open Go.RowKit
/-- within, so many levels left. -/
def WiH (n l : Nat) : Prop := ∀ (w0 : World) (P : Nat) (r : Int) (t : Option Addr) (tl tc : Nat) (A : List Tm) (W : World), WiA w0 n P r t tl tc A W → Calls Tryz.prog 43 #[.agg #[.slice t tl tc], .int .i64 (l : Int), .pointer (some ⟨P, 0, none⟩)] W (WiP P n l r A W)
set_option maxRecDepth 100000 in
set_option maxHeartbeats 2000000 in
/-- The closure that asks of a field's value. -/
theorem inner_one (n l P N : Nat) (r : Int) (w0 : World) (t : Option Addr) (tl tc : Nat) (V : List Tm) (W : World) (ih : WiH n l) (h : WiA w0 n P r t tl tc V W) (m : Nat) (hm : m = l + 1) (hl : Cx W (N + 1) 0 (.int .i64 (m : Int))) (hr : Cx W (N + 1 + 1) 0 (.pointer (some ⟨P, 0, none⟩))) (hl16 : l ≤ 16) :
    Calls Tryz.prog 71 #[.agg #[.slice t tl tc], .pointer (some ⟨N + 1, 0, none⟩), .pointer (some ⟨N + 1 + 1, 0, none⟩)] W (WiP P n l r V W) := by
  have em : (m : Int) - 1 = l := by omega
  have HI : Hid (∀ W', Below W.heap.size W W' → Calls Tryz.prog 43 #[.agg #[.slice t tl tc], .int .i64 ((m : Int) - 1), .pointer (some ⟨P, 0, none⟩)] W' (WiP P n l r V W')) := fun W' hW => em ▸ ih w0 P r t tl tc V W' ⟨h.v, h.nm, h.env, bl_step h.old hW, h.pos, h.room.later hW, h.lo, h.hi⟩
  obtain ⟨l1, c1, -⟩ := hl
  obtain ⟨l2, c2, -⟩ := hr
  have hl0 : (1 : Int) ≤ (m : Int) := by omega
  have hl1 : (m : Int) ≤ 17 := by omega
  clear ih h em hm
  go_enter Tryz.func71, Tryz.ntmps71
  go_wp2_with (go_at_call 43; refine (HI.out _ (bl_alloc (Below.refl _ _))).mono ?_; rintro e w1 ⟨q, rfl, hk, h1, h0⟩; have HK := Lib.hid hk; have H1 := Lib.hid h1; have H0 := Lib.hid h0; clear hk h1 h0)
  go_ret
  exact ⟨q, rfl, (Kp.alloc (Kp.refl _ _)).trans HK.out, H1.out, H0.out⟩
/-- What holds ahead of a term's field. -/
def WJ (P N n m : Nat) (r : Int) (fs : List (ByteArray × List Tm)) (w0 : World) (i : Nat) (W : World) : Prop :=
  Below w0.heap.size w0 W ∧ Cx W P 0 (.int .i64 (r - wF n (fs.take i))) ∧ 0 ≤ r - wF n (fs.take i) ∧ Cx W (N + 1) 0 (.int .i64 (m : Int)) ∧ Cx W (N + 1 + 1) 0 (.pointer (some ⟨P, 0, none⟩))
theorem WJ.mono {P N n m : Nat} {r : Int} {fs : List (ByteArray × List Tm)} {w0 : World} {i : Nat} {W W' : World} (h : WJ P N n m r fs w0 i W) (hb : Below W.heap.size W W') : WJ P N n m r fs w0 i W' :=
  ⟨bl_step h.1 hb, h.2.1.later hb, h.2.2.1, h.2.2.2.1.later hb, h.2.2.2.2.later hb⟩
theorem inner_asks (n l P N : Nat) (r : Int) (w0 : World) (fs : List (ByteArray × List Tm)) (ih : WiH n l) (hn : ∀ f ∈ fs, NmV n f.2) (hE : Nm.Env w0) (hP : w0.heap.size ≤ P) (hr : r ≤ 512) (hPN : P < N) (hl16 : l ≤ 16) (m : Nat) (hm : m = l + 1) :
    AsksV P (fun t tl tc V => InV w0 n t tl tc V) fs 71 #[.pointer (some ⟨N + 1, 0, none⟩), .pointer (some ⟨N + 1 + 1, 0, none⟩)] (WJ P N n m r fs w0) (pW n l r fs) := by
  intro i W hi t tl tc hJ hV
  obtain ⟨j1, j2, j3, j4, j5⟩ := hJ
  have ef : fAt fs i = fs[i] := fAt_eq hi
  refine (inner_one n l P N (r - wF n (fs.take i)) w0 t tl tc fs[i].2 W ih ⟨hV, hn _ (List.getElem_mem hi), hE, j1, hP, j2, j3, by omega⟩ m hm j4 j5 hl16).mono ?_
  rintro e W' ⟨q, rfl, hk, h1, h0⟩
  have hq : pW n l r fs i = q := by
    unfold pW
    rw [ef]
    cases q
    · exact rgB_no.2 (h0 rfl)
    · obtain ⟨a, b, c⟩ := h1 rfl
      exact rgB_yes.2 ⟨a, by omega⟩
  refine ⟨by rw [hq], hk, fun e => ?_⟩
  rw [hq] at e
  obtain ⟨a, b, c⟩ := h1 e
  have es : (r - (wF n (fs.take i) : Nat)) - (wN n fs[i].2 : Nat) = r - (wF n (fs.take (i + 1)) : Nat) := by rw [wF_succ n hi, ef]; omega
  rw [es] at b c
  exact ⟨⟨hk.os.trans j1.os, hk.tape.trans j1.tape, hk.output.trans j1.output, Nat.le_trans j1.size hk.size, fun k hk' => (hk.block k (Nat.lt_of_lt_of_le hk' j1.size) (by omega)).trans (j1.block k hk')⟩, b, c, j4.kp hk (by omega), j5.kp hk (by omega)⟩
set_option maxRecDepth 100000 in
set_option maxHeartbeats 8000000 in
theorem within_go (n l P : Nat) (r : Int) (w0 : World) (t : Option Addr) (tl tc : Nat) (A : List Tm) (w : World) (h : WiA w0 (n + 1) P r t tl tc A w) (hr : tl ≤ r) (ih : WiH n l) (m : Nat) (hm : m = l + 1) (hl16 : m ≤ 16) :
    Calls Tryz.prog 43 #[.agg #[.slice t tl tc], .int .i64 (m : Int), .pointer (some ⟨P, 0, none⟩)] w (WiP P (n + 1) m r A w) := by
  have HA := Lib.hid h
  have HIH := Lib.hid ih
  obtain ⟨hl1, hl2, hel⟩ := h.v
  subst hl1
  have H1 := Lib.hid hel
  have hlo := h.lo
  have hhi := h.hi
  have hPw := h.room.1
  have HR := Lib.hid h.room
  have HM := Lib.hid hm
  have hm1 : (1 : Int) ≤ (m : Int) := by omega
  clear h ih hel hm
  go_enter Tryz.func43, Tryz.ntmps43
  go_upto_region 1 with fail
  have HXE : ∃ X, ((w.alloc (.cells #[.slice t A.length tc] 24)).alloc (.cells #[.int .i64 (m : Int)] 3)).alloc (.cells #[.pointer (some ⟨P, 0, none⟩)] 65) = X := ⟨_, rfl⟩
  obtain ⟨X, hX⟩ := HXE
  have HXB : Hid (WBox P r (m : Int) t A.length tc w X) := by rw [← hX]; exact WBox.new _ t A.length tc HR.out
  obtain ⟨-, x0, -⟩ := HXB.out.bv
  obtain ⟨-, x1, -⟩ := HXB.out.bl
  obtain ⟨-, x2, -⟩ := HXB.out.br
  obtain ⟨-, xp, xf⟩ := HXB.out.room
  rw [hX]
  clear hX
  have hb1 : (-9223372036854775808 : Int) ≤ r - A.length := by omega
  have hb2 : r - A.length ≤ (9223372036854775807 : Int) := by omega
  go_region
  clear x0 x1 x2 xp xf
  have HYE : ∃ Y, (X.setCell ⟨P, 0, none⟩ (.int .i64 (r - A.length))).drew = Y := ⟨_, rfl⟩
  obtain ⟨Y, hY⟩ := HYE
  have HYB : Hid (WBox P (r - A.length) (m : Int) t A.length tc w Y) := by rw [← hY]; exact HXB.out.room' hPw
  rw [hY]
  clear hY
  obtain ⟨-, x0, -⟩ := HYB.out.bv
  obtain ⟨-, x1, -⟩ := HYB.out.bl
  obtain ⟨-, x2, -⟩ := HYB.out.br
  obtain ⟨-, xp, xf⟩ := HYB.out.room
  have hq : ((m : Int) == 0) = false := by simp; omega
  have hq2 : ¬ (r - (A.length : Int) < 0) := by omega
  have hq3 : ¬ (r < (A.length : Int)) := by omega
  go_wp2_with fail
  go_loopw [32] (fun i wr => ∃ k : Nat, k ≤ A.length ∧ i = .int .i64 k ∧ Hid (WInv P w.heap.size n l m (r - A.length) A w0 w wr t A.length tc k)) (fun i _ => A.length - (intOf i).toNat)
  case atStart =>
    refine ⟨0, Nat.zero_le _, rfl, ?_⟩
    have e0 : (r - A.length) - ((wU n (A.take 0) : Nat) : Int) = r - A.length := by simp [wU]
    exact ⟨Kp.below HA.out.old HYB.out.kp HA.out.pos, HYB.out.kp, by rw [e0]; exact HYB.out.room, by rw [e0]; omega, HYB.out.bv, HYB.out.bl, HYB.out.br, fun j _ hj => absurd hj (Nat.not_lt_zero _)⟩
  case round =>
    obtain ⟨k, hk, rfl, hI⟩ := hrel
    rename World => wr
    clear x0 x1 x2 xp xf
    obtain ⟨-, x0, -⟩ := hI.out.bv
    by_cases hlt : k < A.length
    · have hki : (k : Int) < (A.length : Int) := by omega
      have hk0 : (0 : Int) ≤ (k : Int) := by omega
      obtain ⟨b2, off2, rfl, i2⟩ := H1.out k hlt
      have hb := hI.out.old
      obtain ⟨lt2, f, fl, fc, d0, d1, d2, d3, d4, d5, d6, d7, hF⟩ := i2.cells
      replace d0 := (hb.cell (p := ⟨b2, off2 + k * 8, none⟩) lt2).trans d0
      replace d1 := (hb.cell (p := ⟨b2, off2 + k * 8 + 1, none⟩) lt2).trans d1
      replace d2 := (hb.cell (p := ⟨b2, off2 + k * 8 + 2, none⟩) lt2).trans d2
      replace d3 := (hb.cell (p := ⟨b2, off2 + k * 8 + 3, none⟩) lt2).trans d3
      replace d4 := (hb.cell (p := ⟨b2, off2 + k * 8 + 4, none⟩) lt2).trans d4
      replace d5 := (hb.cell (p := ⟨b2, off2 + k * 8 + 5, none⟩) lt2).trans d5
      replace d6 := (hb.cell (p := ⟨b2, off2 + k * 8 + 6, none⟩) lt2).trans d6
      replace d7 := (hb.cell (p := ⟨b2, off2 + k * 8 + 7, none⟩) lt2).trans d7
      obtain ⟨rk, hrk⟩ : ∃ rk : Int, rk = r - A.length - wU n (A.take k) := ⟨_, rfl⟩
      have HRK := Lib.hid hrk
      have hxm : A[k] ∈ A := List.getElem_mem hlt
      have HNM : Hid (∀ f ∈ A[k].fs, f.1.size ≤ 140737488355328 ∧ NmV n f.2) := HA.out.nm _ hxm
      have HRT : Hid (∀ W, Below wr.heap.size wr W → Calls Tryz.prog 45 #[tv A[k].k A[k].lo A[k].hi A[k].s A[k].y A[k].m A[k].o f fl fc, .func (.func 71) #[] #[.pointer (some ⟨w.heap.size + 1, 0, none⟩), .pointer (some ⟨w.heap.size + 1 + 1, 0, none⟩)]] W (RtP P A[k] (WJ P w.heap.size n m rk A[k].fs w0) (pW n l rk A[k].fs) W)) := fun W hW => by
        have hroom := hI.out.room
        have hlo := hI.out.lo
        rw [← hrk] at hroom hlo
        have e0 : rk - ((wF n (A[k].fs.take 0) : Nat) : Int) = rk := by simp [wF]
        refine rightTerm_any P (fun t tl tc V => InV w0 n t tl tc V) (fun t tl tc V h => ?_) 71 _ enters71 (WJ P w.heap.size n m rk A[k].fs w0) (pW n l rk A[k].fs) w0 A[k] f fl fc hF (fun y hy => (HNM.out y hy).1) HA.out.env (fun i W h => h.1) (fun i W W' h hb => h.mono hb)
          (inner_asks n l P w.heap.size rk w0 A[k].fs HIH.out (fun f hf => (HNM.out f hf).2) HA.out.env HA.out.pos (by omega) hPw (by have := HM.out; omega) m HM.out) W ⟨bl_step hb hW, by rw [e0]; exact hroom.later hW, by rw [e0]; exact hlo, hI.out.bl.later hW, hI.out.br.later hW⟩ (.inl (Nat.lt_of_lt_of_le (Nat.lt_of_lt_of_le hPw hI.out.kp.size) hW.size))
        cases n with
        | zero => exact h.elim
        | succ n => exact h.1
      clear hb hF lt2 hrk hxm i2
      have HXX : ∃ x, A[k] = x := ⟨_, rfl⟩
      obtain ⟨x, hx⟩ := HXX
      have HX := Lib.hid hx
      rw [hx] at d0 d1 d2 d3 d4 d5 d6 HRT HNM
      clear hx
      generalize x.k = xk at d0 HRT
      generalize x.lo = xlo at d1 HRT
      generalize x.hi = xhi at d2 HRT
      generalize x.s = xs at d3 HRT
      generalize x.y = xy at d4 HRT
      generalize x.m = xm at d5 HRT
      generalize x.o = xo at d6 HRT
      go_wp2_with (go_at_call 45; refine (HRT.out _ (bl_alloc (Below.refl _ _))).mono ?_; rintro e w1 ⟨q, rfl, hk1, h1, h0⟩; have HK1 := Lib.hid hk1; clear hk1; cases q; all_goals ((first | (have H1 := Lib.hid (h0 rfl)) | (have H1 := Lib.hid (h1 rfl))); clear h1 h0))
      · go_ret
        have hk9 : Kp P wr w1 := (Kp.alloc (Kp.refl _ _)).trans HK1.out
        refine WiP.no (hI.out.kp.trans hk9) fun c => H1.out ?_
        have hR := HRK.out
        have hlo9 := hI.out.lo
        rw [rtb_iff (by omega), ← HX.out]
        refine ⟨?_, ?_⟩
        · have := c.1
          rw [HM.out] at this
          exact this.1 _ (List.getElem_mem hlt)
        · have h1 := c.2
          rw [wN_U] at h1
          have h2 := wU_take n A (k + 1)
          rw [wU_succ n hlt] at h2
          omega
      · have hk9 : Kp P wr w1 := (Kp.alloc (Kp.refl _ _)).trans HK1.out
        have HK9 := Lib.hid hk9
        clear hk9
        go_roundw
        case rel =>
          refine ⟨k + 1, by omega, by go_num, ?_⟩
          obtain ⟨h1, h2⟩ := H1.out
          have hR := HRK.out
          have hlo9 := hI.out.lo
          obtain ⟨g1, g2⟩ := (rtb_iff (by omega)).1 h1
          obtain ⟨j1, j2, j3, j4, j5⟩ := h2
          rw [List.take_length] at j2 j3
          have es : rk - (wF n x.fs : Nat) = r - A.length - (wU n (A.take (k + 1)) : Nat) := by rw [wU_succ n hlt, HX.out]; omega
          rw [es] at j2 j3
          refine ⟨j1, hI.out.kp.trans HK9.out, j2, j3, hI.out.bv.kp HK9.out (by omega), j4, j5, fun j hj hjk => ?_⟩
          by_cases e : j = k
          · subst e; rw [HX.out]; exact g1
          · exact hI.out.right j hj (by omega)
        case measure => simp [intOf]; omega
    · have ek : k = A.length := by omega
      subst ek
      have HRR : Hid (∀ x ∈ A, RT (RV n l) x) := fun x hx => by obtain ⟨j, hj, rfl⟩ := List.getElem_of_mem hx; exact hI.out.right j hj hj
      have hroom := hI.out.room
      have hlo9 := hI.out.lo
      rw [List.take_length] at hroom hlo9
      have hww : r - (A.length : Int) - (wU n A : Nat) = r - (wN (n + 1) A : Nat) := by rw [wN_U]; omega
      rw [hww] at hroom hlo9
      have HROOM := Lib.hid (And.intro hroom hlo9)
      have HLF : Hid (Calls Tryz.prog 55 #[.slice t A.length tc] wr (LeftP n A wr)) := left_in n wr t A.length tc A (InV.below hI.out.old HA.out.v) (by omega) (fun x hx => ⟨l, HRR.out x hx⟩) (fun x hx => by
        have h1 := wN_mem (n := n) hx
        omega)
      have HVW : Hid (InV wr (n + 1) t A.length tc A) := InV.below hI.out.old HA.out.v
      have HDT : Hid (∀ x ∈ A, Dt n x) := HA.out.v.dv
      have HBV := Lib.hid hI.out.bv
      clear hroom hlo9 hww
      have HWW : Hid (0 ≤ r - (wN (n + 1) A : Nat)) := HROOM.out.2
      by_cases hnw : wN (n + 1) (normV n A) ≤ 512
      · have HL2 : Hid (Calls Tryz.prog 55 #[.slice t A.length tc] wr fun e w' => ∃ (t2 : Option Addr) (tl2 tc2 : Nat), e = .returned (.tuple #[.agg #[.slice t2 tl2 tc2], .int .i64 0]) ∧ Below wr.heap.size wr w' ∧ InV w' (n + 1) t2 tl2 tc2 (normV n A)) := HLF.out.mono fun e w' ⟨t2, tl2, tc2, er, he, hB, hc⟩ => by
          rcases hc with ⟨_, rfl, c3⟩ | ⟨c1, _⟩
          · exact ⟨t2, tl2, tc2, he, hB, c3⟩
          · omega
        clear hnw HLF
        go_wp2_with (first
          | (go_at_call 55; refine HL2.out.mono ?_; rintro e w2 ⟨t2, tl2, tc2, rfl, hB2, c3⟩; have HB2 := Lib.hid hB2; have y0 := (HBV.out.later hB2).2.1; have HSM := Lib.hid (fun (W : World) (hW : Below w2.heap.size w2 W) => same_in (n + 1) W t A.length tc A t2 tl2 tc2 (normV n A) (InV.below (bl_step hB2 hW) HVW.out) (InV.below hW c3)); have y4 := ((HBV.out.later hB2).later (bl_alloc (o := .cells #[.slice t2 tl2 tc2] 24) (Below.refl _ _))).2.1; clear hB2 c3)
          | (go_at_call 72; refine (HSM.out _ (bl_alloc (Below.refl _ _))).mono ?_; rintro e w3 ⟨rfl, hB3⟩; have HB3 := Lib.hid hB3; clear hB3))
        go_ret
        have hb3 : Below wr.heap.size wr w3 := bl_step HB2.out (bl_step (bl_alloc (Below.refl _ _)) HB3.out)
        have hk3 : Kp P w w3 := hI.out.kp.trans (Kp.of hb3)
        cases hq9 : cmpV (n + 1) A (normV n A) == 0
        · refine WiP.no hk3 fun c => ?_
          have h1 := c.1
          rw [HM.out] at h1
          have h2 := ((rv_iff HDT.out).1 h1).2
          rw [h2, (cmpV_cmp (n + 1)).refl] at hq9
          exact absurd hq9 (by decide)
        · have h0 : cmpV (n + 1) A (normV n A) = 0 := by simpa using hq9
          have h1 := cmpV_eq (n := n + 1) HVW.out.dv (fun x hx => HDT.out x (normV_sub HDT.out hx)) h0
          refine ⟨true, rfl, hk3, fun _ => ⟨?_, HROOM.out.1.later hb3, HROOM.out.2⟩, fun e => absurd e (by decide)⟩
          rw [HM.out]
          exact (rv_iff HDT.out).2 ⟨HRR.out, h1.symm⟩
      · have HL2 : Hid (Calls Tryz.prog 55 #[.slice t A.length tc] wr fun e w' => e = .returned (.tuple #[.agg #[.slice none 0 0], .int .i64 30]) ∧ Below wr.heap.size wr w') := HLF.out.mono fun e w' ⟨t2, tl2, tc2, er, he, hB, hc⟩ => by
          rcases hc with ⟨c1, _⟩ | ⟨_, rfl, rfl, rfl, rfl⟩
          · omega
          · exact ⟨he, hB⟩
        have HC1 := Lib.hid hnw
        clear hnw HLF
        go_wp2_with (go_at_call 55; refine HL2.out.mono ?_; rintro e w2 ⟨rfl, hB2⟩; have HB2 := Lib.hid hB2; have y0 := (HBV.out.later hB2).2.1; clear hB2)
        go_ret
        refine WiP.no (hI.out.kp.trans (Kp.of (bl_step HB2.out (bl_alloc (Below.refl _ _))))) fun c => ?_
        have h1 := c.1
        rw [HM.out] at h1
        have h2 := ((rv_iff HDT.out).1 h1).2
        have h3 := HC1.out
        rw [h2] at h3
        have h4 := c.2
        omega
theorem within_in : ∀ (n l : Nat), l ≤ 16 → WiH n l
  | 0, _, _ => fun _ _ _ _ _ _ _ _ h => h.v.elim
  | n + 1, 0, _ => fun w0 P r t tl tc A w h => within_no (n + 1) 0 P r w0 t tl tc A w h (.inl rfl)
  | n + 1, l + 1, hl => fun w0 P r t tl tc A w h => by
    by_cases hr : (tl : Int) ≤ r
    · exact within_go n l P r w0 t tl tc A w h hr (within_in n l (by omega)) (l + 1) rfl hl
    · exact within_no (n + 1) (l + 1) P r w0 t tl tc A w h (.inr (by omega))
/-- A right value. -/
def RG (n : Nat) (A : List Tm) : Prop := RV n 16 A ∧ wN n A ≤ 512
noncomputable def rgV (n : Nat) (A : List Tm) : Bool := @decide (RG n A) (Classical.propDecidable _)
theorem rgV_yes {n : Nat} {A : List Tm} : rgV n A = true ↔ RG n A := @decide_eq_true_iff _ (Classical.propDecidable _)
theorem rgV_no {n : Nat} {A : List Tm} : rgV n A = false ↔ ¬ RG n A := @decide_eq_false_iff_not _ (Classical.propDecidable _)
/-- A value that came in. -/
structure Vin (w : World) (n : Nat) (t : Option Addr) (tl tc : Nat) (A : List Tm) : Prop where
  v : InV w n t tl tc A
  nm : NmV n A
  env : Nm.Env w
theorem Vin.below {w w' : World} {n : Nat} {t : Option Addr} {tl tc : Nat} {A : List Tm} (h : Vin w n t tl tc A) (hb : Below w.heap.size w w') : Vin w' n t tl tc A := ⟨InV.below hb h.v, h.nm, h.env.below hb⟩
set_option maxRecDepth 100000 in
set_option maxHeartbeats 2000000 in
/-- lat.Right. -/
theorem lright_in (n : Nat) (w : World) (t : Option Addr) (tl tc : Nat) (A : List Tm) (h : Vin w n t tl tc A) : Calls Tryz.prog 18 #[.agg #[.slice t tl tc]] w (LackP (rgV n A) w) := by
  have HW : Hid (∀ W P, Below w.heap.size w W → w.heap.size ≤ P → Cx W P 0 (.int .i64 512) → Calls Tryz.prog 43 #[.agg #[.slice t tl tc], .int .i64 ((16 : Nat) : Int), .pointer (some ⟨P, 0, none⟩)] W (WiP P n 16 512 A W)) := fun W P hW hP hc =>
    within_in n 16 (by omega) w P 512 t tl tc A W ⟨h.v, h.nm, h.env, hW, hP, hc, by decide, by decide⟩
  clear h
  go_enter Tryz.func18, Tryz.ntmps18
  go_wp2_with (go_at_call 43; refine (HW.out _ _ (bl_alloc (bl_alloc (Below.refl _ _))) (Nat.le_succ _) ⟨by simp, by simp [go_sem], by simp [go_sem]⟩).mono ?_; rintro e w1 ⟨q, rfl, hk, h1, h0⟩; have HK := Lib.hid hk; have H1 := Lib.hid h1; have H0 := Lib.hid h0; clear hk h1 h0)
  go_ret
  refine ⟨?_, Kp.below (bl_alloc (bl_alloc (Below.refl _ _))) HK.out (Nat.le_succ _)⟩
  refine Nm.ret_bool ?_
  cases q
  · rw [rgV_no.2 fun c => H0.out rfl ⟨c.1, by have := c.2; omega⟩]
  · obtain ⟨a, b, c⟩ := H1.out rfl
    rw [rgV_yes.2 ⟨a, by omega⟩]
end Go.Proofs.YtddleeenlpigfaaGreatDoor
