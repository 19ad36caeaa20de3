/- Kd, Ke -/
import Derived.Test.YtddleeenlpigfaaGreatDoorZ2
import Derived.Test.YtddleeenlpigfaaGreatDoorY21
import Derived.Deep.DeepCutAuto
/- WALK of code's appendValue. -/
namespace Go.Proofs.YtddleeenlpigfaaGreatDoor.Ec
open Go.RowKit
def VRel (w0 w : World) (v : Value) (L : List UInt8) (g : List Tm → List UInt8) (A : List Tm) (k : Nat) (z : Value) (wr : World) : Prop :=
  AIn w0 wr z (L ++ (Vn.nb A.length ++ (A.take k).flatMap (bT g))) ∧ Gr w wr v z
def AppvH (n : Nat) : Prop := ∀ (w0 w : World) (t : Option Addr) (tl tc : Nat) (A : List Tm) (v : Value) (L : List UInt8), InV w0 n t tl tc A → FitV n A → (L ++ bV n A).length ≤ 70368744177664 → AIn w0 w v L → Calls Tryz.prog 57 #[v, .agg #[.slice t tl tc]] w (AppP w0 w v (L ++ bV n A))
theorem hdN_ltK {g : List Tm → Prop} {x : Tm} (h : FitT g x) : hdN x < 18446744073709551616 := by
  unfold hdN
  have := b01_le x.m; have := b01_le x.y; have := b01_le x.o
  have := h.1; have := h.2.1
  omega
set_option maxRecDepth 100000 in
set_option maxHeartbeats 8000000 in
theorem appv_step (n : Nat) (ih : AppvH n) : AppvH (n + 1) := by
  intro w0 w t tl tc A v L hV hfit hlen hA
  obtain ⟨hcount, hmax, hat⟩ := hV
  subst hcount
  have h1000 := hfit.1
  have HAT := Lib.hid hat
  have HFIT := Lib.hid hfit.2
  have HLEN := Lib.hid hlen
  have HA := Lib.hid hA
  have IH := Lib.hid ih
  have P1 := Vn.put_any none 0 0 A.length [] (w.alloc (.cells #[.slice t A.length tc] 24)) rfl (.inl ⟨rfl, rfl⟩) (fun _ => rfl) (by omega) (by omega)
  rw [List.nil_append] at P1
  have HP1 := Lib.hid P1
  clear hat hfit hlen hA ih P1
  go_enter Tryz.func57, Tryz.ntmps57
  go_wp2_with fail
  go_at_call 93; refine HP1.out.mono ?_; rintro e w1 ⟨a1, c1, rfl, hR1, -, hB1⟩
  have hlen1 : (L ++ Vn.nb A.length).length ≤ 140737488355328 := by
    have := HLEN.out
    rw [bV] at this
    simp only [List.length_append] at this ⊢
    omega
  have hA1 := (HA.out.step (bl_alloc (Below.refl _ w) (o := .cells #[.slice t A.length tc] 24))).step hB1
  have hbx1 : w1.heap[w.heap.size]? = some (.cells #[.slice t A.length tc] 24) := (hB1.block _ (by simp)).trans (w_new w _)
  obtain ⟨v1, w2, hrun, hrow, hgr⟩ := app_bytes c1 hA1.row hR1 (nb_ne _) hlen1 hA1.size
  have hbx2 := hgr.other hbx1 (fun g e => by have := (HA.out.own g e).2; omega)
  have hc2 : w2.cell? ⟨w.heap.size, 0, none⟩ = some (.slice t A.length tc) := by simp [World.cell?, hbx2]
  have HR0 : Hid (VRel w0 w v L (bV n) A 0 v1 w2) := by
    refine ⟨?_, ((Gr.of_below v (bl_alloc (Below.refl _ w) (o := .cells #[.slice t A.length tc] 24))).trans (Gr.of_below v hB1)).trans hgr⟩
    have := hA1.app hgr hrow
    simpa using this
  have HRUN := Lib.hid hrun
  clear hR1 hB1 hlen1 hrun hrow hgr hbx1 hbx2 hA1
  go_wp2_with (at_builtin; refine Lib.wpList_append_run _ rfl _ _ _ _ rfl _ _ rfl rfl _ _ HRUN.out ?_)
  clear HRUN HP1 hc2
  go_loopw [0, 17] (fun z i wr => ∃ k : Nat, k ≤ A.length ∧ i = .int .i64 k ∧ Hid (VRel w0 w v L (bV n) A k z wr)) (fun _ i _ => A.length - (intOf i).toNat)
  case atStart => exact ⟨0, Nat.zero_le _, rfl, HR0⟩
  case round =>
    clear HR0
    obtain ⟨k, hk, rfl, hrel⟩ := hrel
    rename World => wr
    have HREL := Lib.hid hrel.out
    clear hrel
    by_cases hlt : k < A.length
    · have hki : (k : Int) < (A.length : Int) := by omega
      have hkz : (0 : Int) ≤ (k : Int) := by omega
      obtain ⟨b, off, rfl, hT⟩ := HAT.out k hlt
      have hmem := HFIT.out A[k] (List.getElem_mem hlt)
      obtain ⟨x, hx⟩ : ∃ x, A[k] = x := ⟨_, rfl⟩
      rw [hx] at hT hmem
      have HX := Lib.hid hx
      have HHD := Lib.hid (hdN_ltK hmem)
      have hstep : ((L ++ (Vn.nb A.length ++ (A.take k).flatMap (bT (bV n)))) ++ (Vn.nb (hdN x) ++ bB (bV n) x)).length ≤ 70368744177664 := by
        have h1 := HLEN.out
        have h2 := flat_le (bT (bV n)) A (k + 1)
        rw [flat_take _ _ _ hlt, hx] at h2
        rw [bV] at h1
        have h3 : (bT (bV n) x).length = (Vn.nb (hdN x)).length + (bB (bV n) x).length := by unfold bT; rw [List.length_append]
        simp only [List.length_append] at h1 h2 ⊢
        omega
      have HSTEP := Lib.hid hstep
      obtain ⟨k0, lo, hi, s, y, m, o, fs⟩ := x
      obtain ⟨lt, f, fl, fc, c0, c1, c2, c3, c4, c5, c6, c7, hF⟩ := hT
      replace c0 := (HREL.out.1.low.cell (p := ⟨b, off + k * 8, none⟩) lt).trans c0
      replace c1 := (HREL.out.1.low.cell (p := ⟨b, off + k * 8 + 1, none⟩) lt).trans c1
      replace c2 := (HREL.out.1.low.cell (p := ⟨b, off + k * 8 + 2, none⟩) lt).trans c2
      replace c3 := (HREL.out.1.low.cell (p := ⟨b, off + k * 8 + 3, none⟩) lt).trans c3
      replace c4 := (HREL.out.1.low.cell (p := ⟨b, off + k * 8 + 4, none⟩) lt).trans c4
      replace c5 := (HREL.out.1.low.cell (p := ⟨b, off + k * 8 + 5, none⟩) lt).trans c5
      replace c6 := (HREL.out.1.low.cell (p := ⟨b, off + k * 8 + 6, none⟩) lt).trans c6
      replace c7 := (HREL.out.1.low.cell (p := ⟨b, off + k * 8 + 7, none⟩) lt).trans c7
      obtain ⟨g0, g5, hnum, hsz, hfs⟩ := hmem
      dsimp only [Tm.k, Tm.lo, Tm.hi, Tm.s, Tm.fs] at g0 g5 hnum hsz hfs
      have HNUM := Lib.hid hnum
      have HFS := Lib.hid hfs
      have HF := Lib.hid hF
      have HEAD := fun W => Lib.hid (head_any k0 lo hi s y m o f fl fc fs W g0 g5)
      obtain ⟨hn, hhn⟩ : ∃ hn, hdN (.mk k0 lo hi s y m o fs) = hn := ⟨_, rfl⟩
      rw [hhn] at HEAD HHD HSTEP
      have HHN := Lib.hid hhn
      have HP2 : ∀ W, Hid (Calls Tryz.prog 93 #[.slice none 0 0, .int .u64 (hn : Int)] W (Vn.PutsS (Vn.nb hn) W)) := fun W => by
        have := Vn.put_any none 0 0 hn [] W rfl (.inl ⟨rfl, rfl⟩) (fun _ => rfl) (by omega) HHD.out
        rw [List.nil_append] at this
        exact this
      clear hnum hfs hF hhn hx hstep lt
      go_wp2_with fail
      go_at_call 94; refine (HEAD _).out.mono ?_; rintro e w3 ⟨rfl, hB3⟩
      have hA3 := (HREL.out.1.step (bl_alloc (Below.refl _ wr) (o := .cells #[.int .i64 k0, .int .i64 lo, .int .i64 hi, .string s, .bool y, .bool m, .bool o, .slice f fl fc] 31))).step hB3
      have hbx3 : w3.heap[wr.heap.size]? = some (.cells #[.int .i64 k0, .int .i64 lo, .int .i64 hi, .string s, .bool y, .bool m, .bool o, .slice f fl fc] 31) := (hB3.block _ (by simp)).trans (w_new wr _)
      have HG3 := Lib.hid ((HREL.out.2.trans (Gr.of_below u0 (bl_alloc (Below.refl _ wr) (o := .cells #[.int .i64 k0, .int .i64 lo, .int .i64 hi, .string s, .bool y, .bool m, .bool o, .slice f fl fc] 31)))).trans (Gr.of_below u0 hB3))
      have HA3 := Lib.hid hA3
      have HBX3 := Lib.hid hbx3
      clear c0 c1 c2 c3 c4 c5 c6 c7 hB3 hA3 hbx3 HEAD
      go_wp2_with fail
      go_at_call 93; refine (HP2 _).out.mono ?_; rintro e w4 ⟨a4, c4, rfl, hR4, -, hB4⟩
      have hA4 := HA3.out.step hB4
      have hbx4 : w4.heap[wr.heap.size]? = some (.cells #[.int .i64 k0, .int .i64 lo, .int .i64 hi, .string s, .bool y, .bool m, .bool o, .slice f fl fc] 31) := (hB4.block _ (Array.getElem?_eq_some_iff.1 HBX3.out).1).trans HBX3.out
      obtain ⟨v5, w5, hrun, hrow, hgr⟩ := app_bytes c4 hA4.row hR4 (nb_ne _) (by have := HSTEP.out; simp only [List.length_append] at this ⊢; omega) hA4.size
      have hbx5 := hgr.other hbx4 (fun g e => by have := (HREL.out.1.own g e).2; omega)
      have HA5 := Lib.hid (hA4.app hgr hrow)
      have HG5 := Lib.hid ((HG3.out.trans (Gr.of_below u0 hB4)).trans hgr)
      have HBX5 := Lib.hid hbx5
      have HOWN : Hid (∀ g, v5.ownBlock = some g → g ≠ wr.heap.size) := fun g e => by
        rcases hgr.at_ with h1 | ⟨g', h1, h2⟩
        · have := (HREL.out.1.own g (h1 ▸ e)).2; omega
        · rw [h1] at e; injection e with e; have := (Array.getElem?_eq_some_iff.1 hbx4).1; omega
      have hd0 : w5.cell? ⟨wr.heap.size, 0, none⟩ = some (.int .i64 k0) := by simp [World.cell?, hbx5]
      have hd3 : w5.cell? ⟨wr.heap.size, 3, none⟩ = some (.string s) := by simp [World.cell?, hbx5]
      have hd7 : w5.cell? ⟨wr.heap.size, 7, none⟩ = some (.slice f fl fc) := by simp [World.cell?, hbx5]
      have HRUN := Lib.hid hrun
      clear hrun hrow hgr hbx5 hR4 hB4 hA4 hbx4 HP2 HA3 HBX3 HG3
      have HEND : Hid (∀ (v6 : Value) (w6 : World), w6.ownsRow w0.heap.size 5 1 v6 ((L ++ (Vn.nb A.length ++ (A.take k).flatMap (bT (bV n)))) ++ (Vn.nb hn ++ bB (bV n) (.mk k0 lo hi s y m o fs))).length (Vn.u8s ((L ++ (Vn.nb A.length ++ (A.take k).flatMap (bT (bV n)))) ++ (Vn.nb hn ++ bB (bV n) (.mk k0 lo hi s y m o fs)))) → Gr w5 w6 v5 v6 → VRel w0 w v L (bV n) A (k + 1) v6 w6) := fun v6 w6 hr hg => by
        refine ⟨?_, HG5.out.trans hg⟩
        have h5 := HA5.out.app hg hr
        rw [flat_take _ _ _ hlt, HX.out]
        unfold bT at h5 ⊢
        rw [HHN.out]
        simpa [List.append_assoc] using h5
      by_cases h12 : k0 = 1 ∨ k0 = 2
      · obtain ⟨⟨hl1, hl2⟩, hh1, hh2⟩ := HNUM.out h12
        have HBB := Lib.hid (show bB (bV n) (.mk k0 lo hi s y m o fs) = Vn.nb (Vn.sgn lo) ++ Vn.nb (Vn.sgn hi) from if_pos h12)
        have Q1 : ∀ W, Hid (Calls Tryz.prog 95 #[.slice none 0 0, .int .i64 lo] W (Vn.PutsS (Vn.nb (Vn.sgn lo)) W)) := fun W => by
          have := Vn.putint_any none 0 0 lo [] W rfl (.inl ⟨rfl, rfl⟩) (fun _ => rfl) (by omega) hl1 hl2
          rw [List.nil_append] at this
          exact this
        have Q2 : ∀ (W : World) (a : Option Addr) (c : Nat), Vn.SRow W a (Vn.nb (Vn.sgn lo)) → (a = none → c = 0) → Hid (Calls Tryz.prog 95 #[.slice a (Vn.nb (Vn.sgn lo)).length c, .int .i64 hi] W (Vn.PutsS (Vn.nb (Vn.sgn lo) ++ Vn.nb (Vn.sgn hi)) W)) := fun W a c hR hc => Vn.putint_any a c _ hi _ W rfl hR hc (by have := nb_ten _ (Vn.sgn_lt hl1 hl2); omega) hh1 hh2
        have HN1 := Lib.hid h12
        clear h12 hl1 hl2 hh1 hh2
        rcases HN1.out with h1 | h1
        · subst h1
          go_wp2_with (at_builtin; refine Lib.wpList_append_run _ rfl _ _ _ _ rfl _ _ rfl rfl _ _ HRUN.out ?_)
          clear HRUN hd0 hd3 hd7
          obtain ⟨wd, hwd⟩ : ∃ wd : World, wd = { w5 with drawn := w5.drawn + 1 } := ⟨_, rfl⟩
          have hdB : Below w5.heap.size w5 wd := by rw [hwd]; exact (Below.refl _ _).drew
          have hS0 : wd.heap[wr.heap.size]? = some (.cells #[.int .i64 1, .int .i64 lo, .int .i64 hi, .string s, .bool y, .bool m, .bool o, .slice f fl fc] 31) := (hdB.block _ (Array.getElem?_eq_some_iff.1 HBX5.out).1).trans HBX5.out
          refine wp_region_held (S := fun X => X.heap[wr.heap.size]? = some (.cells #[.int .i64 1, .int .i64 lo, .int .i64 hi, .string s, .bool y, .bool m, .bool o, .slice f fl fc] 31)) (by kernel_rfl) ?_
          rw [← hwd]
          clear hwd
          refine take_at' (i := 0) 31 (v := v5) rfl rfl (by kernel_rfl) (by kernel_rfl) (by kernel_rfl) (fun _ _ _ h => h) (Or.inl ⟨by rfl, fun w' hS => (by go_simp)⟩) hS0 ?_
          simp only [List.setIfInBounds_toArray, List.set_cons_succ, List.set_cons_zero]
          refine take_at' (i := 1) 32 (v := .pointer (some ⟨wr.heap.size, 1, none⟩)) rfl rfl (by kernel_rfl) (by kernel_rfl) (by kernel_rfl) (fun _ _ _ h => h) (Or.inl ⟨by rfl, fun w' hS => (by go_simp)⟩) hS0 ?_
          simp only [List.setIfInBounds_toArray, List.set_cons_succ, List.set_cons_zero]
          refine take_at' (i := 2) 33 (v := .int .i64 lo) rfl rfl (by kernel_rfl) (by kernel_rfl) (by kernel_rfl) (fun _ _ _ h => h) (Or.inl ⟨by rfl, fun w' hS => (by have u1 : w'.cell? ⟨wr.heap.size, 1, none⟩ = some (.int .i64 lo) := (by simp [World.cell?, hS]); go_simp)⟩) hS0 ?_
          simp only [List.setIfInBounds_toArray, List.set_cons_succ, List.set_cons_zero]
          refine take_at' (i := 4) 35 (v := .pointer (some ⟨wr.heap.size, 2, none⟩)) rfl rfl (by kernel_rfl) (by kernel_rfl) (by kernel_rfl) (fun _ _ _ h => h) (Or.inl ⟨by rfl, fun w' hS => (by go_simp)⟩) hS0 ?_
          simp only [List.setIfInBounds_toArray, List.set_cons_succ, List.set_cons_zero]
          refine take_at' (i := 5) 36 (v := .int .i64 hi) rfl rfl (by kernel_rfl) (by kernel_rfl) (by kernel_rfl) (fun _ _ _ h => h) (Or.inl ⟨by rfl, fun w' hS => (by have u1 : w'.cell? ⟨wr.heap.size, 2, none⟩ = some (.int .i64 hi) := (by simp [World.cell?, hS]); go_simp)⟩) hS0 ?_
          simp only [List.setIfInBounds_toArray, List.set_cons_succ, List.set_cons_zero]
          refine wpAnyH_all (rs := [3]) (by kernel_rfl) (by simp) ?_
          intro i hin
          obtain rfl : i = 3 := by simpa using hin
          refine call_at 34 (f := 95) (args := #[.slice none 0 0, .int .i64 lo]) (w' := wd) rfl rfl rfl (by go_simp) ((Q1 wd).out.mono ?_)
          rintro e w6 ⟨a6, c6, rfl, hR6, hn6, hB6⟩
          have hS6 : w6.heap[wr.heap.size]? = some (.cells #[.int .i64 1, .int .i64 lo, .int .i64 hi, .string s, .bool y, .bool m, .bool o, .slice f fl fc] 31) := (hB6.block _ (Array.getElem?_eq_some_iff.1 hS0).1).trans hS0
          refine ⟨_, rfl, hS6, ?_⟩
          simp only [List.setIfInBounds_toArray, List.set_cons_succ, List.set_cons_zero]
          refine wpAnyH_all (rs := [6]) (by kernel_rfl) (by simp) ?_
          intro i hin
          obtain rfl : i = 6 := by simpa using hin
          refine call_at 37 (f := 95) (args := #[.slice a6 (Vn.nb (Vn.sgn lo)).length c6, .int .i64 hi]) (w' := w6) rfl rfl rfl (by go_simp) ((Q2 w6 a6 c6 hR6 hn6).out.mono ?_)
          rintro e w7 ⟨a7, c7, rfl, hR7, -, hB7⟩
          have hS7 : w7.heap[wr.heap.size]? = some (.cells #[.int .i64 1, .int .i64 lo, .int .i64 hi, .string s, .bool y, .bool m, .bool o, .slice f fl fc] 31) := (hB7.block _ (Array.getElem?_eq_some_iff.1 hS6).1).trans hS6
          refine ⟨_, rfl, hS7, ?_⟩
          simp only [List.setIfInBounds_toArray, List.set_cons_succ, List.set_cons_zero]
          have hB57 : Below w5.heap.size w5 w7 := (hdB.trans (hB6.mono hdB.size)).trans (hB7.mono (Nat.le_trans hdB.size hB6.size))
          have hA7 := HA5.out.step hB57
          obtain ⟨v8, w8, hrun, hrow, hgr⟩ := app_bytes c7 hA7.row hR7 (fun h => nb_ne _ (List.append_eq_nil_iff.1 h).1) (by have := HSTEP.out; rw [HBB.out] at this; simp only [List.length_append] at this ⊢; omega) hA7.size
          have hS8 := hgr.other hS7 HOWN.out
          have HN := Lib.hid (HEND.out v8 w8 (by rw [HBB.out]; simp only [List.append_assoc] at hrow ⊢; exact hrow) ((Gr.of_below v5 hB57).trans hgr))
          have HRUN := Lib.hid hrun
          clear hrun hrow hgr hA7 hB57 hR7 hB7 hR6 hB6 hdB
          refine wpAnyH_all (rs := [7]) (by kernel_rfl) (by simp) ?_
          intro i hin
          obtain rfl : i = 7 := by simpa using hin
          refine value_at 38 (v := v8) (w' := w8) rfl rfl rfl (append_run rfl rfl rfl HRUN.out) ⟨hS8, ?_⟩
          simp only [List.setIfInBounds_toArray, List.set_cons_succ, List.set_cons_zero]
          refine wpAnyH_all (rs := [8]) (by kernel_rfl) (by simp) ?_
          intro i hin
          obtain rfl : i = 8 := by simpa using hin
          refine value_at 0 (v := v8) (w' := w8) rfl rfl rfl (by go_simp) ⟨hS8, ?_⟩
          simp only [List.setIfInBounds_toArray, List.set_cons_zero]
          refine wpAnyH_done (by kernel_rfl) ?_ _
          clear hS0 hS6 hS7 hS8 HRUN HEND
          go_wp2_with fail
          go_roundw
          case rel => exact ⟨k + 1, by omega, by go_num, HN⟩
          case measure => simp [intOf]; omega
        · subst h1
          go_wp2_with (at_builtin; refine Lib.wpList_append_run _ rfl _ _ _ _ rfl _ _ rfl rfl _ _ HRUN.out ?_)
          clear HRUN hd0 hd3 hd7
          obtain ⟨wd, hwd⟩ : ∃ wd : World, wd = { w5 with drawn := w5.drawn + 1 } := ⟨_, rfl⟩
          have hdB : Below w5.heap.size w5 wd := by rw [hwd]; exact (Below.refl _ _).drew
          have hS0 : wd.heap[wr.heap.size]? = some (.cells #[.int .i64 2, .int .i64 lo, .int .i64 hi, .string s, .bool y, .bool m, .bool o, .slice f fl fc] 31) := (hdB.block _ (Array.getElem?_eq_some_iff.1 HBX5.out).1).trans HBX5.out
          refine wp_region_held (S := fun X => X.heap[wr.heap.size]? = some (.cells #[.int .i64 2, .int .i64 lo, .int .i64 hi, .string s, .bool y, .bool m, .bool o, .slice f fl fc] 31)) (by kernel_rfl) ?_
          rw [← hwd]
          clear hwd
          refine take_at' (i := 0) 31 (v := v5) rfl rfl (by kernel_rfl) (by kernel_rfl) (by kernel_rfl) (fun _ _ _ h => h) (Or.inl ⟨by rfl, fun w' hS => (by go_simp)⟩) hS0 ?_
          simp only [List.setIfInBounds_toArray, List.set_cons_succ, List.set_cons_zero]
          refine take_at' (i := 1) 32 (v := .pointer (some ⟨wr.heap.size, 1, none⟩)) rfl rfl (by kernel_rfl) (by kernel_rfl) (by kernel_rfl) (fun _ _ _ h => h) (Or.inl ⟨by rfl, fun w' hS => (by go_simp)⟩) hS0 ?_
          simp only [List.setIfInBounds_toArray, List.set_cons_succ, List.set_cons_zero]
          refine take_at' (i := 2) 33 (v := .int .i64 lo) rfl rfl (by kernel_rfl) (by kernel_rfl) (by kernel_rfl) (fun _ _ _ h => h) (Or.inl ⟨by rfl, fun w' hS => (by have u1 : w'.cell? ⟨wr.heap.size, 1, none⟩ = some (.int .i64 lo) := (by simp [World.cell?, hS]); go_simp)⟩) hS0 ?_
          simp only [List.setIfInBounds_toArray, List.set_cons_succ, List.set_cons_zero]
          refine take_at' (i := 4) 35 (v := .pointer (some ⟨wr.heap.size, 2, none⟩)) rfl rfl (by kernel_rfl) (by kernel_rfl) (by kernel_rfl) (fun _ _ _ h => h) (Or.inl ⟨by rfl, fun w' hS => (by go_simp)⟩) hS0 ?_
          simp only [List.setIfInBounds_toArray, List.set_cons_succ, List.set_cons_zero]
          refine take_at' (i := 5) 36 (v := .int .i64 hi) rfl rfl (by kernel_rfl) (by kernel_rfl) (by kernel_rfl) (fun _ _ _ h => h) (Or.inl ⟨by rfl, fun w' hS => (by have u1 : w'.cell? ⟨wr.heap.size, 2, none⟩ = some (.int .i64 hi) := (by simp [World.cell?, hS]); go_simp)⟩) hS0 ?_
          simp only [List.setIfInBounds_toArray, List.set_cons_succ, List.set_cons_zero]
          refine wpAnyH_all (rs := [3]) (by kernel_rfl) (by simp) ?_
          intro i hin
          obtain rfl : i = 3 := by simpa using hin
          refine call_at 34 (f := 95) (args := #[.slice none 0 0, .int .i64 lo]) (w' := wd) rfl rfl rfl (by go_simp) ((Q1 wd).out.mono ?_)
          rintro e w6 ⟨a6, c6, rfl, hR6, hn6, hB6⟩
          have hS6 : w6.heap[wr.heap.size]? = some (.cells #[.int .i64 2, .int .i64 lo, .int .i64 hi, .string s, .bool y, .bool m, .bool o, .slice f fl fc] 31) := (hB6.block _ (Array.getElem?_eq_some_iff.1 hS0).1).trans hS0
          refine ⟨_, rfl, hS6, ?_⟩
          simp only [List.setIfInBounds_toArray, List.set_cons_succ, List.set_cons_zero]
          refine wpAnyH_all (rs := [6]) (by kernel_rfl) (by simp) ?_
          intro i hin
          obtain rfl : i = 6 := by simpa using hin
          refine call_at 37 (f := 95) (args := #[.slice a6 (Vn.nb (Vn.sgn lo)).length c6, .int .i64 hi]) (w' := w6) rfl rfl rfl (by go_simp) ((Q2 w6 a6 c6 hR6 hn6).out.mono ?_)
          rintro e w7 ⟨a7, c7, rfl, hR7, -, hB7⟩
          have hS7 : w7.heap[wr.heap.size]? = some (.cells #[.int .i64 2, .int .i64 lo, .int .i64 hi, .string s, .bool y, .bool m, .bool o, .slice f fl fc] 31) := (hB7.block _ (Array.getElem?_eq_some_iff.1 hS6).1).trans hS6
          refine ⟨_, rfl, hS7, ?_⟩
          simp only [List.setIfInBounds_toArray, List.set_cons_succ, List.set_cons_zero]
          have hB57 : Below w5.heap.size w5 w7 := (hdB.trans (hB6.mono hdB.size)).trans (hB7.mono (Nat.le_trans hdB.size hB6.size))
          have hA7 := HA5.out.step hB57
          obtain ⟨v8, w8, hrun, hrow, hgr⟩ := app_bytes c7 hA7.row hR7 (fun h => nb_ne _ (List.append_eq_nil_iff.1 h).1) (by have := HSTEP.out; rw [HBB.out] at this; simp only [List.length_append] at this ⊢; omega) hA7.size
          have hS8 := hgr.other hS7 HOWN.out
          have HN := Lib.hid (HEND.out v8 w8 (by rw [HBB.out]; simp only [List.append_assoc] at hrow ⊢; exact hrow) ((Gr.of_below v5 hB57).trans hgr))
          have HRUN := Lib.hid hrun
          clear hrun hrow hgr hA7 hB57 hR7 hB7 hR6 hB6 hdB
          refine wpAnyH_all (rs := [7]) (by kernel_rfl) (by simp) ?_
          intro i hin
          obtain rfl : i = 7 := by simpa using hin
          refine value_at 38 (v := v8) (w' := w8) rfl rfl rfl (append_run rfl rfl rfl HRUN.out) ⟨hS8, ?_⟩
          simp only [List.setIfInBounds_toArray, List.set_cons_succ, List.set_cons_zero]
          refine wpAnyH_all (rs := [8]) (by kernel_rfl) (by simp) ?_
          intro i hin
          obtain rfl : i = 8 := by simpa using hin
          refine value_at 0 (v := v8) (w' := w8) rfl rfl rfl (by go_simp) ⟨hS8, ?_⟩
          simp only [List.setIfInBounds_toArray, List.set_cons_zero]
          refine wpAnyH_done (by kernel_rfl) ?_ _
          clear hS0 hS6 hS7 hS8 HRUN HEND
          go_wp2_with fail
          go_roundw
          case rel => exact ⟨k + 1, by omega, by go_num, HN⟩
          case measure => simp [intOf]; omega
      · have n1 : (k0 == (1 : Int)) = false := by simp; omega
        have n2 : (k0 == (2 : Int)) = false := by simp; omega
        have H12 := Lib.hid h12
        clear h12
        by_cases h3 : k0 = 3
        · subst h3
          clear n1 n2
          have HBB := Lib.hid (show bB (bV n) (.mk 3 lo hi s y m o fs) = Vn.txt s from rfl)
          have Q1 : ∀ W, Hid (Calls Tryz.prog 96 #[.slice none 0 0, .string s] W (Vn.PutsS (Vn.txt s) W)) := fun W => by
            have := Vn.puttext_any none 0 0 s [] W rfl (.inl ⟨rfl, rfl⟩) (fun _ => rfl) (by omega) (by omega)
            rw [List.nil_append] at this
            exact this
          go_wp2_with (at_builtin; refine Lib.wpList_append_run _ rfl _ _ _ _ rfl _ _ rfl rfl _ _ HRUN.out ?_)
          clear HRUN hd0 hd3 hd7
          go_at_call 96; refine (Q1 _).out.mono ?_; rintro e w7 ⟨a7, c7, rfl, hR7, -, hB7⟩
          have hA7 := HA5.out.step hB7
          obtain ⟨v8, w8, hrun, hrow, hgr⟩ := app_bytes c7 hA7.row hR7 (txt_ne _) (by have := HSTEP.out; rw [HBB.out] at this; simp only [List.length_append] at this ⊢; omega) hA7.size
          have HN := Lib.hid (HEND.out v8 w8 (by rw [HBB.out]; simp only [List.append_assoc] at hrow ⊢; exact hrow) ((Gr.of_below v5 hB7).trans hgr))
          have HRUN := Lib.hid hrun
          clear hrun hrow hgr hA7 hR7 hB7 HEND
          go_wp2_with (at_builtin; refine Lib.wpList_append_run _ rfl _ _ _ _ rfl _ _ rfl rfl _ _ HRUN.out ?_)
          clear HRUN
          go_roundw
          case rel => exact ⟨k + 1, by omega, by go_num, HN⟩
          case measure => simp [intOf]; omega
        · have n3 : (k0 == (3 : Int)) = false := by simp; omega
          by_cases h4 : k0 = 4
          · subst h4
            clear n1 n2 n3 h3
            have hff := HFS.out rfl
            have HBB := Lib.hid (show bB (bV n) (.mk 4 lo hi s y m o fs) = bF (bV n) fs from rfl)
            have HQ := Lib.hid (appf_any n IH.out w0 w5 f fl fc fs v5 ((L ++ (Vn.nb A.length ++ (A.take k).flatMap (bT (bV n)))) ++ Vn.nb hn) HF.out hff (by have := HSTEP.out; rw [HBB.out] at this; simp only [List.length_append] at this ⊢; omega) HA5.out)
            clear hff
            go_wp2_with (at_builtin; refine Lib.wpList_append_run _ rfl _ _ _ _ rfl _ _ rfl rfl _ _ HRUN.out ?_)
            clear HRUN hd0 hd3 hd7
            go_at_call 97; refine HQ.out.mono ?_; rintro e w8 ⟨v8, rfl, hrow, hgr⟩
            have HN := Lib.hid (HEND.out v8 w8 (by rw [HBB.out]; simp only [List.append_assoc] at hrow ⊢; exact hrow) hgr)
            clear hrow hgr HEND HQ
            go_wp2_with fail
            go_roundw
            case rel => exact ⟨k + 1, by omega, by go_num, HN⟩
            case measure => simp [intOf]; omega
          · have n4 : (k0 == (4 : Int)) = false := by simp; omega
            have HBB := Lib.hid (show bB (bV n) (.mk k0 lo hi s y m o fs) = [] from (if_neg H12.out).trans ((if_neg h3).trans (if_neg h4)))
            have HN := Lib.hid (HEND.out v5 w5 (by rw [HBB.out, List.append_nil]; have := HA5.out.row; exact this) (Gr.refl w5 v5))
            clear h3 h4 HEND
            go_wp2_with (at_builtin; refine Lib.wpList_append_run _ rfl _ _ _ _ rfl _ _ rfl rfl _ _ HRUN.out ?_)
            clear HRUN
            go_roundw
            case rel => exact ⟨k + 1, by omega, by go_num, HN⟩
            case measure => simp [intOf]; omega
    · obtain rfl : k = A.length := by omega
      clear hlt hk
      go_wp2_with fail
      go_ret
      have h := HREL.out
      unfold VRel at h
      rw [List.take_length] at h
      exact ⟨u0, rfl, h.1.row, h.2⟩
theorem appv_any : ∀ n : Nat, AppvH n
  | 0 => fun _ _ _ _ _ _ _ _ h => h.elim
  | n + 1 => appv_step n (appv_any n)
end Go.Proofs.YtddleeenlpigfaaGreatDoor.Ec
/- WALK of the reference's Of. -/
namespace Go.Proofs.YtddleeenlpigfaaGreatDoor.Ec
open Go.RowKit
def sL (L : List UInt8) : ByteArray := ⟨L.toArray⟩
theorem sL_app (a b : List UInt8) : sL a ++ sL b = sL (a ++ b) := ByteArray.mk_append_mk a b
theorem sL_size (a : List UInt8) : (sL a).size = a.length := rfl
theorem num_s (c : Nat) (W : World) (h : c < 18446744073709551616) : Calls Tryz.prog 98 #[.int .u64 c] W fun e w' => e = .returned (.string (sL (Vn.nb c))) ∧ Below W.heap.size W w' := Vn.num_any c W h
theorem text_s (s : ByteArray) (W : World) (h : s.size ≤ 1000) : Calls Tryz.prog 100 #[.string s] W fun e w' => e = .returned (.string (sL (Vn.txt s))) ∧ Below W.heap.size W w' := (Vn.rtext_any s W (by omega)).mono fun e w' ⟨he, hb⟩ => ⟨he.trans (by rw [Vn.txtS_is]; rfl), hb⟩
theorem bl_step' {w a b : World} (h : Below w.heap.size w a) (k : Below a.heap.size a b) : Below w.heap.size w b := h.trans (k.mono h.size)
def RofH (n : Nat) : Prop := ∀ (w : World) (t : Option Addr) (tl tc : Nat) (A : List Tm), InV w n t tl tc A → FitV n A → (bV n A).length ≤ 70368744177664 → Calls Tryz.prog 58 #[.agg #[.slice t tl tc]] w fun e w' => e = .returned (.string (sL (bV n A))) ∧ Below w.heap.size w w'
def OI (w wr : World) (z : ByteArray) (l : List UInt8) : Prop := z = sL l ∧ Below w.heap.size w wr
theorem hdN_ltK' {g : List Tm → Prop} {x : Tm} (h : FitT g x) : hdN x ≤ 47 := by
  unfold hdN
  have := b01_le x.m; have := b01_le x.y; have := b01_le x.o
  have := h.1; have := h.2.1
  omega
theorem v_int {k : IntKind} {a b : Int} (h : a = b) : Value.int k a = .int k b := by rw [h]
set_option maxRecDepth 100000 in
set_option maxHeartbeats 8000000 in
theorem rof_step (n : Nat) (ih : RofH n) : RofH (n + 1) := by
  intro w t tl tc A hV hfit hlen
  obtain ⟨hcount, hmax, hat⟩ := hV
  subst hcount
  have h1000 := hfit.1
  have HAT := Lib.hid hat
  have HFIT := Lib.hid hfit.2
  have HLEN := Lib.hid hlen
  have IH := Lib.hid ih
  have HP1 := Lib.hid (num_s A.length (w.alloc (.cells #[.slice t A.length tc] 24)) (by omega))
  obtain ⟨z0, hz0⟩ : ∃ z, sL (Vn.nb A.length) = z := ⟨_, rfl⟩
  have hz0s : z0.size ≤ 10 := by rw [← hz0]; exact nb_ten _ (by omega)
  rw [hz0] at HP1
  have HZ0 := Lib.hid hz0
  clear hat hfit hlen ih hz0
  go_enter Tryz.func58, Tryz.ntmps58
  go_wp2_with fail
  go_at_call 98; refine HP1.out.mono ?_; rintro e w1 ⟨rfl, hB1⟩
  have hb1 := bl_step' (bl_alloc (Below.refl _ w) (o := .cells #[.slice t A.length tc] 24)) hB1
  have hbx1 : w1.heap[w.heap.size]? = some (.cells #[.slice t A.length tc] 24) := (hB1.block _ (by simp)).trans (w_new w _)
  have HR0 : Hid (OI w w1 z0 (Vn.nb A.length ++ (A.take 0).flatMap (bT (bV n))) ∧ w1.heap[w.heap.size]? = some (.cells #[.slice t A.length tc] 24)) := ⟨⟨by simpa using HZ0.out.symm, hb1⟩, hbx1⟩
  have hz46 : z0.size ≤ 70368744177664 := by omega
  clear hB1 hb1 hbx1 HP1 hz0s
  go_wp2_with fail
  go_loopw [3, 4] (fun v i wr => ∃ (k : Nat) (z : ByteArray), k ≤ A.length ∧ v = .string z ∧ i = .int .i64 k ∧ z.size ≤ 70368744177664 ∧ Hid (OI w wr z (Vn.nb A.length ++ (A.take k).flatMap (bT (bV n))) ∧ wr.heap[w.heap.size]? = some (.cells #[.slice t A.length tc] 24))) (fun _ i _ => A.length - (intOf i).toNat)
  case atStart => exact ⟨0, z0, Nat.zero_le _, rfl, rfl, hz46, HR0⟩
  case round =>
    clear HR0 hz46
    obtain ⟨k, z, hk, rfl, rfl, hz46, hrel⟩ := hrel
    rename World => wr
    have HREL := Lib.hid hrel.out.1
    have HBXV := Lib.hid hrel.out.2
    have hcv : wr.cell? ⟨w.heap.size, 0, none⟩ = some (.slice t A.length tc) := by simp [World.cell?, hrel.out.2]
    clear hrel
    by_cases hlt : k < A.length
    · have hki : (k : Int) < (A.length : Int) := by omega
      have hkz : (0 : Int) ≤ (k : Int) := by omega
      obtain ⟨b, off, rfl, hT⟩ := HAT.out k hlt
      have hmem := HFIT.out A[k] (List.getElem_mem hlt)
      obtain ⟨x, hx⟩ : ∃ x, A[k] = x := ⟨_, rfl⟩
      rw [hx] at hT hmem
      have HX := Lib.hid hx
      have HHD := Lib.hid (hdN_ltK' hmem)
      have hstep : ((Vn.nb A.length ++ (A.take k).flatMap (bT (bV n))) ++ (Vn.nb (hdN x) ++ bB (bV n) x)).length ≤ 70368744177664 := by
        have h1 := HLEN.out
        have h2 := flat_le (bT (bV n)) A (k + 1)
        rw [flat_take _ _ _ hlt, hx] at h2
        rw [bV] at h1
        have h3 : (bT (bV n) x).length = (Vn.nb (hdN x)).length + (bB (bV n) x).length := by unfold bT; rw [List.length_append]
        simp only [List.length_append] at h1 h2 ⊢
        omega
      have HSTEP := Lib.hid hstep
      obtain ⟨k0, lo, hi, s, y, m, o, fs⟩ := x
      obtain ⟨lt, f, fl, fc, c0, c1, c2, c3, c4, c5, c6, c7, hF⟩ := hT
      replace c0 := (HREL.out.2.cell (p := ⟨b, off + k * 8, none⟩) lt).trans c0
      replace c1 := (HREL.out.2.cell (p := ⟨b, off + k * 8 + 1, none⟩) lt).trans c1
      replace c2 := (HREL.out.2.cell (p := ⟨b, off + k * 8 + 2, none⟩) lt).trans c2
      replace c3 := (HREL.out.2.cell (p := ⟨b, off + k * 8 + 3, none⟩) lt).trans c3
      replace c4 := (HREL.out.2.cell (p := ⟨b, off + k * 8 + 4, none⟩) lt).trans c4
      replace c5 := (HREL.out.2.cell (p := ⟨b, off + k * 8 + 5, none⟩) lt).trans c5
      replace c6 := (HREL.out.2.cell (p := ⟨b, off + k * 8 + 6, none⟩) lt).trans c6
      replace c7 := (HREL.out.2.cell (p := ⟨b, off + k * 8 + 7, none⟩) lt).trans c7
      obtain ⟨g0, g5, hnum, hsz, hfs⟩ := hmem
      dsimp only [Tm.k, Tm.lo, Tm.hi, Tm.s, Tm.fs] at g0 g5 hnum hsz hfs
      have h80 : (0 : Int) ≤ 8 * k0 := by omega
      have h85 : 8 * k0 ≤ 40 := by omega
      have HNUM := Lib.hid hnum
      have HFS := Lib.hid hfs
      have HF := Lib.hid hF
      obtain ⟨hn, hhn⟩ : ∃ hn, hdN (.mk k0 lo hi s y m o fs) = hn := ⟨_, rfl⟩
      rw [hhn] at HHD HSTEP
      have HHN := Lib.hid hhn
      have HHV := Lib.hid (show hn = 8 * k0.toNat + b01 m + 2 * b01 y + 4 * b01 o from hhn.symm)
      clear hnum hfs hF hhn hx hstep
      go_upto_if 29 with fail
      clear c0 c1 c2 c3 c4 c5 c6 c7
      obtain ⟨X, hX⟩ : ∃ X, wr.alloc (.cells #[.int .i64 k0, .int .i64 lo, .int .i64 hi, .string s, .bool y, .bool m, .bool o, .slice f fl fc] 31) = X := ⟨_, rfl⟩
      have hbX : Below wr.heap.size wr X := by rw [← hX]; exact bl_alloc (Below.refl _ _)
      have hnX : X.heap[wr.heap.size]? = some (.cells #[.int .i64 k0, .int .i64 lo, .int .i64 hi, .string s, .bool y, .bool m, .bool o, .slice f fl fc] 31) := by rw [← hX]; exact w_new wr _
      rw [hX]
      have HBX := Lib.hid hbX
      have HNX := Lib.hid hnX
      have d0 : X.cell? ⟨wr.heap.size, 0, none⟩ = some (.int .i64 k0) := by simp [World.cell?, hnX]
      have d4 : X.cell? ⟨wr.heap.size, 4, none⟩ = some (.bool y) := by simp [World.cell?, hnX]
      have d6 : X.cell? ⟨wr.heap.size, 6, none⟩ = some (.bool o) := by simp [World.cell?, hnX]
      clear hX hbX hnX
      go_cut [6] (fun v6 wc => ∃ a : Nat, a ≤ 41 ∧ v6 = .int .i64 (a : Int) ∧ Hid (a = 8 * k0.toNat + b01 m) ∧ wc = X)
      case first =>
        cases m
        · go_wp2_with fail
          go_meet
          exact ⟨8 * k0.toNat, by omega, v_int (by omega), Lib.hid (by simp [b01]), rfl⟩
        · go_wp2_with fail
          go_meet
          exact ⟨8 * k0.toNat + 1, by omega, v_int (by omega), Lib.hid (by simp [b01]), rfl⟩
      case rest =>
      obtain ⟨a1, ha1, rfl, HA1, rfl⟩ := hcut
      obtain ⟨X, hXw⟩ : ∃ X, X = wc := ⟨_, rfl⟩
      subst hXw
      go_upto_if 33 with fail
      go_cut [6] (fun v6 wc => ∃ a : Nat, a ≤ 43 ∧ v6 = .int .i64 (a : Int) ∧ Hid (a = 8 * k0.toNat + b01 m + 2 * b01 y) ∧ wc = X)
      case first =>
        cases y
        · go_wp2_with fail
          go_meet
          exact ⟨a1, by omega, v_int (by omega), Lib.hid (by have := HA1.out; simp [b01] at this ⊢; omega), rfl⟩
        · go_wp2_with fail
          go_meet
          exact ⟨a1 + 2, by omega, v_int (by omega), Lib.hid (by have := HA1.out; simp [b01] at this ⊢; omega), rfl⟩
      case rest =>
      obtain ⟨a2, ha2, rfl, HA2, rfl⟩ := hcut
      obtain ⟨X, hXw⟩ : ∃ X, X = wc := ⟨_, rfl⟩
      subst hXw
      go_upto_if 37 with fail
      go_cut [6] (fun v6 wc => ∃ a : Nat, a ≤ 47 ∧ v6 = .int .i64 (a : Int) ∧ Hid (a = 8 * k0.toNat + b01 m + 2 * b01 y + 4 * b01 o) ∧ wc = X)
      case first =>
        cases o
        · go_wp2_with fail
          go_meet
          exact ⟨a2, by omega, v_int (by omega), Lib.hid (by have := HA2.out; simp [b01] at this ⊢; omega), rfl⟩
        · go_wp2_with fail
          go_meet
          exact ⟨a2 + 4, by omega, v_int (by omega), Lib.hid (by have := HA2.out; simp [b01] at this ⊢; omega), rfl⟩
      case rest =>
      obtain ⟨a3, ha3, rfl, HA3, rfl⟩ := hcut
      obtain ⟨X, hXw⟩ : ∃ X, X = wc := ⟨_, rfl⟩
      subst hXw
      obtain rfl : a3 = hn := by have h1 := HA3.out; have h2 := HHV.out; omega
      clear d0 d4 d6
      obtain ⟨tn, htn⟩ : ∃ tn, sL (Vn.nb a3) = tn := ⟨_, rfl⟩
      have htns : tn.size ≤ 10 := by rw [← htn]; exact nb_ten _ (by omega)
      have HTN := Lib.hid htn
      have HC := Lib.hid (num_s a3 X (by omega))
      rw [htn] at HC
      have hz1 : z.size + tn.size ≤ 70368744177664 := by
        have h1 := HSTEP.out
        rw [HREL.out.1, ← htn, sL_size, sL_size]
        simp only [List.length_append] at h1 ⊢
        omega
      clear htn
      go_upto_region 14 with (go_at_call 98; refine HC.out.mono ?_; rintro e w3 ⟨rfl, hB3⟩; have HB3 := Lib.hid hB3; clear hB3)
      have hbx : w3.heap[wr.heap.size]? = some (.cells #[.int .i64 k0, .int .i64 lo, .int .i64 hi, .string s, .bool y, .bool m, .bool o, .slice f fl fc] 31) := (HB3.out.block _ (Array.getElem?_eq_some_iff.1 HNX.out).1).trans HNX.out
      have HBX3 := Lib.hid hbx
      have HLW : Hid (Below wr.heap.size wr w3) := bl_step' HBX.out HB3.out
      have hd0 : w3.cell? ⟨wr.heap.size, 0, none⟩ = some (.int .i64 k0) := by simp [World.cell?, hbx]
      have hd3 : w3.cell? ⟨wr.heap.size, 3, none⟩ = some (.string s) := by simp [World.cell?, hbx]
      have hd7 : w3.cell? ⟨wr.heap.size, 7, none⟩ = some (.slice f fl fc) := by simp [World.cell?, hbx]
      have HEND : Hid (∀ (z6 : ByteArray) (w6 : World), z6 = z ++ tn ++ sL (bB (bV n) (.mk k0 lo hi s y m o fs)) → Below wr.heap.size wr w6 → z6.size ≤ 70368744177664 ∧ (OI w w6 z6 (Vn.nb A.length ++ (A.take (k + 1)).flatMap (bT (bV n))) ∧ w6.heap[w.heap.size]? = some (.cells #[.slice (some ⟨b, off, none⟩) A.length tc] 24))) := fun z6 w6 he hb => by
        have e6 : z6 = sL ((Vn.nb A.length ++ (A.take k).flatMap (bT (bV n))) ++ (Vn.nb a3 ++ bB (bV n) (.mk k0 lo hi s y m o fs))) := by
          rw [he, HREL.out.1, ← HTN.out, sL_app, sL_app, List.append_assoc]
        refine ⟨by rw [e6, sL_size]; exact HSTEP.out, ⟨?_, bl_step' HREL.out.2 hb⟩, (hb.block _ (Array.getElem?_eq_some_iff.1 HBXV.out).1).trans HBXV.out⟩
        rw [e6, flat_take _ _ _ hlt, HX.out]
        unfold bT
        rw [HHN.out]
        simp [List.append_assoc]
      clear hbx HC
      by_cases h12 : k0 = 1 ∨ k0 = 2
      · obtain ⟨⟨hl1, hl2⟩, hh1, hh2⟩ := HNUM.out h12
        have HBB := Lib.hid (show bB (bV n) (.mk k0 lo hi s y m o fs) = Vn.nb (Vn.sgn lo) ++ Vn.nb (Vn.sgn hi) from if_pos h12)
        obtain ⟨p1, hp1⟩ : ∃ p, Vn.sgn lo = p := ⟨_, rfl⟩
        obtain ⟨p2, hp2⟩ : ∃ p, Vn.sgn hi = p := ⟨_, rfl⟩
        have hq1 : p1 < 18446744073709551616 := hp1 ▸ Vn.sgn_lt hl1 hl2
        have hq2 : p2 < 18446744073709551616 := hp2 ▸ Vn.sgn_lt hh1 hh2
        obtain ⟨s1, hs1⟩ : ∃ q, sL (Vn.nb p1) = q := ⟨_, rfl⟩
        obtain ⟨s2, hs2⟩ : ∃ q, sL (Vn.nb p2) = q := ⟨_, rfl⟩
        have hm1 : s1.size ≤ 10 := by rw [← hs1]; exact nb_ten _ hq1
        have hm2 : s2.size ≤ 10 := by rw [← hs2]; exact nb_ten _ hq2
        have S1 : Hid (∀ W, Below w3.heap.size w3 W → Calls Tryz.prog 99 #[.int .i64 lo] W fun e w' => e = .returned (.int .u64 (p1 : Int)) ∧ Below w3.heap.size w3 w') := fun W hW => (Vn.sign_any lo W hl1 hl2).mono fun e w' ⟨he, hw⟩ => by subst hw; rw [hp1] at he; exact ⟨he, hW⟩
        have S2 : Hid (∀ W, Below w3.heap.size w3 W → Calls Tryz.prog 99 #[.int .i64 hi] W fun e w' => e = .returned (.int .u64 (p2 : Int)) ∧ Below w3.heap.size w3 w') := fun W hW => (Vn.sign_any hi W hh1 hh2).mono fun e w' ⟨he, hw⟩ => by subst hw; rw [hp2] at he; exact ⟨he, hW⟩
        have S3 : Hid (∀ W, Below w3.heap.size w3 W → Calls Tryz.prog 98 #[.int .u64 (p1 : Int)] W fun e w' => e = .returned (.string s1) ∧ Below w3.heap.size w3 w') := fun W hW => (num_s p1 W hq1).mono fun e w' ⟨he, hb⟩ => ⟨by rw [hs1] at he; exact he, bl_step' hW hb⟩
        have S4 : Hid (∀ W, Below w3.heap.size w3 W → Calls Tryz.prog 98 #[.int .u64 (p2 : Int)] W fun e w' => e = .returned (.string s2) ∧ Below w3.heap.size w3 w') := fun W hW => (num_s p2 W hq2).mono fun e w' ⟨he, hb⟩ => ⟨by rw [hs2] at he; exact he, bl_step' hW hb⟩
        have hsum : z.size + tn.size + s1.size + s2.size ≤ 70368744177664 := by
          have h1 := HSTEP.out
          rw [HBB.out] at h1
          rw [HREL.out.1, ← HTN.out, ← hs1, ← hs2, ← hp1, ← hp2]
          simp only [sL_size, List.length_append] at h1 ⊢
          omega
        have HEQ : Hid (∀ (q1 q2 : ByteArray), q1 = s1 → q2 = s2 → z ++ tn ++ q1 ++ q2 = z ++ tn ++ sL (bB (bV n) (.mk k0 lo hi s y m o fs))) := fun q1 q2 e1 e2 => by
          rw [e1, e2, HBB.out, ← hs1, ← hs2, ← hp1, ← hp2, ← sL_app, ByteArray.append_assoc]
        have HN1 := Lib.hid h12
        clear h12 hl1 hl2 hh1 hh2 hp1 hp2 hs1 hs2
        rcases HN1.out with h1 | h1
        · subst h1
          go_upto_region 15 with fail
          clear hd0 hd3 hd7
          have V1 : Hid (∀ W, Below w3.heap.size w3 W → W.cell? ⟨wr.heap.size, 1, none⟩ = some (.int .i64 lo) ∧ W.cell? ⟨wr.heap.size, 2, none⟩ = some (.int .i64 hi)) := fun W hW => by have hh := (hW.block _ (Array.getElem?_eq_some_iff.1 HBX3.out).1).trans HBX3.out; exact ⟨by simp [World.cell?, hh], by simp [World.cell?, hh]⟩
          refine region_class (C := fun W => Below w3.heap.size w3 W) (by kernel_rfl) (by kernel_rfl) ((Below.refl _ _).drew) ?_
          repeat (first | go_big_quiet_skip | (go_big_quiet_want; go_big_quiet_op; first | go_big_quiet_on | (apply Exists.intro; refine ⟨fun W hW => ?_, ?_⟩; (first | (with_reducible rfl) | (with_reducible exact (S1.out W hW)) | (with_reducible exact (S2.out W hW)) | (with_reducible exact (S3.out W hW)) | (with_reducible exact (S4.out W hW)) | (obtain ⟨v1, v2⟩ := V1.out W hW; go_simp; first | done | rfl | exact ⟨rfl, rfl⟩)); go_big_quiet_on)))
          refine wpQuiet_nil ?_
          intro w9 hW9
          have HW9 := Lib.hid (bl_step' HLW.out hW9)
          have hx9 : w9.heap[wr.heap.size]? = some (.cells #[.int .i64 1, .int .i64 lo, .int .i64 hi, .string s, .bool y, .bool m, .bool o, .slice f fl fc] 31) := (hW9.block _ (Array.getElem?_eq_some_iff.1 HBX3.out).1).trans HBX3.out
          clear hW9 S1 S2 S3 S4 V1
          obtain ⟨hz6, hn6⟩ := HEND.out (z ++ tn ++ s1 ++ s2) w9 (HEQ.out s1 s2 rfl rfl) HW9.out
          have HN6 := Lib.hid hn6
          clear hn6 HEND
          clear HEQ
          have e0 : w9.cell? ⟨wr.heap.size, 0, none⟩ = some (.int .i64 1) := by simp [World.cell?, hx9]
          clear hx9
          go_wp2_with fail
          go_roundw
          case rel => exact ⟨k + 1, _, by omega, rfl, by go_num, hz6, HN6⟩
          case measure => simp [intOf]; omega
        · subst h1
          go_upto_region 15 with fail
          clear hd0 hd3 hd7
          have V1 : Hid (∀ W, Below w3.heap.size w3 W → W.cell? ⟨wr.heap.size, 1, none⟩ = some (.int .i64 lo) ∧ W.cell? ⟨wr.heap.size, 2, none⟩ = some (.int .i64 hi)) := fun W hW => by have hh := (hW.block _ (Array.getElem?_eq_some_iff.1 HBX3.out).1).trans HBX3.out; exact ⟨by simp [World.cell?, hh], by simp [World.cell?, hh]⟩
          refine region_class (C := fun W => Below w3.heap.size w3 W) (by kernel_rfl) (by kernel_rfl) ((Below.refl _ _).drew) ?_
          repeat (first | go_big_quiet_skip | (go_big_quiet_want; go_big_quiet_op; first | go_big_quiet_on | (apply Exists.intro; refine ⟨fun W hW => ?_, ?_⟩; (first | (with_reducible rfl) | (with_reducible exact (S1.out W hW)) | (with_reducible exact (S2.out W hW)) | (with_reducible exact (S3.out W hW)) | (with_reducible exact (S4.out W hW)) | (obtain ⟨v1, v2⟩ := V1.out W hW; go_simp; first | done | rfl | exact ⟨rfl, rfl⟩)); go_big_quiet_on)))
          refine wpQuiet_nil ?_
          intro w9 hW9
          have HW9 := Lib.hid (bl_step' HLW.out hW9)
          have hx9 : w9.heap[wr.heap.size]? = some (.cells #[.int .i64 2, .int .i64 lo, .int .i64 hi, .string s, .bool y, .bool m, .bool o, .slice f fl fc] 31) := (hW9.block _ (Array.getElem?_eq_some_iff.1 HBX3.out).1).trans HBX3.out
          clear hW9 S1 S2 S3 S4 V1
          obtain ⟨hz6, hn6⟩ := HEND.out (z ++ tn ++ s1 ++ s2) w9 (HEQ.out s1 s2 rfl rfl) HW9.out
          have HN6 := Lib.hid hn6
          clear hn6 HEND
          clear HEQ
          have e0 : w9.cell? ⟨wr.heap.size, 0, none⟩ = some (.int .i64 2) := by simp [World.cell?, hx9]
          clear hx9
          go_wp2_with fail
          go_roundw
          case rel => exact ⟨k + 1, _, by omega, rfl, by go_num, hz6, HN6⟩
          case measure => simp [intOf]; omega
      · have n1 : (k0 == (1 : Int)) = false := by simp; omega
        have n2 : (k0 == (2 : Int)) = false := by simp; omega
        have H12 := Lib.hid h12
        clear h12
        by_cases h3 : k0 = 3
        · subst h3
          clear n1 n2
          have HBB := Lib.hid (show bB (bV n) (.mk 3 lo hi s y m o fs) = Vn.txt s from rfl)
          obtain ⟨s1, hs1⟩ : ∃ q, sL (Vn.txt s) = q := ⟨_, rfl⟩
          have S1 := Lib.hid (text_s s w3 hsz)
          rw [hs1] at S1
          have hsum : z.size + tn.size + s1.size ≤ 70368744177664 := by
            have h1 := HSTEP.out
            rw [HBB.out] at h1
            rw [HREL.out.1, ← HTN.out, ← hs1]
            simp only [sL_size, List.length_append] at h1 ⊢
            omega
          have HEQ := Lib.hid (show z ++ tn ++ s1 = z ++ tn ++ sL (bB (bV n) (.mk 3 lo hi s y m o fs)) by rw [HBB.out, hs1])
          clear hs1
          go_wp2_with (go_at_call 100; refine S1.out.mono ?_; rintro e w7 ⟨rfl, hB7⟩; have HB7 := Lib.hid hB7; have hx7 := (hB7.block _ (Array.getElem?_eq_some_iff.1 HBX3.out).1).trans HBX3.out; have e7 : w7.cell? ⟨wr.heap.size, 0, none⟩ = some (.int .i64 3) := (by simp [World.cell?, hx7]); clear hB7 hx7)
          clear hd0 hd3 hd7
          obtain ⟨hz6, hn6⟩ := HEND.out (z ++ tn ++ s1) w7 HEQ.out (bl_step' HLW.out HB7.out)
          have HN6 := Lib.hid hn6
          clear hn6 HEND
          go_roundw
          case rel => exact ⟨k + 1, _, by omega, rfl, by go_num, hz6, HN6⟩
          case measure => simp [intOf]; omega
        · have n3 : (k0 == (3 : Int)) = false := by simp; omega
          by_cases h4 : k0 = 4
          · subst h4
            clear n1 n2 n3 h3
            have hff := HFS.out rfl
            have hfc := HF.out.1
            subst hfc
            have hf1000 := hff.1
            have HFF := Lib.hid hff
            have HBB := Lib.hid (show bB (bV n) (.mk 4 lo hi s y m o fs) = bF (bV n) fs from rfl)
            obtain ⟨s1, hs1⟩ : ∃ q, sL (Vn.nb fs.length) = q := ⟨_, rfl⟩
            have S1 := Lib.hid (num_s fs.length w3 (by omega))
            rw [hs1] at S1
            have hm1 : s1.size ≤ 10 := by rw [← hs1]; exact nb_ten _ (by omega)
            have HS1 := Lib.hid hs1
            have HTOT : Hid (((Vn.nb A.length ++ (A.take k).flatMap (bT (bV n))) ++ Vn.nb a3 ++ bF (bV n) fs).length ≤ 70368744177664) := by
              have h1 := HSTEP.out
              rw [HBB.out] at h1
              rw [List.append_assoc]
              exact h1
            have hsum : z.size + tn.size + s1.size ≤ 70368744177664 := by
              have h1 := HTOT.out
              unfold bF at h1
              rw [HREL.out.1, ← HTN.out, ← hs1]
              simp only [sL_size, List.length_append] at h1 ⊢
              omega
            clear hs1 hff
            go_wp2_with (go_at_call 98; refine S1.out.mono ?_; rintro e w7 ⟨rfl, hB7⟩; have HB7 := Lib.hid hB7; have HX7 := Lib.hid ((hB7.block _ (Array.getElem?_eq_some_iff.1 HBX3.out).1).trans HBX3.out); clear hB7)
            clear hd0 hd3 hd7 S1
            obtain ⟨zq, hzq⟩ : ∃ q, z ++ tn ++ s1 = q := ⟨_, rfl⟩
            have hzs : zq.size ≤ 70368744177664 := by rw [← hzq]; simp only [ByteArray.size_append]; omega
            rw [hzq]
            have HR7 : Hid (zq = sL ((Vn.nb A.length ++ (A.take k).flatMap (bT (bV n))) ++ Vn.nb a3 ++ (Vn.nb fs.length ++ (fs.take 0).flatMap (bF1 (bV n)))) ∧ Below w3.heap.size w3 w7) := ⟨by rw [← hzq, HREL.out.1, ← HTN.out, ← HS1.out, sL_app, sL_app]; simp, HB7.out⟩
            clear hzq hsum
            go_loopw [3, 7] (fun v i wq => ∃ (j : Nat) (zj : ByteArray), j ≤ fs.length ∧ v = .string zj ∧ i = .int .i64 j ∧ zj.size ≤ 70368744177664 ∧ Hid (zj = sL ((Vn.nb A.length ++ (A.take k).flatMap (bT (bV n))) ++ Vn.nb a3 ++ (Vn.nb fs.length ++ (fs.take j).flatMap (bF1 (bV n)))) ∧ Below w3.heap.size w3 wq)) (fun _ i _ => fs.length - (intOf i).toNat)
            case atStart => exact ⟨0, zq, Nat.zero_le _, rfl, rfl, hzs, HR7⟩
            case round =>
              clear HR7 hzs
              obtain ⟨j, zj, hj, rfl, rfl, hzj, hR⟩ := hrel
              rename World => wq
              have HR := Lib.hid hR.out
              have hxq := (HR.out.2.block _ (Array.getElem?_eq_some_iff.1 HBX3.out).1).trans HBX3.out
              have hq7 : wq.cell? ⟨wr.heap.size, 7, none⟩ = some (.slice f fs.length fc) := by simp [World.cell?, hxq]
              clear hR hxq
              by_cases hjl : j < fs.length
              · have hji : (j : Int) < (fs.length : Int) := by omega
                have hjz : (0 : Int) ≤ (j : Int) := by omega
                obtain ⟨bf, of, tl, tq, tt, rfl, ltf, n0, n1, hV⟩ := HF.out.2.2 j hjl
                have hmf := HFF.out.2 fs[j] (List.getElem_mem hjl)
                obtain ⟨⟨nm, V⟩, hxf⟩ : ∃ x, fs[j] = x := ⟨_, rfl⟩
                rw [hxf] at n0 hV hmf
                dsimp only at n0 hV hmf
                have hnm := hmf.1
                have hbw : Below w.heap.size w wq := bl_step' HREL.out.2 (bl_step' HLW.out HR.out.2)
                obtain ⟨r1, hr1⟩ : ∃ q, sL (Vn.txt nm) = q := ⟨_, rfl⟩
                obtain ⟨r2, hr2⟩ : ∃ q, sL (bV n V) = q := ⟨_, rfl⟩
                have htot : zj.size + r1.size + r2.size ≤ 70368744177664 := by
                  have h1 := HTOT.out
                  have h2 := flat_le (bF1 (bV n)) fs (j + 1)
                  rw [flat_take _ _ _ hjl, hxf, bF1_eq] at h2
                  unfold bF at h1
                  rw [HR.out.1, ← hr1, ← hr2]
                  simp only [sL_size, List.length_append] at h1 h2 ⊢
                  omega
                have hVl : (bV n V).length ≤ 70368744177664 := by have : r2.size = (bV n V).length := by rw [← hr2]; rfl
                                                                  omega
                have S2 : Hid (∀ W, Below wq.heap.size wq W → Calls Tryz.prog 100 #[.string nm] W fun e w' => e = .returned (.string r1) ∧ Below wq.heap.size wq w') := fun W hW => (text_s nm W hnm).mono fun e w' ⟨he, hb⟩ => ⟨by rw [hr1] at he; exact he, bl_step' hW hb⟩
                have S3 : Hid (∀ W, Below wq.heap.size wq W → Calls Tryz.prog 58 #[.agg #[.slice tt tl tq]] W fun e w' => e = .returned (.string r2) ∧ Below wq.heap.size wq w') := fun W hW => (IH.out W tt tl tq V (InV.below (bl_step' hbw hW) hV) hmf.2 hVl).mono fun e w' ⟨he, hb⟩ => ⟨by rw [hr2] at he; exact he, bl_step' hW hb⟩
                have V3 : Hid (∀ W, Below wq.heap.size wq W → W.cell? ⟨wr.heap.size, 7, none⟩ = some (.slice (some ⟨bf, of, none⟩) fs.length fc) ∧ W.cell? ⟨bf, of + j * 2, none⟩ = some (.string nm) ∧ W.cell? ⟨bf, of + j * 2 + 1, none⟩ = some (.slice tt tl tq)) := fun W hW => ⟨(hW.cell (p := ⟨wr.heap.size, 7, none⟩) (World.block_lt_of_cell? _ _ hq7)).trans hq7, ((bl_step' hbw hW).cell (p := ⟨bf, of + j * 2, none⟩) ltf).trans n0, ((bl_step' hbw hW).cell (p := ⟨bf, of + j * 2 + 1, none⟩) ltf).trans n1⟩
                have HQ : Hid (zj ++ r1 ++ r2 = sL ((Vn.nb A.length ++ (A.take k).flatMap (bT (bV n))) ++ Vn.nb a3 ++ (Vn.nb fs.length ++ (fs.take (j + 1)).flatMap (bF1 (bV n))))) := by
                  refine Lib.hid ?_
                  rw [flat_take _ _ _ hjl, hxf, bF1_eq, HR.out.1, ← hr1, ← hr2, sL_app, sL_app]
                  simp [List.append_assoc]
                have hzn : (zj ++ r1 ++ r2).size ≤ 70368744177664 := by simp only [ByteArray.size_append]; omega
                clear n0 n1 hV hmf hxf hbw hVl hr1 hr2 ltf hnm
                go_upto_region 23 with fail
                clear hq7
                refine region_class (C := fun W => Below wq.heap.size wq W) (by kernel_rfl) (by kernel_rfl) ((Below.refl _ _).drew) ?_
                repeat (first | go_big_quiet_skip | (go_big_quiet_want; go_big_quiet_op; first | go_big_quiet_on | (apply Exists.intro; refine ⟨fun W hW => ?_, ?_⟩; (first | (with_reducible rfl) | (with_reducible exact (S2.out W hW)) | (with_reducible exact (S3.out W hW)) | (obtain ⟨v1, v2, v3⟩ := V3.out W hW; go_simp; first | done | rfl | exact ⟨rfl, rfl⟩)); go_big_quiet_on)))
                refine wpQuiet_nil ?_
                intro w9 hW9
                have HR9 := Lib.hid (And.intro HQ.out (bl_step' HR.out.2 hW9))
                clear hW9 S2 S3 V3 HQ
                go_wp2_with fail
                go_roundw
                case rel => exact ⟨j + 1, _, by omega, rfl, by go_num, hzn, HR9⟩
                case measure => simp [intOf]; omega
              · obtain rfl : j = fs.length := by omega
                clear hjl hj
                have HEQ : Hid (zj = z ++ tn ++ sL (bB (bV n) (.mk 4 lo hi s y m o fs))) := by
                  have h1 := HR.out.1
                  rw [List.take_length] at h1
                  rw [h1, HBB.out, HREL.out.1, ← HTN.out, sL_app, sL_app]
                  rfl
                obtain ⟨hz6, hn6⟩ := HEND.out zj wq HEQ.out (bl_step' HLW.out HR.out.2)
                have HN6 := Lib.hid hn6
                clear hn6 HEND HEQ
                go_wp2_with fail
                go_roundw
                case rel => exact ⟨k + 1, _, by omega, rfl, by go_num, hz6, HN6⟩
                case measure => simp [intOf]; omega
          · have n4 : (k0 == (4 : Int)) = false := by simp; omega
            have HBB := Lib.hid (show bB (bV n) (.mk k0 lo hi s y m o fs) = [] from (if_neg H12.out).trans ((if_neg h3).trans (if_neg h4)))
            have HEQ := Lib.hid (show z ++ tn = z ++ tn ++ sL (bB (bV n) (.mk k0 lo hi s y m o fs)) by rw [HBB.out]; exact ByteArray.append_empty.symm)
            clear h3 h4
            obtain ⟨hz6, hn6⟩ := HEND.out (z ++ tn) w3 HEQ.out HLW.out
            have HN6 := Lib.hid hn6
            clear hn6 HEND
            go_wp2_with fail
            go_roundw
            case rel => exact ⟨k + 1, _, by omega, rfl, by go_num, hz6, HN6⟩
            case measure => simp [intOf]; omega
    · obtain rfl : k = A.length := by omega
      clear hlt hk
      have h := HREL.out
      rw [List.take_length] at h
      have H := Lib.hid h
      clear h
      go_wp2_with fail
      go_ret
      exact ⟨by rw [H.out.1]; rfl, H.out.2⟩
theorem rof_any : ∀ n : Nat, RofH n
  | 0 => fun _ _ _ _ _ h => h.elim
  | n + 1 => rof_step n (rof_any n)
end Go.Proofs.YtddleeenlpigfaaGreatDoor.Ec
