/- WALK of code's appendValue. -/
import Derived.Test.YtddleeenlpigfaaGreatDoorKc
import Derived.Test.YtddleeenlpigfaaGreatDoorY21
namespace Go.Proofs.YtddleeenlpigfaaGreatDoor.Ec
open Go.RowKit
def VRel (w0 w : World) (v : Value) (L : List UInt8) (g : List Tm → List UInt8) (A : List Tm) (k : Nat) (z : Value) (wr : World) : Prop :=
  AIn w0 wr z (L ++ (Vn.nb A.length ++ (A.take k).flatMap (bT g))) ∧ Gr w wr v z
def AppvH (n : Nat) : Prop := ∀ (w0 w : World) (t : Option Addr) (tl tc : Nat) (A : List Tm) (v : Value) (L : List UInt8), InV w0 n t tl tc A → FitV n A → (L ++ bV n A).length ≤ 70368744177664 → AIn w0 w v L → Calls Tryz.prog 57 #[v, .agg #[.slice t tl tc]] w (AppP w0 w v (L ++ bV n A))
theorem hdN_lt {g : List Tm → Prop} {x : Tm} (h : FitT g x) : hdN x < 18446744073709551616 := by
  unfold hdN
  have := b01_le x.m; have := b01_le x.y; have := b01_le x.o
  have := h.1; have := h.2.1
  omega
set_option maxRecDepth 100000 in
set_option maxHeartbeats 8000000 in
theorem appv_step (n : Nat) (ih : AppvH n) : AppvH (n + 1) := by
  intro w0 w t tl tc A v L hV hfit hlen hA
  obtain ⟨hcount, hmax, hat⟩ := hV
  subst hcount
  have h1000 := hfit.1
  have HAT := Lib.hid hat
  have HFIT := Lib.hid hfit.2
  have HLEN := Lib.hid hlen
  have HA := Lib.hid hA
  have IH := Lib.hid ih
  have P1 := Vn.put_any none 0 0 A.length [] (w.alloc (.cells #[.slice t A.length tc] 24)) rfl (.inl ⟨rfl, rfl⟩) (fun _ => rfl) (by omega) (by omega)
  rw [List.nil_append] at P1
  have HP1 := Lib.hid P1
  clear hat hfit hlen hA ih P1
  go_enter Tryz.func57, Tryz.ntmps57
  go_wp2_with fail
  go_at_call 93; refine HP1.out.mono ?_; rintro e w1 ⟨a1, c1, rfl, hR1, -, hB1⟩
  have hlen1 : (L ++ Vn.nb A.length).length ≤ 140737488355328 := by
    have := HLEN.out
    rw [bV] at this
    simp only [List.length_append] at this ⊢
    omega
  have hA1 := (HA.out.step (bl_alloc (Below.refl _ w) (o := .cells #[.slice t A.length tc] 24))).step hB1
  have hbx1 : w1.heap[w.heap.size]? = some (.cells #[.slice t A.length tc] 24) := (hB1.block _ (by simp)).trans (w_new w _)
  obtain ⟨v1, w2, hrun, hrow, hgr⟩ := app_bytes c1 hA1.row hR1 (nb_ne _) hlen1 hA1.size
  have hbx2 := hgr.other hbx1 (fun g e => by have := (HA.out.own g e).2; omega)
  have hc2 : w2.cell? ⟨w.heap.size, 0, none⟩ = some (.slice t A.length tc) := by simp [World.cell?, hbx2]
  have HR0 : Hid (VRel w0 w v L (bV n) A 0 v1 w2) := by
    refine ⟨?_, ((Gr.of_below v (bl_alloc (Below.refl _ w) (o := .cells #[.slice t A.length tc] 24))).trans (Gr.of_below v hB1)).trans hgr⟩
    have := hA1.app hgr hrow
    simpa using this
  have HRUN := Lib.hid hrun
  clear hR1 hB1 hlen1 hrun hrow hgr hbx1 hbx2 hA1
  go_wp2_with (at_builtin; refine Lib.wpList_append_run _ rfl _ _ _ _ rfl _ _ rfl rfl _ _ HRUN.out ?_)
  clear HRUN HP1 hc2
  go_loopw [0, 17] (fun z i wr => ∃ k : Nat, k ≤ A.length ∧ i = .int .i64 k ∧ Hid (VRel w0 w v L (bV n) A k z wr)) (fun _ i _ => A.length - (intOf i).toNat)
  case atStart => exact ⟨0, Nat.zero_le _, rfl, HR0⟩
  case round =>
    clear HR0
    obtain ⟨k, hk, rfl, hrel⟩ := hrel
    rename World => wr
    have HREL := Lib.hid hrel.out
    clear hrel
    by_cases hlt : k < A.length
    · have hki : (k : Int) < (A.length : Int) := by omega
      have hkz : (0 : Int) ≤ (k : Int) := by omega
      obtain ⟨b, off, rfl, hT⟩ := HAT.out k hlt
      have hmem := HFIT.out A[k] (List.getElem_mem hlt)
      obtain ⟨x, hx⟩ : ∃ x, A[k] = x := ⟨_, rfl⟩
      rw [hx] at hT hmem
      have HX := Lib.hid hx
      have HHD := Lib.hid (hdN_lt hmem)
      have hstep : ((L ++ (Vn.nb A.length ++ (A.take k).flatMap (bT (bV n)))) ++ (Vn.nb (hdN x) ++ bB (bV n) x)).length ≤ 70368744177664 := by
        have h1 := HLEN.out
        have h2 := flat_le (bT (bV n)) A (k + 1)
        rw [flat_take _ _ _ hlt, hx] at h2
        rw [bV] at h1
        have h3 : (bT (bV n) x).length = (Vn.nb (hdN x)).length + (bB (bV n) x).length := by unfold bT; rw [List.length_append]
        simp only [List.length_append] at h1 h2 ⊢
        omega
      have HSTEP := Lib.hid hstep
      obtain ⟨k0, lo, hi, s, y, m, o, fs⟩ := x
      obtain ⟨lt, f, fl, fc, c0, c1, c2, c3, c4, c5, c6, c7, hF⟩ := hT
      replace c0 := (HREL.out.1.low.cell (p := ⟨b, off + k * 8, none⟩) lt).trans c0
      replace c1 := (HREL.out.1.low.cell (p := ⟨b, off + k * 8 + 1, none⟩) lt).trans c1
      replace c2 := (HREL.out.1.low.cell (p := ⟨b, off + k * 8 + 2, none⟩) lt).trans c2
      replace c3 := (HREL.out.1.low.cell (p := ⟨b, off + k * 8 + 3, none⟩) lt).trans c3
      replace c4 := (HREL.out.1.low.cell (p := ⟨b, off + k * 8 + 4, none⟩) lt).trans c4
      replace c5 := (HREL.out.1.low.cell (p := ⟨b, off + k * 8 + 5, none⟩) lt).trans c5
      replace c6 := (HREL.out.1.low.cell (p := ⟨b, off + k * 8 + 6, none⟩) lt).trans c6
      replace c7 := (HREL.out.1.low.cell (p := ⟨b, off + k * 8 + 7, none⟩) lt).trans c7
      obtain ⟨g0, g5, hnum, hsz, hfs⟩ := hmem
      dsimp only [Tm.k, Tm.lo, Tm.hi, Tm.s, Tm.fs] at g0 g5 hnum hsz hfs
      have HNUM := Lib.hid hnum
      have HFS := Lib.hid hfs
      have HF := Lib.hid hF
      have HEAD := fun W => Lib.hid (head_any k0 lo hi s y m o f fl fc fs W g0 g5)
      obtain ⟨hn, hhn⟩ : ∃ hn, hdN (.mk k0 lo hi s y m o fs) = hn := ⟨_, rfl⟩
      rw [hhn] at HEAD HHD HSTEP
      have HHN := Lib.hid hhn
      have HP2 : ∀ W, Hid (Calls Tryz.prog 93 #[.slice none 0 0, .int .u64 (hn : Int)] W (Vn.PutsS (Vn.nb hn) W)) := fun W => by
        have := Vn.put_any none 0 0 hn [] W rfl (.inl ⟨rfl, rfl⟩) (fun _ => rfl) (by omega) HHD.out
        rw [List.nil_append] at this
        exact this
      clear hnum hfs hF hhn hx hstep lt
      go_wp2_with fail
      go_at_call 94; refine (HEAD _).out.mono ?_; rintro e w3 ⟨rfl, hB3⟩
      have hA3 := (HREL.out.1.step (bl_alloc (Below.refl _ wr) (o := .cells #[.int .i64 k0, .int .i64 lo, .int .i64 hi, .string s, .bool y, .bool m, .bool o, .slice f fl fc] 31))).step hB3
      have hbx3 : w3.heap[wr.heap.size]? = some (.cells #[.int .i64 k0, .int .i64 lo, .int .i64 hi, .string s, .bool y, .bool m, .bool o, .slice f fl fc] 31) := (hB3.block _ (by simp)).trans (w_new wr _)
      have HG3 := Lib.hid ((HREL.out.2.trans (Gr.of_below u0 (bl_alloc (Below.refl _ wr) (o := .cells #[.int .i64 k0, .int .i64 lo, .int .i64 hi, .string s, .bool y, .bool m, .bool o, .slice f fl fc] 31)))).trans (Gr.of_below u0 hB3))
      have HA3 := Lib.hid hA3
      have HBX3 := Lib.hid hbx3
      clear c0 c1 c2 c3 c4 c5 c6 c7 hB3 hA3 hbx3 HEAD
      go_wp2_with fail
      go_at_call 93; refine (HP2 _).out.mono ?_; rintro e w4 ⟨a4, c4, rfl, hR4, -, hB4⟩
      have hA4 := HA3.out.step hB4
      have hbx4 : w4.heap[wr.heap.size]? = some (.cells #[.int .i64 k0, .int .i64 lo, .int .i64 hi, .string s, .bool y, .bool m, .bool o, .slice f fl fc] 31) := (hB4.block _ (Array.getElem?_eq_some_iff.1 HBX3.out).1).trans HBX3.out
      obtain ⟨v5, w5, hrun, hrow, hgr⟩ := app_bytes c4 hA4.row hR4 (nb_ne _) (by have := HSTEP.out; simp only [List.length_append] at this ⊢; omega) hA4.size
      have hbx5 := hgr.other hbx4 (fun g e => by have := (HREL.out.1.own g e).2; omega)
      have HA5 := Lib.hid (hA4.app hgr hrow)
      have HG5 := Lib.hid ((HG3.out.trans (Gr.of_below u0 hB4)).trans hgr)
      have HBX5 := Lib.hid hbx5
      have HOWN : Hid (∀ g, v5.ownBlock = some g → g ≠ wr.heap.size) := fun g e => by
        rcases hgr.at_ with h1 | ⟨g', h1, h2⟩
        · have := (HREL.out.1.own g (h1 ▸ e)).2; omega
        · rw [h1] at e; injection e with e; have := (Array.getElem?_eq_some_iff.1 hbx4).1; omega
      have hd0 : w5.cell? ⟨wr.heap.size, 0, none⟩ = some (.int .i64 k0) := by simp [World.cell?, hbx5]
      have hd3 : w5.cell? ⟨wr.heap.size, 3, none⟩ = some (.string s) := by simp [World.cell?, hbx5]
      have hd7 : w5.cell? ⟨wr.heap.size, 7, none⟩ = some (.slice f fl fc) := by simp [World.cell?, hbx5]
      have HRUN := Lib.hid hrun
      clear hrun hrow hgr hbx5 hR4 hB4 hA4 hbx4 HP2 HA3 HBX3 HG3
      have HEND : Hid (∀ (v6 : Value) (w6 : World), w6.ownsRow w0.heap.size 5 1 v6 ((L ++ (Vn.nb A.length ++ (A.take k).flatMap (bT (bV n)))) ++ (Vn.nb hn ++ bB (bV n) (.mk k0 lo hi s y m o fs))).length (Vn.u8s ((L ++ (Vn.nb A.length ++ (A.take k).flatMap (bT (bV n)))) ++ (Vn.nb hn ++ bB (bV n) (.mk k0 lo hi s y m o fs)))) → Gr w5 w6 v5 v6 → VRel w0 w v L (bV n) A (k + 1) v6 w6) := fun v6 w6 hr hg => by
        refine ⟨?_, HG5.out.trans hg⟩
        have h5 := HA5.out.app hg hr
        rw [flat_take _ _ _ hlt, HX.out]
        unfold bT at h5 ⊢
        rw [HHN.out]
        simpa [List.append_assoc] using h5
      by_cases h12 : k0 = 1 ∨ k0 = 2
      · obtain ⟨⟨hl1, hl2⟩, hh1, hh2⟩ := HNUM.out h12
        have HBB := Lib.hid (show bB (bV n) (.mk k0 lo hi s y m o fs) = Vn.nb (Vn.sgn lo) ++ Vn.nb (Vn.sgn hi) from if_pos h12)
        have Q1 : ∀ W, Hid (Calls Tryz.prog 95 #[.slice none 0 0, .int .i64 lo] W (Vn.PutsS (Vn.nb (Vn.sgn lo)) W)) := fun W => by
          have := Vn.putint_any none 0 0 lo [] W rfl (.inl ⟨rfl, rfl⟩) (fun _ => rfl) (by omega) hl1 hl2
          rw [List.nil_append] at this
          exact this
        have Q2 : ∀ (W : World) (a : Option Addr) (c : Nat), Vn.SRow W a (Vn.nb (Vn.sgn lo)) → (a = none → c = 0) → Hid (Calls Tryz.prog 95 #[.slice a (Vn.nb (Vn.sgn lo)).length c, .int .i64 hi] W (Vn.PutsS (Vn.nb (Vn.sgn lo) ++ Vn.nb (Vn.sgn hi)) W)) := fun W a c hR hc => Vn.putint_any a c _ hi _ W rfl hR hc (by have := nb_ten _ (Vn.sgn_lt hl1 hl2); omega) hh1 hh2
        have HN1 := Lib.hid h12
        clear h12 hl1 hl2 hh1 hh2
        rcases HN1.out with h1 | h1
        · subst h1
          go_wp2_with (at_builtin; refine Lib.wpList_append_run _ rfl _ _ _ _ rfl _ _ rfl rfl _ _ HRUN.out ?_)
          clear HRUN hd0 hd3 hd7
          obtain ⟨wd, hwd⟩ : ∃ wd : World, wd = { w5 with drawn := w5.drawn + 1 } := ⟨_, rfl⟩
          have hdB : Below w5.heap.size w5 wd := by rw [hwd]; exact (Below.refl _ _).drew
          have hS0 : wd.heap[wr.heap.size]? = some (.cells #[.int .i64 1, .int .i64 lo, .int .i64 hi, .string s, .bool y, .bool m, .bool o, .slice f fl fc] 31) := (hdB.block _ (Array.getElem?_eq_some_iff.1 HBX5.out).1).trans HBX5.out
          refine wp_region_held (S := fun X => X.heap[wr.heap.size]? = some (.cells #[.int .i64 1, .int .i64 lo, .int .i64 hi, .string s, .bool y, .bool m, .bool o, .slice f fl fc] 31)) (by kernel_rfl) ?_
          rw [← hwd]
          clear hwd
          refine take_at' (i := 0) 31 (v := v5) rfl rfl (by kernel_rfl) (by kernel_rfl) (by kernel_rfl) (fun _ _ _ h => h) (Or.inl ⟨by rfl, fun w' hS => (by go_simp)⟩) hS0 ?_
          simp only [List.setIfInBounds_toArray, List.set_cons_succ, List.set_cons_zero]
          refine take_at' (i := 1) 32 (v := .pointer (some ⟨wr.heap.size, 1, none⟩)) rfl rfl (by kernel_rfl) (by kernel_rfl) (by kernel_rfl) (fun _ _ _ h => h) (Or.inl ⟨by rfl, fun w' hS => (by go_simp)⟩) hS0 ?_
          simp only [List.setIfInBounds_toArray, List.set_cons_succ, List.set_cons_zero]
          refine take_at' (i := 2) 33 (v := .int .i64 lo) rfl rfl (by kernel_rfl) (by kernel_rfl) (by kernel_rfl) (fun _ _ _ h => h) (Or.inl ⟨by rfl, fun w' hS => (by have u1 : w'.cell? ⟨wr.heap.size, 1, none⟩ = some (.int .i64 lo) := (by simp [World.cell?, hS]); go_simp)⟩) hS0 ?_
          simp only [List.setIfInBounds_toArray, List.set_cons_succ, List.set_cons_zero]
          refine take_at' (i := 4) 35 (v := .pointer (some ⟨wr.heap.size, 2, none⟩)) rfl rfl (by kernel_rfl) (by kernel_rfl) (by kernel_rfl) (fun _ _ _ h => h) (Or.inl ⟨by rfl, fun w' hS => (by go_simp)⟩) hS0 ?_
          simp only [List.setIfInBounds_toArray, List.set_cons_succ, List.set_cons_zero]
          refine take_at' (i := 5) 36 (v := .int .i64 hi) rfl rfl (by kernel_rfl) (by kernel_rfl) (by kernel_rfl) (fun _ _ _ h => h) (Or.inl ⟨by rfl, fun w' hS => (by have u1 : w'.cell? ⟨wr.heap.size, 2, none⟩ = some (.int .i64 hi) := (by simp [World.cell?, hS]); go_simp)⟩) hS0 ?_
          simp only [List.setIfInBounds_toArray, List.set_cons_succ, List.set_cons_zero]
          refine wpAnyH_all (rs := [3]) (by kernel_rfl) (by simp) ?_
          intro i hin
          obtain rfl : i = 3 := by simpa using hin
          refine call_at 34 (f := 95) (args := #[.slice none 0 0, .int .i64 lo]) (w' := wd) rfl rfl rfl (by go_simp) ((Q1 wd).out.mono ?_)
          rintro e w6 ⟨a6, c6, rfl, hR6, hn6, hB6⟩
          have hS6 : w6.heap[wr.heap.size]? = some (.cells #[.int .i64 1, .int .i64 lo, .int .i64 hi, .string s, .bool y, .bool m, .bool o, .slice f fl fc] 31) := (hB6.block _ (Array.getElem?_eq_some_iff.1 hS0).1).trans hS0
          refine ⟨_, rfl, hS6, ?_⟩
          simp only [List.setIfInBounds_toArray, List.set_cons_succ, List.set_cons_zero]
          refine wpAnyH_all (rs := [6]) (by kernel_rfl) (by simp) ?_
          intro i hin
          obtain rfl : i = 6 := by simpa using hin
          refine call_at 37 (f := 95) (args := #[.slice a6 (Vn.nb (Vn.sgn lo)).length c6, .int .i64 hi]) (w' := w6) rfl rfl rfl (by go_simp) ((Q2 w6 a6 c6 hR6 hn6).out.mono ?_)
          rintro e w7 ⟨a7, c7, rfl, hR7, -, hB7⟩
          have hS7 : w7.heap[wr.heap.size]? = some (.cells #[.int .i64 1, .int .i64 lo, .int .i64 hi, .string s, .bool y, .bool m, .bool o, .slice f fl fc] 31) := (hB7.block _ (Array.getElem?_eq_some_iff.1 hS6).1).trans hS6
          refine ⟨_, rfl, hS7, ?_⟩
          simp only [List.setIfInBounds_toArray, List.set_cons_succ, List.set_cons_zero]
          have hB57 : Below w5.heap.size w5 w7 := (hdB.trans (hB6.mono hdB.size)).trans (hB7.mono (Nat.le_trans hdB.size hB6.size))
          have hA7 := HA5.out.step hB57
          obtain ⟨v8, w8, hrun, hrow, hgr⟩ := app_bytes c7 hA7.row hR7 (fun h => nb_ne _ (List.append_eq_nil_iff.1 h).1) (by have := HSTEP.out; rw [HBB.out] at this; simp only [List.length_append] at this ⊢; omega) hA7.size
          have hS8 := hgr.other hS7 HOWN.out
          have HN := Lib.hid (HEND.out v8 w8 (by rw [HBB.out]; simp only [List.append_assoc] at hrow ⊢; exact hrow) ((Gr.of_below v5 hB57).trans hgr))
          have HRUN := Lib.hid hrun
          clear hrun hrow hgr hA7 hB57 hR7 hB7 hR6 hB6 hdB
          refine wpAnyH_all (rs := [7]) (by kernel_rfl) (by simp) ?_
          intro i hin
          obtain rfl : i = 7 := by simpa using hin
          refine value_at 38 (v := v8) (w' := w8) rfl rfl rfl (append_run rfl rfl rfl HRUN.out) ⟨hS8, ?_⟩
          simp only [List.setIfInBounds_toArray, List.set_cons_succ, List.set_cons_zero]
          refine wpAnyH_all (rs := [8]) (by kernel_rfl) (by simp) ?_
          intro i hin
          obtain rfl : i = 8 := by simpa using hin
          refine value_at 0 (v := v8) (w' := w8) rfl rfl rfl (by go_simp) ⟨hS8, ?_⟩
          simp only [List.setIfInBounds_toArray, List.set_cons_zero]
          refine wpAnyH_done (by kernel_rfl) ?_ _
          clear hS0 hS6 hS7 hS8 HRUN HEND
          go_wp2_with fail
          go_roundw
          case rel => exact ⟨k + 1, by omega, by go_num, HN⟩
          case measure => simp [intOf]; omega
        · subst h1
          go_wp2_with (at_builtin; refine Lib.wpList_append_run _ rfl _ _ _ _ rfl _ _ rfl rfl _ _ HRUN.out ?_)
          clear HRUN hd0 hd3 hd7
          obtain ⟨wd, hwd⟩ : ∃ wd : World, wd = { w5 with drawn := w5.drawn + 1 } := ⟨_, rfl⟩
          have hdB : Below w5.heap.size w5 wd := by rw [hwd]; exact (Below.refl _ _).drew
          have hS0 : wd.heap[wr.heap.size]? = some (.cells #[.int .i64 2, .int .i64 lo, .int .i64 hi, .string s, .bool y, .bool m, .bool o, .slice f fl fc] 31) := (hdB.block _ (Array.getElem?_eq_some_iff.1 HBX5.out).1).trans HBX5.out
          refine wp_region_held (S := fun X => X.heap[wr.heap.size]? = some (.cells #[.int .i64 2, .int .i64 lo, .int .i64 hi, .string s, .bool y, .bool m, .bool o, .slice f fl fc] 31)) (by kernel_rfl) ?_
          rw [← hwd]
          clear hwd
          refine take_at' (i := 0) 31 (v := v5) rfl rfl (by kernel_rfl) (by kernel_rfl) (by kernel_rfl) (fun _ _ _ h => h) (Or.inl ⟨by rfl, fun w' hS => (by go_simp)⟩) hS0 ?_
          simp only [List.setIfInBounds_toArray, List.set_cons_succ, List.set_cons_zero]
          refine take_at' (i := 1) 32 (v := .pointer (some ⟨wr.heap.size, 1, none⟩)) rfl rfl (by kernel_rfl) (by kernel_rfl) (by kernel_rfl) (fun _ _ _ h => h) (Or.inl ⟨by rfl, fun w' hS => (by go_simp)⟩) hS0 ?_
          simp only [List.setIfInBounds_toArray, List.set_cons_succ, List.set_cons_zero]
          refine take_at' (i := 2) 33 (v := .int .i64 lo) rfl rfl (by kernel_rfl) (by kernel_rfl) (by kernel_rfl) (fun _ _ _ h => h) (Or.inl ⟨by rfl, fun w' hS => (by have u1 : w'.cell? ⟨wr.heap.size, 1, none⟩ = some (.int .i64 lo) := (by simp [World.cell?, hS]); go_simp)⟩) hS0 ?_
          simp only [List.setIfInBounds_toArray, List.set_cons_succ, List.set_cons_zero]
          refine take_at' (i := 4) 35 (v := .pointer (some ⟨wr.heap.size, 2, none⟩)) rfl rfl (by kernel_rfl) (by kernel_rfl) (by kernel_rfl) (fun _ _ _ h => h) (Or.inl ⟨by rfl, fun w' hS => (by go_simp)⟩) hS0 ?_
          simp only [List.setIfInBounds_toArray, List.set_cons_succ, List.set_cons_zero]
          refine take_at' (i := 5) 36 (v := .int .i64 hi) rfl rfl (by kernel_rfl) (by kernel_rfl) (by kernel_rfl) (fun _ _ _ h => h) (Or.inl ⟨by rfl, fun w' hS => (by have u1 : w'.cell? ⟨wr.heap.size, 2, none⟩ = some (.int .i64 hi) := (by simp [World.cell?, hS]); go_simp)⟩) hS0 ?_
          simp only [List.setIfInBounds_toArray, List.set_cons_succ, List.set_cons_zero]
          refine wpAnyH_all (rs := [3]) (by kernel_rfl) (by simp) ?_
          intro i hin
          obtain rfl : i = 3 := by simpa using hin
          refine call_at 34 (f := 95) (args := #[.slice none 0 0, .int .i64 lo]) (w' := wd) rfl rfl rfl (by go_simp) ((Q1 wd).out.mono ?_)
          rintro e w6 ⟨a6, c6, rfl, hR6, hn6, hB6⟩
          have hS6 : w6.heap[wr.heap.size]? = some (.cells #[.int .i64 2, .int .i64 lo, .int .i64 hi, .string s, .bool y, .bool m, .bool o, .slice f fl fc] 31) := (hB6.block _ (Array.getElem?_eq_some_iff.1 hS0).1).trans hS0
          refine ⟨_, rfl, hS6, ?_⟩
          simp only [List.setIfInBounds_toArray, List.set_cons_succ, List.set_cons_zero]
          refine wpAnyH_all (rs := [6]) (by kernel_rfl) (by simp) ?_
          intro i hin
          obtain rfl : i = 6 := by simpa using hin
          refine call_at 37 (f := 95) (args := #[.slice a6 (Vn.nb (Vn.sgn lo)).length c6, .int .i64 hi]) (w' := w6) rfl rfl rfl (by go_simp) ((Q2 w6 a6 c6 hR6 hn6).out.mono ?_)
          rintro e w7 ⟨a7, c7, rfl, hR7, -, hB7⟩
          have hS7 : w7.heap[wr.heap.size]? = some (.cells #[.int .i64 2, .int .i64 lo, .int .i64 hi, .string s, .bool y, .bool m, .bool o, .slice f fl fc] 31) := (hB7.block _ (Array.getElem?_eq_some_iff.1 hS6).1).trans hS6
          refine ⟨_, rfl, hS7, ?_⟩
          simp only [List.setIfInBounds_toArray, List.set_cons_succ, List.set_cons_zero]
          have hB57 : Below w5.heap.size w5 w7 := (hdB.trans (hB6.mono hdB.size)).trans (hB7.mono (Nat.le_trans hdB.size hB6.size))
          have hA7 := HA5.out.step hB57
          obtain ⟨v8, w8, hrun, hrow, hgr⟩ := app_bytes c7 hA7.row hR7 (fun h => nb_ne _ (List.append_eq_nil_iff.1 h).1) (by have := HSTEP.out; rw [HBB.out] at this; simp only [List.length_append] at this ⊢; omega) hA7.size
          have hS8 := hgr.other hS7 HOWN.out
          have HN := Lib.hid (HEND.out v8 w8 (by rw [HBB.out]; simp only [List.append_assoc] at hrow ⊢; exact hrow) ((Gr.of_below v5 hB57).trans hgr))
          have HRUN := Lib.hid hrun
          clear hrun hrow hgr hA7 hB57 hR7 hB7 hR6 hB6 hdB
          refine wpAnyH_all (rs := [7]) (by kernel_rfl) (by simp) ?_
          intro i hin
          obtain rfl : i = 7 := by simpa using hin
          refine value_at 38 (v := v8) (w' := w8) rfl rfl rfl (append_run rfl rfl rfl HRUN.out) ⟨hS8, ?_⟩
          simp only [List.setIfInBounds_toArray, List.set_cons_succ, List.set_cons_zero]
          refine wpAnyH_all (rs := [8]) (by kernel_rfl) (by simp) ?_
          intro i hin
          obtain rfl : i = 8 := by simpa using hin
          refine value_at 0 (v := v8) (w' := w8) rfl rfl rfl (by go_simp) ⟨hS8, ?_⟩
          simp only [List.setIfInBounds_toArray, List.set_cons_zero]
          refine wpAnyH_done (by kernel_rfl) ?_ _
          clear hS0 hS6 hS7 hS8 HRUN HEND
          go_wp2_with fail
          go_roundw
          case rel => exact ⟨k + 1, by omega, by go_num, HN⟩
          case measure => simp [intOf]; omega
      · have n1 : (k0 == (1 : Int)) = false := by simp; omega
        have n2 : (k0 == (2 : Int)) = false := by simp; omega
        have H12 := Lib.hid h12
        clear h12
        by_cases h3 : k0 = 3
        · subst h3
          clear n1 n2
          have HBB := Lib.hid (show bB (bV n) (.mk 3 lo hi s y m o fs) = Vn.txt s from rfl)
          have Q1 : ∀ W, Hid (Calls Tryz.prog 96 #[.slice none 0 0, .string s] W (Vn.PutsS (Vn.txt s) W)) := fun W => by
            have := Vn.puttext_any none 0 0 s [] W rfl (.inl ⟨rfl, rfl⟩) (fun _ => rfl) (by omega) (by omega)
            rw [List.nil_append] at this
            exact this
          go_wp2_with (at_builtin; refine Lib.wpList_append_run _ rfl _ _ _ _ rfl _ _ rfl rfl _ _ HRUN.out ?_)
          clear HRUN hd0 hd3 hd7
          go_at_call 96; refine (Q1 _).out.mono ?_; rintro e w7 ⟨a7, c7, rfl, hR7, -, hB7⟩
          have hA7 := HA5.out.step hB7
          obtain ⟨v8, w8, hrun, hrow, hgr⟩ := app_bytes c7 hA7.row hR7 (txt_ne _) (by have := HSTEP.out; rw [HBB.out] at this; simp only [List.length_append] at this ⊢; omega) hA7.size
          have HN := Lib.hid (HEND.out v8 w8 (by rw [HBB.out]; simp only [List.append_assoc] at hrow ⊢; exact hrow) ((Gr.of_below v5 hB7).trans hgr))
          have HRUN := Lib.hid hrun
          clear hrun hrow hgr hA7 hR7 hB7 HEND
          go_wp2_with (at_builtin; refine Lib.wpList_append_run _ rfl _ _ _ _ rfl _ _ rfl rfl _ _ HRUN.out ?_)
          clear HRUN
          go_roundw
          case rel => exact ⟨k + 1, by omega, by go_num, HN⟩
          case measure => simp [intOf]; omega
        · have n3 : (k0 == (3 : Int)) = false := by simp; omega
          by_cases h4 : k0 = 4
          · subst h4
            clear n1 n2 n3 h3
            have hff := HFS.out rfl
            have HBB := Lib.hid (show bB (bV n) (.mk 4 lo hi s y m o fs) = bF (bV n) fs from rfl)
            have HQ := Lib.hid (appf_any n IH.out w0 w5 f fl fc fs v5 ((L ++ (Vn.nb A.length ++ (A.take k).flatMap (bT (bV n)))) ++ Vn.nb hn) HF.out hff (by have := HSTEP.out; rw [HBB.out] at this; simp only [List.length_append] at this ⊢; omega) HA5.out)
            clear hff
            go_wp2_with (at_builtin; refine Lib.wpList_append_run _ rfl _ _ _ _ rfl _ _ rfl rfl _ _ HRUN.out ?_)
            clear HRUN hd0 hd3 hd7
            go_at_call 97; refine HQ.out.mono ?_; rintro e w8 ⟨v8, rfl, hrow, hgr⟩
            have HN := Lib.hid (HEND.out v8 w8 (by rw [HBB.out]; simp only [List.append_assoc] at hrow ⊢; exact hrow) hgr)
            clear hrow hgr HEND HQ
            go_wp2_with fail
            go_roundw
            case rel => exact ⟨k + 1, by omega, by go_num, HN⟩
            case measure => simp [intOf]; omega
          · have n4 : (k0 == (4 : Int)) = false := by simp; omega
            have HBB := Lib.hid (show bB (bV n) (.mk k0 lo hi s y m o fs) = [] from (if_neg H12.out).trans ((if_neg h3).trans (if_neg h4)))
            have HN := Lib.hid (HEND.out v5 w5 (by rw [HBB.out, List.append_nil]; have := HA5.out.row; exact this) (Gr.refl w5 v5))
            clear h3 h4 HEND
            go_wp2_with (at_builtin; refine Lib.wpList_append_run _ rfl _ _ _ _ rfl _ _ rfl rfl _ _ HRUN.out ?_)
            clear HRUN
            go_roundw
            case rel => exact ⟨k + 1, by omega, by go_num, HN⟩
            case measure => simp [intOf]; omega
    · obtain rfl : k = A.length := by omega
      clear hlt hk
      go_wp2_with fail
      go_ret
      have h := HREL.out
      unfold VRel at h
      rw [List.take_length] at h
      exact ⟨u0, rfl, h.1.row, h.2⟩
theorem appv_any : ∀ n : Nat, AppvH n
  | 0 => fun _ _ _ _ _ _ _ _ h => h.elim
  | n + 1 => appv_step n (appv_any n)
end Go.Proofs.YtddleeenlpigfaaGreatDoor.Ec
