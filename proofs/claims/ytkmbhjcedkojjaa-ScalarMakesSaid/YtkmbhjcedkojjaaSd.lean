/- WALK of Copy. -/
import Derived.Test.YtkmbhjcedkojjaaSc
import Derived.Deep.DeepCutAuto
import Derived.Deep.CutBlock
namespace Go.Proofs.Ytkmbhjcedkojjaa
open Go.RowKit
/-- A copy: the same terms, in memory of the call's own. -/
def CopyPost (w : World) (n tl : Nat) (A : List Tm) (e : Ending) (w' : World) : Prop :=
  ∃ (t' : Option Addr) (tc' : Nat), e = .returned (.agg #[.slice t' tl tc']) ∧ Below w.heap.size w w' ∧ OwV (fun b => w.heap.size ≤ b) w' n t' tl tc' A
/-- The box of the answer. -/
def Rx (w : World) (N : Nat) : Prop := N < w.heap.size ∧ w.cell? ⟨N, 0, none⟩ = some (.slice none 0 0) ∧ w.frozen? ⟨N, 0, none⟩ = false
theorem Rx.later {w w' : World} {N : Nat} (h : Rx w N) (hb : Below w.heap.size w w') : Rx w' N := ⟨Nat.lt_of_lt_of_le h.1 hb.size, (hb.cell (p := ⟨N, 0, none⟩) h.1).trans h.2.1, (hb.frozen (p := ⟨N, 0, none⟩) h.1).trans h.2.2⟩
/-- The two boxes of a copy, behind a call. -/
theorem boxes_copy (w : World) (t : Option Addr) (tl tc : Nat) {w1 : World} (h : Below ((w.alloc (.cells #[.slice t tl tc] 41)).alloc (.cells #[.slice none 0 0] 41)).heap.size ((w.alloc (.cells #[.slice t tl tc] 41)).alloc (.cells #[.slice none 0 0] 41)) w1) :
    (w.heap.size < w1.heap.size ∧ w1.cell? ⟨w.heap.size, 0, none⟩ = some (.slice t tl tc) ∧ w1.frozen? ⟨w.heap.size, 0, none⟩ = false) ∧ Rx w1 (w.heap.size + 1) ∧ Below w.heap.size w w1 := by
  have hz := h.size
  have e : ((w.alloc (.cells #[.slice t tl tc] 41)).alloc (.cells #[.slice none 0 0] 41)).heap.size = w.heap.size + 1 + 1 := by simp
  rw [e] at hz
  have g : ∀ b, b < w.heap.size + 1 + 1 → w1.cell? ⟨b, 0, none⟩ = ((w.alloc (.cells #[.slice t tl tc] 41)).alloc (.cells #[.slice none 0 0] 41)).cell? ⟨b, 0, none⟩ := fun b hb => h.cell (p := ⟨b, 0, none⟩) (by rw [e]; exact hb)
  have g' : ∀ b, b < w.heap.size + 1 + 1 → w1.frozen? ⟨b, 0, none⟩ = ((w.alloc (.cells #[.slice t tl tc] 41)).alloc (.cells #[.slice none 0 0] 41)).frozen? ⟨b, 0, none⟩ := fun b hb => h.frozen (p := ⟨b, 0, none⟩) (by rw [e]; exact hb)
  exact ⟨⟨by omega, (g _ (by omega)).trans (by simp [go_sem]), (g' _ (by omega)).trans (by simp [go_sem])⟩, ⟨by omega, (g _ (by omega)).trans (by simp [go_sem]), (g' _ (by omega)).trans (by simp [go_sem])⟩, bl_step (bl_alloc (bl_alloc (Below.refl _ _))) h⟩
set_option maxRecDepth 100000 in
set_option maxHeartbeats 4000000 in
theorem copy_zero (n : Nat) (w : World) (t : Option Addr) (tc : Nat) : Calls Try.prog 42 #[.agg #[.slice t 0 tc]] w (CopyPost w (n + 1) 0 []) := by
  have HC := fun W => Lib.hid (cloneT_any t 0 tc W (Nat.zero_le _) (by omega) (.inl rfl))
  go_enter Try.func42, Try.ntmps42
  go_wp2_with (go_at_call 60; refine (HC _).out.mono ?_; rintro e w1 ⟨t', c', rfl, hB, -⟩; obtain ⟨⟨hz0, bx0, fz0⟩, ⟨hz1, bx1, fz1⟩, hb⟩ := boxes_copy w t 0 tc hB; have HB := Lib.hid hb; clear hB hb)
  go_loopw [15] (fun i wr => i = .int .i64 0 ∧ Hid (wr = w1.setCell ⟨w.heap.size, 0, none⟩ (.slice t' 0 c'))) (fun _ _ => 0)
  case atStart => exact ⟨rfl, rfl⟩
  case round =>
    obtain ⟨rfl, hw⟩ := hrel
    replace hw := hw.out
    subst hw
    go_wp2_with fail
    exact bodyPost_ret (v := .agg #[.slice t' 0 c']) (by simp [results, Try.results42, go_sem, bx1]) rfl ⟨t', c', rfl, bl_set (bl_set HB.out (Nat.le_refl _)) (by simp), OwV.none _ _ _ _⟩
/-- A clone of at least one. -/
theorem clone_row {size n : Nat} {t : Option Addr} {w : World} {e : Ending} {w' : World} (h : CloneP size n t w e w') (hn : n ≠ 0) {b off : Nat} (ht : t = some ⟨b, off, none⟩) :
    ∃ g c', e = .returned (.slice (some ⟨g, 0, none⟩) n c') ∧ Below w.heap.size w w' ∧ w.heap.size ≤ g ∧ g < w'.heap.size ∧ (∀ o, w'.frozen? ⟨g, o, none⟩ = false) ∧ ∀ j, j < n * size → w'.cell? ⟨g, j, none⟩ = w.cell? ⟨b, off + j, none⟩ := by
  obtain ⟨t', c', he, hb, h0 | ⟨g, b', off', rfl, ht', hg, hl, hf, hc⟩⟩ := h
  · exact absurd h0 hn
  · rw [ht] at ht'
    cases ht'
    exact ⟨g, c', he, hb, hg, hl, hf, hc⟩
set_option maxRecDepth 100000 in
set_option maxHeartbeats 8000000 in
theorem copy_step (n : Nat) (ih : ∀ (W : World) (t : Option Addr) (tl tc : Nat) (A : List Tm), InV W n t tl tc A → SlimV n A → Calls Try.prog 42 #[.agg #[.slice t tl tc]] W (CopyPost W n tl A))
    (w : World) (t : Option Addr) (tl tc : Nat) (A : List Tm) (h : InV w (n + 1) t tl tc A) (hs : SlimV (n + 1) A) (hne : A.length ≠ 0) : Calls Try.prog 42 #[.agg #[.slice t tl tc]] w (CopyPost w (n + 1) tl A) := by
  have hI := h
  obtain ⟨hl, hz, hA⟩ := h
  subst hl
  obtain ⟨b, off, rfl, -⟩ := hA 0 (by omega)
  have IH := Lib.hid ih
  have HA := Lib.hid hA
  have HS := Lib.hid hs
  have HN := Lib.hid hne
  have HC : Hid (∀ W, Below w.heap.size w W → Calls Try.prog 60 #[.slice (some ⟨b, off, none⟩) A.length tc] W (CloneP 8 A.length (some ⟨b, off, none⟩) W)) := fun W hW =>
    cloneT_any _ _ _ W (by unfold maxLen; omega) hs.1 (cells_inT (hI.below hW))
  clear ih hA hs hne hI
  go_enter Try.func42, Try.ntmps42
  go_wp2_with (go_at_call 60; refine (HC.out _ (bl_alloc (bl_alloc (Below.refl _ _)))).mono ?_; intro e w1 hcl; obtain ⟨g, c', rfl, hB, hg, hgl, hgf, hgc⟩ := clone_row hcl HN.out rfl; obtain ⟨⟨hz0, bx0, fz0⟩, hR, hb⟩ := boxes_copy w (some ⟨b, off, none⟩) A.length tc hB; have HB := Lib.hid hb; have HR := Lib.hid hR; have HG := Lib.hid (And.intro hg (And.intro hgl (And.intro hgf hgc))); clear hB hb hg hgl hgf hgc hcl hR)
  have HT : Hid (TRow n w (w1.setCell ⟨w.heap.size, 0, none⟩ (.slice (some ⟨g, 0, none⟩) A.length c')) g b off A 0) := by
    obtain ⟨hg, hgl, hgf, hgc⟩ := HG.out
    simp at hg
    refine ⟨by rw [set_size]; exact hgl, fun o => by rw [World.frozen?_setCell]; exact hgf o, fun q _ hq => ?_, fun i _ hi => absurd hi (Nat.not_lt_zero _)⟩
    rw [set_far (.inl (by omega)), hgc q hq]
    obtain ⟨b', off', e, hc⟩ := (cells_inT (tc := tc) ⟨rfl, hz, HA.out⟩).resolve_left HN.out
    cases e
    obtain ⟨u, hu, _⟩ := hc q hq
    have := World.block_lt_of_cell? _ _ hu
    exact ((Below.refl w.heap.size w).alloc (Nat.le_refl _) _ |>.alloc (by simp) _).cell (p := ⟨b, off + q, none⟩) this
  have HL : Hid (w.heap.size + 1 < g) := by have := HG.out.1; simp at this; exact (by omega : w.heap.size + 1 < g)
  clear HG
  go_loopw [15] (fun i wr => ∃ k : Nat, k ≤ A.length ∧ i = .int .i64 k ∧ Bx wr w.heap.size (some ⟨g, 0, none⟩) A.length c' ∧ Hid (Rx wr (w.heap.size + 1)) ∧ Hid (Below w.heap.size w wr) ∧ Hid (TRow n w wr g b off A k)) (fun i _ => A.length - (intOf i).toNat)
  case atStart => exact ⟨0, Nat.zero_le _, rfl, ⟨by rw [set_size]; exact hz0, set_here bx0⟩, ⟨by rw [set_size]; exact HR.out.1, (set_far (.inl (by omega))).trans HR.out.2.1, by rw [World.frozen?_setCell]; exact HR.out.2.2⟩, bl_set HB.out (Nat.le_refl _), HT⟩
  case round =>
    obtain ⟨k, hk, rfl, hX, hRx, hBr, hT⟩ := hrel
    rename World => wr
    have bx := hX.2
    have HX := Lib.hid hX
    clear hX HR HB HT bx0 fz0 hz0
    by_cases hlt : k < A.length
    · have hki : (k : Int) < (A.length : Int) := by omega
      have hk0 : (0 : Int) ≤ (k : Int) := by omega
      obtain ⟨b', off', e, i1⟩ := HA.out k hlt
      cases e
      have HI1 := Lib.hid i1
      have HS1 := Lib.hid (HS.out.2 k hlt)
      have HT' := Lib.hid hT.out
      have old : ∀ r, r < 8 → ∀ {v : Value}, w.cell? ⟨b, off + k * 8 + r, none⟩ = some v → wr.cell? ⟨g, k * 8 + r, none⟩ = some v := fun r hr v hv => (hT.out.2.2.1 (k * 8 + r) (by omega) (by omega)).trans (by rw [← Nat.add_assoc]; exact hv)
      have HF : ∃ x, A[k] = x := ⟨_, rfl⟩
      obtain ⟨⟨k5, lo5, hi5, s5, y5, m5, o5, g5⟩, hx⟩ := HF
      rw [hx] at i1 HS1
      obtain ⟨lt1, f5, fl5, fc5, c0, c1, c2, c3, c4, c5, c6, c7, j1⟩ := i1
      replace c0 := old 0 (by omega) c0
      replace c1 := old 1 (by omega) c1
      replace c2 := old 2 (by omega) c2
      replace c3 := old 3 (by omega) c3
      replace c4 := old 4 (by omega) c4
      replace c5 := old 5 (by omega) c5
      replace c6 := old 6 (by omega) c6
      replace c7 := old 7 (by omega) c7
      rw [Nat.add_zero] at c0
      obtain ⟨l5, z5, j5⟩ := j1
      subst l5
      have HXX := Lib.hid hx
      have J5 := Lib.hid (And.intro z5 j5)
      have HCF : Hid (∀ W, Below wr.heap.size wr W → Calls Try.prog 61 #[.slice f5 g5.length fc5] W (CloneP 2 g5.length f5 W)) := fun W hW =>
        cloneF_any _ _ _ W (by unfold maxLen; omega) HS1.out.1 (cells_inF (I := fun _ _ _ _ => True) (InF.below (fun _ _ _ _ _ => trivial) (bl_step hBr.out hW) (InF.below (I := fun t tl tc V => InV w n t tl tc V) (fun _ _ _ _ _ => trivial) (Below.refl _ _) ⟨rfl, z5, j5⟩)))
      clear j5 old lt1 hx
      by_cases h5 : g5.length = 0
      · rw [h5] at HCF
        obtain rfl : g5 = [] := List.length_eq_zero_iff.1 h5
        clear h5
        go_wp2_with (go_at_call 61; refine (HCF.out _ (bl_alloc (Below.refl _ _))).mono ?_; rintro e w2 ⟨t2, c2', rfl, hB2, -⟩; have HB2 := Lib.hid (bl_step (bl_alloc (Below.refl _ _)) hB2); clear hB2)
        go_loopw [25] (fun i wi => i = .int .i64 0 ∧ Hid (wi = w2)) (fun _ _ => 0)
        case atStart => exact ⟨rfl, rfl⟩
        case round =>
          obtain ⟨rfl, hw⟩ := hrel
          replace hw := hw.out
          subst hw
          have bx' := (HX.out.later HB2.out).2
          have c7' := (HB2.out.cell (p := ⟨g, k * 8 + 7, none⟩) hT.out.1).trans c7
          have fz' := (HB2.out.frozen (p := ⟨g, k * 8 + 7, none⟩) hT.out.1).trans (hT.out.2.1 _)
          have HY := Lib.hid (HX.out.later HB2.out)
          have HRY := Lib.hid (hRx.out.later HB2.out)
          go_wp2_with fail
          go_roundw
          case rel => exact ⟨k + 1, by omega, by go_num, ⟨by rw [set_size]; exact HY.out.1, (set_far (.inl (by have := HL.out; omega))).trans bx'⟩, ⟨by rw [set_size]; exact HRY.out.1, (set_far (.inl (by have := HL.out; omega))).trans HRY.out.2.1, by rw [World.frozen?_setCell]; exact HRY.out.2.2⟩, bl_set (bl_step hBr.out HB2.out) (by have := HL.out; show w.heap.size ≤ g; omega),
            TRow.step hT.out HB2.out hlt HI1.out (by rw [HXX.out]; exact ⟨rfl, by simp, fun i hi => absurd hi (Nat.not_lt_zero _)⟩)⟩
          case measure => simp [intOf]; omega
      · have HN5 := Lib.hid h5
        obtain ⟨bf, offf, tl0, tc0, t0, rfl, -⟩ := J5.out.2 0 (by omega)
        clear h5
        go_wp2_with (go_at_call 61; refine (HCF.out _ (bl_alloc (Below.refl _ _))).mono ?_; intro e w2 hcl; obtain ⟨gf, c2', rfl, hB2, hg2, hgl2, hgf2, hgc2⟩ := clone_row hcl HN5.out rfl; have HG2 := Lib.hid (And.intro hg2 (And.intro hgl2 (And.intro hgf2 hgc2))); have HB2 := Lib.hid (bl_step (bl_alloc (Below.refl _ _)) hB2); clear hB2 hg2 hgl2 hgf2 hgc2 hcl)
        have HL2 : Hid (wr.heap.size < gf) := by have := HG2.out.1; simp at this; exact (by omega : wr.heap.size < gf)
        have HFR : Hid (FRow n w w2 gf bf offf g5 0) := by
          obtain ⟨hg, hgl, hgf, hgc⟩ := HG2.out
          refine ⟨hgl, hgf, fun q _ hq => ?_, fun i _ hi => absurd hi (Nat.not_lt_zero _)⟩
          rw [hgc q hq]
          obtain ⟨b', off', e, hc⟩ := (cells_inF (I := fun t tl tc V => InV w n t tl tc V) ⟨rfl, J5.out.1, J5.out.2⟩).resolve_left HN5.out
          cases e
          obtain ⟨u, hu, _⟩ := hc q hq
          have := World.block_lt_of_cell? _ _ hu
          exact ((hBr.out.trans ((bl_alloc (Below.refl wr.heap.size wr)).mono hBr.out.size))).cell (p := ⟨bf, offf + q, none⟩) this
        clear HG2
        go_loopw [25] (fun i wi => ∃ j : Nat, j ≤ g5.length ∧ i = .int .i64 j ∧ Hid (Below wr.heap.size wr wi) ∧ Hid (FRow n w wi gf bf offf g5 j)) (fun i _ => g5.length - (intOf i).toNat)
        case atStart => exact ⟨0, Nat.zero_le _, rfl, HB2, HFR⟩
        case round =>
          obtain ⟨j, hj, rfl, hBi, hFi⟩ := hrel
          rename World => wi
          clear HFR HB2
          by_cases hjl : j < g5.length
          · have hji : (j : Int) < (g5.length : Int) := by omega
            have hj0 : (0 : Int) ≤ (j : Int) := by omega
            obtain ⟨b2, off2, tl2, tc2, t2, e2, lt2, d0, d1, i2⟩ := J5.out.2 j hjl
            cases e2
            have HD := Lib.hid (And.intro d0 d1)
            replace d0 := (hFi.out.2.2.1 (j * 2) (by omega) (by omega)).trans d0
            rw [Nat.add_assoc] at d1
            replace d1 := (hFi.out.2.2.1 (j * 2 + 1) (by omega) (by omega)).trans d1
            have HSV := Lib.hid (HS1.out.2 j hjl)
            have HVV : ∃ V, (g5[j]).2 = V := ⟨_, rfl⟩
            obtain ⟨vv, hvv⟩ := HVV
            rw [hvv] at i2
            have HVE := Lib.hid hvv
            have HSV2 : Hid (SlimV n vv) := by rw [← hvv]; exact HSV.out
            have hgl := hFi.out.1
            have hgz := hFi.out.2.1 (j * 2 + 1)
            generalize hnm : (g5[j]).1 = nm at *
            have IC := Lib.hid (fun (W : World) (hW : Below w.heap.size w W) => IH.out W t2 tl2 tc2 vv (InV.below hW i2) HSV2.out)
            have HWI := Lib.hid (bl_step hBr.out hBi.out)
            have HNM := Lib.hid hnm
            clear lt2 i2 hvv HSV HSV2 hnm
            go_wp2_with (go_at_call 42; refine (IC.out _ (bl_alloc HWI.out)).mono ?_; rintro e w3 ⟨t3, tc3, rfl, hB3, hO3⟩; have HB3 := Lib.hid (bl_step (bl_alloc (Below.refl _ _)) hB3); have HO3 := Lib.hid (hO3.imp (Q := fun b => wi.heap.size ≤ b) (fun b hb _ => Nat.le_trans (Nat.le_of_lt new_lt) hb)); have d1' := (HB3.out.cell (p := ⟨gf, j * 2 + 1, none⟩) hgl).trans d1; have hgz' := (HB3.out.frozen (p := ⟨gf, j * 2 + 1, none⟩) hgl).trans hgz; have hgl' := Nat.lt_of_lt_of_le hgl HB3.out.size; clear hB3 hO3)
            go_roundw
            case rel => exact ⟨j + 1, by omega, by go_num, bl_set (bl_step hBi.out HB3.out) (by have := HL2.out; show wr.heap.size ≤ gf; omega), FRow.step hFi.out HB3.out hjl (by rw [HNM.out]; exact HD.out.1) HD.out.2 (Nat.le_refl _) (by rw [HVE.out]; exact HO3.out)⟩
            case measure => simp [intOf]; omega
          · have ej : j = g5.length := by omega
            subst ej
            have bx' := (HX.out.later hBi.out).2
            have c7' := (hBi.out.cell (p := ⟨g, k * 8 + 7, none⟩) hT.out.1).trans c7
            have fz' := (hBi.out.frozen (p := ⟨g, k * 8 + 7, none⟩) hT.out.1).trans (hT.out.2.1 _)
            have HY := Lib.hid (HX.out.later hBi.out)
            have HRY := Lib.hid (hRx.out.later hBi.out)
            go_wp2_with fail
            go_roundw
            case rel => exact ⟨k + 1, by omega, by go_num, ⟨by rw [set_size]; exact HY.out.1, (set_far (.inl (by have := HL.out; omega))).trans bx'⟩, ⟨by rw [set_size]; exact HRY.out.1, (set_far (.inl (by have := HL.out; omega))).trans HRY.out.2.1, by rw [World.frozen?_setCell]; exact HRY.out.2.2⟩, bl_set (bl_step hBr.out hBi.out) (by have := HL.out; show w.heap.size ≤ g; omega),
              TRow.step hT.out hBi.out hlt HI1.out (by rw [HXX.out]; exact FRow.done hFi.out J5.out.1 (by have := HL2.out; have := hT.out.1; omega))⟩
            case measure => simp [intOf]; omega
    · have ek : k = A.length := by omega
      subst ek
      obtain ⟨rz, rc, rf⟩ := hRx.out
      go_wp2_with fail
      exact bodyPost_ret (v := .agg #[.slice (some ⟨g, 0, none⟩) A.length c']) (by simp [results, Try.results42, go_sem, rc]) rfl ⟨_, c', rfl, bl_set hBr.out (by show w.heap.size ≤ w.heap.size + 1; omega), (TRow.done (B := w.heap.size + 2) hT.out hz (by have := HL.out; omega)).to (Nat.le_of_eq set_size.symm) fun b hb _ => ⟨by omega, set_heap (by omega)⟩⟩
theorem copy_in : ∀ (n : Nat) (W : World) (t : Option Addr) (tl tc : Nat) (A : List Tm), InV W n t tl tc A → SlimV n A → Calls Try.prog 42 #[.agg #[.slice t tl tc]] W (CopyPost W n tl A)
  | 0, _, _, _, _, _, h, _ => h.elim
  | n + 1, W, t, tl, tc, A, h, hs => by
    by_cases h0 : A.length = 0
    · obtain rfl : tl = 0 := by have := h.1; omega
      obtain rfl : A = [] := List.length_eq_zero_iff.1 h0
      exact copy_zero n W t tc
    · exact copy_step n (copy_in n) W t tl tc A h hs h0

end Go.Proofs.Ytkmbhjcedkojjaa
