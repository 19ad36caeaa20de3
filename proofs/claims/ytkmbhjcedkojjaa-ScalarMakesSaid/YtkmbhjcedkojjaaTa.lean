/- WALK of own, where there are fields. -/
import Derived.Test.YtkmbhjcedkojjaaSe
import Derived.Test.YtkmbhjcedkojjaaSd
import Derived.Deep.DeepCutAuto
import Derived.Deep.CutBlock
namespace Go.Proofs.Ytkmbhjcedkojjaa
open Go.RowKit
/-- As many fields, somewhere. -/
def OwnPost (w : World) (fl : Nat) (e : Ending) (w' : World) : Prop := ∃ (f' : Option Addr) (fc' : Nat), e = .returned (.slice f' fl fc') ∧ Below w.heap.size w w'
/-- A row's cells from q0 on are those of another row. -/
def Old (w0 w : World) (g b off q0 q1 : Nat) : Prop := g < w.heap.size ∧ (∀ o, w.frozen? ⟨g, o, none⟩ = false) ∧ ∀ q, q0 ≤ q → q < q1 → w.cell? ⟨g, q, none⟩ = w0.cell? ⟨b, off + q, none⟩
theorem Old.below {w0 w w' : World} {g b off q0 q1 : Nat} (h : Old w0 w g b off q0 q1) (hb : Below w.heap.size w w') : Old w0 w' g b off q0 q1 := by
  have hh := hb.block g h.1
  exact ⟨Nat.lt_of_lt_of_le h.1 hb.size, fun o => (frozen_of_heap hh o).trans (h.2.1 o), fun q a b => (cell_of_heap hh q).trans (h.2.2 q a b)⟩
theorem Old.set {w0 w : World} {g b off q0 q1 q2 o : Nat} {v : Value} (h : Old w0 w g b off q0 q1) (ho : o < q2) (hq : q0 ≤ q2) : Old w0 (w.setCell ⟨g, o, none⟩ v) g b off q2 q1 :=
  ⟨by rw [set_size]; exact h.1, fun o => by rw [World.frozen?_setCell]; exact h.2.1 o, fun q a b => (set_far (.inr (by omega))).trans (h.2.2 q (by omega) b)⟩
theorem Old.far {w0 w : World} {g b off q0 q1 c o : Nat} {v : Value} (h : Old w0 w g b off q0 q1) (hc : c ≠ g) : Old w0 (w.setCell ⟨c, o, none⟩ v) g b off q0 q1 :=
  ⟨by rw [set_size]; exact h.1, fun o => by rw [World.frozen?_setCell]; exact h.2.1 o, fun q a b => (set_far (.inl (Ne.symm hc))).trans (h.2.2 q a b)⟩
def SlimF (n : Nat) (fs : List (ByteArray × List Tm)) : Prop := fs.length * 40 ≤ 140737488355328 ∧ ∀ j (h : j < fs.length), SlimV n (fs[j]).2
set_option maxRecDepth 100000 in
set_option maxHeartbeats 4000000 in
theorem own_zero (f : Option Addr) (fc : Nat) (w : World) : Calls Try.prog 47 #[.slice f 0 fc] w (OwnPost w 0) := by
  have HC := fun W => Lib.hid (cloneF_any f 0 fc W (Nat.zero_le _) (by omega) (.inl rfl))
  go_enter Try.func47, Try.ntmps47
  go_wp2_with (go_at_call 61; refine (HC _).out.mono ?_; rintro e w1 ⟨t', c', rfl, hB, -⟩; have HB := Lib.hid hB; clear hB)
  go_loopw [10] (fun i wr => i = .int .i64 0 ∧ Hid (wr = w1)) (fun _ _ => 0)
  case atStart => exact ⟨rfl, rfl⟩
  case round =>
    obtain ⟨rfl, hw⟩ := hrel
    replace hw := hw.out
    subst hw
    go_wp2_with fail
    go_ret
    exact ⟨t', c', rfl, HB.out⟩
set_option maxRecDepth 100000 in
set_option maxHeartbeats 8000000 in
theorem own_step (n : Nat) (ih : ∀ (W : World) (f : Option Addr) (fl fc : Nat) (fs : List (ByteArray × List Tm)), InF (fun t tl tc V => InV W n t tl tc V) W f fl fs → SlimF n fs → Calls Try.prog 47 #[.slice f fl fc] W (OwnPost W fl))
    (w : World) (f : Option Addr) (fl fc : Nat) (fs : List (ByteArray × List Tm)) (h : InF (fun t tl tc V => InV w (n + 1) t tl tc V) w f fl fs) (hs : SlimF (n + 1) fs) (hne : fl ≠ 0) : Calls Try.prog 47 #[.slice f fl fc] w (OwnPost w fl) := by
  have hI := h
  obtain ⟨hl, hz, hA⟩ := h
  subst hl
  obtain ⟨b, off, _, _, _, rfl, -⟩ := hA 0 (by omega)
  have IH := Lib.hid ih
  have HA := Lib.hid hA
  have HS := Lib.hid hs
  have HN := Lib.hid hne
  have HC : Hid (∀ W, Below w.heap.size w W → Calls Try.prog 61 #[.slice (some ⟨b, off, none⟩) fs.length fc] W (CloneP 2 fs.length (some ⟨b, off, none⟩) W)) := fun W hW =>
    cloneF_any _ _ _ W (by unfold maxLen; omega) hs.1 (cells_inF (I := fun _ _ _ _ => True) (InF.below (I := fun t tl tc V => InV w (n + 1) t tl tc V) (fun _ _ _ _ _ => trivial) hW hI))
  have HI := Lib.hid hI
  clear ih hA hs hne hI
  go_enter Try.func47, Try.ntmps47
  go_wp2_with fail
  refine (HC.out w (Below.refl _ _)).mono ?_
  intro e w1 hcl
  obtain ⟨g, c', rfl, hB, hg, hgl, hgf, hgc⟩ := clone_row hcl HN.out rfl
  have HB := Lib.hid hB
  have HG := Lib.hid (And.intro hg (And.intro hgl (And.intro hgf hgc)))
  clear hB hg hgl hgf hgc hcl
  go_wp2_with fail
  have HT : Hid (Old w w1 g b off 0 (fs.length * 2)) := ⟨HG.out.2.1, HG.out.2.2.1, fun q _ hq => HG.out.2.2.2 q hq⟩
  have HL : Hid (w.heap.size ≤ g) := HG.out.1
  clear HG
  go_loopw [10] (fun i wr => ∃ k : Nat, k ≤ fs.length ∧ i = .int .i64 k ∧ Hid (Below w.heap.size w wr) ∧ Hid (Old w wr g b off (k * 2) (fs.length * 2))) (fun i _ => fs.length - (intOf i).toNat)
  case atStart => exact ⟨0, Nat.zero_le _, rfl, HB, by rw [Nat.zero_mul]; exact HT⟩
  case round =>
    obtain ⟨k, hk, rfl, hBr, hT⟩ := hrel
    rename World => wr
    clear HB HT
    by_cases hlt : k < fs.length
    · have hki : (k : Int) < (fs.length : Int) := by omega
      have hk0 : (0 : Int) ≤ (k : Int) := by omega
      obtain ⟨b', off', tl, tc, t, e, lt1, c0, c1, i1⟩ := HA.out k hlt
      cases e
      have hSV := HS.out.2 k hlt
      generalize (fs[k]).2 = V at i1 hSV
      rw [Nat.add_assoc] at c1
      replace c1 := (hT.out.2.2 (k * 2 + 1) (by omega) (by omega)).trans c1
      have hfz := hT.out.2.1 (k * 2 + 1)
      obtain ⟨l5, z5, j5⟩ := i1
      subst l5
      have J5 := Lib.hid (And.intro z5 j5)
      have HSV := Lib.hid hSV
      have HCT : Hid (∀ W, Below wr.heap.size wr W → Calls Try.prog 60 #[.slice t V.length tc] W (CloneP 8 V.length t W)) := fun W hW =>
        cloneT_any _ _ _ W (by have := hSV.1; unfold maxLen; omega) hSV.1 (cells_inT (n := n) (tc := tc) (InV.below (bl_step hBr.out hW) (show InV w (n + 1) t V.length tc V from ⟨rfl, z5, j5⟩)))
      clear j5 c0 lt1 hSV
      by_cases h5 : V.length = 0
      · rw [h5] at HCT c1
        obtain rfl : V = [] := List.length_eq_zero_iff.1 h5
        clear h5
        go_wp2_with (go_at_call 60; refine (HCT.out wr (Below.refl _ _)).mono ?_; rintro e w2 ⟨t2, c2', rfl, hB2, -⟩; have HB2 := Lib.hid hB2; clear hB2)
        go_loopw [22] (fun i wi => i = .int .i64 0 ∧ Hid (wi = w2)) (fun _ _ => 0)
        case atStart => exact ⟨rfl, rfl⟩
        case round =>
          obtain ⟨rfl, hw⟩ := hrel
          replace hw := hw.out
          subst hw
          have c1' := (HB2.out.cell (p := ⟨g, k * 2 + 1, none⟩) hT.out.1).trans c1
          have fz' := (HB2.out.frozen (p := ⟨g, k * 2 + 1, none⟩) hT.out.1).trans hfz
          go_wp2_with fail
          go_roundw
          case rel => exact ⟨k + 1, by omega, by go_num, bl_set (bl_step hBr.out HB2.out) HL.out, (hT.out.below HB2.out).set (by omega) (by omega)⟩
          case measure => simp [intOf]; omega
      · have HN5 := Lib.hid h5
        obtain ⟨bf, offf, rfl, -⟩ := J5.out.2 0 (by omega)
        clear h5
        go_wp2_with (go_at_call 60; refine (HCT.out wr (Below.refl _ _)).mono ?_; intro e w2 hcl; obtain ⟨gf, c2', rfl, hB2, hg2, hgl2, hgf2, hgc2⟩ := clone_row hcl HN5.out rfl; have HG2 := Lib.hid (And.intro hg2 (And.intro hgl2 (And.intro hgf2 hgc2))); have HB2 := Lib.hid hB2; clear hB2 hg2 hgl2 hgf2 hgc2 hcl)
        have HL2 : Hid (wr.heap.size ≤ gf) := HG2.out.1
        have HFR : Hid (Old w w2 gf bf offf 0 (V.length * 8)) := by
          obtain ⟨hg, hgl, hgf, hgc⟩ := HG2.out
          refine ⟨hgl, hgf, fun q _ hq => ?_⟩
          rw [hgc q hq]
          obtain ⟨b', off', e, hc⟩ := (cells_inT (n := n) (tc := tc) (show InV w (n + 1) (some ⟨bf, offf, none⟩) V.length tc V from ⟨rfl, J5.out.1, J5.out.2⟩)).resolve_left HN5.out
          cases e
          obtain ⟨u, hu, _⟩ := hc q hq
          have := World.block_lt_of_cell? _ _ hu
          exact hBr.out.cell (p := ⟨bf, offf + q, none⟩) this
        clear HG2
        go_loopw [22] (fun i wi => ∃ j : Nat, j ≤ V.length ∧ i = .int .i64 j ∧ Hid (Below wr.heap.size wr wi) ∧ Hid (Old w wi gf bf offf (j * 8) (V.length * 8))) (fun i _ => V.length - (intOf i).toNat)
        case atStart => exact ⟨0, Nat.zero_le _, rfl, HB2, by rw [Nat.zero_mul]; exact HFR⟩
        case round =>
          obtain ⟨j, hj, rfl, hBi, hFi⟩ := hrel
          rename World => wi
          clear HFR HB2
          by_cases hjl : j < V.length
          · have hji : (j : Int) < (V.length : Int) := by omega
            have hj0 : (0 : Int) ≤ (j : Int) := by omega
            obtain ⟨b2, off2, e2, i2⟩ := J5.out.2 j hjl
            cases e2
            have hSV2 := HSV.out.2 j hjl
            generalize V[j] = x at i2 hSV2
            obtain ⟨k5, lo5, hi5, s5, y5, m5, o5, g5⟩ := x
            obtain ⟨lt2, f5, fl5, fc5, -, -, -, -, -, -, -, d7, j2⟩ := i2
            rw [Nat.add_assoc] at d7
            replace d7 := (hFi.out.2.2 (j * 8 + 7) (by omega) (by omega)).trans d7
            have hgl := hFi.out.1
            have hgz := hFi.out.2.1 (j * 8 + 7)
            have HWI := Lib.hid (bl_step hBr.out hBi.out)
            have IC := Lib.hid (fun (W : World) (hW : Below w.heap.size w W) => IH.out W f5 fl5 fc5 g5 (InF.below (fun _ _ _ _ h => InV.below hW h) hW j2) hSV2)
            clear lt2 j2 hSV2
            go_wp2_with (go_at_call 47; refine (IC.out _ HWI.out).mono ?_; rintro e w3 ⟨f3, fc3, rfl, hB3⟩; have HB3 := Lib.hid hB3; have d7' := (HB3.out.cell (p := ⟨gf, j * 8 + 7, none⟩) hgl).trans d7; have hgz' := (HB3.out.frozen (p := ⟨gf, j * 8 + 7, none⟩) hgl).trans hgz; have hgl' := Nat.lt_of_lt_of_le hgl HB3.out.size; clear hB3)
            go_roundw
            case rel => exact ⟨j + 1, by omega, by go_num, bl_set (bl_step hBi.out HB3.out) HL2.out, (hFi.out.below HB3.out).set (by omega) (by omega)⟩
            case measure => simp [intOf]; omega
          · have c1' := (hBi.out.cell (p := ⟨g, k * 2 + 1, none⟩) hT.out.1).trans c1
            have fz' := (hBi.out.frozen (p := ⟨g, k * 2 + 1, none⟩) hT.out.1).trans hfz
            go_wp2_with fail
            go_roundw
            case rel => exact ⟨k + 1, by omega, by go_num, bl_set (bl_step hBr.out hBi.out) HL.out, (hT.out.below hBi.out).set (by omega) (by omega)⟩
            case measure => simp [intOf]; omega
    · go_wp2_with fail
      go_ret
      exact ⟨_, c', rfl, hBr.out⟩
theorem own_in : ∀ (n : Nat) (W : World) (f : Option Addr) (fl fc : Nat) (fs : List (ByteArray × List Tm)), InF (fun t tl tc V => InV W n t tl tc V) W f fl fs → SlimF n fs → Calls Try.prog 47 #[.slice f fl fc] W (OwnPost W fl)
  | n, W, f, fl, fc, fs, h, hs => by
    by_cases h0 : fl = 0
    · subst h0
      exact own_zero f fc W
    · match n, h, hs with
      | 0, h, _ =>
        obtain ⟨_, _, _, _, _, _, _, _, _, hF⟩ := h.2.2 0 (by have := h.1; omega)
        exact hF.elim
      | n + 1, h, hs => exact own_step n (own_in n) W f fl fc fs h hs h0

end Go.Proofs.Ytkmbhjcedkojjaa
