/- Ee, Ef, Eg, Eh, Ei -/
import Derived.Test.YtfhknnldkfngdaaGreatDoorY32
/- WALKS of Refines, both. -/
namespace Go.Proofs.YtfhknnldkfngdaaGreatDoor
open Go.RowKit
noncomputable def refV (n : Nat) (A B : List Tm) : Bool := (rgV n A && rgV n B && undV n A B) && setV false n A
theorem refV_r (n : Nat) (A B : List Tm) : refV n A B = ((setV false n A && rgV n B) && undV n A B) := by
  unfold refV setV
  cases rgV n A <;> cases rgV n B <;> cases undV n A B <;> simp
set_option maxRecDepth 100000 in
set_option maxHeartbeats 2000000 in
theorem refines_in (n : Nat) (w : World) (t : Option Addr) (tl tc : Nat) (A : List Tm) (t2 : Option Addr) (tl2 tc2 : Nat) (B : List Tm) (hA : Vin w n t tl tc A) (hB : Vin w n t2 tl2 tc2 B) : Calls Tryz.prog 23 #[.agg #[.slice t tl tc], .agg #[.slice t2 tl2 tc2]] w (LackP (refV n A B) w) := by
  unfold refV
  obtain ⟨q, hq⟩ : ∃ q, (rgV n A && rgV n B && undV n A B) = q := ⟨_, rfl⟩
  obtain ⟨u, hu⟩ : ∃ u, setV false n A = u := ⟨_, rfl⟩
  have HR : Hid (∀ W, Below w.heap.size w W → Calls Tryz.prog 46 #[.agg #[.slice t tl tc], .agg #[.slice t2 tl2 tc2]] W (LackP q W)) := fun W hW => by rw [← hq]; exact lbelow_in n W t tl tc A t2 tl2 tc2 B (hA.below hW) (hB.below hW)
  have HT : Hid (∀ W, Below w.heap.size w W → Calls Tryz.prog 11 #[.agg #[.slice t tl tc]] W (LackP u W)) := fun W hW => by rw [← hu]; exact settled_in n W t tl tc A (hA.below hW)
  rw [hq, hu]
  clear hA hB hq hu
  cases q
  · go_enter Tryz.func23, Tryz.ntmps23
    go_wp2_with (go_at_call 46; refine (HR.out _ (bl_alloc (bl_alloc (Below.refl _ _)))).mono ?_; rintro e w1 ⟨rfl, hb⟩; have HB := Lib.hid (bl_step (bl_alloc (bl_alloc (Below.refl _ _))) hb); obtain ⟨hc, hf⟩ := bcell hb; clear hb)
    go_ret
    exact ⟨rfl, HB.out⟩
  · go_enter Tryz.func23, Tryz.ntmps23
    go_wp2_with (first
      | (go_at_call 46; refine (HR.out _ (bl_alloc (bl_alloc (Below.refl _ _)))).mono ?_; rintro e w1 ⟨rfl, hb⟩; have HB := Lib.hid (bl_step (bl_alloc (bl_alloc (Below.refl _ _))) hb); obtain ⟨hc, hf⟩ := bcell hb; clear hb)
      | (go_at_call 11; refine (HT.out _ HB.out).mono ?_; rintro e w2 ⟨rfl, hb⟩; have HB2 := Lib.hid (bl_step HB.out hb); clear hb))
    go_ret
    exact ⟨by simp, HB2.out⟩
set_option maxRecDepth 100000 in
set_option maxHeartbeats 2000000 in
theorem rrefines_in (n : Nat) (w : World) (t : Option Addr) (tl tc : Nat) (A : List Tm) (t2 : Option Addr) (tl2 tc2 : Nat) (B : List Tm) (hA : Vif w n t tl tc A) (hB : Vif w n t2 tl2 tc2 B) : Calls Tryz.prog 24 #[.agg #[.slice t tl tc], .agg #[.slice t2 tl2 tc2]] w (LackP (refV n A B) w) := by
  rw [refV_r]
  obtain ⟨q, hq⟩ : ∃ q, setV false n A = q := ⟨_, rfl⟩
  obtain ⟨v, hv⟩ : ∃ v, rgV n B = v := ⟨_, rfl⟩
  obtain ⟨u, hu⟩ : ∃ u, undV n A B = u := ⟨_, rfl⟩
  have HV := Lib.hid hv
  have HR : Hid (∀ W, Below w.heap.size w W → Calls Tryz.prog 12 #[.agg #[.slice t tl tc]] W (LackP q W)) := fun W hW => by rw [← hq]; exact rsettled_in n W t tl tc A (hA.below hW)
  have HS : Hid (∀ W, Below w.heap.size w W → Calls Tryz.prog 29 #[.agg #[.slice t2 tl2 tc2]] W (LackP v W)) := fun W hW => rright_q v n W t2 tl2 tc2 B (hB.below hW) HV
  have HT : Hid (∀ W, Below w.heap.size w W → Calls Tryz.prog 47 #[.agg #[.slice t tl tc], .agg #[.slice t2 tl2 tc2]] W (LackP u W)) := fun W hW => by rw [← hu]; exact runder_in n W t tl tc A t2 tl2 tc2 B (InV.below hW hA.v.v) (InV.below hW hB.v.v)
  rw [hq, hv, hu]
  clear hA hB hq hu hv
  cases q
  · go_enter Tryz.func24, Tryz.ntmps24
    go_wp2_with (go_at_call 12; refine (HR.out _ (bl_alloc (bl_alloc (Below.refl _ _)))).mono ?_; rintro e w1 ⟨rfl, hb⟩; have HB := Lib.hid (bl_step (bl_alloc (bl_alloc (Below.refl _ _))) hb); obtain ⟨hc, hf⟩ := bcell hb; clear hb)
    go_ret
    exact ⟨rfl, HB.out⟩
  · obtain ⟨Y, hY⟩ : ∃ Y, (w.alloc (.cells #[.slice t tl tc] 24)).alloc (.cells #[.slice t2 tl2 tc2] 24) = Y := ⟨_, rfl⟩
    have x0 : Y.cell? ⟨w.heap.size, 0, none⟩ = some (.slice t tl tc) := by rw [← hY]; simp [go_sem]
    have x1 : Y.cell? ⟨w.heap.size + 1, 0, none⟩ = some (.slice t2 tl2 tc2) := by rw [← hY]; simp [go_sem]
    have hz : w.heap.size + 1 < Y.heap.size := by rw [← hY]; simp
    have HY := Lib.hid (show Below w.heap.size w Y by rw [← hY]; exact bl_alloc (bl_alloc (Below.refl _ _)))
    cases v
    · go_enter Tryz.func24, Tryz.ntmps24
      go_upto_region 1 with fail
      clear hY
      go_wp2_with (first
        | (go_at_call 12; refine (HR.out _ HY.out).mono ?_; rintro e w1 ⟨rfl, hb⟩; have HB := Lib.hid (bl_step HY.out hb); have y0 := (hb.cell (p := ⟨w.heap.size, 0, none⟩) (Nat.lt_trans (Nat.lt_succ_self _) hz)).trans x0; have y1 := (hb.cell (p := ⟨w.heap.size + 1, 0, none⟩) hz).trans x1; have hz1 := Nat.lt_of_lt_of_le hz hb.size; clear hb)
        | (go_at_call 29; refine (HS.out _ HB.out).mono ?_; rintro e w2 ⟨rfl, hb⟩; have HB2 := Lib.hid (bl_step HB.out hb); clear hb))
      go_ret
      exact ⟨by simp, HB2.out⟩
    · go_enter Tryz.func24, Tryz.ntmps24
      go_upto_region 1 with fail
      clear hY
      go_wp2_with (first
        | (go_at_call 12; refine (HR.out _ HY.out).mono ?_; rintro e w1 ⟨rfl, hb⟩; have HB := Lib.hid (bl_step HY.out hb); have y0 := (hb.cell (p := ⟨w.heap.size, 0, none⟩) (Nat.lt_trans (Nat.lt_succ_self _) hz)).trans x0; have y1 := (hb.cell (p := ⟨w.heap.size + 1, 0, none⟩) hz).trans x1; have hz1 := Nat.lt_of_lt_of_le hz hb.size; clear hb)
        | (go_at_call 29; refine (HS.out _ HB.out).mono ?_; rintro e w2 ⟨rfl, hb⟩; have HB2 := Lib.hid (bl_step HB.out hb); have z0 := (hb.cell (p := ⟨w.heap.size, 0, none⟩) (Nat.lt_trans (Nat.lt_succ_self _) hz1)).trans y0; have z1 := (hb.cell (p := ⟨w.heap.size + 1, 0, none⟩) hz1).trans y1; clear hb)
        | (go_at_call 47; refine (HT.out _ HB2.out).mono ?_; rintro e w3 ⟨rfl, hb⟩; have HB3 := Lib.hid (bl_step HB2.out hb); clear hb))
      go_ret
      exact ⟨by simp, HB3.out⟩
end Go.Proofs.YtfhknnldkfngdaaGreatDoor
/- WALKS of only, one, atom, Number, Text. -/
namespace Go.Proofs.YtfhknnldkfngdaaGreatDoor
open Go.RowKit
def onlyE (A : List Tm) : Int := match A with
  | [] => 31
  | [x] => if x.k = 5 then 28 else 0
  | _ => 28
noncomputable def oneE (n : Nat) (A : List Tm) : Int := if rgV n A = true then onlyE A else 1
theorem onlyE_two {A : List Tm} (h : 1 < A.length) : onlyE A = 28 := by
  match A, h with
  | _ :: _ :: _, _ => rfl
/-- A term and an error: none beside an error. -/
def OnP (E : Int) (n : Nat) (A : List Tm) (w0 w : World) (e : Ending) (w' : World) : Prop :=
  ∃ k lo hi s y m o f fl fc, e = .returned (.tuple #[tv k lo hi s y m o f fl fc, .int .i64 E]) ∧ Below w.heap.size w w' ∧
    ((E ≠ 0 ∧ k = 0 ∧ lo = 0 ∧ hi = 0 ∧ s = ⟨#[]⟩ ∧ y = false ∧ m = false ∧ o = false ∧ f = none ∧ fl = 0 ∧ fc = 0) ∨
     (E = 0 ∧ ∃ x, A = [x] ∧ k = x.k ∧ lo = x.lo ∧ hi = x.hi ∧ s = x.s ∧ y = x.y ∧ m = x.m ∧ o = x.o ∧ InF (fun t tl tc V => InV w0 n t tl tc V) w0 f fl x.fs))
theorem OnP.no {E : Int} {n : Nat} {A : List Tm} {w0 w w' : World} (hE : E ≠ 0) (hb : Below w.heap.size w w') : OnP E n A w0 w (.returned (.tuple #[.agg #[.int .i64 0, .int .i64 0, .int .i64 0, .string ⟨#[]⟩, .bool false, .bool false, .bool false, .slice none 0 0], .int .i64 E])) w' :=
  ⟨0, 0, 0, ⟨#[]⟩, false, false, false, none, 0, 0, rfl, hb, .inl ⟨hE, rfl, rfl, rfl, rfl, rfl, rfl, rfl, rfl, rfl, rfl⟩⟩
set_option maxRecDepth 100000 in
set_option maxHeartbeats 4000000 in
theorem only_in (n : Nat) (w0 w : World) (t : Option Addr) (tl tc : Nat) (A : List Tm) (h : InV w0 (n + 1) t tl tc A) (hw : Below w0.heap.size w0 w) : Calls Tryz.prog 49 #[.agg #[.slice t tl tc]] w (OnP (onlyE A) n A w0 w) := by
  obtain ⟨hl, hm, hel⟩ := h
  match A, hl, hel with
  | [], hl, hel =>
    obtain rfl : tl = 0 := by simpa using hl.symm
    have HV := Lib.hid (show onlyE [] = 31 from rfl)
    clear hel hl
    go_enter Tryz.func49, Tryz.ntmps49
    go_wp2_with fail
    refine bodyPost_ret (v := .tuple #[.agg #[.int .i64 0, .int .i64 0, .int .i64 0, .string ⟨#[]⟩, .bool false, .bool false, .bool false, .slice none 0 0], .int .i64 31]) (by simp [results, Tryz.results49, go_sem]) rfl ?_
    rw [HV.out]; exact OnP.no (by decide) (bl_alloc (bl_alloc (Below.refl _ _)))
  | [x], hl, hel =>
    obtain rfl : tl = 1 := by simpa using hl.symm
    obtain ⟨b2, off2, rfl, i2⟩ := hel 0 (by simp)
    rw [Nat.zero_mul, Nat.add_zero] at i2
    obtain ⟨lt2, f, fl, fc, d0, d1, d2, d3, d4, d5, d6, d7, hF⟩ := i2.cells
    simp only [List.getElem_cons_zero] at *
    have HF := Lib.hid hF
    replace d0 := (hw.cell (p := ⟨b2, off2, none⟩) lt2).trans d0
    replace d1 := (hw.cell (p := ⟨b2, off2 + 1, none⟩) lt2).trans d1
    replace d2 := (hw.cell (p := ⟨b2, off2 + 2, none⟩) lt2).trans d2
    replace d3 := (hw.cell (p := ⟨b2, off2 + 3, none⟩) lt2).trans d3
    replace d4 := (hw.cell (p := ⟨b2, off2 + 4, none⟩) lt2).trans d4
    replace d5 := (hw.cell (p := ⟨b2, off2 + 5, none⟩) lt2).trans d5
    replace d6 := (hw.cell (p := ⟨b2, off2 + 6, none⟩) lt2).trans d6
    replace d7 := (hw.cell (p := ⟨b2, off2 + 7, none⟩) lt2).trans d7
    replace lt2 := Nat.lt_of_lt_of_le lt2 hw.size
    clear hw
    by_cases h5 : x.k = 5
    · have HV := Lib.hid (show onlyE [x] = 28 from if_pos h5)
      clear hel hl i2 hF
      go_enter Tryz.func49, Tryz.ntmps49
      go_wp2_with fail
      refine bodyPost_ret (v := .tuple #[.agg #[.int .i64 0, .int .i64 0, .int .i64 0, .string ⟨#[]⟩, .bool false, .bool false, .bool false, .slice none 0 0], .int .i64 28]) (by simp [results, Tryz.results49, go_sem]) rfl ?_
      rw [HV.out]; exact OnP.no (by decide) (bl_alloc (bl_alloc (Below.refl _ _)))
    · have HV := Lib.hid (show onlyE [x] = 0 from if_neg h5)
      have hk5 : (x.k == 5) = false := by simpa using h5
      clear hel hl i2 hF
      go_enter Tryz.func49, Tryz.ntmps49
      go_wp2_with fail
      refine bodyPost_ret (v := .tuple #[.agg #[.int .i64 x.k, .int .i64 x.lo, .int .i64 x.hi, .string x.s, .bool x.y, .bool x.m, .bool x.o, .slice f fl fc], .int .i64 0]) (by simp [results, Tryz.results49, go_sem]) rfl ?_
      rw [HV.out]; exact ⟨x.k, x.lo, x.hi, x.s, x.y, x.m, x.o, f, fl, fc, rfl, (bl_alloc (bl_alloc (Below.refl _ _))), .inr ⟨rfl, x, rfl, rfl, rfl, rfl, rfl, rfl, rfl, rfl, HF.out⟩⟩
  | y1 :: y2 :: A, hl, hel =>
    have HV := Lib.hid (onlyE_two (A := y1 :: y2 :: A) (by simp))
    have h2 : 1 < tl := by rw [← hl]; simp
    have h3 : ((tl : Int) == 0) = false := by simp; omega
    clear hel hl
    go_enter Tryz.func49, Tryz.ntmps49
    go_wp2_with fail
    refine bodyPost_ret (v := .tuple #[.agg #[.int .i64 0, .int .i64 0, .int .i64 0, .string ⟨#[]⟩, .bool false, .bool false, .bool false, .slice none 0 0], .int .i64 28]) (by simp [results, Tryz.results49, go_sem]) rfl ?_
    rw [HV.out]; exact OnP.no (by decide) (bl_alloc (bl_alloc (Below.refl _ _)))
/-- A term's box of the call's own. -/
structure Bo (w : World) (N : Nat) (k lo hi : Int) (s : ByteArray) (y m o : Bool) (f : Option Addr) (fl fc : Nat) : Prop where
  lt : N < w.heap.size
  c : Tc w N k lo hi s y m o f fl fc
  fz : ∀ i, w.frozen? ⟨N, i, none⟩ = false
theorem Bo.later {w w' : World} {N : Nat} {k lo hi : Int} {s : ByteArray} {y m o : Bool} {f : Option Addr} {fl fc : Nat} (h : Bo w N k lo hi s y m o f fl fc) (hb : Below w.heap.size w w') : Bo w' N k lo hi s y m o f fl fc :=
  ⟨Nat.lt_of_lt_of_le h.lt hb.size, h.c.later hb h.lt, fun i => (hb.frozen (p := ⟨N, i, none⟩) h.lt).trans (h.fz i)⟩
theorem Bo.new (w : World) (k lo hi : Int) (s : ByteArray) (y m o : Bool) (f : Option Addr) (fl fc : Nat) : Bo (w.alloc (.cells #[.int .i64 k, .int .i64 lo, .int .i64 hi, .string s, .bool y, .bool m, .bool o, .slice f fl fc] 29)) w.heap.size k lo hi s y m o f fl fc :=
  ⟨new_lt, Tc.new w k lo hi s y m o f fl fc, fun i => by simp [go_sem]⟩
theorem Bo.new1 (w : World) (O : Obj) (k lo hi : Int) (s : ByteArray) (y m o : Bool) (f : Option Addr) (fl fc : Nat) : Bo ((w.alloc O).alloc (.cells #[.int .i64 k, .int .i64 lo, .int .i64 hi, .string s, .bool y, .bool m, .bool o, .slice f fl fc] 29)) (w.heap.size + 1) k lo hi s y m o f fl fc := by
  have h := Bo.new (w.alloc O) k lo hi s y m o f fl fc
  rw [show (w.alloc O).heap.size = w.heap.size + 1 by simp] at h
  exact h
/-- A slice's box. -/
def Bv (w : World) (N : Nat) (t : Option Addr) (tl tc : Nat) : Prop := N < w.heap.size ∧ w.cell? ⟨N, 0, none⟩ = some (.slice t tl tc) ∧ w.frozen? ⟨N, 0, none⟩ = false
theorem Bv.later {w w' : World} {N : Nat} {t : Option Addr} {tl tc : Nat} (h : Bv w N t tl tc) (hb : Below w.heap.size w w') : Bv w' N t tl tc := ⟨Nat.lt_of_lt_of_le h.1 hb.size, (hb.cell (p := ⟨N, 0, none⟩) h.1).trans h.2.1, (hb.frozen (p := ⟨N, 0, none⟩) h.1).trans h.2.2⟩
theorem Bv.new (w : World) (t : Option Addr) (tl tc : Nat) (ty : TypeId) : Bv (w.alloc (.cells #[.slice t tl tc] ty)) w.heap.size t tl tc := ⟨by simp, by simp [go_sem], by simp [go_sem]⟩
/-- A term written whole. -/
theorem set8 {W : World} {g : Nat} {k lo hi : Int} {s : ByteArray} {y m o : Bool} {f : Option Addr} {fl fc : Nat} (h : Bo W g k lo hi s y m o f fl fc) (v0 v1 v2 v3 v4 v5 v6 v7 : Value) :
    ((((((((W.setCell ⟨g, 0, none⟩ v0).setCell ⟨g, 1, none⟩ v1).setCell ⟨g, 2, none⟩ v2).setCell ⟨g, 3, none⟩ v3).setCell ⟨g, 4, none⟩ v4).setCell ⟨g, 5, none⟩ v5).setCell ⟨g, 6, none⟩ v6).setCell ⟨g, 7, none⟩ v7).cell? ⟨g, 0, none⟩ = some v0 ∧
    ((((((((W.setCell ⟨g, 0, none⟩ v0).setCell ⟨g, 1, none⟩ v1).setCell ⟨g, 2, none⟩ v2).setCell ⟨g, 3, none⟩ v3).setCell ⟨g, 4, none⟩ v4).setCell ⟨g, 5, none⟩ v5).setCell ⟨g, 6, none⟩ v6).setCell ⟨g, 7, none⟩ v7).cell? ⟨g, 1, none⟩ = some v1 ∧
    ((((((((W.setCell ⟨g, 0, none⟩ v0).setCell ⟨g, 1, none⟩ v1).setCell ⟨g, 2, none⟩ v2).setCell ⟨g, 3, none⟩ v3).setCell ⟨g, 4, none⟩ v4).setCell ⟨g, 5, none⟩ v5).setCell ⟨g, 6, none⟩ v6).setCell ⟨g, 7, none⟩ v7).cell? ⟨g, 2, none⟩ = some v2 ∧
    ((((((((W.setCell ⟨g, 0, none⟩ v0).setCell ⟨g, 1, none⟩ v1).setCell ⟨g, 2, none⟩ v2).setCell ⟨g, 3, none⟩ v3).setCell ⟨g, 4, none⟩ v4).setCell ⟨g, 5, none⟩ v5).setCell ⟨g, 6, none⟩ v6).setCell ⟨g, 7, none⟩ v7).cell? ⟨g, 3, none⟩ = some v3 ∧
    ((((((((W.setCell ⟨g, 0, none⟩ v0).setCell ⟨g, 1, none⟩ v1).setCell ⟨g, 2, none⟩ v2).setCell ⟨g, 3, none⟩ v3).setCell ⟨g, 4, none⟩ v4).setCell ⟨g, 5, none⟩ v5).setCell ⟨g, 6, none⟩ v6).setCell ⟨g, 7, none⟩ v7).cell? ⟨g, 4, none⟩ = some v4 ∧
    ((((((((W.setCell ⟨g, 0, none⟩ v0).setCell ⟨g, 1, none⟩ v1).setCell ⟨g, 2, none⟩ v2).setCell ⟨g, 3, none⟩ v3).setCell ⟨g, 4, none⟩ v4).setCell ⟨g, 5, none⟩ v5).setCell ⟨g, 6, none⟩ v6).setCell ⟨g, 7, none⟩ v7).cell? ⟨g, 5, none⟩ = some v5 ∧
    ((((((((W.setCell ⟨g, 0, none⟩ v0).setCell ⟨g, 1, none⟩ v1).setCell ⟨g, 2, none⟩ v2).setCell ⟨g, 3, none⟩ v3).setCell ⟨g, 4, none⟩ v4).setCell ⟨g, 5, none⟩ v5).setCell ⟨g, 6, none⟩ v6).setCell ⟨g, 7, none⟩ v7).cell? ⟨g, 6, none⟩ = some v6 ∧
    ((((((((W.setCell ⟨g, 0, none⟩ v0).setCell ⟨g, 1, none⟩ v1).setCell ⟨g, 2, none⟩ v2).setCell ⟨g, 3, none⟩ v3).setCell ⟨g, 4, none⟩ v4).setCell ⟨g, 5, none⟩ v5).setCell ⟨g, 6, none⟩ v6).setCell ⟨g, 7, none⟩ v7).cell? ⟨g, 7, none⟩ = some v7 := by
  obtain ⟨-, ⟨c0, c1, c2, c3, c4, c5, c6, c7⟩, -⟩ := h
  have far : ∀ (w : World) (p q : Nat) (v : Value), q ≠ p → (w.setCell ⟨g, p, none⟩ v).cell? ⟨g, q, none⟩ = w.cell? ⟨g, q, none⟩ := fun w p q v hn => set_far (.inr hn)
  refine ⟨?_, ?_, ?_, ?_, ?_, ?_, ?_, ?_⟩
  · rw [far _ _ _ _ (by decide), far _ _ _ _ (by decide), far _ _ _ _ (by decide), far _ _ _ _ (by decide), far _ _ _ _ (by decide), far _ _ _ _ (by decide), far _ _ _ _ (by decide)]; exact set_here (by rw [c0])
  · rw [far _ _ _ _ (by decide), far _ _ _ _ (by decide), far _ _ _ _ (by decide), far _ _ _ _ (by decide), far _ _ _ _ (by decide), far _ _ _ _ (by decide)]; exact set_here (by rw [far _ _ _ _ (by decide), c1])
  · rw [far _ _ _ _ (by decide), far _ _ _ _ (by decide), far _ _ _ _ (by decide), far _ _ _ _ (by decide), far _ _ _ _ (by decide)]; exact set_here (by rw [far _ _ _ _ (by decide), far _ _ _ _ (by decide), c2])
  · rw [far _ _ _ _ (by decide), far _ _ _ _ (by decide), far _ _ _ _ (by decide), far _ _ _ _ (by decide)]; exact set_here (by rw [far _ _ _ _ (by decide), far _ _ _ _ (by decide), far _ _ _ _ (by decide), c3])
  · rw [far _ _ _ _ (by decide), far _ _ _ _ (by decide), far _ _ _ _ (by decide)]; exact set_here (by rw [far _ _ _ _ (by decide), far _ _ _ _ (by decide), far _ _ _ _ (by decide), far _ _ _ _ (by decide), c4])
  · rw [far _ _ _ _ (by decide), far _ _ _ _ (by decide)]; exact set_here (by rw [far _ _ _ _ (by decide), far _ _ _ _ (by decide), far _ _ _ _ (by decide), far _ _ _ _ (by decide), far _ _ _ _ (by decide), c5])
  · rw [far _ _ _ _ (by decide)]; exact set_here (by rw [far _ _ _ _ (by decide), far _ _ _ _ (by decide), far _ _ _ _ (by decide), far _ _ _ _ (by decide), far _ _ _ _ (by decide), far _ _ _ _ (by decide), c6])
  · exact set_here (by rw [far _ _ _ _ (by decide), far _ _ _ _ (by decide), far _ _ _ _ (by decide), far _ _ _ _ (by decide), far _ _ _ _ (by decide), far _ _ _ _ (by decide), far _ _ _ _ (by decide), c7])
theorem bl_set8 {w W : World} {g : Nat} {v0 v1 v2 v3 v4 v5 v6 v7 : Value} (h : Below w.heap.size w W) (hg : w.heap.size ≤ g) : Below w.heap.size w ((((((((W.setCell ⟨g, 0, none⟩ v0).setCell ⟨g, 1, none⟩ v1).setCell ⟨g, 2, none⟩ v2).setCell ⟨g, 3, none⟩ v3).setCell ⟨g, 4, none⟩ v4).setCell ⟨g, 5, none⟩ v5).setCell ⟨g, 6, none⟩ v6).setCell ⟨g, 7, none⟩ v7) :=
  bl_set (bl_set (bl_set (bl_set (bl_set (bl_set (bl_set (bl_set h hg) hg) hg) hg) hg) hg) hg) hg
set_option maxRecDepth 100000 in
set_option maxHeartbeats 4000000 in
theorem one_in (n : Nat) (w0 w : World) (t : Option Addr) (tl tc : Nat) (A : List Tm) (h : Vin w0 (n + 1) t tl tc A) (hw : Below w0.heap.size w0 w) : Calls Tryz.prog 27 #[.agg #[.slice t tl tc]] w (OnP (oneE (n + 1) A) n A w0 w) := by
  obtain ⟨q, hq⟩ : ∃ q, rgV (n + 1) A = q := ⟨_, rfl⟩
  have HQ := Lib.hid hq
  have HR : Hid (∀ W, Below w.heap.size w W → Calls Tryz.prog 34 #[.agg #[.slice t tl tc]] W (LackP q W)) := fun W hW => right_q q (n + 1) W t tl tc A (h.below (bl_step hw hW)) HQ
  have HT : Hid (∀ W, Below w.heap.size w W → Calls Tryz.prog 49 #[.agg #[.slice t tl tc]] W (OnP (onlyE A) n A w0 W)) := fun W hW => only_in n w0 W t tl tc A h.v (bl_step hw hW)
  clear hq h hw
  obtain ⟨Y, hY⟩ : ∃ Y, (w.alloc (.cells #[.slice t tl tc] 24)).alloc (.cells #[.int .i64 0, .int .i64 0, .int .i64 0, .string { data := #[] }, .bool false, .bool false, .bool false, .slice none 0 0] 29) = Y := ⟨_, rfl⟩
  have HY : Hid (Below w.heap.size w Y ∧ Bv Y w.heap.size t tl tc ∧ Bo Y (w.heap.size + 1) 0 0 0 ⟨#[]⟩ false false false none 0 0) := by
    rw [← hY]; exact Lib.hid ⟨bl_alloc (bl_alloc (Below.refl _ _)), (Bv.new w t tl tc 24).later (bl_alloc (Below.refl _ _)), Bo.new1 w _ 0 0 0 _ _ _ _ _ _ _⟩
  have x0 := HY.out.2.1.2.1
  cases q
  · have HV : Hid (oneE (n + 1) A = 1) := Lib.hid (by unfold oneE; rw [if_neg (by rw [HQ.out]; decide)])
    go_enter Tryz.func27, Tryz.ntmps27
    go_upto_region 1 with fail
    clear hY
    go_wp2_with (go_at_call 34; refine (HR.out _ HY.out.1).mono ?_; rintro e w1 ⟨rfl, hb⟩; have HB := Lib.hid (bl_step HY.out.1 hb); have HO := Lib.hid (HY.out.2.2.later hb); obtain ⟨hz, ⟨c0, c1, c2, c3, c4, c5, c6, c7⟩, fz⟩ := HO.out; clear hb)
    obtain ⟨k0, k1, k2, k3, k4, k5, k6, k7⟩ := set8 HO.out (.int .i64 0) (.int .i64 0) (.int .i64 0) (.string ⟨#[]⟩) (.bool false) (.bool false) (.bool false) (.slice none 0 0)
    refine bodyPost_ret (v := .tuple #[.agg #[.int .i64 0, .int .i64 0, .int .i64 0, .string ⟨#[]⟩, .bool false, .bool false, .bool false, .slice none 0 0], .int .i64 1]) (by simp [results, Tryz.results27, go_sem, k0, k1, k2, k3, k4, k5, k6, k7]) rfl ?_
    rw [HV.out]; exact OnP.no (by decide) (bl_set8 HB.out (by omega))
  · have HV : Hid (oneE (n + 1) A = onlyE A) := Lib.hid (by unfold oneE; rw [if_pos HQ.out])
    go_enter Tryz.func27, Tryz.ntmps27
    go_upto_region 1 with fail
    clear hY
    go_wp2_with (first
      | (go_at_call 34; refine (HR.out _ HY.out.1).mono ?_; rintro e w1 ⟨rfl, hb⟩; have HB := Lib.hid (bl_step HY.out.1 hb); have HO := Lib.hid (HY.out.2.2.later hb); have y0 := (HY.out.2.1.later hb).2.1; clear hb)
      | (go_at_call 49; refine (HT.out _ HB.out).mono ?_; rintro e w2 ⟨k, lo, hi, s, y, m, o, f, fl, fc, rfl, hb, hr⟩; have HB2 := Lib.hid (bl_step HB.out hb); have HR2 := Lib.hid hr; have HO2 := Lib.hid (HO.out.later hb); obtain ⟨hz, ⟨c0, c1, c2, c3, c4, c5, c6, c7⟩, fz⟩ := HO2.out; clear hb hr))
    obtain ⟨k0, k1, k2, k3, k4, k5, k6, k7⟩ := set8 HO2.out (.int .i64 k) (.int .i64 lo) (.int .i64 hi) (.string s) (.bool y) (.bool m) (.bool o) (.slice f fl fc)
    refine bodyPost_ret (v := .tuple #[.agg #[.int .i64 k, .int .i64 lo, .int .i64 hi, .string s, .bool y, .bool m, .bool o, .slice f fl fc], .int .i64 (onlyE A)]) (by simp [results, Tryz.results27, go_sem, k0, k1, k2, k3, k4, k5, k6, k7]) rfl ?_
    rw [HV.out]; exact ⟨k, lo, hi, s, y, m, o, f, fl, fc, rfl, bl_set8 HB2.out (by omega), HR2.out⟩
end Go.Proofs.YtfhknnldkfngdaaGreatDoor
/- WALKS of atom, Number, Text. -/
namespace Go.Proofs.YtfhknnldkfngdaaGreatDoor
open Go.RowKit
/-- The number, the text, whether it waits, the error. -/
noncomputable def plR (n : Nat) (kd : Int) (A : List Tm) : Int × ByteArray × Bool × Int :=
  if oneE n A ≠ 0 then (0, ⟨#[]⟩, false, oneE n A) else match A with
  | [x] => if x.k ≠ kd then (0, ⟨#[]⟩, false, 27) else if x.m = true then (0, ⟨#[]⟩, true, 0) else if atomB x = false then (0, ⟨#[]⟩, false, 28) else (x.lo, x.s, false, 0)
  | _ => (0, ⟨#[]⟩, false, 0)
def AtP (r : Int × ByteArray × Bool × Int) (w : World) (e : Ending) (w' : World) : Prop :=
  ∃ k hi y m o f fl fc, e = .returned (.tuple #[tv k r.1 hi r.2.1 y m o f fl fc, .bool r.2.2.1, .int .i64 r.2.2.2]) ∧ Below w.heap.size w w'
theorem AtP.mk {r : Int × ByteArray × Bool × Int} {k lo hi : Int} {s : ByteArray} {y m o b : Bool} {f : Option Addr} {fl fc : Nat} {E : Int} {w w' : World} (hr : r = (lo, s, b, E)) (hb : Below w.heap.size w w') : AtP r w (.returned (.tuple #[.agg #[.int .i64 k, .int .i64 lo, .int .i64 hi, .string s, .bool y, .bool m, .bool o, .slice f fl fc], .bool b, .int .i64 E])) w' := by
  subst hr; exact ⟨k, hi, y, m, o, f, fl, fc, rfl, hb⟩
theorem plR_err {n : Nat} {kd : Int} {A : List Tm} (h : oneE n A ≠ 0) : plR n kd A = (0, ⟨#[]⟩, false, oneE n A) := if_pos h
theorem plR_ok {n : Nat} {kd : Int} {x : Tm} (h : oneE n [x] = 0) : plR n kd [x] = if x.k ≠ kd then (0, ⟨#[]⟩, false, 27) else if x.m = true then (0, ⟨#[]⟩, true, 0) else if atomB x = false then (0, ⟨#[]⟩, false, 28) else (x.lo, x.s, false, 0) := if_neg (by simpa using h)
theorem Bo.set {W : World} {g : Nat} {k lo hi : Int} {s : ByteArray} {y m o : Bool} {f : Option Addr} {fl fc : Nat} (h : Bo W g k lo hi s y m o f fl fc) (k' lo' hi' : Int) (s' : ByteArray) (y' m' o' : Bool) (f' : Option Addr) (fl' fc' : Nat) :
    Bo ((((((((W.setCell ⟨g, 0, none⟩ (.int .i64 k')).setCell ⟨g, 1, none⟩ (.int .i64 lo')).setCell ⟨g, 2, none⟩ (.int .i64 hi')).setCell ⟨g, 3, none⟩ (.string s')).setCell ⟨g, 4, none⟩ (.bool y')).setCell ⟨g, 5, none⟩ (.bool m')).setCell ⟨g, 6, none⟩ (.bool o')).setCell ⟨g, 7, none⟩ (.slice f' fl' fc')) g k' lo' hi' s' y' m' o' f' fl' fc' :=
  ⟨by simp only [set_size]; exact h.lt, set8 h _ _ _ _ _ _ _ _, fun i => by simp only [World.frozen?_setCell]; exact h.fz i⟩
set_option maxRecDepth 100000 in
set_option maxHeartbeats 4000000 in
theorem atom_in (n : Nat) (kd : Int) (w0 w : World) (t : Option Addr) (tl tc : Nat) (A : List Tm) (h : Vin w0 (n + 1) t tl tc A) (hw : Below w0.heap.size w0 w) : Calls Tryz.prog 44 #[.agg #[.slice t tl tc], .int .i64 kd] w (AtP (plR (n + 1) kd A) w) := by
  have HO : Hid (∀ W, Below w.heap.size w W → Calls Tryz.prog 27 #[.agg #[.slice t tl tc]] W (OnP (oneE (n + 1) A) n A w0 W)) := fun W hW => one_in n w0 W t tl tc A h (bl_step hw hW)
  clear h hw
  obtain ⟨E, hE⟩ : ∃ E, oneE (n + 1) A = E := ⟨_, rfl⟩
  rw [hE] at HO
  have HE := Lib.hid hE
  clear hE
  obtain ⟨Y, hY⟩ : ∃ Y, (w.alloc (.cells #[.slice t tl tc] 24)).alloc (.cells #[.int .i64 0, .int .i64 0, .int .i64 0, .string { data := #[] }, .bool false, .bool false, .bool false, .slice none 0 0] 29) = Y := ⟨_, rfl⟩
  have HY : Hid (Below w.heap.size w Y ∧ Bv Y w.heap.size t tl tc ∧ Bo Y (w.heap.size + 1) 0 0 0 ⟨#[]⟩ false false false none 0 0) := by
    rw [← hY]; exact Lib.hid ⟨bl_alloc (bl_alloc (Below.refl _ _)), (Bv.new w t tl tc 24).later (bl_alloc (Below.refl _ _)), Bo.new1 w _ 0 0 0 _ _ _ _ _ _ _⟩
  have x0 := HY.out.2.1.2.1
  go_enter Tryz.func44, Tryz.ntmps44
  go_upto_region 1 with fail
  clear hY
  go_upto_region 2 with (go_at_call 27; refine (HO.out _ HY.out.1).mono ?_; rintro e w1 ⟨k, lo, hi, s, y, m, o, f, fl, fc, rfl, hb, hr⟩; have HB := Lib.hid (bl_step HY.out.1 hb); have HR := Lib.hid hr; have HOB := Lib.hid (HY.out.2.2.later hb); obtain ⟨hz, ⟨c0, c1, c2, c3, c4, c5, c6, c7⟩, fz⟩ := HOB.out; clear hb hr)
  obtain ⟨Z, hZ⟩ : ∃ Z, ((((((((w1.setCell ⟨w.heap.size + 1, 0, none⟩ (.int .i64 k)).setCell ⟨w.heap.size + 1, 1, none⟩ (.int .i64 lo)).setCell ⟨w.heap.size + 1, 2, none⟩ (.int .i64 hi)).setCell ⟨w.heap.size + 1, 3, none⟩ (.string s)).setCell ⟨w.heap.size + 1, 4, none⟩ (.bool y)).setCell ⟨w.heap.size + 1, 5, none⟩ (.bool m)).setCell ⟨w.heap.size + 1, 6, none⟩ (.bool o)).setCell ⟨w.heap.size + 1, 7, none⟩ (.slice f fl fc)) = Z := ⟨_, rfl⟩
  have HZ : Hid (Bo Z (w.heap.size + 1) k lo hi s y m o f fl fc) := by rw [← hZ]; exact HOB.out.set k lo hi s y m o f fl fc
  have HBZ : Hid (Below w.heap.size w Z) := by rw [← hZ]; exact bl_set8 HB.out (by omega)
  rw [hZ]
  clear hZ c0 c1 c2 c3 c4 c5 c6 c7 fz hz
  rcases HR.out with ⟨hE, rfl, rfl, rfl, rfl, rfl, rfl, rfl, rfl, rfl, rfl⟩ | ⟨rfl, x, rfl, rfl, rfl, rfl, rfl, rfl, rfl, rfl, hF⟩
  · have HP : Hid (plR (n + 1) kd A = (0, ⟨#[]⟩, false, E)) := Lib.hid (by rw [plR_err (by rw [HE.out]; exact hE), HE.out])
    have hne : (E != 0) = true := by simpa using hE
    obtain ⟨hz, ⟨c0, c1, c2, c3, c4, c5, c6, c7⟩, fz⟩ := HZ.out
    go_wp2_with fail
    obtain ⟨k0, k1, k2, k3, k4, k5, k6, k7⟩ := set8 HZ.out (.int .i64 0) (.int .i64 0) (.int .i64 0) (.string ⟨#[]⟩) (.bool false) (.bool false) (.bool false) (.slice none 0 0)
    refine bodyPost_ret (v := .tuple #[.agg #[.int .i64 0, .int .i64 0, .int .i64 0, .string ⟨#[]⟩, .bool false, .bool false, .bool false, .slice none 0 0], .bool false, .int .i64 E]) (by simp [results, Tryz.results44, go_sem, k0, k1, k2, k3, k4, k5, k6, k7]) rfl ?_
    exact AtP.mk HP.out (bl_set8 HBZ.out (by omega))
  · have HPP := Lib.hid (plR_ok (kd := kd) HE.out)
    have HF := Lib.hid hF
    obtain rfl : fl = x.fs.length := hF.1.symm
    clear hF
    obtain ⟨hz, ⟨c0, c1, c2, c3, c4, c5, c6, c7⟩, fz⟩ := HZ.out
    by_cases hk : x.k = kd
    · have hkn : (x.k != kd) = false := by simpa using hk
      have HK := Lib.hid hk
      clear hk
      cases hxm : x.m
      · have HXM := Lib.hid hxm
        rw [hxm] at c5
        obtain ⟨q, hq⟩ : ∃ q, (rightB x.k x.lo x.hi x.s x.y x.m x.o x.fs.length && singleB x.k x.lo x.hi x.y) = q := ⟨_, rfl⟩
        have HQ := Lib.hid hq
        rw [hxm] at HQ
        cases q
        · have HP : Hid (plR (n + 1) kd [x] = (0, ⟨#[]⟩, false, 28)) := Lib.hid (by rw [HPP.out, if_neg (by simpa using HK.out), if_neg (by rw [HXM.out]; decide), if_pos (show atomB x = false from hq)])
          clear hq hxm
          go_wp2_with (go_at_call 36; (with_reducible refine (atom_as _ _ _ _ _ _ _ _ _ _ _ _ HQ).mono ?_); rintro e w2 ⟨rfl, hb⟩; have HB2 := Lib.hid (bl_step HBZ.out hb); have HZ2 := Lib.hid (HZ.out.later hb); obtain ⟨hz2, ⟨e0, e1, e2, e3, e4, e5, e6, e7⟩, fz2⟩ := HZ2.out; clear hb)
          obtain ⟨k0, k1, k2, k3, k4, k5, k6, k7⟩ := set8 HZ2.out (.int .i64 0) (.int .i64 0) (.int .i64 0) (.string ⟨#[]⟩) (.bool false) (.bool false) (.bool false) (.slice none 0 0)
          refine bodyPost_ret (v := .tuple #[.agg #[.int .i64 0, .int .i64 0, .int .i64 0, .string ⟨#[]⟩, .bool false, .bool false, .bool false, .slice none 0 0], .bool false, .int .i64 28]) (by simp [results, Tryz.results44, go_sem, k0, k1, k2, k3, k4, k5, k6, k7]) rfl ?_
          exact AtP.mk HP.out (bl_set8 HB2.out (by omega))
        · have HP : Hid (plR (n + 1) kd [x] = (x.lo, x.s, false, 0)) := Lib.hid (by rw [HPP.out, if_neg (by simpa using HK.out), if_neg (by rw [HXM.out]; decide), if_neg (by unfold atomB; rw [hq]; decide)])
          clear hq hxm
          go_wp2_with (go_at_call 36; (with_reducible refine (atom_as _ _ _ _ _ _ _ _ _ _ _ _ HQ).mono ?_); rintro e w2 ⟨rfl, hb⟩; have HB2 := Lib.hid (bl_step HBZ.out hb); have HZ2 := Lib.hid (HZ.out.later hb); obtain ⟨hz2, ⟨e0, e1, e2, e3, e4, e5, e6, e7⟩, fz2⟩ := HZ2.out; clear hb)
          obtain ⟨k0, k1, k2, k3, k4, k5, k6, k7⟩ := set8 HZ2.out (.int .i64 x.k) (.int .i64 x.lo) (.int .i64 x.hi) (.string x.s) (.bool x.y) (.bool x.m) (.bool x.o) (.slice f x.fs.length fc)
          refine bodyPost_ret (v := .tuple #[.agg #[.int .i64 x.k, .int .i64 x.lo, .int .i64 x.hi, .string x.s, .bool x.y, .bool x.m, .bool x.o, .slice f x.fs.length fc], .bool false, .int .i64 0]) (by simp [results, Tryz.results44, go_sem, k0, k1, k2, k3, k4, k5, k6, k7]) rfl ?_
          exact AtP.mk HP.out (bl_set8 HB2.out (by omega))
      · have HXM := Lib.hid hxm
        rw [hxm] at c5
        have HP : Hid (plR (n + 1) kd [x] = (0, ⟨#[]⟩, true, 0)) := Lib.hid (by rw [HPP.out, if_neg (by simpa using HK.out), if_pos hxm])
        clear hxm
        go_wp2_with fail
        obtain ⟨k0, k1, k2, k3, k4, k5, k6, k7⟩ := set8 HZ.out (.int .i64 0) (.int .i64 0) (.int .i64 0) (.string ⟨#[]⟩) (.bool false) (.bool false) (.bool false) (.slice none 0 0)
        refine bodyPost_ret (v := .tuple #[.agg #[.int .i64 0, .int .i64 0, .int .i64 0, .string ⟨#[]⟩, .bool false, .bool false, .bool false, .slice none 0 0], .bool true, .int .i64 0]) (by simp [results, Tryz.results44, go_sem, k0, k1, k2, k3, k4, k5, k6, k7]) rfl ?_
        exact AtP.mk HP.out (bl_set8 HBZ.out (by omega))
    · have hkn : (x.k != kd) = true := by simpa using hk
      have HP : Hid (plR (n + 1) kd [x] = (0, ⟨#[]⟩, false, 27)) := Lib.hid (by rw [HPP.out, if_pos hk])
      go_wp2_with fail
      obtain ⟨k0, k1, k2, k3, k4, k5, k6, k7⟩ := set8 HZ.out (.int .i64 0) (.int .i64 0) (.int .i64 0) (.string ⟨#[]⟩) (.bool false) (.bool false) (.bool false) (.slice none 0 0)
      refine bodyPost_ret (v := .tuple #[.agg #[.int .i64 0, .int .i64 0, .int .i64 0, .string ⟨#[]⟩, .bool false, .bool false, .bool false, .slice none 0 0], .bool false, .int .i64 27]) (by simp [results, Tryz.results44, go_sem, k0, k1, k2, k3, k4, k5, k6, k7]) rfl ?_
      exact AtP.mk HP.out (bl_set8 HBZ.out (by omega))
def number_inP (r : Int × ByteArray × Bool × Int) (w : World) (e : Ending) (w' : World) : Prop := e = .returned (.tuple #[.int .i64 r.1, .bool r.2.2.1, .int .i64 r.2.2.2]) ∧ Below w.heap.size w w'
set_option maxRecDepth 100000 in
set_option maxHeartbeats 4000000 in
theorem number_in (n : Nat) (w0 w : World) (t : Option Addr) (tl tc : Nat) (A : List Tm) (h : Vin w0 (n + 1) t tl tc A) (hw : Below w0.heap.size w0 w) : Calls Tryz.prog 20 #[.agg #[.slice t tl tc]] w (number_inP (plR (n + 1) 2 A) w) := by
  have HA : Hid (∀ W, Below w.heap.size w W → Calls Tryz.prog 44 #[.agg #[.slice t tl tc], .int .i64 2] W (AtP (plR (n + 1) 2 A) W)) := fun W hW => atom_in n 2 w0 W t tl tc A h (bl_step hw hW)
  clear h hw
  generalize plR (n + 1) 2 A = r at *
  obtain ⟨lo, s, b, E⟩ := r
  go_enter Tryz.func20, Tryz.ntmps20
  go_wp2_with (go_at_call 44; refine (HA.out _ (bl_alloc (Below.refl _ _))).mono ?_; rintro e w1 ⟨k, hi, y, m, o, f, fl, fc, rfl, hb⟩; have HB := Lib.hid (bl_step (bl_alloc (Below.refl _ _)) hb); clear hb)
  refine bodyPost_ret (v := .tuple #[.int .i64 lo, .bool b, .int .i64 E]) (by simp [results, Tryz.results20, go_sem]) rfl ⟨rfl, bl_alloc HB.out⟩
def text_inP (r : Int × ByteArray × Bool × Int) (w : World) (e : Ending) (w' : World) : Prop := e = .returned (.tuple #[.string r.2.1, .bool r.2.2.1, .int .i64 r.2.2.2]) ∧ Below w.heap.size w w'
set_option maxRecDepth 100000 in
set_option maxHeartbeats 4000000 in
theorem text_in (n : Nat) (w0 w : World) (t : Option Addr) (tl tc : Nat) (A : List Tm) (h : Vin w0 (n + 1) t tl tc A) (hw : Below w0.heap.size w0 w) : Calls Tryz.prog 22 #[.agg #[.slice t tl tc]] w (text_inP (plR (n + 1) 3 A) w) := by
  have HA : Hid (∀ W, Below w.heap.size w W → Calls Tryz.prog 44 #[.agg #[.slice t tl tc], .int .i64 3] W (AtP (plR (n + 1) 3 A) W)) := fun W hW => atom_in n 3 w0 W t tl tc A h (bl_step hw hW)
  clear h hw
  generalize plR (n + 1) 3 A = r at *
  obtain ⟨lo, s, b, E⟩ := r
  go_enter Tryz.func22, Tryz.ntmps22
  go_wp2_with (go_at_call 44; refine (HA.out _ (bl_alloc (Below.refl _ _))).mono ?_; rintro e w1 ⟨k, hi, y, m, o, f, fl, fc, rfl, hb⟩; have HB := Lib.hid (bl_step (bl_alloc (Below.refl _ _)) hb); clear hb)
  refine bodyPost_ret (v := .tuple #[.string s, .bool b, .int .i64 E]) (by simp [results, Tryz.results22, go_sem]) rfl ⟨rfl, bl_alloc HB.out⟩
end Go.Proofs.YtfhknnldkfngdaaGreatDoor
/- WALKS of field and the function that it hands on. -/
namespace Go.Proofs.YtfhknnldkfngdaaGreatDoor
open Go.RowKit
/-- A text's box. -/
def Bs' (w : World) (N : Nat) (s : ByteArray) : Prop := N < w.heap.size ∧ w.cell? ⟨N, 0, none⟩ = some (.string s) ∧ w.frozen? ⟨N, 0, none⟩ = false
theorem Bs'.later {w w' : World} {N : Nat} {s : ByteArray} (h : Bs' w N s) (hb : Below w.heap.size w w') : Bs' w' N s := ⟨Nat.lt_of_lt_of_le h.1 hb.size, (hb.cell (p := ⟨N, 0, none⟩) h.1).trans h.2.1, (hb.frozen (p := ⟨N, 0, none⟩) h.1).trans h.2.2⟩
set_option maxRecDepth 100000 in
set_option maxHeartbeats 2000000 in
theorem named_one (w : World) (N : Nat) (key nm : ByteArray) (t : Option Addr) (tl tc : Nat) (hN : Bs' w N key) : Calls Tryz.prog 66 #[.agg #[.string nm, .slice t tl tc], .pointer (some ⟨N, 0, none⟩)] w (LackP (nm.toList == key.toList) w) := by
  obtain ⟨l, c, z⟩ := hN
  go_enter Tryz.func66, Tryz.ntmps66
  go_wp2_with fail
  go_ret
  exact ⟨rfl, bl_alloc (Below.refl _ _)⟩
theorem named_as (q : Bool) (w : World) (N : Nat) (key nm : ByteArray) (t : Option Addr) (tl tc : Nat) (hN : Bs' w N key) (h : Hid ((nm.toList == key.toList) = q)) : Calls Tryz.prog 66 #[.agg #[.string nm, .slice t tl tc], .pointer (some ⟨N, 0, none⟩)] w (LackP q w) := by
  rw [← h.out]; exact named_one w N key nm t tl tc hN
theorem enters66 : ∀ args w, (callFunc 66 args).run Tryz.prog w = .ok (.enter 66 args) w := enters_of Tryz.func66 (by kernel_rfl) rfl
/-- Where the first field of a name stands. -/
def FiP (fs : List (ByteArray × List Tm)) (key : ByteArray) (w : World) (e : Ending) (w' : World) : Prop :=
  ∃ r : Int, e = .returned (.int .i64 r) ∧ Below w.heap.size w w' ∧ ((r = -1 ∧ NoF fs key fs.length) ∨ ∃ i, ∃ h : i < fs.length, r = (i : Int) ∧ NoF fs key i ∧ (fs[i].1.toList == key.toList) = true)
set_option maxRecDepth 100000 in
set_option maxHeartbeats 8000000 in
theorem first_index (I : Option Addr → Nat → Nat → List Tm → Prop) (w0 w : World) (N : Nat) (key : ByteArray) (f : Option Addr) (fl fc : Nat) (fs : List (ByteArray × List Tm)) (hF : InF I w0 f fl fs) (hw : Below w0.heap.size w0 w) (hN : Bs' w N key) :
    Calls Tryz.prog 65 #[.slice f fl fc, .func (.func 66) #[] #[.pointer (some ⟨N, 0, none⟩)]] w (FiP fs key w) := by
  obtain ⟨l1, z1, h1⟩ := hF
  have H1 := Lib.hid h1
  subst l1
  have HW := Lib.hid hw
  have HN := Lib.hid hN
  have eg := enters66
  clear h1 hw hN
  go_enter Tryz.func65, Tryz.ntmps65
  go_wp2_with fail
  go_loopw [5, 8] (fun _ i wr => ∃ k : Nat, k ≤ fs.length ∧ i = .int .i64 k ∧ Hid (NoF fs key k) ∧ Hid (Below w.heap.size w wr)) (fun _ i _ => fs.length - (intOf i).toNat)
  case atStart => exact ⟨0, Nat.zero_le _, rfl, fun j _ hj => absurd hj (Nat.not_lt_zero _), Below.refl _ _⟩
  case round =>
    obtain ⟨k, hk, rfl, hNo, hB⟩ := hrel
    rename World => wr
    by_cases hlt : k < fs.length
    · have hki : (k : Int) < (fs.length : Int) := by omega
      have hk0 : (0 : Int) ≤ (k : Int) := by omega
      obtain ⟨b2, off2, tl2, tc2, t2, rfl, lt2, d0, d1, i2⟩ := H1.out k hlt
      have hb := bl_step HW.out hB.out
      replace d0 := (hb.cell (p := ⟨b2, off2 + k * 2, none⟩) lt2).trans d0
      replace d1 := (hb.cell (p := ⟨b2, off2 + k * 2 + 1, none⟩) lt2).trans d1
      obtain ⟨q, hq⟩ : ∃ q, (fs[k].1.toList == key.toList) = q := ⟨_, rfl⟩
      have HQ := Lib.hid hq
      have HC := Lib.hid (named_as q wr N key fs[k].1 t2 tl2 tc2 (HN.out.later hB.out) HQ)
      clear i2 lt2 hb hq
      generalize fs[k].1 = nm at HC d0
      cases q
      · go_wp2_with (go_at_fn 66; refine HC.out.mono ?_; rintro e w1 ⟨rfl, hb1⟩; have HB1 := Lib.hid hb1; clear hb1)
        go_roundw
        case rel => exact ⟨k + 1, by omega, by go_num, hNo.out.succ hlt HQ.out, bl_step hB.out HB1.out⟩
        case measure => simp [intOf]; omega
      · go_wp2_with (go_at_fn 66; refine HC.out.mono ?_; rintro e w1 ⟨rfl, hb1⟩; have HB1 := Lib.hid hb1; clear hb1)
        go_ret
        exact ⟨k, rfl, bl_step hB.out HB1.out, .inr ⟨k, hlt, rfl, hNo.out, HQ.out⟩⟩
    · have hkl : k = fs.length := by omega
      subst hkl
      go_wp2_with fail
      go_ret
      exact ⟨-1, rfl, hB.out, .inl ⟨rfl, hNo.out⟩⟩
/-- A field's value, or why there is none. -/
def fieldR (A : List Tm) (key : ByteArray) : Int × List Tm :=
  if onlyE A ≠ 0 then (onlyE A, []) else match A with
  | [x] => if x.k ≠ 4 then (27, []) else (match findF x.fs key with | none => (29, []) | some V => (0, V))
  | _ => (0, [])
theorem fieldR_err {A : List Tm} {key : ByteArray} (h : onlyE A ≠ 0) : fieldR A key = (onlyE A, []) := if_pos h
theorem fieldR_ok {x : Tm} {key : ByteArray} (h : onlyE [x] = 0) : fieldR [x] key = (if x.k ≠ 4 then (27, []) else (match findF x.fs key with | none => (29, []) | some V => (0, V)) : Int × List Tm) := if_neg (by simpa using h)
def FlP (r : Int × List Tm) (n : Nat) (w0 w : World) (e : Ending) (w' : World) : Prop :=
  ∃ t tl tc, e = .returned (.tuple #[.agg #[.slice t tl tc], .int .i64 r.1]) ∧ Below w.heap.size w w' ∧ ((r.1 ≠ 0 ∧ t = none ∧ tl = 0 ∧ tc = 0) ∨ (r.1 = 0 ∧ InV w0 n t tl tc r.2))
theorem FlP.no {r : Int × List Tm} {n : Nat} {w0 w w' : World} {E : Int} (hr : r.1 = E) (hE : E ≠ 0) (hb : Below w.heap.size w w') : FlP r n w0 w (.returned (.tuple #[.agg #[.slice none 0 0], .int .i64 E])) w' := by
  subst hr; exact ⟨none, 0, 0, rfl, hb, .inl ⟨hE, rfl, rfl, rfl⟩⟩
set_option maxRecDepth 100000 in
set_option maxHeartbeats 8000000 in
theorem field_in (n : Nat) (key : ByteArray) (w0 w : World) (t : Option Addr) (tl tc : Nat) (A : List Tm) (h : InV w0 (n + 1) t tl tc A) (hw : Below w0.heap.size w0 w) : Calls Tryz.prog 42 #[.agg #[.slice t tl tc], .string key] w (FlP (fieldR A key) n w0 w) := by
  have HO : Hid (∀ W, Below w.heap.size w W → Calls Tryz.prog 49 #[.agg #[.slice t tl tc]] W (OnP (onlyE A) n A w0 W)) := fun W hW => only_in n w0 W t tl tc A h (bl_step hw hW)
  have HW := Lib.hid hw
  clear h hw
  obtain ⟨E, hE⟩ : ∃ E, onlyE A = E := ⟨_, rfl⟩
  rw [hE] at HO
  have HE := Lib.hid hE
  clear hE
  obtain ⟨Y, hY⟩ : ∃ Y, ((w.alloc (.cells #[.slice t tl tc] 24)).alloc (.cells #[.string key] 9)).alloc (.cells #[.slice none 0 0] 24) = Y := ⟨_, rfl⟩
  have HY : Hid (Below w.heap.size w Y ∧ Bv Y w.heap.size t tl tc ∧ Bs' Y (w.heap.size + 1) key ∧ Bv Y (w.heap.size + 1 + 1) none 0 0) := by
    rw [← hY]; exact Lib.hid ⟨bl_alloc (bl_alloc (bl_alloc (Below.refl _ _))), ((Bv.new w t tl tc 24).later (bl_alloc (Below.refl _ _))).later (bl_alloc (Below.refl _ _)), ⟨by simp, by simp [go_sem], by simp [go_sem]⟩, ⟨by simp, by simp [go_sem], by simp [go_sem]⟩⟩
  have x0 := HY.out.2.1.2.1
  go_enter Tryz.func42, Tryz.ntmps42
  go_upto_region 1 with fail
  clear hY
  go_upto_region 2 with (go_at_call 49; refine (HO.out _ HY.out.1).mono ?_; rintro e w1 ⟨k, lo, hi, s, y, m, o, f, fl, fc, rfl, hb, hr⟩; have HB := Lib.hid (bl_step HY.out.1 hb); have HR := Lib.hid hr; have HK := Lib.hid (HY.out.2.2.1.later hb); have HV := Lib.hid (HY.out.2.2.2.later hb); clear hb hr)
  obtain ⟨Z, hZ⟩ : ∃ Z, w1.alloc (.cells #[.int .i64 k, .int .i64 lo, .int .i64 hi, .string s, .bool y, .bool m, .bool o, .slice f fl fc] 29) = Z := ⟨_, rfl⟩
  have HZ : Hid (Bo Z w1.heap.size k lo hi s y m o f fl fc) := by rw [← hZ]; exact Lib.hid (Bo.new w1 k lo hi s y m o f fl fc)
  have HBZ : Hid (Below w.heap.size w Z) := by rw [← hZ]; exact bl_alloc HB.out
  have HKZ : Hid (Bs' Z (w.heap.size + 1) key) := by rw [← hZ]; exact HK.out.later (bl_alloc (Below.refl _ _))
  have HVZ : Hid (Bv Z (w.heap.size + 1 + 1) none 0 0) := by rw [← hZ]; exact HV.out.later (bl_alloc (Below.refl _ _))
  rw [hZ]
  clear hZ x0
  generalize w1.heap.size = g at *
  rcases HR.out with ⟨hE, rfl, rfl, rfl, rfl, rfl, rfl, rfl, rfl, rfl, rfl⟩ | ⟨rfl, x, rfl, rfl, rfl, rfl, rfl, rfl, rfl, rfl, hF⟩
  · have HP : Hid (fieldR A key = (E, [])) := Lib.hid (by rw [fieldR_err (by rw [HE.out]; exact hE), HE.out])
    have hne : (E != 0) = true := by simpa using hE
    obtain ⟨hz, ⟨c0, c1, c2, c3, c4, c5, c6, c7⟩, fz⟩ := HZ.out
    obtain ⟨v1, v2, v3⟩ := HVZ.out
    go_wp2_with fail
    have hset := set_here (v := .slice none 0 0) HVZ.out.2.1
    refine bodyPost_ret (v := .tuple #[.agg #[.slice none 0 0], .int .i64 E]) (by simp [results, Tryz.results42, go_sem, hset]) rfl ?_
    exact FlP.no (by rw [HP.out]) (by first | exact hE | decide) (bl_set HBZ.out (by show w.heap.size ≤ w.heap.size + 1 + 1; omega))
  · have HPP := Lib.hid (fieldR_ok (key := key) HE.out)
    have HF := Lib.hid hF
    obtain rfl : fl = x.fs.length := hF.1.symm
    clear hF HR HO
    obtain ⟨hz, ⟨c0, c1, c2, c3, c4, c5, c6, c7⟩, fz⟩ := HZ.out
    obtain ⟨v1, v2, v3⟩ := HVZ.out
    by_cases hk : x.k = 4
    · have hkn : (x.k != 4) = false := by simpa using hk
      have HKK := Lib.hid hk
      clear hk
      have HI : Hid (Calls Tryz.prog 65 #[.slice f x.fs.length fc, .func (.func 66) #[] #[.pointer (some ⟨w.heap.size + 1, 0, none⟩)]] Z (FiP x.fs key Z)) := Lib.hid (first_index _ w0 Z (w.heap.size + 1) key f _ fc x.fs HF.out (bl_step HW.out HBZ.out) HKZ.out)
      go_upto_region 7 with (go_at_call 65; refine HI.out.mono ?_; rintro e w2 ⟨r, rfl, hb, hr⟩; have HB2 := Lib.hid (bl_step HBZ.out hb); have HZ2 := Lib.hid (HZ.out.later hb); have HV2 := Lib.hid (HVZ.out.later hb); have HRR := Lib.hid hr; clear hb hr)
      clear c0 c1 c2 c3 c4 c5 c6 c7 fz hz v1 v2 v3
      obtain ⟨hz, ⟨c0, c1, c2, c3, c4, c5, c6, c7⟩, fz⟩ := HZ2.out
      obtain ⟨v1, v2, v3⟩ := HV2.out
      rcases HRR.out with ⟨rfl, hno⟩ | ⟨i, hi, rfl, hno, hq⟩
      · have HP : Hid (fieldR [x] key = (29, [])) := Lib.hid (by rw [HPP.out, if_neg (by simpa using HKK.out), findF_none hno])
        go_wp2_with fail
        have hset := set_here (v := .slice none 0 0) HV2.out.2.1
        refine bodyPost_ret (v := .tuple #[.agg #[.slice none 0 0], .int .i64 29]) (by simp [results, Tryz.results42, go_sem, hset]) rfl ?_
        exact FlP.no (by rw [HP.out]) (by first | exact hE | decide) (bl_set HB2.out (by show w.heap.size ≤ w.heap.size + 1 + 1; omega))
      · have HP : Hid (fieldR [x] key = (0, x.fs[i].2)) := Lib.hid (by rw [HPP.out, if_neg (by simpa using HKK.out), findF_at hi hno hq])
        obtain ⟨b2, off2, tl2, tc2, t2, rfl, lt2, d0, d1, i2⟩ := HF.out.2.2 i hi
        have hb := bl_step HW.out HB2.out
        replace d0 := (hb.cell (p := ⟨b2, off2 + i * 2, none⟩) lt2).trans d0
        replace d1 := (hb.cell (p := ⟨b2, off2 + i * 2 + 1, none⟩) lt2).trans d1
        have hi1 : (i : Int) < (x.fs.length : Int) := by omega
        have hi0 : (0 : Int) ≤ (i : Int) := by omega
        have HI2 := Lib.hid i2
        clear i2 lt2 hb hno hq
        go_wp2_with fail
        have hset := set_here (v := .slice t2 tl2 tc2) HV2.out.2.1
        refine bodyPost_ret (v := .tuple #[.agg #[.slice t2 tl2 tc2], .int .i64 0]) (by simp [results, Tryz.results42, go_sem, hset]) rfl ?_
        rw [HP.out]
        exact ⟨t2, tl2, tc2, rfl, bl_set HB2.out (by show w.heap.size ≤ w.heap.size + 1 + 1; omega), .inr ⟨rfl, HI2.out⟩⟩
    · have hkn : (x.k != 4) = true := by simpa using hk
      have HP : Hid (fieldR [x] key = (27, [])) := Lib.hid (by rw [HPP.out, if_pos hk])
      go_wp2_with fail
      have hset := set_here (v := .slice none 0 0) HVZ.out.2.1
      refine bodyPost_ret (v := .tuple #[.agg #[.slice none 0 0], .int .i64 27]) (by simp [results, Tryz.results42, go_sem, hset]) rfl ?_
      exact FlP.no (by rw [HP.out]) (by first | exact hE | decide) (bl_set HBZ.out (by show w.heap.size ≤ w.heap.size + 1 + 1; omega))
end Go.Proofs.YtfhknnldkfngdaaGreatDoor
/- WALK of Of, of right values. -/
namespace Go.Proofs.YtfhknnldkfngdaaGreatDoor
open Go.RowKit
/-- A slice's box, its block told. -/
def Bb' (w : World) (N : Nat) (t : Option Addr) (tl tc : Nat) : Prop := w.heap[N]? = some (.cells #[.slice t tl tc] 24)
theorem Bb'.later {w w' : World} {N : Nat} {t : Option Addr} {tl tc : Nat} (h : Bb' w N t tl tc) (hb : Below w.heap.size w w') : Bb' w' N t tl tc := (hb.block N (Array.getElem?_eq_some_iff.1 h).1).trans h
theorem Bb'.new (w : World) (t : Option Addr) (tl tc : Nat) : Bb' (w.alloc (.cells #[.slice t tl tc] 24)) w.heap.size t tl tc := by show (w.heap.push _)[w.heap.size]? = _; simp
theorem InV.set {w : World} {N : Nat} {a : Option Addr} {l c : Nat} (h : Bb' w N a l c) (v : Value) {n : Nat} {t : Option Addr} {tl tc : Nat} {V : List Tm} (hV : InV w n t tl tc V) : InV (w.setCell ⟨N, 0, none⟩ v) n t tl tc V :=
  InV.but (w' := w.setCell ⟨N, 0, none⟩ v) (by rw [set_size]; exact Nat.le_refl _) (fun b hb => Below.heap_setCell _ _ _ _ hb) h hV
theorem rg_gt {n : Nat} {A : List Tm} (h : RG (n + 1) A) : ∀ x ∈ A, Gt n 15 x := h.1.1
theorem rg_field {n : Nat} {A : List Tm} (h : RG (n + 1) A) {x : Tm} (hx : x ∈ A) {f : ByteArray × List Tm} (hf : f ∈ x.fs) : RG n f.2 := by
  have h1 := (gt_f (rg_gt h x hx) hf).2.1
  have h2 := wN_mem (n := n) hx
  have h3 := wF_mem (n := n) hf
  have h4 := h.2
  exact ⟨RV.up h1, by omega⟩
theorem rg_gr1 {n : Nat} {A : List Tm} (h : RG (n + 1) A) : ∀ x ∈ A, Gr1 n x := fun x hx => (rg_gt h x hx).impF fun _ hf => rg_field h hx hf
theorem made_self {n : Nat} {A : List Tm} (h : RG (n + 1) A) : madeV n A = (0, A) := by
  unfold madeV
  have hd : A.any (tooDeep n) = false := List.any_eq_false.2 fun x hx => by rw [deep_gt (rg_gt h x hx)]; simp
  rw [if_neg (by rw [hd]; decide)]
  have hn : normV n A = A := (normV_self fun x hx => gt_dt (rg_gt h x hx)).2 h.1.2
  unfold nrm
  rw [hn, if_neg (by have := h.2; omega)]
theorem rtb_gr {n : Nat} {x : Tm} (h : Gr1 n x) : RTb (fun i => rgV n (fAt x.fs i).2) x := by
  have hr : RT (RG n) x := h
  by_cases h5 : x.k = 5
  · rw [rtb_k5 h5]; unfold RT at hr; rw [if_pos h5] at hr; exact hr
  · by_cases h4 : x.k = 4
    · rw [rtb_k4 h4]
      unfold RT at hr
      rw [if_neg h5, if_pos h4] at hr
      obtain ⟨a, b, c, d, e, ⟨f1, f2, f3⟩, g⟩ := hr
      exact ⟨a, b, c, d, e, ⟨f1, f2, fun i hi => by rw [rgV_yes, fAt_eq hi]; exact f3 _ (List.getElem_mem hi)⟩, g⟩
    · rw [rtb_ks h5 h4]; exact hr.scalar h4 h5
theorem rterm_yes (n : Nat) (w0 w : World) (x : Tm) (f : Option Addr) (fl fc : Nat) (hF : InF (fun t tl tc V => InV w0 n t tl tc V) w0 f fl x.fs) (hw : Below w0.heap.size w0 w) (hE : Nm.Env w0) (hn : ∀ y ∈ x.fs, y.1.size ≤ 140737488355328 ∧ NmV n y.2) (hg : Gr1 n x) :
    Calls Tryz.prog 51 #[tv x.k x.lo x.hi x.s x.y x.m x.o f fl fc, .func (.func 34) #[] #[]] w (LackP true w) := by
  refine (rightTerm_any (w.heap.size + 2) (fun t tl tc V => InV w0 n t tl tc V) (fun t tl tc V h => by cases n with | zero => exact h.elim | succ n => exact h.1) 34 #[] enters18 (fun _ W => Below w0.heap.size w0 W) (fun i => rgV n (fAt x.fs i).2) w0 x f fl fc hF (fun y hy => (hn y hy).1) hE (fun _ _ h => h) (fun _ _ _ h hb => bl_step h hb) (fun i W hi t tl tc hJ hV => ?_) w hw (.inr (Nat.le_refl _))).mono ?_
  · have h := lright_in n W t tl tc x.fs[i].2 ⟨InV.below hJ hV, (hn _ (List.getElem_mem hi)).2, hE.below hJ⟩
    refine h.mono fun e W' ⟨a, b⟩ => ⟨?_, Kp.of b, fun _ => bl_step hJ b⟩
    show e = .returned (.bool (rgV n (fAt x.fs i).2))
    rw [fAt_eq hi]; exact a
  · rintro e w' ⟨q, rfl, hk, h1, h0⟩
    cases q
    · exact (h0 rfl (rtb_gr hg)).elim
    · exact ⟨rfl, ⟨hk.os, hk.tape, hk.output, hk.size, fun k hk' => hk.block k hk' (by omega)⟩⟩
set_option maxRecDepth 100000 in
set_option maxHeartbeats 8000000 in
theorem of_in (n : Nat) (w0 w : World) (t : Option Addr) (tl tc : Nat) (A : List Tm) (h : Vin w0 (n + 1) t tl tc A) (hw : Below w0.heap.size w0 w) (hr : RG (n + 1) A) : Calls Tryz.prog 28 #[.slice t tl tc] w (LmP (n + 1) (0, A) w) := by
  obtain rfl : A.length = tl := h.v.1
  have hl : A.length ≤ 512 := Nat.le_trans (wN_len n A) hr.2
  have HM : Hid (∀ W, Below w0.heap.size w0 W → Calls Tryz.prog 52 #[.slice t A.length tc] W (LmP (n + 1) (0, A) W)) := fun W hW => by
    rw [← made_self hr]; exact made_any n W t A.length tc A (InV.below hW h.v) (rg_gr1 hr) hl
  have HT : Hid (∀ (x : Tm) (hx : x ∈ A) (f : Option Addr) (fl fc : Nat) (W : World), InF (fun t tl tc V => InV w0 n t tl tc V) w0 f fl x.fs → Below w0.heap.size w0 W → Calls Tryz.prog 51 #[tv x.k x.lo x.hi x.s x.y x.m x.o f fl fc, .func (.func 34) #[] #[]] W (LackP true W)) :=
    fun x hx f fl fc W hF hW => rterm_yes n w0 W x f fl fc hF hW h.env (fun y hy => h.nm x hx y hy) (rg_gr1 hr x hx)
  have H1 := Lib.hid h.v.2.2
  have HW := Lib.hid hw
  have hm := h.v.2.1
  clear h hr hw
  go_enter Tryz.func28, Tryz.ntmps28
  go_wp2_with fail
  go_loopw [12] (fun i wr => ∃ k : Nat, k ≤ A.length ∧ i = .int .i64 k ∧ Hid (Below w.heap.size w wr) ∧ Hid (Bv wr w.heap.size none 0 0) ∧ Hid (Bb' wr w.heap.size none 0 0)) (fun i _ => A.length - (intOf i).toNat)
  case atStart => exact ⟨0, Nat.zero_le _, rfl, bl_alloc (Below.refl _ _), Bv.new w none 0 0 24, Bb'.new w none 0 0⟩
  case round =>
    obtain ⟨k, hk, rfl, hB, hV, hQ⟩ := hrel
    rename World => wr
    by_cases hlt : k < A.length
    · have hki : (k : Int) < (A.length : Int) := by omega
      have hk0 : (0 : Int) ≤ (k : Int) := by omega
      obtain ⟨b2, off2, rfl, i2⟩ := H1.out k hlt
      obtain ⟨lt2, f, fl, fc, d0, d1, d2, d3, d4, d5, d6, d7, hF⟩ := i2.cells
      have hb := bl_step HW.out hB.out
      replace d0 := (hb.cell (p := ⟨b2, off2 + k * 8, none⟩) lt2).trans d0
      replace d1 := (hb.cell (p := ⟨b2, off2 + k * 8 + 1, none⟩) lt2).trans d1
      replace d2 := (hb.cell (p := ⟨b2, off2 + k * 8 + 2, none⟩) lt2).trans d2
      replace d3 := (hb.cell (p := ⟨b2, off2 + k * 8 + 3, none⟩) lt2).trans d3
      replace d4 := (hb.cell (p := ⟨b2, off2 + k * 8 + 4, none⟩) lt2).trans d4
      replace d5 := (hb.cell (p := ⟨b2, off2 + k * 8 + 5, none⟩) lt2).trans d5
      replace d6 := (hb.cell (p := ⟨b2, off2 + k * 8 + 6, none⟩) lt2).trans d6
      replace d7 := (hb.cell (p := ⟨b2, off2 + k * 8 + 7, none⟩) lt2).trans d7
      have HC := Lib.hid (fun W (hW : Below w0.heap.size w0 W) => HT.out A[k] (List.getElem_mem hlt) f fl fc W hF hW)
      have HBW := Lib.hid hb
      clear hF i2 hb lt2
      go_wp2_with (go_at_call 51; refine (HC.out _ (bl_alloc HBW.out)).mono ?_; rintro e w1 ⟨rfl, hb1⟩; have HB1 := Lib.hid (bl_step (bl_alloc (Below.refl _ _)) hb1); clear hb1)
      go_roundw
      case rel => exact ⟨k + 1, by omega, by go_num, bl_step hB.out HB1.out, hV.out.later HB1.out, hQ.out.later HB1.out⟩
      case measure => simp [intOf]; omega
    · have hkl : k = A.length := by omega
      subst hkl
      obtain ⟨v1, v2, v3⟩ := hV.out
      go_wp2_with (go_at_call 52; refine (HM.out _ (bl_step HW.out hB.out)).mono ?_; rintro e w1 ⟨t1, tl1, tc1, rfl, hb1, hI⟩; have HB1 := Lib.hid (bl_step hB.out hb1); have HV1 := Lib.hid (hV.out.later hb1); have HI := Lib.hid hI; have HQ1 := Lib.hid (hQ.out.later hb1); obtain ⟨u1, u2, u3⟩ := HV1.out; clear hb1 hI)
      have hset := set_here (v := .slice t1 tl1 tc1) u2
      refine bodyPost_ret (v := .tuple #[.agg #[.slice t1 tl1 tc1], .int .i64 0]) (by simp [results, Tryz.results28, go_sem, hset]) rfl ?_
      exact ⟨t1, tl1, tc1, rfl, bl_set HB1.out (Nat.le_refl _), InV.set HQ1.out _ HI.out⟩
end Go.Proofs.YtfhknnldkfngdaaGreatDoor
