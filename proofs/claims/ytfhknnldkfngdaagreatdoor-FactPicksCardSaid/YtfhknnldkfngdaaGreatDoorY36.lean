/- Em, En, Eo, Ep -/
import Derived.Test.YtfhknnldkfngdaaGreatDoorY35
/- A ZERO TERM's BOX is no part of a right value; WALK of the reference's One. -/
namespace Go.Proofs.YtfhknnldkfngdaaGreatDoor
open Go.RowKit
/-- A zero term's box, its block told. -/
def Bz (w : World) (N : Nat) : Prop := w.heap[N]? = some (.cells #[.int .i64 0, .int .i64 0, .int .i64 0, .string ⟨#[]⟩, .bool false, .bool false, .bool false, .slice none 0 0] 29)
theorem Bz.later {w w' : World} {N : Nat} (h : Bz w N) (hb : Below w.heap.size w w') : Bz w' N := (hb.block N (Array.getElem?_eq_some_iff.1 h).1).trans h
theorem Bz.new (w : World) : Bz (w.alloc (.cells #[.int .i64 0, .int .i64 0, .int .i64 0, .string ⟨#[]⟩, .bool false, .bool false, .bool false, .slice none 0 0] 29)) w.heap.size := by show (w.heap.push _)[w.heap.size]? = _; simp
theorem Bz.int {w : World} {N off : Nat} {q : IntKind} {x : Int} (h : Bz w N) (hc : w.cell? ⟨N, off, none⟩ = some (.int q x)) : x = 0 := by
  have e : w.cell? ⟨N, off, none⟩ = #[Value.int .i64 0, .int .i64 0, .int .i64 0, .string ⟨#[]⟩, .bool false, .bool false, .bool false, .slice none 0 0][off]? := by simp [World.cell?, show w.heap[N]? = _ from h]
  rw [e] at hc
  match off, hc with
  | 0, hc => simp at hc; exact hc.2.symm
  | 1, hc => simp at hc; exact hc.2.symm
  | 2, hc => simp at hc; exact hc.2.symm
  | 3, hc => simp at hc
  | 4, hc => simp at hc
  | 5, hc => simp at hc
  | 6, hc => simp at hc
  | 7, hc => simp at hc
  | k + 8, hc => simp at hc
theorem Bz.field {w : World} {N off : Nat} {s : ByteArray} {t : Option Addr} {tl tc : Nat} (h : Bz w N) (hc : w.cell? ⟨N, off, none⟩ = some (.string s)) (hd : w.cell? ⟨N, off + 1, none⟩ = some (.slice t tl tc)) : False := by
  have e : ∀ o, w.cell? ⟨N, o, none⟩ = #[Value.int .i64 0, .int .i64 0, .int .i64 0, .string ⟨#[]⟩, .bool false, .bool false, .bool false, .slice none 0 0][o]? := fun o => by simp [World.cell?, show w.heap[N]? = _ from h]
  rw [e] at hc hd
  match off, hc, hd with
  | 0, hc, _ => simp at hc
  | 1, hc, _ => simp at hc
  | 2, hc, _ => simp at hc
  | 3, _, hd => simp at hd
  | 4, hc, _ => simp at hc
  | 5, hc, _ => simp at hc
  | 6, hc, _ => simp at hc
  | 7, hc, _ => simp at hc
  | k + 8, hc, _ => simp at hc
theorem RT.kind {g : List Tm → Prop} {x : Tm} (h : RT g x) : x.k ≠ 0 := by
  intro e
  have hs := h.scalar (by omega) (by omega)
  rcases scR_kind hs with h | h | h <;> omega
section
variable {w w' : World} {N : Nat} (hs : w.heap.size ≤ w'.heap.size) (hb : ∀ b, b ≠ N → w'.heap[b]? = w.heap[b]?) (hN : Bz w N)
include hs hb hN
theorem InF.butz {n l : Nat} (ih : ∀ {t : Option Addr} {tl tc : Nat} {V : List Tm}, RV n l V → InV w n t tl tc V → InV w' n t tl tc V) {f : Option Addr} {fl : Nat} {fs : List (ByteArray × List Tm)} (hr : ∀ f ∈ fs, RV n l f.2) (h : InF (fun t tl tc V => InV w n t tl tc V) w f fl fs) : InF (fun t tl tc V => InV w' n t tl tc V) w' f fl fs := by
  refine ⟨h.1, h.2.1, fun i hi => ?_⟩
  obtain ⟨b, off, tl, tc, t, e, lt, c0, c1, h2⟩ := h.2.2 i hi
  have hne : b ≠ N := fun e => by subst e; exact hN.field c0 c1
  exact ⟨b, off, tl, tc, t, e, Nat.lt_of_lt_of_le lt hs, (cell_of_heap (hb b hne) _).trans c0, (cell_of_heap (hb b hne) _).trans c1, ih (hr _ (List.getElem_mem hi)) h2⟩
theorem InV.butz : ∀ {n l : Nat} {t : Option Addr} {tl tc : Nat} {V : List Tm}, RV n l V → InV w n t tl tc V → InV w' n t tl tc V
  | 0, _, _, _, _, _, hr, _ => hr.elim
  | _ + 1, 0, _, _, _, _, hr, _ => hr.elim
  | n + 1, l + 1, t, tl, tc, V, hr, h => by
    refine ⟨h.1, h.2.1, fun i hi => ?_⟩
    obtain ⟨b, off, e, hT⟩ := h.2.2 i hi
    refine ⟨b, off, e, ?_⟩
    have hx : RT (RV n l) V[i] := hr.1 _ (List.getElem_mem hi)
    have hf' : ∀ f ∈ V[i].fs, RV n l f.2 := fun f hf => (gt_f hx hf).2.1
    have hk := hx.kind
    generalize V[i] = x at hT hf' hk
    obtain ⟨k, lo, hi', s, y, m, o, fs⟩ := x
    obtain ⟨lt, f, fl, fc, c0, c1, c2, c3, c4, c5, c6, c7, hf⟩ := hT
    have hne : b ≠ N := fun e => by subst e; exact hk (hN.int c0)
    have e : ∀ i, w'.cell? ⟨b, i, none⟩ = w.cell? ⟨b, i, none⟩ := fun i => cell_of_heap (hb b hne) i
    exact ⟨Nat.lt_of_lt_of_le lt hs, f, fl, fc, (e _).trans c0, (e _).trans c1, (e _).trans c2, (e _).trans c3, (e _).trans c4, (e _).trans c5, (e _).trans c6, (e _).trans c7, hf.butz hs hb hN (fun hr h => InV.butz hr h) hf'⟩
end
end Go.Proofs.YtfhknnldkfngdaaGreatDoor
/- WALK of the reference's One. -/
namespace Go.Proofs.YtfhknnldkfngdaaGreatDoor
open Go.RowKit
set_option maxRecDepth 100000 in
set_option maxHeartbeats 4000000 in
theorem rone_in (n : Nat) (w0 w : World) (t : Option Addr) (tl tc : Nat) (A : List Tm) (h : Vif w0 (n + 1) t tl tc A) (hw : Below w0.heap.size w0 w) : Calls Tryz.prog 9 #[.agg #[.slice t tl tc]] w (OnP (oneE (n + 1) A) n A w0 w) := by
  obtain ⟨q, hq⟩ : ∃ q, rgV (n + 1) A = q := ⟨_, rfl⟩
  have HQ := Lib.hid hq
  have HR : Hid (∀ W, Below w.heap.size w W → Calls Tryz.prog 29 #[.agg #[.slice t tl tc]] W (LackP q W)) := fun W hW => rright_q q (n + 1) W t tl tc A (h.below (bl_step hw hW)) HQ
  obtain ⟨hl, hm, hel⟩ := h.v.v
  have HW := Lib.hid hw
  clear hq h hw
  obtain ⟨Y, hY⟩ : ∃ Y, (w.alloc (.cells #[.slice t tl tc] 24)).alloc (.cells #[.int .i64 0, .int .i64 0, .int .i64 0, .string { data := #[] }, .bool false, .bool false, .bool false, .slice none 0 0] 29) = Y := ⟨_, rfl⟩
  have HY : Hid (Below w.heap.size w Y ∧ Bv Y w.heap.size t tl tc ∧ Bo Y (w.heap.size + 1) 0 0 0 ⟨#[]⟩ false false false none 0 0) := by
    rw [← hY]; exact Lib.hid ⟨bl_alloc (bl_alloc (Below.refl _ _)), (Bv.new w t tl tc 24).later (bl_alloc (Below.refl _ _)), Bo.new1 w _ 0 0 0 _ _ _ _ _ _ _⟩
  have x0 := HY.out.2.1.2.1
  cases q
  · have HV : Hid (oneE (n + 1) A = 1) := Lib.hid (by unfold oneE; rw [if_neg (by rw [HQ.out]; decide)])
    clear hel hl
    go_enter Tryz.func9, Tryz.ntmps9
    go_upto_region 1 with fail
    clear hY
    go_wp2_with (go_at_call 29; refine (HR.out _ HY.out.1).mono ?_; rintro e w1 ⟨rfl, hb⟩; have HB := Lib.hid (bl_step HY.out.1 hb); have HO := Lib.hid (HY.out.2.2.later hb); have y0 := (HY.out.2.1.later hb).2.1; obtain ⟨hz, ⟨c0, c1, c2, c3, c4, c5, c6, c7⟩, fz⟩ := HO.out; clear hb)
    obtain ⟨k0, k1, k2, k3, k4, k5, k6, k7⟩ := set8 HO.out (.int .i64 0) (.int .i64 0) (.int .i64 0) (.string ⟨#[]⟩) (.bool false) (.bool false) (.bool false) (.slice none 0 0)
    refine bodyPost_ret (v := .tuple #[.agg #[.int .i64 0, .int .i64 0, .int .i64 0, .string ⟨#[]⟩, .bool false, .bool false, .bool false, .slice none 0 0], .int .i64 1]) (by simp [results, Tryz.results9, go_sem, k0, k1, k2, k3, k4, k5, k6, k7]) rfl ?_
    rw [HV.out]; exact OnP.no (by decide) (bl_set8 HB.out (by omega))
  · have HVV : Hid (oneE (n + 1) A = onlyE A) := Lib.hid (by unfold oneE; rw [if_pos HQ.out])
    match A, hl, hel, HVV with
    | [], hl, hel, HVV =>
      obtain rfl : tl = 0 := by simpa using hl.symm
      have HV := Lib.hid (HVV.out.trans (show onlyE [] = 31 from rfl))
      clear hel hl
      go_enter Tryz.func9, Tryz.ntmps9
      go_upto_region 1 with fail
      clear hY
      go_wp2_with (go_at_call 29; refine (HR.out _ HY.out.1).mono ?_; rintro e w1 ⟨rfl, hb⟩; have HB := Lib.hid (bl_step HY.out.1 hb); have HO := Lib.hid (HY.out.2.2.later hb); have y0 := (HY.out.2.1.later hb).2.1; obtain ⟨hz, ⟨c0, c1, c2, c3, c4, c5, c6, c7⟩, fz⟩ := HO.out; clear hb)
      obtain ⟨k0, k1, k2, k3, k4, k5, k6, k7⟩ := set8 HO.out (.int .i64 0) (.int .i64 0) (.int .i64 0) (.string ⟨#[]⟩) (.bool false) (.bool false) (.bool false) (.slice none 0 0)
      refine bodyPost_ret (v := .tuple #[.agg #[.int .i64 0, .int .i64 0, .int .i64 0, .string ⟨#[]⟩, .bool false, .bool false, .bool false, .slice none 0 0], .int .i64 31]) (by simp [results, Tryz.results9, go_sem, k0, k1, k2, k3, k4, k5, k6, k7]) rfl ?_
      rw [HV.out]; exact OnP.no (by decide) (bl_set8 HB.out (by omega))
    | [x], hl, hel, HVV =>
      obtain rfl : tl = 1 := by simpa using hl.symm
      obtain ⟨b2, off2, rfl, i2⟩ := hel 0 (by simp)
      rw [Nat.zero_mul, Nat.add_zero] at i2
      obtain ⟨lt2, f, fl, fc, d0, d1, d2, d3, d4, d5, d6, d7, hF⟩ := i2.cells
      simp only [List.getElem_cons_zero] at *
      have HF := Lib.hid hF
      have HX : Hid (∀ W, Below w.heap.size w W → W.cell? ⟨b2, off2, none⟩ = some (.int .i64 x.k) ∧ W.cell? ⟨b2, off2 + 1, none⟩ = some (.int .i64 x.lo) ∧ W.cell? ⟨b2, off2 + 2, none⟩ = some (.int .i64 x.hi) ∧ W.cell? ⟨b2, off2 + 3, none⟩ = some (.string x.s) ∧ W.cell? ⟨b2, off2 + 4, none⟩ = some (.bool x.y) ∧ W.cell? ⟨b2, off2 + 5, none⟩ = some (.bool x.m) ∧ W.cell? ⟨b2, off2 + 6, none⟩ = some (.bool x.o) ∧ W.cell? ⟨b2, off2 + 7, none⟩ = some (.slice f fl fc)) := Lib.hid fun W hW => by
        have hb := bl_step HW.out hW
        exact ⟨(hb.cell (p := ⟨b2, off2, none⟩) lt2).trans d0, (hb.cell (p := ⟨b2, off2 + 1, none⟩) lt2).trans d1, (hb.cell (p := ⟨b2, off2 + 2, none⟩) lt2).trans d2, (hb.cell (p := ⟨b2, off2 + 3, none⟩) lt2).trans d3, (hb.cell (p := ⟨b2, off2 + 4, none⟩) lt2).trans d4, (hb.cell (p := ⟨b2, off2 + 5, none⟩) lt2).trans d5, (hb.cell (p := ⟨b2, off2 + 6, none⟩) lt2).trans d6, (hb.cell (p := ⟨b2, off2 + 7, none⟩) lt2).trans d7⟩
      clear hel hl i2 hF d0 d1 d2 d3 d4 d5 d6 d7 lt2
      by_cases h5 : x.k = 5
      · have HV := Lib.hid (HVV.out.trans (show onlyE [x] = 28 from if_pos h5))
        have hk5 : (x.k == 5) = true := by simpa using h5
        have H5 := Lib.hid h5
        clear h5
        go_enter Tryz.func9, Tryz.ntmps9
        go_upto_region 1 with fail
        clear hY
        go_wp2_with (go_at_call 29; refine (HR.out _ HY.out.1).mono ?_; rintro e w1 ⟨rfl, hb⟩; have HB := Lib.hid (bl_step HY.out.1 hb); have HO := Lib.hid (HY.out.2.2.later hb); have y0 := (HY.out.2.1.later hb).2.1; obtain ⟨hz, ⟨c0, c1, c2, c3, c4, c5, c6, c7⟩, fz⟩ := HO.out; obtain ⟨e0, e1, e2, e3, e4, e5, e6, e7⟩ := HX.out _ HB.out; clear hb)
        obtain ⟨k0, k1, k2, k3, k4, k5, k6, k7⟩ := set8 HO.out (.int .i64 0) (.int .i64 0) (.int .i64 0) (.string ⟨#[]⟩) (.bool false) (.bool false) (.bool false) (.slice none 0 0)
        refine bodyPost_ret (v := .tuple #[.agg #[.int .i64 0, .int .i64 0, .int .i64 0, .string ⟨#[]⟩, .bool false, .bool false, .bool false, .slice none 0 0], .int .i64 28]) (by simp [results, Tryz.results9, go_sem, k0, k1, k2, k3, k4, k5, k6, k7]) rfl ?_
        rw [HV.out]; exact OnP.no (by decide) (bl_set8 HB.out (by omega))
      · have HV := Lib.hid (HVV.out.trans (show onlyE [x] = 0 from if_neg h5))
        have hk5 : (x.k == 5) = false := by simpa using h5
        go_enter Tryz.func9, Tryz.ntmps9
        go_upto_region 1 with fail
        clear hY
        go_wp2_with (go_at_call 29; refine (HR.out _ HY.out.1).mono ?_; rintro e w1 ⟨rfl, hb⟩; have HB := Lib.hid (bl_step HY.out.1 hb); have HO := Lib.hid (HY.out.2.2.later hb); have y0 := (HY.out.2.1.later hb).2.1; obtain ⟨hz, ⟨c0, c1, c2, c3, c4, c5, c6, c7⟩, fz⟩ := HO.out; obtain ⟨e0, e1, e2, e3, e4, e5, e6, e7⟩ := HX.out _ HB.out; clear hb)
        obtain ⟨k0, k1, k2, k3, k4, k5, k6, k7⟩ := set8 HO.out (.int .i64 x.k) (.int .i64 x.lo) (.int .i64 x.hi) (.string x.s) (.bool x.y) (.bool x.m) (.bool x.o) (.slice f fl fc)
        refine bodyPost_ret (v := .tuple #[.agg #[.int .i64 x.k, .int .i64 x.lo, .int .i64 x.hi, .string x.s, .bool x.y, .bool x.m, .bool x.o, .slice f fl fc], .int .i64 0]) (by simp [results, Tryz.results9, go_sem, k0, k1, k2, k3, k4, k5, k6, k7]) rfl ?_
        rw [HV.out]; exact ⟨x.k, x.lo, x.hi, x.s, x.y, x.m, x.o, f, fl, fc, rfl, bl_set8 HB.out (by omega), .inr ⟨rfl, x, rfl, rfl, rfl, rfl, rfl, rfl, rfl, rfl, HF.out⟩⟩
    | y1 :: y2 :: A, hl, hel, HVV =>
      have HV := Lib.hid (HVV.out.trans (onlyE_two (A := y1 :: y2 :: A) (by simp)))
      have h2 : 1 < tl := by rw [← hl]; simp
      have h3 : ((tl : Int) == 0) = false := by simp; omega
      clear hel hl
      go_enter Tryz.func9, Tryz.ntmps9
      go_upto_region 1 with fail
      clear hY
      go_wp2_with (go_at_call 29; refine (HR.out _ HY.out.1).mono ?_; rintro e w1 ⟨rfl, hb⟩; have HB := Lib.hid (bl_step HY.out.1 hb); have HO := Lib.hid (HY.out.2.2.later hb); have y0 := (HY.out.2.1.later hb).2.1; obtain ⟨hz, ⟨c0, c1, c2, c3, c4, c5, c6, c7⟩, fz⟩ := HO.out; clear hb)
      obtain ⟨k0, k1, k2, k3, k4, k5, k6, k7⟩ := set8 HO.out (.int .i64 0) (.int .i64 0) (.int .i64 0) (.string ⟨#[]⟩) (.bool false) (.bool false) (.bool false) (.slice none 0 0)
      refine bodyPost_ret (v := .tuple #[.agg #[.int .i64 0, .int .i64 0, .int .i64 0, .string ⟨#[]⟩, .bool false, .bool false, .bool false, .slice none 0 0], .int .i64 28]) (by simp [results, Tryz.results9, go_sem, k0, k1, k2, k3, k4, k5, k6, k7]) rfl ?_
      rw [HV.out]; exact OnP.no (by decide) (bl_set8 HB.out (by omega))
end Go.Proofs.YtfhknnldkfngdaaGreatDoor
/- WALK of One. -/
namespace Go.Proofs.YtfhknnldkfngdaaGreatDoor
open Go.RowKit
/-- A term and an error, the term's fields in the world behind. -/
def OnQ (E : Int) (n : Nat) (A : List Tm) (w : World) (e : Ending) (w' : World) : Prop :=
  ∃ k lo hi s y m o f fl fc, e = .returned (.tuple #[tv k lo hi s y m o f fl fc, .int .i64 E]) ∧ Below w.heap.size w w' ∧
    ((E ≠ 0 ∧ k = 0 ∧ lo = 0 ∧ hi = 0 ∧ s = ⟨#[]⟩ ∧ y = false ∧ m = false ∧ o = false ∧ f = none ∧ fl = 0 ∧ fc = 0) ∨
     (E = 0 ∧ ∃ x, A = [x] ∧ k = x.k ∧ lo = x.lo ∧ hi = x.hi ∧ s = x.s ∧ y = x.y ∧ m = x.m ∧ o = x.o ∧ InF (fun t tl tc V => InV w' n t tl tc V) w' f fl x.fs))
theorem OnQ.no {E : Int} {n : Nat} {A : List Tm} {w w' : World} (hE : E ≠ 0) (hb : Below w.heap.size w w') : OnQ E n A w (.returned (.tuple #[.agg #[.int .i64 0, .int .i64 0, .int .i64 0, .string ⟨#[]⟩, .bool false, .bool false, .bool false, .slice none 0 0], .int .i64 E])) w' :=
  ⟨0, 0, 0, ⟨#[]⟩, false, false, false, none, 0, 0, rfl, hb, .inl ⟨hE, rfl, rfl, rfl, rfl, rfl, rfl, rfl, rfl, rfl, rfl⟩⟩
theorem heap_set8 {W : World} {g b : Nat} (h : b ≠ g) (v0 v1 v2 v3 v4 v5 v6 v7 : Value) : ((((((((W.setCell ⟨g, 0, none⟩ v0).setCell ⟨g, 1, none⟩ v1).setCell ⟨g, 2, none⟩ v2).setCell ⟨g, 3, none⟩ v3).setCell ⟨g, 4, none⟩ v4).setCell ⟨g, 5, none⟩ v5).setCell ⟨g, 6, none⟩ v6).setCell ⟨g, 7, none⟩ v7).heap[b]? = W.heap[b]? := by
  rw [Below.heap_setCell _ _ _ _ h, Below.heap_setCell _ _ _ _ h, Below.heap_setCell _ _ _ _ h, Below.heap_setCell _ _ _ _ h, Below.heap_setCell _ _ _ _ h, Below.heap_setCell _ _ _ _ h, Below.heap_setCell _ _ _ _ h, Below.heap_setCell _ _ _ _ h]
theorem size_set8 {W : World} {g : Nat} (v0 v1 v2 v3 v4 v5 v6 v7 : Value) : ((((((((W.setCell ⟨g, 0, none⟩ v0).setCell ⟨g, 1, none⟩ v1).setCell ⟨g, 2, none⟩ v2).setCell ⟨g, 3, none⟩ v3).setCell ⟨g, 4, none⟩ v4).setCell ⟨g, 5, none⟩ v5).setCell ⟨g, 6, none⟩ v6).setCell ⟨g, 7, none⟩ v7).heap.size = W.heap.size := by simp only [set_size]
theorem Bo.farset {w : World} {N M : Nat} {k lo hi : Int} {s : ByteArray} {y m o : Bool} {f : Option Addr} {fl fc : Nat} {v : Value} (h : Bo w N k lo hi s y m o f fl fc) (hne : M ≠ N) : Bo (w.setCell ⟨M, 0, none⟩ v) N k lo hi s y m o f fl fc := by
  obtain ⟨a, ⟨c0, c1, c2, c3, c4, c5, c6, c7⟩, z⟩ := h
  have e : ∀ i, (w.setCell ⟨M, 0, none⟩ v).cell? ⟨N, i, none⟩ = w.cell? ⟨N, i, none⟩ := fun i => set_far (.inl (by omega))
  exact ⟨by rw [set_size]; exact a, ⟨(e _).trans c0, (e _).trans c1, (e _).trans c2, (e _).trans c3, (e _).trans c4, (e _).trans c5, (e _).trans c6, (e _).trans c7⟩, fun i => by rw [World.frozen?_setCell]; exact z i⟩
theorem oneE_rg {n : Nat} {A : List Tm} (h : oneE n A = 0) : RG n A := by
  unfold oneE at h
  by_cases hr : rgV n A = true
  · exact rgV_yes.1 hr
  · rw [if_neg hr] at h; exact absurd h (by decide)
set_option maxRecDepth 100000 in
set_option maxHeartbeats 8000000 in
theorem onew_in (n : Nat) (w : World) (t : Option Addr) (tl tc : Nat) (A : List Tm) (h : Vin w (n + 1) t tl tc A) : Calls Tryz.prog 8 #[.agg #[.slice t tl tc]] w (OnQ (oneE (n + 1) A) n A w) := by
  have HO : Hid (∀ W, Below w.heap.size w W → Calls Tryz.prog 27 #[.agg #[.slice t tl tc]] W (OnP (oneE (n + 1) A) n A w W)) := fun W hW => one_in n w W t tl tc A h hW
  have HEnv := Lib.hid h.env
  clear h
  obtain ⟨E, hE⟩ : ∃ E, oneE (n + 1) A = E := ⟨_, rfl⟩
  rw [hE] at HO ⊢
  have HE := Lib.hid hE
  clear hE
  obtain ⟨Y, hY⟩ : ∃ Y, (w.alloc (.cells #[.slice t tl tc] 24)).alloc (.cells #[.int .i64 0, .int .i64 0, .int .i64 0, .string { data := #[] }, .bool false, .bool false, .bool false, .slice none 0 0] 29) = Y := ⟨_, rfl⟩
  have HY : Hid (Below w.heap.size w Y ∧ (Bv Y w.heap.size t tl tc ∧ Bb' Y w.heap.size t tl tc) ∧ Bo Y (w.heap.size + 1) 0 0 0 ⟨#[]⟩ false false false none 0 0 ∧ Bz Y (w.heap.size + 1)) := by
    rw [← hY]
    have hz := Bz.new (w.alloc (.cells #[.slice t tl tc] 24))
    rw [al_size] at hz
    exact Lib.hid ⟨bl_alloc (bl_alloc (Below.refl _ _)), ⟨(Bv.new w t tl tc 24).later (bl_alloc (Below.refl _ _)), (Bb'.new w t tl tc).later (bl_alloc (Below.refl _ _))⟩, Bo.new1 w _ 0 0 0 _ _ _ _ _ _ _, hz⟩
  have x0 := HY.out.2.1.1.2.1
  go_enter Tryz.func8, Tryz.ntmps8
  go_upto_region 1 with fail
  clear hY
  go_upto_region 2 with (go_at_call 27; refine (HO.out _ HY.out.1).mono ?_; rintro e w1 ⟨k, lo, hi, s, y, m, o, f, fl, fc, rfl, hb, hr⟩; have HB := Lib.hid (bl_step HY.out.1 hb); have HR := Lib.hid hr; have HA := Lib.hid (HY.out.2.1.1.later hb); have HA2 := Lib.hid (HY.out.2.1.2.later hb); have HN := Lib.hid (HY.out.2.2.1.later hb); have HN2 := Lib.hid (HY.out.2.2.2.later hb); clear hb hr)
  obtain ⟨Z, hZ⟩ : ∃ Z, w1.alloc (.cells #[.int .i64 k, .int .i64 lo, .int .i64 hi, .string s, .bool y, .bool m, .bool o, .slice f fl fc] 29) = Z := ⟨_, rfl⟩
  have HZ : Hid (Below w.heap.size w Z ∧ (Bv Z w.heap.size t tl tc ∧ Bb' Z w.heap.size t tl tc) ∧ (Bo Z (w.heap.size + 1) 0 0 0 ⟨#[]⟩ false false false none 0 0 ∧ Bz Z (w.heap.size + 1)) ∧ Bo Z w1.heap.size k lo hi s y m o f fl fc) := by
    have hb : Below w1.heap.size w1 (w1.alloc (.cells #[.int .i64 k, .int .i64 lo, .int .i64 hi, .string s, .bool y, .bool m, .bool o, .slice f fl fc] 29)) := bl_alloc (Below.refl _ _)
    rw [← hZ]; exact Lib.hid ⟨bl_step HB.out hb, ⟨HA.out.later hb, HA2.out.later hb⟩, ⟨HN.out.later hb, HN2.out.later hb⟩, Bo.new w1 k lo hi s y m o f fl fc⟩
  rw [hZ]
  clear hZ x0 HY HA HA2 HN HN2 HB
  generalize w1.heap.size = g at *
  rcases HR.out with ⟨hE, rfl, rfl, rfl, rfl, rfl, rfl, rfl, rfl, rfl, rfl⟩ | ⟨rfl, x, rfl, rfl, rfl, rfl, rfl, rfl, rfl, rfl, hF⟩
  · have hne : (E != 0) = true := by simpa using hE
    have HN := Lib.hid HZ.out.2.2.1.1
    obtain ⟨hz, ⟨c0, c1, c2, c3, c4, c5, c6, c7⟩, fz⟩ := HN.out
    go_wp2_with fail
    obtain ⟨k0, k1, k2, k3, k4, k5, k6, k7⟩ := set8 HN.out (.int .i64 0) (.int .i64 0) (.int .i64 0) (.string ⟨#[]⟩) (.bool false) (.bool false) (.bool false) (.slice none 0 0)
    refine bodyPost_ret (v := .tuple #[.agg #[.int .i64 0, .int .i64 0, .int .i64 0, .string ⟨#[]⟩, .bool false, .bool false, .bool false, .slice none 0 0], .int .i64 E]) (by simp [results, Tryz.results8, go_sem, k0, k1, k2, k3, k4, k5, k6, k7]) rfl ?_
    exact OnQ.no hE (bl_set8 HZ.out.1 (by omega))
  · have hrg := oneE_rg HE.out
    have HRG := Lib.hid hrg
    have HV : Hid (Vin (Z.alloc (.cells #[.int .i64 x.k, .int .i64 x.lo, .int .i64 x.hi, .string x.s, .bool x.y, .bool x.m, .bool x.o, .slice f fl fc] 29)) (n + 1) (some ⟨Z.heap.size, 0, none⟩) 1 1 [x]) := Lib.hid ⟨by
      obtain ⟨xk, xlo, xhi, xs, xy, xm, xo, xfs⟩ := x
      exact alone_inV new_lt (Tc.new Z _ _ _ _ _ _ _ _ _ _) (InF.below (fun _ _ _ _ h => InV.below (bl_alloc HZ.out.1) h) (bl_alloc HZ.out.1) hF), RG.nm hrg, HEnv.out.below (bl_alloc HZ.out.1)⟩
    have HOF : Hid (Calls Tryz.prog 28 #[.slice (some ⟨Z.heap.size, 0, none⟩) 1 1] (Z.alloc (.cells #[.int .i64 x.k, .int .i64 x.lo, .int .i64 x.hi, .string x.s, .bool x.y, .bool x.m, .bool x.o, .slice f fl fc] 29)) (LmP (n + 1) (0, [x]) (Z.alloc (.cells #[.int .i64 x.k, .int .i64 x.lo, .int .i64 x.hi, .string x.s, .bool x.y, .bool x.m, .bool x.o, .slice f fl fc] 29)))) := Lib.hid (of_in n _ _ _ 1 1 [x] HV.out (Below.refl _ _) hrg)
    clear hF hrg HO HR
    obtain ⟨z1, ⟨b0, b1, b2, b3, b4, b5, b6, b7⟩, z3⟩ := HZ.out.2.2.2
    obtain ⟨a1, a2, a3⟩ := HZ.out.2.1.1
    go_upto_region 5 with (go_at_call 28; refine HOF.out.mono ?_; rintro e w3 ⟨t3, tl3, tc3, rfl, hb0, hI⟩; have hb : Below Z.heap.size Z w3 := bl_step (bl_alloc (Below.refl _ _)) hb0; have HB3 := Lib.hid (bl_step HZ.out.1 hb); have HI := Lib.hid hI; have HA3 := Lib.hid (HZ.out.2.1.1.later hb); have HQ3 := Lib.hid (HZ.out.2.1.2.later hb); have HN3 := Lib.hid (HZ.out.2.2.1.1.later hb); have HZ3 := Lib.hid (HZ.out.2.2.1.2.later hb); obtain ⟨p1, p2, p3⟩ := HA3.out; clear hb hb0 hI)
    obtain ⟨U, hU⟩ : ∃ U, w3.setCell ⟨w.heap.size, 0, none⟩ (.slice t3 tl3 tc3) = U := ⟨_, rfl⟩
    have HUB : Hid (Below w.heap.size w U) := by rw [← hU]; exact Lib.hid (bl_set HB3.out (Nat.le_refl _))
    have HUI : Hid (InV U (n + 1) t3 tl3 tc3 [x]) := by rw [← hU]; exact Lib.hid (InV.set HQ3.out _ HI.out)
    have HUA : Hid (Bv U w.heap.size t3 tl3 tc3) := by rw [← hU]; exact Lib.hid HA3.out.set
    have HUN : Hid (Bo U (w.heap.size + 1) 0 0 0 ⟨#[]⟩ false false false none 0 0) := by rw [← hU]; exact Lib.hid (HN3.out.farset (by omega))
    have HUZ : Hid (Bz U (w.heap.size + 1)) := by rw [← hU]; exact Lib.hid ((Below.heap_setCell _ _ _ _ (by show w.heap.size + 1 ≠ w.heap.size; omega)).trans HZ3.out)
    rw [hU]
    clear hU p1 p2 p3 HA3 HQ3 HN3 HZ3 HI HB3
    clear b0 b1 b2 b3 b4 b5 b6 b7 a1 a2 a3 z1 z3 HV HOF HZ
    obtain ⟨hl3, -, hel3⟩ := HUI.out
    obtain rfl : tl3 = 1 := by simpa using hl3.symm
    obtain ⟨b2, off2, rfl, i2⟩ := hel3 0 (by simp)
    rw [Nat.zero_mul, Nat.add_zero] at i2
    obtain ⟨lt2, f3, fl3, fc3, d0, d1, d2, d3, d4, d5, d6, d7, hF3⟩ := i2.cells
    simp only [List.getElem_cons_zero] at *
    have HF3 := Lib.hid hF3
    obtain ⟨p1, p2, p3⟩ := HUA.out
    obtain ⟨hz, ⟨c0, c1, c2, c3, c4, c5, c6, c7⟩, fz⟩ := HUN.out
    clear hel3 hl3 i2 hF3
    go_wp2_with fail
    obtain ⟨k0, k1, k2, k3, k4, k5, k6, k7⟩ := set8 HUN.out (.int .i64 x.k) (.int .i64 x.lo) (.int .i64 x.hi) (.string x.s) (.bool x.y) (.bool x.m) (.bool x.o) (.slice f3 fl3 fc3)
    refine bodyPost_ret (v := .tuple #[.agg #[.int .i64 x.k, .int .i64 x.lo, .int .i64 x.hi, .string x.s, .bool x.y, .bool x.m, .bool x.o, .slice f3 fl3 fc3], .int .i64 0]) (by simp [results, Tryz.results8, go_sem, k0, k1, k2, k3, k4, k5, k6, k7]) rfl ?_
    refine ⟨x.k, x.lo, x.hi, x.s, x.y, x.m, x.o, f3, fl3, fc3, rfl, bl_set8 HUB.out (by omega), .inr ⟨rfl, x, rfl, rfl, rfl, rfl, rfl, rfl, rfl, rfl, ?_⟩⟩
    have hs : U.heap.size ≤ ((((((((U.setCell ⟨w.heap.size + 1, 0, none⟩ (.int .i64 x.k)).setCell ⟨w.heap.size + 1, 1, none⟩ (.int .i64 x.lo)).setCell ⟨w.heap.size + 1, 2, none⟩ (.int .i64 x.hi)).setCell ⟨w.heap.size + 1, 3, none⟩ (.string x.s)).setCell ⟨w.heap.size + 1, 4, none⟩ (.bool x.y)).setCell ⟨w.heap.size + 1, 5, none⟩ (.bool x.m)).setCell ⟨w.heap.size + 1, 6, none⟩ (.bool x.o)).setCell ⟨w.heap.size + 1, 7, none⟩ (.slice f3 fl3 fc3)).heap.size := by rw [size_set8]; exact Nat.le_refl _
    have hh : ∀ b, b ≠ w.heap.size + 1 → ((((((((U.setCell ⟨w.heap.size + 1, 0, none⟩ (.int .i64 x.k)).setCell ⟨w.heap.size + 1, 1, none⟩ (.int .i64 x.lo)).setCell ⟨w.heap.size + 1, 2, none⟩ (.int .i64 x.hi)).setCell ⟨w.heap.size + 1, 3, none⟩ (.string x.s)).setCell ⟨w.heap.size + 1, 4, none⟩ (.bool x.y)).setCell ⟨w.heap.size + 1, 5, none⟩ (.bool x.m)).setCell ⟨w.heap.size + 1, 6, none⟩ (.bool x.o)).setCell ⟨w.heap.size + 1, 7, none⟩ (.slice f3 fl3 fc3)).heap[b]? = U.heap[b]? := fun b hb => heap_set8 hb _ _ _ _ _ _ _ _
    exact InF.butz hs hh HUZ.out (fun hr h => InV.butz hs hh HUZ.out hr h) (fun f hf => (gt_f (rg_gt HRG.out x (by simp)) hf).2.1) HF3.out
end Go.Proofs.YtfhknnldkfngdaaGreatDoor
/- WALK of FactTells. -/
namespace Go.Proofs.YtfhknnldkfngdaaGreatDoor
open Go.RowKit
theorem inF_nil {I : Option Addr → Nat → Nat → List Tm → Prop} {w : World} : InF I w none 0 [] := ⟨rfl, by decide, fun i hi => absurd hi (Nat.not_lt_zero _)⟩
theorem terms_same (E : Int) (n : Nat) (A : List Tm) (w1 X W : World) (k lo hi : Int) (s : ByteArray) (y m o : Bool) (f : Option Addr) (fl fc : Nat) (k2 lo2 hi2 : Int) (s2 : ByteArray) (y2 m2 o2 : Bool) (f2 : Option Addr) (fl2 fc2 : Nat)
    (h1 : (E ≠ 0 ∧ k = 0 ∧ lo = 0 ∧ hi = 0 ∧ s = ⟨#[]⟩ ∧ y = false ∧ m = false ∧ o = false ∧ f = none ∧ fl = 0 ∧ fc = 0) ∨ (E = 0 ∧ ∃ x, A = [x] ∧ k = x.k ∧ lo = x.lo ∧ hi = x.hi ∧ s = x.s ∧ y = x.y ∧ m = x.m ∧ o = x.o ∧ InF (fun t tl tc V => InV w1 n t tl tc V) w1 f fl x.fs))
    (h2 : (E ≠ 0 ∧ k2 = 0 ∧ lo2 = 0 ∧ hi2 = 0 ∧ s2 = ⟨#[]⟩ ∧ y2 = false ∧ m2 = false ∧ o2 = false ∧ f2 = none ∧ fl2 = 0 ∧ fc2 = 0) ∨ (E = 0 ∧ ∃ x, A = [x] ∧ k2 = x.k ∧ lo2 = x.lo ∧ hi2 = x.hi ∧ s2 = x.s ∧ y2 = x.y ∧ m2 = x.m ∧ o2 = x.o ∧ InF (fun t tl tc V => InV X n t tl tc V) X f2 fl2 x.fs))
    (b1 : Below w1.heap.size w1 W) (b2 : Below X.heap.size X W) : Calls Tryz.prog 10 #[tv k lo hi s y m o f fl fc, tv k2 lo2 hi2 s2 y2 m2 o2 f2 fl2 fc2] W (CmpPost 0 W) := by
  rcases h1 with ⟨hE, rfl, rfl, rfl, rfl, rfl, rfl, rfl, rfl, rfl, rfl⟩ | ⟨hE, x, rfl, rfl, rfl, rfl, rfl, rfl, rfl, rfl, hF⟩
  · rcases h2 with ⟨-, rfl, rfl, rfl, rfl, rfl, rfl, rfl, rfl, rfl, rfl⟩ | ⟨h0, -⟩
    · have h := rterms_in n (rcompare_in n) W 0 0 0 ⟨#[]⟩ false false false none 0 0 [] 0 0 0 ⟨#[]⟩ false false false none 0 0 [] inF_nil inF_nil
      rw [(cmpT_cmp n).refl] at h
      exact h
    · exact absurd h0 hE
  · rcases h2 with ⟨h0, -⟩ | ⟨-, x', e, rfl, rfl, rfl, rfl, rfl, rfl, rfl, hF2⟩
    · exact absurd hE h0
    · obtain rfl : x = x' := by simpa using e
      have h := rterms_in n (rcompare_in n) W x.k x.lo x.hi x.s x.y x.m x.o f fl fc x.fs x.k x.lo x.hi x.s x.y x.m x.o f2 fl2 fc2 x.fs (hF.below (fun _ _ _ _ h => InV.below b1 h) b1) (hF2.below (fun _ _ _ _ h => InV.below b2 h) b2)
      rw [(cmpT_cmp n).refl] at h
      exact h
set_option maxRecDepth 100000 in
set_option maxHeartbeats 8000000 in
theorem ftells_walk (n : Nat) (w : World) (ta : Option Addr) (la ca : Nat) (A : List Tm) (hA : InV w (n + 1) ta la ca A) (nA : NmV (n + 1) A) (eA : LnV (n + 1) A) (hE : Nm.Env w) :
    Calls Tryz.prog 3 #[.agg #[.slice ta la ca]] w (LackP true w) := by
  have HXE : ∃ X, w.alloc (.cells #[.slice ta la ca] 24) = X := ⟨_, rfl⟩
  obtain ⟨X, hX⟩ := HXE
  have HXB : Hid (Below w.heap.size w X ∧ Bx X w.heap.size ta la ca) := by
    rw [← hX]; exact ⟨bl_alloc (Below.refl _ _), ⟨by simp, by simp [go_sem]⟩⟩
  have HXW := Lib.hid HXB.out.1
  have V : Hid (∀ W, Below X.heap.size X W → W.cell? ⟨w.heap.size, 0, none⟩ = some (.slice ta la ca)) := fun W hW => (HXB.out.2.later hW).2
  have iA := Lib.hid (fun (W : World) (hW : Below X.heap.size X W) => (show Vif W (n + 1) ta la ca A from ⟨⟨InV.below (bl_step HXW.out hW) hA, nA, hE.below (bl_step HXW.out hW)⟩, eA⟩))
  have FA := Lib.hid (fun (W : World) (hW : Below X.heap.size X W) => few9_any (n + 1) W ta la ca A (iA.out W hW).v.v)
  have AW := Lib.hid (fun (W : World) (hW : Below X.heap.size X W) => awake11_in W (iA.out W hW).v.env)
  have AWC : Hid (∀ W, Below X.heap.size X W → Calls Tryz.prog 7 #[] W fun e w' => e = .returned (.bool true) ∧ Below W.heap.size W w') := fun W hW => AW.out W hW
  have ON := Lib.hid (fun (W : World) (hW : Below X.heap.size X W) => onew_in n W ta la ca A (iA.out W hW).v)
  have RON := Lib.hid (fun (W : World) (hW : Below X.heap.size X W) => rone_in n X W ta la ca A (iA.out X (Below.refl _ _)) hW)
  have TS := Lib.hid (terms_same (oneE (n + 1) A) n A)
  obtain ⟨E, hEE⟩ : ∃ E, oneE (n + 1) A = E := ⟨_, rfl⟩
  rw [hEE] at ON RON TS
  obtain ⟨x, hx⟩ : ∃ q, setV false (n + 1) A = q := ⟨_, rfl⟩
  obtain ⟨y, hy⟩ : ∃ q, setV true (n + 1) A = q := ⟨_, rfl⟩
  obtain ⟨z, hz⟩ : ∃ q, latV (n + 1) A = q := ⟨_, rfl⟩
  have S1 : Hid (∀ W, Below X.heap.size X W → Calls Tryz.prog 11 #[.agg #[.slice ta la ca]] W fun e w' => e = .returned (.bool x) ∧ Below W.heap.size W w') := fun W hW => by rw [← hx]; exact settled_in (n + 1) W ta la ca A (iA.out W hW).v
  have S2 : Hid (∀ W, Below X.heap.size X W → Calls Tryz.prog 12 #[.agg #[.slice ta la ca]] W fun e w' => e = .returned (.bool x) ∧ Below W.heap.size W w') := fun W hW => by rw [← hx]; exact rsettled_in (n + 1) W ta la ca A (iA.out W hW)
  have R1 : Hid (∀ W, Below X.heap.size X W → Calls Tryz.prog 13 #[.agg #[.slice ta la ca]] W fun e w' => e = .returned (.bool y) ∧ Below W.heap.size W w') := fun W hW => by rw [← hy]; exact ready_in (n + 1) W ta la ca A (iA.out W hW).v
  have R2 : Hid (∀ W, Below X.heap.size X W → Calls Tryz.prog 14 #[.agg #[.slice ta la ca]] W fun e w' => e = .returned (.bool y) ∧ Below W.heap.size W w') := fun W hW => by rw [← hy]; exact rready_in (n + 1) W ta la ca A (iA.out W hW)
  have L1 : Hid (∀ W, Below X.heap.size X W → Calls Tryz.prog 15 #[.agg #[.slice ta la ca]] W fun e w' => e = .returned (.bool z) ∧ Below W.heap.size W w') := fun W hW => by rw [← hz]; exact waits_in (n + 1) W ta la ca A (iA.out W hW).v
  have L2 : Hid (∀ W, Below X.heap.size X W → Calls Tryz.prog 16 #[.agg #[.slice ta la ca]] W fun e w' => e = .returned (.bool z) ∧ Below W.heap.size W w') := fun W hW => by rw [← hz]; exact rwaits_in (n + 1) W ta la ca A (iA.out W hW)
  clear hx hy hz hEE hA nA eA hE iA HXB
  go_enter Tryz.func3, Tryz.ntmps3
  go_upto_region 1 with fail
  clear hX
  have KW : Hid (Below X.heap.size X X) := Below.refl _ _
  have x2 := V.out _ KW.out
  go_wp2_with (first
    | (go_at_call 6; (with_reducible refine (FA.out _ KW.out).mono ?_); rintro e w1 ⟨b, rfl, hB, -⟩; replace KW := Lib.hid (bl_step KW.out hB); clear hB; have x2 := V.out _ KW.out; cases b)
    | (go_at_call 7; (with_reducible refine (AW.out _ KW.out).mono ?_); rintro e w1 ⟨rfl, hB⟩; replace KW := Lib.hid (bl_step KW.out hB); clear hB; have x2 := V.out _ KW.out))
  · go_ret
    exact ⟨rfl, bl_step HXW.out KW.out⟩
  go_upto_region 5 with (first
    | (go_at_call 8; refine (ON.out _ KW.out).mono ?_; rintro e w2 ⟨k, lo, hi, s, y', m, o, f, fl, fc, rfl, hB, hr⟩; have HR1 := Lib.hid hr; replace KW := Lib.hid (bl_step KW.out (bl_alloc (o := .cells #[.int .i64 k, .int .i64 lo, .int .i64 hi, .string s, .bool y', .bool m, .bool o, .slice f fl fc] 29) hB)); have HB1 := Lib.hid (Bo.new w2 k lo hi s y' m o f fl fc); clear hB hr; have x2 := V.out _ KW.out)
    | (go_at_call 9; refine (RON.out _ KW.out).mono ?_; rintro e w3 ⟨k2, lo2, hi2, s2, y2, m2, o2, f2, fl2, fc2, rfl, hB, hr⟩; have HR2 := Lib.hid hr; have HBB := Lib.hid hB; clear hB hr))
  obtain ⟨Z, hZ⟩ : ∃ Z, w3.alloc (.cells #[.int .i64 k2, .int .i64 lo2, .int .i64 hi2, .string s2, .bool y2, .bool m2, .bool o2, .slice f2 fl2 fc2] 29) = Z := ⟨_, rfl⟩
  have hbZ : Below w3.heap.size w3 Z := by rw [← hZ]; exact bl_alloc (Below.refl _ _)
  have hw23 : Below w2.heap.size w2 Z := bl_step (bl_step (bl_alloc (Below.refl _ _)) HBB.out) hbZ
  have BO1 := Lib.hid ((HB1.out.later HBB.out).later hbZ)
  have BO2 : Hid (Bo Z w3.heap.size k2 lo2 hi2 s2 y2 m2 o2 f2 fl2 fc2) := by rw [← hZ]; exact Lib.hid (Bo.new w3 k2 lo2 hi2 s2 y2 m2 o2 f2 fl2 fc2)
  replace KW := Lib.hid (bl_step (bl_step KW.out HBB.out) hbZ)
  have HTS := Lib.hid (fun (W : World) (hW : Below Z.heap.size Z W) => TS.out w2 X W k lo hi s y' m o f fl fc k2 lo2 hi2 s2 y2 m2 o2 f2 fl2 fc2 HR1.out HR2.out (bl_step hw23 hW) (bl_step KW.out hW))
  rw [hZ]
  clear hZ hbZ hw23 HB1 HBB HR1 HR2 TS ON RON FA x2
  generalize w2.heap.size = g2 at *
  generalize w3.heap.size = g3 at *
  have x2 := V.out _ KW.out
  obtain ⟨-, ⟨c0, c1, c2, c3, c4, c5, c6, c7⟩, -⟩ := BO1.out
  obtain ⟨-, ⟨d0, d1, d2, d3, d4, d5, d6, d7⟩, -⟩ := BO2.out
  go_upto_region 7 with (go_at_call 10; refine (HTS.out _ (Below.refl _ _)).mono ?_; rintro e w5 ⟨rfl, hB⟩; replace KW := Lib.hid (bl_step KW.out hB); clear hB)
  clear x2 c0 c1 c2 c3 c4 c5 c6 c7 d0 d1 d2 d3 d4 d5 d6 d7
  refine region_class (C := fun W => Below X.heap.size X W) (by kernel_rfl) (by kernel_rfl) (KW.out.drew) ?_
  repeat (first | go_big_quiet_skip | (go_big_quiet_want; go_big_quiet_op; first | go_big_quiet_on | (apply Exists.intro; refine ⟨fun W hW => ?_, ?_⟩; (first | rfl | with_reducible exact ((AWC.out W hW).mono fun _ _ h => ⟨h.1, bl_step hW h.2⟩) | with_reducible exact ((S1.out W hW).mono fun _ _ h => ⟨h.1, bl_step hW h.2⟩) | with_reducible exact ((S2.out W hW).mono fun _ _ h => ⟨h.1, bl_step hW h.2⟩) | with_reducible exact ((R1.out W hW).mono fun _ _ h => ⟨h.1, bl_step hW h.2⟩) | with_reducible exact ((R2.out W hW).mono fun _ _ h => ⟨h.1, bl_step hW h.2⟩) | with_reducible exact ((L1.out W hW).mono fun _ _ h => ⟨h.1, bl_step hW h.2⟩) | with_reducible exact ((L2.out W hW).mono fun _ _ h => ⟨h.1, bl_step hW h.2⟩) | (have q2 := V.out W hW; go_simp; first | done | rfl | exact ⟨rfl, rfl⟩)); go_big_quiet_on)))
  refine wpQuiet_nil ?_
  intro w9 hW9
  replace KW := Lib.hid hW9
  clear hW9
  go_wp2_with fail
  go_ret
  exact ⟨rfl, bl_step HXW.out KW.out⟩
end Go.Proofs.YtfhknnldkfngdaaGreatDoor
