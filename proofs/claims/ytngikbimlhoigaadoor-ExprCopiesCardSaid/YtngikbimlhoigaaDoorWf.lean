/- THE FRAME: an expression that came in, with its lists' lengths. -/
import Derived.Test.YtngikbimlhoigaaDoorVb
import Derived.Test.YtngikbimlhoigaaDoorWc
namespace Go.Proofs.YtngikbimlhoigaaDoor
open Go.Joins Go.ChangeShapes Go.WideShapes Go.ChangeAt Go.RowKit Go.Deep
theorem Slim.le : ∀ {n m : Nat} {x : Ex}, Slim n x → n ≤ m → Slim m x
  | 0, _, _, h, _ => h.elim
  | n + 1, 0, _, _, h => absurd h (by omega)
  | n + 1, m + 1, _, ⟨h1, h2, h3, h4, h5⟩, hle => ⟨h1, h2, h3, fun i hi => (h4 i hi).le (by omega), fun i hi => (h5 i hi).le (by omega)⟩
section
variable {H : Type} {enc : TypeId × Value → H} {w : World} {base : Nat} {spare : Nat → Bool} {held : Bool}
set_option maxRecDepth 100000 in
theorem open_expr_s : ∀ (fuel : Nat) (cs : List Value) (x : DataW H × List MemPlace), DataW.trod enc Tryd.prog w base spare held fuel 26 cs = some x → Wt 26 x.1 →
    ∃ (h : Hd) (e : Ex), cs = h.vals.toList ∧ InX w (fuel + 1) h e ∧ Slim (fuel + 1) e := by
  intro fuel
  induction fuel using Nat.strongRecOn with
  | _ fuel ih =>
    intro cs x h hwx
    obtain ⟨v0, v1, v2, v3, v4, v5, v6, y0, y1, y2, y3, y4, y5, y6, n, hfu, rfl, hx, h0, h1, h2, h3, h4, h5, h6⟩ := open_agg7 Tryd.underlying26 (by kernel_rfl) cells26 h
    rw [hx] at hwx
    obtain ⟨op, e0, _, _⟩ := DataW.trod_int Tryd.underlying3 h0
    obtain ⟨nn, e1, _, _⟩ := DataW.trod_int Tryd.underlying3 h1
    obtain ⟨s, rfl, hs⟩ := text_w h2 (wt_part Tryd.underlying26 hwx (i := 2) rfl rfl)
    obtain ⟨p, pl, pc, pa, hpe, hpa⟩ := open_paths_w h3 (wt_part Tryd.underlying26 hwx (i := 3) rfl rfl)
    obtain ⟨p', pl', pc', hpe', _, hpb, _⟩ := slice_cells_w Tryd.underlying22 cells9 (by decide) h3 (wt_part Tryd.underlying26 hwx (i := 3) rfl rfl)
    simp only [List.cons.injEq, and_true] at hpe'
    rw [hpe] at hpe'
    injection hpe' with _ hpl _
    rw [bytes9, ← hpl, ← hpa.count] at hpb
    subst hpe
    obtain ⟨o, e5, _⟩ := DataW.trod_bool Tryd.underlying4 h5
    simp only [List.cons.injEq, and_true] at e0 e1 e5
    subst e0 e1 e5
    obtain ⟨q, ql, qc, hq, hqm, hqb, hqe⟩ := slice_cells_w Tryd.underlying23 cells51 (by decide) h4 (wt_part Tryd.underlying26 hwx (i := 4) rfl rfl)
    obtain ⟨k, kl, kc, hk, hkm, hkb, hke⟩ := slice_cells_w Tryd.underlying24 cells26 (by decide) h6 (wt_part Tryd.underlying26 hwx (i := 6) rfl rfl)
    simp only [List.cons.injEq, and_true] at hq hk
    subst hq hk
    rw [bytes51] at hqb
    rw [bytes26] at hkb
    have kid : ∀ i, i < kl → ∃ z : HX, ∃ b off, k = some ⟨b, off, none⟩ ∧ b < w.heap.size ∧ HdAt w b (off + i * 7) z.1 ∧ InX w fuel z.1 z.2 ∧ Slim fuel z.2 := fun i hi => by
      obtain ⟨b, off, n2, cs', y, hn, e, hb, hl, hc, ht, hwy⟩ := hke i hi
      obtain ⟨h', e', rfl, hI, hSl⟩ := ih n2 (by omega) cs' y ht hwy
      exact ⟨(h', e'), b, off, e, hb, hd_at hc, hI.le (by omega), hSl.le (by omega)⟩
    have pair : ∀ i, i < ql → ∃ z : ByteArray × HX, ∃ b off, q = some ⟨b, off, none⟩ ∧ b < w.heap.size ∧ z.1.size ≤ 140737488355328 ∧ w.cell? ⟨b, off + i * 8, none⟩ = some (.string z.1) ∧ HdAt w b (off + i * 8 + 1) z.2.1 ∧ InX w fuel z.2.1 z.2.2 ∧ Slim fuel z.2.2 := fun i hi => by
      obtain ⟨b, off, n2, cs', y, hn, e, hb, hl, hc, ht, hwy⟩ := hqe i hi
      obtain ⟨ys, n4, hn4, hy2, _, hyl, hg⟩ := DataW.trod_struct Tryd.underlying51 ht
      match cs', hl with
      | u0 :: cs1, hl =>
        match ys, hyl with
        | [z0, z1], _ =>
          have g0 : DataW.trod enc Tryd.prog w base spare held n4 9 [u0] = some z0 := by have := hg 0 _ rfl; simpa [cells9] using this
          have hl1 : cs1.length = 7 := by simpa using hl
          have g1 : DataW.trod enc Tryd.prog w base spare held n4 26 cs1 = some z1 := by
            have h7 : DataW.trod enc Tryd.prog w base spare held n4 26 (((u0 :: cs1).drop 1).take (Tryd.prog.cellsOf 26)) = [z0, z1][1]? := hg 1 _ rfl
            have e7 : ((u0 :: cs1).drop 1).take (Tryd.prog.cellsOf 26) = cs1 := by rw [cells26, List.drop_succ_cons, List.drop_zero, ← hl1, List.take_length]
            rw [e7] at h7
            simpa using h7
          rw [hy2] at hwy
          obtain ⟨nm, rfl, hz⟩ := text_w g0 (wt_part Tryd.underlying51 hwy (i := 0) rfl rfl)
          obtain ⟨h', e', rfl, hI, hSl⟩ := ih n4 (by omega) cs1 z1 g1 (wt_part Tryd.underlying51 hwy (i := 1) rfl rfl)
          refine ⟨(nm, h', e'), b, off, e, hb, hz, by have := hc 0 (by omega); simpa using this, hd_at fun j hj => ?_, hI.le (by omega), hSl.le (by omega)⟩
          have := hc (j + 1) (by omega)
          rw [List.getElem?_cons_succ] at this
          rw [← this]
          congr 2
          omega
    obtain ⟨fk, hfk⟩ := pick_lt (α := HX) kid
    have : Inhabited ByteArray := ⟨⟨#[]⟩⟩
    obtain ⟨fp, hfp⟩ := pick_lt (α := ByteArray × HX) pair
    refine ⟨⟨op, nn, s, p, pl, pc, q, ql, qc, o, k, kl, kc⟩, .mk op nn s pa ((List.range ql).map fun i => ((fp i).1, (fp i).2.2)) o ((List.range kl).map fun i => (fk i).2), rfl, ⟨rfl, rfl, rfl, rfl, hs, hpa, ⟨by simp, by show ql ≤ _; unfold reachBytes at hqb; omega, fun i hi => ?_⟩, ⟨by simp, by show kl ≤ _; unfold reachBytes at hkb; omega, fun i hi => ?_⟩⟩, ?_⟩
    · have hi' : i < ql := by simpa using hi
      obtain ⟨b, off, e1, e2, e3, e4, e5, e6, _⟩ := hfp i hi'
      exact ⟨b, off, (fp i).2.1, e1, e2, by simpa using e3, by simpa using e4, e5, by simpa using e6⟩
    · have hi' : i < kl := by simpa using hi
      obtain ⟨b, off, e1, e2, e5, e6, _⟩ := hfk i hi'
      exact ⟨b, off, (fk i).1, e1, e2, e5, by simpa using e6⟩
    · unfold reachBytes at hpb hqb hkb
      refine ⟨by show pa.length * 16 ≤ _; omega, ?_, ?_, fun i hi => ?_, fun i hi => ?_⟩
      · have e : ((List.range ql).map fun i => ((fp i).1, (fp i).2.2)).length = ql := by simp
        show ((List.range ql).map fun i => ((fp i).1, (fp i).2.2)).length * 128 ≤ _
        rw [e]; omega
      · have e : ((List.range kl).map fun i => (fk i).2).length = kl := by simp
        show ((List.range kl).map fun i => (fk i).2).length * 112 ≤ _
        rw [e]; omega
      · have hi' : i < ql := by have h9 : i < ((List.range ql).map fun i => ((fp i).1, (fp i).2.2)).length := hi; rw [List.length_map, List.length_range] at h9; exact h9
        obtain ⟨_, _, _, _, _, _, _, _, e7⟩ := hfp i hi'
        have e : (((List.range ql).map fun i => ((fp i).1, (fp i).2.2))[i]'hi) = ((fp i).1, (fp i).2.2) := (List.getElem_map _).trans (by rw [List.getElem_range])
        show Slim fuel (((List.range ql).map fun i => ((fp i).1, (fp i).2.2))[i]'hi).2
        rw [e]; exact e7
      · have hi' : i < kl := by have h9 : i < ((List.range kl).map fun i => (fk i).2).length := hi; rw [List.length_map, List.length_range] at h9; exact h9
        obtain ⟨_, _, _, _, _, _, e7⟩ := hfk i hi'
        have e : (((List.range kl).map fun i => (fk i).2)[i]'hi) = (fk i).2 := (List.getElem_map _).trans (by rw [List.getElem_range])
        show Slim fuel (((List.range kl).map fun i => (fk i).2)[i]'hi)
        rw [e]; exact e7
set_option maxRecDepth 100000 in
theorem open_xs {r : Reach} {b0 : Nat} {v : Value} {d : DataW H} {p : List MemPlace} (hv : Value.okWide Tryd.prog w r b0 26 v) (h : DataW.Trod enc Tryd.prog w base spare held 26 v d p) (hw : Wt 26 d) :
    ∃ (h : Hd) (n : Nat) (e : Ex), v = h.agg ∧ InX w n h e ∧ Slim n e := by
  obtain ⟨cs, rfl, hsz⟩ := okWide_struct Tryd.underlying26 hv
  obtain ⟨fuel, hf⟩ := h
  obtain ⟨l⟩ := cs
  obtain ⟨h', e', hc, hI, hSl⟩ := open_expr_s fuel _ _ hf hw
  refine ⟨h', _, e', ?_, hI, hSl⟩
  simp only [Value.cells] at hc
  subst hc
  rfl
end
end Go.Proofs.YtngikbimlhoigaaDoor
