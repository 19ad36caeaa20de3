/- THE FRAME: a term that came in, its fields in memory; three numbers that came in. -/
import Derived.Test.YtkmbhjcedkojjaaSe
import Derived.Test.YtkmbhjcedkojjaaTa
import Derived.Laws.IdiomArrays
import Derived.OpenShut
namespace Go.Proofs.Ytkmbhjcedkojjaa
open Go.Joins Go.ChangeShapes Go.WideShapes Go.ChangeAt Go.RowKit Go.Deep
theorem cells28 : Try.prog.cellsOf 28 = 3 := by kernel_rfl
theorem cells3 : Try.prog.cellsOf 3 = 1 := by kernel_rfl
section
variable {H : Type} {enc : TypeId × Value → H} {w : World} {base : Nat} {spare : Nat → Bool} {held : Bool}
theorem open_fields_w {fuel : Nat} {f : Option Addr} {fl fc : Nat} {x : DataW H × List MemPlace} (h : DataW.trod enc Try.prog w base spare held fuel 22 [.slice f fl fc] = some x) (hw : Wt 22 x.1) :
    ∃ fs : List (ByteArray × List Tm), InF (fun t tl tc V => InV w fuel t tl tc V) w f fl fs ∧ ∀ m, SlimF m fs := by
  obtain ⟨f', fl', fc', hf', hfm, hfb, hfe⟩ := slice_cells_w Try.underlying22 cells59 (by decide) h hw
  rw [bytes59] at hfb
  simp only [List.cons.injEq, and_true, Value.slice.injEq] at hf'
  obtain ⟨rfl, rfl, rfl⟩ := hf'
  have fld : ∀ q, q < fl → ∃ (F : ByteArray × List Tm) (b2 off2 tl2 tc2 : Nat) (t2 : Option Addr), (f = some ⟨b2, off2, none⟩ ∧ b2 < w.heap.size ∧ w.cell? ⟨b2, off2 + q * 2, none⟩ = some (.string F.1) ∧ w.cell? ⟨b2, off2 + q * 2 + 1, none⟩ = some (.slice t2 tl2 tc2) ∧ InV w fuel t2 tl2 tc2 F.2) ∧ ∀ m, SlimV m F.2 := fun q hq => by
    obtain ⟨b2, off2, n3, cs2, y2, hn3, e2, hb2, hl2, hc2, ht2, hw2⟩ := hfe q hq
    obtain ⟨ys, n4, hn4, hy2, _, hyl, hg⟩ := DataW.trod_struct Try.underlying59 ht2
    match cs2, hl2 with
    | [v0, v1], _ =>
      match ys, hyl with
      | [u0, u1], _ =>
        have g0 := hg 0 _ rfl
        have g1 := hg 1 _ rfl
        obtain ⟨nm, en, _, _⟩ := DataW.trod_string Try.underlying9 (show DataW.trod enc Try.prog w base spare held n4 9 [v0] = some u0 by simpa [cells9] using g0)
        have g1' : DataW.trod enc Try.prog w base spare held n4 41 [v1] = some u1 := by simpa [cells41] using g1
        have hwu : Wt 41 u1.1 := by
          rw [hy2] at hw2
          exact wt_part Try.underlying59 hw2 (i := 1) rfl rfl
        obtain ⟨zs, n5, hn5, hz5, _, hzl, hg5⟩ := DataW.trod_struct Try.underlying41 g1'
        match zs, hzl with
        | [z0], _ =>
          have g2 : DataW.trod enc Try.prog w base spare held n5 39 [v1] = some z0 := by simpa [cells39] using hg5 0 _ rfl
          have hwz : Wt 39 z0.1 := by
            rw [hz5] at hwu
            exact wt_part Try.underlying41 hwu (i := 0) rfl rfl
          obtain ⟨t3, tl3, tc3, A3, e3, i3, s3⟩ := open_terms_w n5 _ _ g2 hwz
          simp only [List.cons.injEq, and_true] at en e3
          subst en e3
          exact ⟨(nm, A3), b2, off2, tl3, tc3, t3, ⟨e2, hb2, by simpa using hc2 0 (by decide), by simpa using hc2 1 (by decide), i3.le (by omega)⟩, s3⟩
  obtain ⟨F, hF⟩ := choose_lt (α := ByteArray × List Tm) fld
  refine ⟨(List.range fl).map F, ⟨by simp, by unfold maxLen at hfm; omega, fun q hq => ?_⟩, fun m => ⟨?_, fun q hq => ?_⟩⟩
  · have hq' : q < fl := by simpa using hq
    obtain ⟨b2, off2, tl2, tc2, t2, ⟨h1, h2, h3, h4, h5⟩, _⟩ := hF q hq'
    exact ⟨b2, off2, tl2, tc2, t2, h1, h2, by simpa using h3, h4, by simpa using h5⟩
  · simp only [List.length_map, List.length_range]
    unfold reachBytes at hfb
    omega
  · simp only [List.length_map, List.length_range] at hq
    obtain ⟨_, _, _, _, _, _, h6⟩ := hF q hq
    simpa using h6 m
theorem open_termV_w {r : Reach} {b0 : Nat} {v : Value} {d : DataW H} {p : List MemPlace} (hv : Value.okWide Try.prog w r b0 24 v) (h : DataW.Trod enc Try.prog w base spare held 24 v d p) (hw : Wt 24 d) :
    ∃ (k lo hi : Int) (s : ByteArray) (y m o : Bool) (f : Option Addr) (fl fc n : Nat) (fs : List (ByteArray × List Tm)), v = tv k lo hi s y m o f fl fc ∧ InF (fun t tl tc V => InV w n t tl tc V) w f fl fs ∧ ∀ m, SlimF m fs := by
  obtain ⟨cs, rfl, hsz⟩ := okWide_struct Try.underlying24 hv
  obtain ⟨fuel, hf⟩ := h
  obtain ⟨k, lo, hi, s, y, m, o, f, fl, fc, n, z, _, hcs, hz, hwz⟩ := open_term_w hf hw
  obtain ⟨fs, hF, hS⟩ := open_fields_w hz hwz
  refine ⟨k, lo, hi, s, y, m, o, f, fl, fc, n, fs, ?_, hF, hS⟩
  obtain ⟨l⟩ := cs
  simp only [Value.cells] at hcs
  rw [show l = _ from hcs]
theorem open_three {r : Reach} {b0 : Nat} {v : Value} {d : DataW H} {p : List MemPlace} (hv : Value.okWide Try.prog w r b0 28 v) (h : DataW.Trod enc Try.prog w base spare held 28 v d p) :
    ∃ a b c : Int, v = .agg #[.int .i64 a, .int .i64 b, .int .i64 c] := by
  have hv' : ∃ cs, v = .agg cs ∧ cs.size = Try.prog.cellsOf 28 := by
    simp only [Value.okWide, Try.underlying28] at hv
    obtain ⟨cs, h1, h2, _⟩ := hv
    exact ⟨cs, h1, h2⟩
  obtain ⟨cs, rfl, hsz⟩ := hv'
  rw [cells28] at hsz
  obtain ⟨fuel, hf⟩ := h
  obtain ⟨l⟩ := cs
  simp only [Value.cells] at hf
  match l, hsz with
  | [c0, c1, c2], _ =>
    obtain ⟨y0, y1, y2, n, _, h0, h1, h2⟩ := trod_array3 Try.underlying28 cells3 hf
    obtain ⟨a, e0, _, _⟩ := DataW.trod_int Try.underlying3 h0
    obtain ⟨b, e1, _, _⟩ := DataW.trod_int Try.underlying3 h1
    obtain ⟨c, e2, _, _⟩ := DataW.trod_int Try.underlying3 h2
    simp only [List.cons.injEq, and_true] at e0 e1 e2
    subst e0 e1 e2
    exact ⟨a, b, c, rfl⟩
end
end Go.Proofs.Ytkmbhjcedkojjaa
