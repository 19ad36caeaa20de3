/- THE FRAME: a value that came in lies in memory. -/
import Derived.Test.YtkmbhjcedkojjaaY
import Derived.Test.YtkmbhjcedkojjaaPh
namespace Go.Proofs.Ytkmbhjcedkojjaa
open Go.Joins Go.ChangeShapes Go.WideShapes Go.ChangeAt Go.RowKit Go.Deep
theorem cells59 : Try.prog.cellsOf 59 = 2 := by kernel_rfl
theorem cells41 : Try.prog.cellsOf 41 = 1 := by kernel_rfl
theorem cells39 : Try.prog.cellsOf 39 = 1 := by kernel_rfl
theorem cells9 : Try.prog.cellsOf 9 = 1 := by kernel_rfl
theorem spot_of {w : World} {a : Addr} {v : Value} (h : w.cell? a = some v) : a = ⟨a.block, a.off, none⟩ := by
  obtain ⟨b, o, s⟩ := a
  cases s with
  | none => rfl
  | some x => simp [World.cell?] at h; split at h <;> simp_all
theorem add_at (b o i : Nat) : (⟨b, o, none⟩ : Addr).add i = ⟨b, o + i, none⟩ := by
  unfold Addr.add
  split
  · simp_all
  · rfl
section
variable {H : Type} {enc : TypeId × Value → H} {w : World} {base : Nat} {spare : Nat → Bool} {held : Bool}
/-- A slice's elements, each with its cells. -/
theorem slice_cells {t e : TypeId} {c fuel : Nat} {cs : List Value} {x : DataW H × List MemPlace} (ht : Try.prog.underlying t = some (.slice e)) (hc : Try.prog.cellsOf e = c) (hpos : 0 < c) (h : DataW.trod enc Try.prog w base spare held fuel t cs = some x) :
    ∃ (o : Option Addr) (len cap : Nat), cs = [.slice o len cap] ∧ len ≤ maxLen ∧ ∀ i, i < len → ∃ (b off n : Nat) (cs' : List Value) (y : DataW H × List MemPlace), fuel = n + 1 ∧ o = some ⟨b, off, none⟩ ∧ b < w.heap.size ∧ cs'.length = c ∧
      (∀ j, j < c → w.cell? ⟨b, off + i * c + j, none⟩ = cs'[j]?) ∧ DataW.trod enc Try.prog w base spare held n e cs' = some y := by
  rcases DataW.trod_slice ht h with ⟨h0, _⟩ | ⟨a, len, cap, elems, rest, n, hfu, rfl, _, hb, hl, hm, hlen, hel, _, _⟩
  · exact ⟨none, 0, 0, h0, by decide, fun i hi => absurd hi (Nat.not_lt_zero _)⟩
  · refine ⟨some a, len, cap, rfl, by omega, fun i hi => ?_⟩
    have get : ∀ i, i < len → ∃ cs' y, w.cells? base (a.add (i * c)) c = some cs' ∧ DataW.trod enc Try.prog w base spare held n e cs' = some y := fun i hi => by
      have h1 := hel i hi
      rw [hc, List.getElem?_eq_getElem (by omega)] at h1
      obtain ⟨cs', h2, h3⟩ := Option.bind_eq_some_iff.1 h1
      exact ⟨cs', _, h2, h3⟩
    obtain ⟨cs0, _, h0, _⟩ := get 0 (by omega)
    obtain ⟨_, l0, e0⟩ := World.cells?_some h0
    have z0 := e0 0 hpos
    have p0 : 0 < cs0.length := by omega
    rw [List.getElem?_eq_getElem p0, Nat.zero_mul] at z0
    have hz : w.cell? a = some (cs0[0]'p0) := by simpa [Addr.add] using z0
    have ha := spot_of hz
    have hbl := World.block_lt_of_cell? _ _ hz
    obtain ⟨cs', y, h1, h2⟩ := get i hi
    obtain ⟨_, l1, e1⟩ := World.cells?_some h1
    refine ⟨a.block, a.off, n, cs', y, hfu, by rw [← ha], hbl, l1, fun j hj => ?_, h2⟩
    have := e1 j hj
    rw [ha, add_at, add_at] at this
    exact this
theorem open_terms : ∀ (fuel : Nat) (cs : List Value) (x : DataW H × List MemPlace), DataW.trod enc Try.prog w base spare held fuel 39 cs = some x →
    ∃ (t : Option Addr) (tl tc : Nat) (A : List Tm), cs = [.slice t tl tc] ∧ InV w (fuel + 1) t tl tc A := by
  intro fuel
  induction fuel using Nat.strongRecOn with
  | _ fuel ih =>
    intro cs x h
    obtain ⟨t, tl, tc, hcs, hm, hel⟩ := slice_cells Try.underlying39 cells24 (by decide) h
    have one : ∀ i, i < tl → ∃ (T : Tm) (b off : Nat), t = some ⟨b, off, none⟩ ∧ InT (fun t tl tc V => InV w fuel t tl tc V) w b (off + i * 8) T := fun i hi => by
      obtain ⟨b, off, n, cs', y, hfu, e, hb, hl, hc, ht⟩ := hel i hi
      obtain ⟨k, lo, hi', s, y0, m, o, f, fl, fc, n2, z, hn2, rfl, _, _, _, _, _, hf⟩ := open_term ht
      obtain ⟨f', fl', fc', hf', hfm, hfe⟩ := slice_cells Try.underlying22 cells59 (by decide) hf
      simp only [List.cons.injEq, and_true, Value.slice.injEq] at hf'
      obtain ⟨rfl, rfl, rfl⟩ := hf'
      have fld : ∀ q, q < fl → ∃ (F : ByteArray × List Tm) (b2 off2 tl2 tc2 : Nat) (t2 : Option Addr), f = some ⟨b2, off2, none⟩ ∧ b2 < w.heap.size ∧ w.cell? ⟨b2, off2 + q * 2, none⟩ = some (.string F.1) ∧ w.cell? ⟨b2, off2 + q * 2 + 1, none⟩ = some (.slice t2 tl2 tc2) ∧ InV w fuel t2 tl2 tc2 F.2 := fun q hq => by
        obtain ⟨b2, off2, n3, cs2, y2, hn3, e2, hb2, hl2, hc2, ht2⟩ := hfe q hq
        obtain ⟨ys, n4, hn4, _, _, hyl, hg⟩ := DataW.trod_struct Try.underlying59 ht2
        match cs2, hl2 with
        | [v0, v1], _ =>
          match ys, hyl with
          | [u0, u1], _ =>
            have g0 := hg 0 _ rfl
            have g1 := hg 1 _ rfl
            obtain ⟨nm, en, _, _⟩ := DataW.trod_string Try.underlying9 (show DataW.trod enc Try.prog w base spare held n4 9 [v0] = some u0 by simpa [cells9] using g0)
            have g1' : DataW.trod enc Try.prog w base spare held n4 41 [v1] = some u1 := by simpa [cells41] using g1
            obtain ⟨zs, n5, hn5, _, _, hzl, hg5⟩ := DataW.trod_struct Try.underlying41 g1'
            match zs, hzl with
            | [z0], _ =>
              have g2 : DataW.trod enc Try.prog w base spare held n5 39 [v1] = some z0 := by simpa [cells39] using hg5 0 _ rfl
              obtain ⟨t3, tl3, tc3, A3, e3, i3⟩ := ih n5 (by omega) _ _ g2
              simp only [List.cons.injEq, and_true] at en e3
              subst en e3
              exact ⟨(nm, A3), b2, off2, tl3, tc3, t3, e2, hb2, by simpa using hc2 0 (by decide), by simpa using hc2 1 (by decide), i3.le (by omega)⟩
      obtain ⟨F, hF⟩ := choose_lt (α := ByteArray × List Tm) fld
      refine ⟨.mk k lo hi' s y0 m o ((List.range fl).map F), b, off, e, hb, f, fl, fc, by simpa using hc 0 (by decide), by simpa using hc 1 (by decide), by simpa using hc 2 (by decide), by simpa using hc 3 (by decide), by simpa using hc 4 (by decide), by simpa using hc 5 (by decide), by simpa using hc 6 (by decide), by simpa using hc 7 (by decide), by simp, by unfold maxLen at hfm; omega, fun q hq => ?_⟩
      have hq' : q < fl := by simpa using hq
      obtain ⟨b2, off2, tl2, tc2, t2, h1, h2, h3, h4, h5⟩ := hF q hq'
      exact ⟨b2, off2, tl2, tc2, t2, h1, h2, by simpa using h3, h4, by simpa using h5⟩
    have : Inhabited Tm := ⟨.mk 0 0 0 ⟨#[]⟩ false false false []⟩
    obtain ⟨T, hT⟩ := choose_lt (α := Tm) one
    refine ⟨t, tl, tc, (List.range tl).map T, hcs, by simp, by unfold maxLen at hm; omega, fun i hi => ?_⟩
    have hi' : i < tl := by simpa using hi
    obtain ⟨b, off, h1, h2⟩ := hT i hi'
    exact ⟨b, off, h1, by simpa using h2⟩
theorem open_value {r : Reach} {b0 : Nat} {v : Value} {d : DataW H} {p : List MemPlace} (hv : Value.okWide Try.prog w r b0 41 v) (h : DataW.Trod enc Try.prog w base spare held 41 v d p) :
    ∃ (t : Option Addr) (tl tc n : Nat) (A : List Tm), v = .agg #[.slice t tl tc] ∧ InV w n t tl tc A := by
  obtain ⟨cs, rfl, hsz⟩ := okWide_struct Try.underlying41 hv
  obtain ⟨fuel, hf⟩ := h
  obtain ⟨l⟩ := cs
  obtain ⟨zs, n5, hn5, _, hl, hzl, hg5⟩ := DataW.trod_struct Try.underlying41 hf
  simp only [Value.cells, cells41] at hl
  match l, hl with
  | [v1], _ =>
    match zs, hzl with
    | [z0], _ =>
      have g2 : DataW.trod enc Try.prog w base spare held n5 39 [v1] = some z0 := by simpa [Value.cells, cells39] using hg5 0 _ rfl
      obtain ⟨t3, tl3, tc3, A3, e3, i3⟩ := open_terms n5 _ _ g2
      simp only [List.cons.injEq, and_true] at e3
      subst e3
      exact ⟨t3, tl3, tc3, _, A3, rfl, i3⟩
end
end Go.Proofs.Ytkmbhjcedkojjaa
