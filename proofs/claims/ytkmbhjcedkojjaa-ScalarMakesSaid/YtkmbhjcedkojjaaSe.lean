/- THE FRAME: a value that came in lies in memory, and none of its lists takes more than the reach. -/
import Derived.Test.YtkmbhjcedkojjaaQb
import Derived.Test.YtkmbhjcedkojjaaSc
import Derived.SizedLaws
namespace Go.Proofs.Ytkmbhjcedkojjaa
open Go.Joins Go.ChangeShapes Go.WideShapes Go.ChangeAt Go.RowKit Go.Deep
theorem bytes24 : Try.prog.bytesOf 24 = 72 := by kernel_rfl
theorem bytes59 : Try.prog.bytesOf 59 = 40 := by kernel_rfl
section
variable {H : Type} {enc : TypeId × Value → H} {w : World} {base : Nat} {spare : Nat → Bool} {held : Bool}
/-- No part of a datum weighs more than the reach. -/
def Wt (t : TypeId) (d : DataW H) : Prop := ∀ n ∈ DataW.weights Try.prog t d, n ≤ reachBytes
theorem wt_all {e : TypeId} : ∀ {l : List (DataW H)} {n : Nat} {d : DataW H}, d ∈ l → n ∈ DataW.weights Try.prog e d → n ∈ DataW.weightsAll Try.prog e l
  | a :: l, n, d, h, hn => by
    simp only [DataW.weightsAll, List.mem_append]
    rcases List.mem_cons.1 h with rfl | h
    · exact .inl hn
    · exact .inr (wt_all h hn)
theorem wt_part {t : TypeId} {fs : Array Field} {parts : List (DataW H)} (ht : Try.prog.underlying t = some (.struct fs)) (h : Wt t (.agg parts)) {i : Nat} {f : Field} {d : DataW H} (hf : fs[i]? = some f) (hd : parts[i]? = some d) : Wt f.type d := by
  intro n hn
  refine h n ?_
  simp only [DataW.weights, ht]
  exact DataW.weights_mem_each (j := i) (by simp [hf]) hd n hn
theorem slice_cells_w {t e : TypeId} {c fuel : Nat} {cs : List Value} {x : DataW H × List MemPlace} (ht : Try.prog.underlying t = some (.slice e)) (hc : Try.prog.cellsOf e = c) (hpos : 0 < c) (h : DataW.trod enc Try.prog w base spare held fuel t cs = some x) (hw : Wt t x.1) :
    ∃ (o : Option Addr) (len cap : Nat), cs = [.slice o len cap] ∧ len ≤ maxLen ∧ len * Try.prog.bytesOf e ≤ reachBytes ∧ ∀ i, i < len → ∃ (b off n : Nat) (cs' : List Value) (y : DataW H × List MemPlace), fuel = n + 1 ∧ o = some ⟨b, off, none⟩ ∧ b < w.heap.size ∧ cs'.length = c ∧
      (∀ j, j < c → w.cell? ⟨b, off + i * c + j, none⟩ = cs'[j]?) ∧ DataW.trod enc Try.prog w base spare held n e cs' = some y ∧ Wt e y.1 := by
  rcases DataW.trod_slice ht h with ⟨h0, _⟩ | ⟨a, len, cap, elems, rest, n, hfu, rfl, hx, hb, hl, hm, hlen, hel, _, _⟩
  · exact ⟨none, 0, 0, h0, by decide, by simp, fun i hi => absurd hi (Nat.not_lt_zero _)⟩
  · subst hx
    simp only [Wt, DataW.weights, ht, List.mem_cons, List.mem_append, List.length_map] at hw
    refine ⟨some a, len, cap, rfl, by omega, ?_, fun i hi => ?_⟩
    · have := hw _ (.inl rfl)
      rw [hlen, Nat.add_mul] at this
      omega
    have get : ∀ i, i < len → ∃ cs' y, w.cells? base (a.add (i * c)) c = some cs' ∧ DataW.trod enc Try.prog w base spare held n e cs' = some y ∧ y ∈ elems := fun i hi => by
      have h1 := hel i hi
      rw [hc, List.getElem?_eq_getElem (by omega)] at h1
      obtain ⟨cs', h2, h3⟩ := Option.bind_eq_some_iff.1 h1
      exact ⟨cs', _, h2, h3, List.getElem_mem _⟩
    obtain ⟨cs0, _, h0, _, _⟩ := get 0 (by omega)
    obtain ⟨_, l0, e0⟩ := World.cells?_some h0
    have z0 := e0 0 hpos
    have p0 : 0 < cs0.length := by omega
    rw [List.getElem?_eq_getElem p0, Nat.zero_mul] at z0
    have hz : w.cell? a = some (cs0[0]'p0) := by simpa [Addr.add] using z0
    have ha := spot_of hz
    have hbl := World.block_lt_of_cell? _ _ hz
    obtain ⟨cs', y, h1, h2, hmem⟩ := get i hi
    obtain ⟨_, l1, e1⟩ := World.cells?_some h1
    refine ⟨a.block, a.off, n, cs', y, hfu, by rw [← ha], hbl, l1, fun j hj => ?_, h2, fun m hm' => hw m (.inr (.inl (wt_all (List.mem_map_of_mem hmem) hm')))⟩
    have := e1 j hj
    rw [ha, add_at, add_at] at this
    exact this
theorem open_term_w {fuel : Nat} {cs : List Value} {x : DataW H × List MemPlace} (h : DataW.trod enc Try.prog w base spare held fuel 24 cs = some x) (hw : Wt 24 x.1) :
    ∃ (k lo hi : Int) (s : ByteArray) (y m o : Bool) (f : Option Addr) (fl fc n : Nat) (z : DataW H × List MemPlace), fuel = n + 1 ∧ cs = [.int .i64 k, .int .i64 lo, .int .i64 hi, .string s, .bool y, .bool m, .bool o, .slice f fl fc] ∧
      DataW.trod enc Try.prog w base spare held n 22 [.slice f fl fc] = some z ∧ Wt 22 z.1 := by
  obtain ⟨v0, v1, v2, v3, v4, v5, v6, v7, y0, y1, y2, y3, y4, y5, y6, y7, n, hfu, rfl, rfl, h0, h1, h2, h3, h4, h5, h6, h7⟩ := open_agg8 Try.underlying24 (by kernel_rfl) cells24 h
  obtain ⟨k, e0, _, _⟩ := DataW.trod_int Try.underlying3 h0
  obtain ⟨lo, e1, _, _⟩ := DataW.trod_int Try.underlying3 h1
  obtain ⟨hi, e2, _, _⟩ := DataW.trod_int Try.underlying3 h2
  obtain ⟨s, e3, _, _⟩ := DataW.trod_string Try.underlying9 h3
  obtain ⟨y, e4, _⟩ := DataW.trod_bool Try.underlying4 h4
  obtain ⟨m, e5, _⟩ := DataW.trod_bool Try.underlying4 h5
  obtain ⟨o, e6, _⟩ := DataW.trod_bool Try.underlying4 h6
  obtain ⟨f, fl, fc, rfl⟩ := slice_any Try.underlying22 h7
  simp only [List.cons.injEq, and_true] at e0 e1 e2 e3 e4 e5 e6
  subst e0 e1 e2 e3 e4 e5 e6
  exact ⟨k, lo, hi, s, y, m, o, f, fl, fc, n, y7, hfu, rfl, h7, wt_part Try.underlying24 hw (i := 7) rfl rfl⟩
theorem open_terms_w : ∀ (fuel : Nat) (cs : List Value) (x : DataW H × List MemPlace), DataW.trod enc Try.prog w base spare held fuel 39 cs = some x → Wt 39 x.1 →
    ∃ (t : Option Addr) (tl tc : Nat) (A : List Tm), cs = [.slice t tl tc] ∧ InV w (fuel + 1) t tl tc A ∧ ∀ m, SlimV m A := by
  intro fuel
  induction fuel using Nat.strongRecOn with
  | _ fuel ih =>
    intro cs x h hwx
    obtain ⟨t, tl, tc, hcs, hm, hby, hel⟩ := slice_cells_w Try.underlying39 cells24 (by decide) h hwx
    rw [bytes24] at hby
    have one : ∀ i, i < tl → ∃ (T : Tm) (b off : Nat), (t = some ⟨b, off, none⟩ ∧ InT (fun t tl tc V => InV w fuel t tl tc V) w b (off + i * 8) T) ∧ T.fs.length * 40 ≤ 140737488355328 ∧ ∀ m j (h2 : j < T.fs.length), SlimV m (T.fs[j]).2 := fun i hi => by
      obtain ⟨b, off, n, cs', y, hfu, e, hb, hl, hc, ht, hwy⟩ := hel i hi
      obtain ⟨k, lo, hi', s, y0, m, o, f, fl, fc, n2, z, hn2, rfl, hf, hwf⟩ := open_term_w ht hwy
      obtain ⟨f', fl', fc', hf', hfm, hfb, hfe⟩ := slice_cells_w Try.underlying22 cells59 (by decide) hf hwf
      rw [bytes59] at hfb
      simp only [List.cons.injEq, and_true, Value.slice.injEq] at hf'
      obtain ⟨rfl, rfl, rfl⟩ := hf'
      have fld : ∀ q, q < fl → ∃ (F : ByteArray × List Tm) (b2 off2 tl2 tc2 : Nat) (t2 : Option Addr), (f = some ⟨b2, off2, none⟩ ∧ b2 < w.heap.size ∧ w.cell? ⟨b2, off2 + q * 2, none⟩ = some (.string F.1) ∧ w.cell? ⟨b2, off2 + q * 2 + 1, none⟩ = some (.slice t2 tl2 tc2) ∧ InV w fuel t2 tl2 tc2 F.2) ∧ ∀ m, SlimV m F.2 := fun q hq => by
        obtain ⟨b2, off2, n3, cs2, y2, hn3, e2, hb2, hl2, hc2, ht2, hw2⟩ := hfe q hq
        obtain ⟨ys, n4, hn4, hy2, _, hyl, hg⟩ := DataW.trod_struct Try.underlying59 ht2
        match cs2, hl2 with
        | [v0, v1], _ =>
          match ys, hyl with
          | [u0, u1], _ =>
            have g0 := hg 0 _ rfl
            have g1 := hg 1 _ rfl
            obtain ⟨nm, en, _, _⟩ := DataW.trod_string Try.underlying9 (show DataW.trod enc Try.prog w base spare held n4 9 [v0] = some u0 by simpa [cells9] using g0)
            have g1' : DataW.trod enc Try.prog w base spare held n4 41 [v1] = some u1 := by simpa [cells41] using g1
            have hwu : Wt 41 u1.1 := by
              rw [hy2] at hw2
              exact wt_part Try.underlying59 hw2 (i := 1) rfl rfl
            obtain ⟨zs, n5, hn5, hz5, _, hzl, hg5⟩ := DataW.trod_struct Try.underlying41 g1'
            match zs, hzl with
            | [z0], _ =>
              have g2 : DataW.trod enc Try.prog w base spare held n5 39 [v1] = some z0 := by simpa [cells39] using hg5 0 _ rfl
              have hwz : Wt 39 z0.1 := by
                rw [hz5] at hwu
                exact wt_part Try.underlying41 hwu (i := 0) rfl rfl
              obtain ⟨t3, tl3, tc3, A3, e3, i3, s3⟩ := ih n5 (by omega) _ _ g2 hwz
              simp only [List.cons.injEq, and_true] at en e3
              subst en e3
              exact ⟨(nm, A3), b2, off2, tl3, tc3, t3, ⟨e2, hb2, by simpa using hc2 0 (by decide), by simpa using hc2 1 (by decide), i3.le (by omega)⟩, s3⟩
      obtain ⟨F, hF⟩ := choose_lt (α := ByteArray × List Tm) fld
      refine ⟨.mk k lo hi' s y0 m o ((List.range fl).map F), b, off, ⟨e, hb, f, fl, fc, by simpa using hc 0 (by decide), by simpa using hc 1 (by decide), by simpa using hc 2 (by decide), by simpa using hc 3 (by decide), by simpa using hc 4 (by decide), by simpa using hc 5 (by decide), by simpa using hc 6 (by decide), by simpa using hc 7 (by decide), by simp, by unfold maxLen at hfm; omega, fun q hq => ?_⟩, ?_, fun m q hq => ?_⟩
      · have hq' : q < fl := by simpa using hq
        obtain ⟨b2, off2, tl2, tc2, t2, ⟨h1, h2, h3, h4, h5⟩, _⟩ := hF q hq'
        exact ⟨b2, off2, tl2, tc2, t2, h1, h2, by simpa using h3, h4, by simpa using h5⟩
      · simp only [Tm.fs, List.length_map, List.length_range]
        unfold reachBytes at hfb
        omega
      · simp only [Tm.fs, List.length_map, List.length_range] at hq
        obtain ⟨_, _, _, _, _, _, h6⟩ := hF q hq
        simpa [Tm.fs] using h6 m
    have : Inhabited Tm := ⟨.mk 0 0 0 ⟨#[]⟩ false false false []⟩
    obtain ⟨T, hT⟩ := choose_lt (α := Tm) one
    refine ⟨t, tl, tc, (List.range tl).map T, hcs, ⟨by simp, by unfold maxLen at hm; omega, fun i hi => ?_⟩, fun m => ?_⟩
    · have hi' : i < tl := by simpa using hi
      obtain ⟨b, off, ⟨h1, h2⟩, _⟩ := hT i hi'
      exact ⟨b, off, h1, by simpa using h2⟩
    · cases m with
      | zero => trivial
      | succ m =>
        refine ⟨by simp only [List.length_map, List.length_range]; unfold reachBytes at hby; omega, fun i hi => ?_⟩
        have hi' : i < tl := by simpa using hi
        obtain ⟨b, off, _, h1, h2⟩ := hT i hi'
        simp only [List.getElem_map, List.getElem_range]
        exact ⟨h1, h2 m⟩
theorem open_value_w {r : Reach} {b0 : Nat} {v : Value} {d : DataW H} {p : List MemPlace} (hv : Value.okWide Try.prog w r b0 41 v) (h : DataW.Trod enc Try.prog w base spare held 41 v d p) (hw : Wt 41 d) :
    ∃ (t : Option Addr) (tl tc n : Nat) (A : List Tm), v = .agg #[.slice t tl tc] ∧ InV w n t tl tc A ∧ ∀ m, SlimV m A := by
  obtain ⟨cs, rfl, hsz⟩ := okWide_struct Try.underlying41 hv
  obtain ⟨fuel, hf⟩ := h
  obtain ⟨l⟩ := cs
  obtain ⟨zs, n5, hn5, hd, hl, hzl, hg5⟩ := DataW.trod_struct Try.underlying41 hf
  simp only [Value.cells, cells41] at hl
  match l, hl with
  | [v1], _ =>
    match zs, hzl with
    | [z0], _ =>
      have g2 : DataW.trod enc Try.prog w base spare held n5 39 [v1] = some z0 := by simpa [Value.cells, cells39] using hg5 0 _ rfl
      have hwz : Wt 39 z0.1 := by
        simp only [Prod.mk.injEq] at hd
        rw [hd.1] at hw
        exact wt_part Try.underlying41 hw (i := 0) rfl rfl
      obtain ⟨t3, tl3, tc3, A3, e3, i3, s3⟩ := open_terms_w n5 _ _ g2 hwz
      simp only [List.cons.injEq, and_true] at e3
      subst e3
      exact ⟨t3, tl3, tc3, _, A3, rfl, i3, s3⟩
end
end Go.Proofs.Ytkmbhjcedkojjaa
