/- Fa, Fb -/
import Derived.Test.YtddleeenlpigfaaGreatDoorY33
import Derived.Test.YtddleeenlpigfaaGreatDoorRows
import Derived.Lib.SmallJoins
import Derived.ProofKit
import Derived.ChangeOld
import Derived.SizedLaws
import Derived.Test.YtddleeenlpigfaaGreatDoorTie
import Derived.OpenShut
import Derived.ShutString
import Derived.LaidMore
import Derived.Lay
import Derived.Stop.Joined
import Derived.HandedShaped
import Derived.Shelf.Vars
/- THE FRAME: a value that came in lies in memory, none of its lists takes more than the reach, and no name either. -/
namespace Go.Proofs.YtddleeenlpigfaaGreatDoor
open Go.Joins Go.ChangeShapes Go.WideShapes Go.ChangeAt Go.RowKit Go.Deep
theorem own_knob : ownKnob Tryz.prog.godebug = none := by kernel_rfl
theorem laidOut : laidOutB Tryz.prog = true := by kernel_rfl
theorem cells31 : Tryz.prog.cellsOf 31 = 8 := by kernel_rfl
section
variable {H : Type} {enc : TypeId × Value → H} {P : Program} {w : World} {base : Nat} {spare : Nat → Bool} {held : Bool}
theorem open_agg8 {t : TypeId} {f0 f1 f2 f3 f4 f5 f6 f7 : Field} {cs : List Value} {x : DataW H × List MemPlace} {fuel : Nat} (hs : P.underlying t = some (.struct #[f0, f1, f2, f3, f4, f5, f6, f7])) (hone : oneCellFields P #[f0, f1, f2, f3, f4, f5, f6, f7] = true)
    (hC : P.cellsOf t = 8) (h : DataW.trod enc P w base spare held fuel t cs = some x) :
    ∃ (v0 v1 v2 v3 v4 v5 v6 v7 : Value) (y0 y1 y2 y3 y4 y5 y6 y7 : DataW H × List MemPlace) (n : Nat), fuel = n + 1 ∧ cs = [v0, v1, v2, v3, v4, v5, v6, v7] ∧ x = (.agg [y0.1, y1.1, y2.1, y3.1, y4.1, y5.1, y6.1, y7.1], y0.2 ++ (y1.2 ++ (y2.2 ++ (y3.2 ++ (y4.2 ++ (y5.2 ++ (y6.2 ++ y7.2))))))) ∧
      DataW.trod enc P w base spare held n f0.type [v0] = some y0 ∧ DataW.trod enc P w base spare held n f1.type [v1] = some y1 ∧ DataW.trod enc P w base spare held n f2.type [v2] = some y2 ∧ DataW.trod enc P w base spare held n f3.type [v3] = some y3 ∧
      DataW.trod enc P w base spare held n f4.type [v4] = some y4 ∧ DataW.trod enc P w base spare held n f5.type [v5] = some y5 ∧ DataW.trod enc P w base spare held n f6.type [v6] = some y6 ∧ DataW.trod enc P w base spare held n f7.type [v7] = some y7 := by
  obtain ⟨xs, n, hfu, hx, hcl, hlen, hg⟩ := DataW.trod_struct hs h
  rw [hC] at hcl
  match cs, hcl with
  | [c0, c1, c2, c3, c4, c5, c6, c7], _ =>
    obtain ⟨o0, k0⟩ := hone_of hone 0 f0 rfl
    obtain ⟨o1, k1⟩ := hone_of hone 1 f1 rfl
    obtain ⟨o2, k2⟩ := hone_of hone 2 f2 rfl
    obtain ⟨o3, k3⟩ := hone_of hone 3 f3 rfl
    obtain ⟨o4, k4⟩ := hone_of hone 4 f4 rfl
    obtain ⟨o5, k5⟩ := hone_of hone 5 f5 rfl
    obtain ⟨o6, k6⟩ := hone_of hone 6 f6 rfl
    obtain ⟨o7, k7⟩ := hone_of hone 7 f7 rfl
    match xs, hlen with
    | [y0, y1, y2, y3, y4, y5, y6, y7], _ =>
      exact ⟨c0, c1, c2, c3, c4, c5, c6, c7, y0, y1, y2, y3, y4, y5, y6, y7, n, hfu, rfl, by simpa using hx, by simpa [o0, k0] using hg 0 f0 rfl, by simpa [o1, k1] using hg 1 f1 rfl, by simpa [o2, k2] using hg 2 f2 rfl, by simpa [o3, k3] using hg 3 f3 rfl, by simpa [o4, k4] using hg 4 f4 rfl, by simpa [o5, k5] using hg 5 f5 rfl, by simpa [o6, k6] using hg 6 f6 rfl, by simpa [o7, k7] using hg 7 f7 rfl⟩
theorem slice_any {t e : TypeId} {fuel : Nat} {v : Value} {x : DataW H × List MemPlace} (ht : P.underlying t = some (.slice e)) (h : DataW.trod enc P w base spare held fuel t [v] = some x) : ∃ (f : Option Addr) (fl fc : Nat), v = .slice f fl fc := by
  rcases open_slice ht h with ⟨h0, _⟩ | ⟨a, len, cap, _, _, _, _, hc, _⟩
  · exact ⟨none, 0, 0, by simpa using h0⟩
  · exact ⟨some a, len, cap, by simpa using hc⟩
end
theorem cells59 : Tryz.prog.cellsOf 59 = 2 := by kernel_rfl
theorem cells24 : Tryz.prog.cellsOf 24 = 1 := by kernel_rfl
theorem cells22 : Tryz.prog.cellsOf 22 = 1 := by kernel_rfl
theorem cells9 : Tryz.prog.cellsOf 9 = 1 := by kernel_rfl
theorem spot_of {w : World} {a : Addr} {v : Value} (h : w.cell? a = some v) : a = ⟨a.block, a.off, none⟩ := by
  obtain ⟨b, o, s⟩ := a
  cases s with
  | none => rfl
  | some x => simp [World.cell?] at h; split at h <;> simp_all
theorem add_at (b o i : Nat) : (⟨b, o, none⟩ : Addr).add i = ⟨b, o + i, none⟩ := by
  unfold Addr.add
  split
  · simp_all
  · rfl
theorem bytes31 : Tryz.prog.bytesOf 31 = 72 := by kernel_rfl
theorem bytes59 : Tryz.prog.bytesOf 59 = 40 := by kernel_rfl
section
variable {H : Type} {enc : TypeId × Value → H} {w : World} {base : Nat} {spare : Nat → Bool} {held : Bool}
/-- No part of a datum weighs more than the reach. -/
def Wt (t : TypeId) (d : DataW H) : Prop := ∀ n ∈ DataW.weights Tryz.prog t d, n ≤ reachBytes
theorem wt_all {e : TypeId} : ∀ {l : List (DataW H)} {n : Nat} {d : DataW H}, d ∈ l → n ∈ DataW.weights Tryz.prog e d → n ∈ DataW.weightsAll Tryz.prog e l
  | a :: l, n, d, h, hn => by
    simp only [DataW.weightsAll, List.mem_append]
    rcases List.mem_cons.1 h with rfl | h
    · exact .inl hn
    · exact .inr (wt_all h hn)
theorem wt_part {t : TypeId} {fs : Array Field} {parts : List (DataW H)} (ht : Tryz.prog.underlying t = some (.struct fs)) (h : Wt t (.agg parts)) {i : Nat} {f : Field} {d : DataW H} (hf : fs[i]? = some f) (hd : parts[i]? = some d) : Wt f.type d := by
  intro n hn
  refine h n ?_
  simp only [DataW.weights, ht]
  exact DataW.weights_mem_each (j := i) (by simp [hf]) hd n hn
set_option maxRecDepth 100000 in
theorem slice_cells_w {t e : TypeId} {c fuel : Nat} {cs : List Value} {x : DataW H × List MemPlace} (ht : Tryz.prog.underlying t = some (.slice e)) (hc : Tryz.prog.cellsOf e = c) (hpos : 0 < c) (h : DataW.trod enc Tryz.prog w base spare held fuel t cs = some x) (hw : Wt t x.1) :
    ∃ (o : Option Addr) (len cap : Nat), cs = [.slice o len cap] ∧ len ≤ maxLen ∧ len * Tryz.prog.bytesOf e ≤ reachBytes ∧ ∀ i, i < len → ∃ (b off n : Nat) (cs' : List Value) (y : DataW H × List MemPlace), fuel = n + 1 ∧ o = some ⟨b, off, none⟩ ∧ b < w.heap.size ∧ cs'.length = c ∧
      (∀ j, j < c → w.cell? ⟨b, off + i * c + j, none⟩ = cs'[j]?) ∧ DataW.trod enc Tryz.prog w base spare held n e cs' = some y ∧ Wt e y.1 := by
  rcases DataW.trod_slice ht h with ⟨h0, _⟩ | ⟨a, len, cap, elems, rest, n, hfu, rfl, hx, hb, hl, hm, hlen, hel, _, _⟩
  · exact ⟨none, 0, 0, h0, by decide, by simp, fun i hi => absurd hi (Nat.not_lt_zero _)⟩
  · subst hx
    simp only [Wt, DataW.weights, ht, List.mem_cons, List.mem_append, List.length_map] at hw
    refine ⟨some a, len, cap, rfl, by omega, ?_, fun i hi => ?_⟩
    · have := hw _ (.inl rfl)
      rw [hlen, Nat.add_mul] at this
      omega
    have get : ∀ i, i < len → ∃ cs' y, w.cells? base (a.add (i * c)) c = some cs' ∧ DataW.trod enc Tryz.prog w base spare held n e cs' = some y ∧ y ∈ elems := fun i hi => by
      have h1 := hel i hi
      rw [hc, List.getElem?_eq_getElem (by omega)] at h1
      obtain ⟨cs', h2, h3⟩ := Option.bind_eq_some_iff.1 h1
      exact ⟨cs', _, h2, h3, List.getElem_mem _⟩
    obtain ⟨cs0, _, h0, _, _⟩ := get 0 (by omega)
    obtain ⟨_, l0, e0⟩ := World.cells?_some h0
    have z0 := e0 0 hpos
    have p0 : 0 < cs0.length := by omega
    rw [List.getElem?_eq_getElem p0, Nat.zero_mul] at z0
    have hz : w.cell? a = some (cs0[0]'p0) := by simpa [Addr.add] using z0
    have ha := spot_of hz
    have hbl := World.block_lt_of_cell? _ _ hz
    obtain ⟨cs', y, h1, h2, hmem⟩ := get i hi
    obtain ⟨_, l1, e1⟩ := World.cells?_some h1
    refine ⟨a.block, a.off, n, cs', y, hfu, by rw [← ha], hbl, l1, fun j hj => ?_, h2, fun m hm' => hw m (.inr (.inl (wt_all (List.mem_map_of_mem hmem) hm')))⟩
    have := e1 j hj
    rw [ha, add_at, add_at] at this
    exact this
set_option maxRecDepth 100000 in
theorem open_term_w {fuel : Nat} {cs : List Value} {x : DataW H × List MemPlace} (h : DataW.trod enc Tryz.prog w base spare held fuel 31 cs = some x) (hw : Wt 31 x.1) :
    ∃ (k lo hi : Int) (s : ByteArray) (y m o : Bool) (f : Option Addr) (fl fc n : Nat) (z : DataW H × List MemPlace), fuel = n + 1 ∧ cs = [.int .i64 k, .int .i64 lo, .int .i64 hi, .string s, .bool y, .bool m, .bool o, .slice f fl fc] ∧
      DataW.trod enc Tryz.prog w base spare held n 29 [.slice f fl fc] = some z ∧ Wt 29 z.1 := by
  obtain ⟨v0, v1, v2, v3, v4, v5, v6, v7, y0, y1, y2, y3, y4, y5, y6, y7, n, hfu, rfl, rfl, h0, h1, h2, h3, h4, h5, h6, h7⟩ := open_agg8 Tryz.underlying31 (by kernel_rfl) cells31 h
  obtain ⟨k, e0, _, _⟩ := DataW.trod_int Tryz.underlying3 h0
  obtain ⟨lo, e1, _, _⟩ := DataW.trod_int Tryz.underlying3 h1
  obtain ⟨hi, e2, _, _⟩ := DataW.trod_int Tryz.underlying3 h2
  obtain ⟨s, e3, _, _⟩ := DataW.trod_string Tryz.underlying9 h3
  obtain ⟨y, e4, _⟩ := DataW.trod_bool Tryz.underlying4 h4
  obtain ⟨m, e5, _⟩ := DataW.trod_bool Tryz.underlying4 h5
  obtain ⟨o, e6, _⟩ := DataW.trod_bool Tryz.underlying4 h6
  obtain ⟨f, fl, fc, rfl⟩ := slice_any Tryz.underlying29 h7
  simp only [List.cons.injEq, and_true] at e0 e1 e2 e3 e4 e5 e6
  subst e0 e1 e2 e3 e4 e5 e6
  exact ⟨k, lo, hi, s, y, m, o, f, fl, fc, n, y7, hfu, rfl, h7, wt_part Tryz.underlying31 hw (i := 7) rfl rfl⟩
set_option maxRecDepth 100000 in
theorem open_terms_w : ∀ (fuel : Nat) (cs : List Value) (x : DataW H × List MemPlace), DataW.trod enc Tryz.prog w base spare held fuel 22 cs = some x → Wt 22 x.1 →
    ∃ (t : Option Addr) (tl tc : Nat) (A : List Tm), cs = [.slice t tl tc] ∧ InV w (fuel + 1) t tl tc A ∧ (∀ m, SlimV m A) ∧ ∀ m, NmV m A := by
  intro fuel
  induction fuel using Nat.strongRecOn with
  | _ fuel ih =>
    intro cs x h hwx
    obtain ⟨t, tl, tc, hcs, hm, hby, hel⟩ := slice_cells_w Tryz.underlying22 cells31 (by decide) h hwx
    rw [bytes31] at hby
    have one : ∀ i, i < tl → ∃ (T : Tm) (b off : Nat), (t = some ⟨b, off, none⟩ ∧ InT (fun t tl tc V => InV w fuel t tl tc V) w b (off + i * 8) T) ∧ T.fs.length * 40 ≤ 140737488355328 ∧ ∀ m j (h2 : j < T.fs.length), SlimV m (T.fs[j]).2 ∧ (T.fs[j]).1.size ≤ 140737488355328 ∧ NmV m (T.fs[j]).2 := fun i hi => by
      obtain ⟨b, off, n, cs', y, hfu, e, hb, hl, hc, ht, hwy⟩ := hel i hi
      obtain ⟨k, lo, hi', s, y0, m, o, f, fl, fc, n2, z, hn2, rfl, hf, hwf⟩ := open_term_w ht hwy
      obtain ⟨f', fl', fc', hf', hfm, hfb, hfe⟩ := slice_cells_w Tryz.underlying29 cells59 (by decide) hf hwf
      rw [bytes59] at hfb
      simp only [List.cons.injEq, and_true, Value.slice.injEq] at hf'
      obtain ⟨rfl, rfl, rfl⟩ := hf'
      have fld : ∀ q, q < fl → ∃ (F : ByteArray × List Tm) (b2 off2 tl2 tc2 : Nat) (t2 : Option Addr), (f = some ⟨b2, off2, none⟩ ∧ b2 < w.heap.size ∧ w.cell? ⟨b2, off2 + q * 2, none⟩ = some (.string F.1) ∧ w.cell? ⟨b2, off2 + q * 2 + 1, none⟩ = some (.slice t2 tl2 tc2) ∧ InV w fuel t2 tl2 tc2 F.2) ∧ ∀ m, SlimV m F.2 ∧ F.1.size ≤ 140737488355328 ∧ NmV m F.2 := fun q hq => by
        obtain ⟨b2, off2, n3, cs2, y2, hn3, e2, hb2, hl2, hc2, ht2, hw2⟩ := hfe q hq
        obtain ⟨ys, n4, hn4, hy2, _, hyl, hg⟩ := DataW.trod_struct Tryz.underlying59 ht2
        match cs2, hl2 with
        | [v0, v1], _ =>
          match ys, hyl with
          | [u0, u1], _ =>
            have g0 := hg 0 _ rfl
            have g1 := hg 1 _ rfl
            have hwn : Wt 9 u0.1 := by
              have hw3 := hw2
              rw [hy2] at hw3
              exact wt_part Tryz.underlying59 hw3 (i := 0) rfl rfl
            obtain ⟨nm, en, xn, _⟩ := DataW.trod_string Tryz.underlying9 (show DataW.trod enc Tryz.prog w base spare held n4 9 [v0] = some u0 by simpa [cells9] using g0)
            have g1' : DataW.trod enc Tryz.prog w base spare held n4 24 [v1] = some u1 := by simpa [cells24] using g1
            have hnm : nm.size ≤ 140737488355328 := by
              rw [xn] at hwn
              have h47 := hwn nm.data.toList.length (by simp [DataW.weights])
              rw [Nm.size_list, Lib.toList_data]
              have := reachBytes_lt
              omega
            have hwu : Wt 24 u1.1 := by
              rw [hy2] at hw2
              exact wt_part Tryz.underlying59 hw2 (i := 1) rfl rfl
            obtain ⟨zs, n5, hn5, hz5, _, hzl, hg5⟩ := DataW.trod_struct Tryz.underlying24 g1'
            match zs, hzl with
            | [z0], _ =>
              have g2 : DataW.trod enc Tryz.prog w base spare held n5 22 [v1] = some z0 := by simpa [cells22] using hg5 0 _ rfl
              have hwz : Wt 22 z0.1 := by
                rw [hz5] at hwu
                exact wt_part Tryz.underlying24 hwu (i := 0) rfl rfl
              obtain ⟨t3, tl3, tc3, A3, e3, i3, s3, m3⟩ := ih n5 (by omega) _ _ g2 hwz
              simp only [List.cons.injEq, and_true] at en e3
              subst en e3
              exact ⟨(nm, A3), b2, off2, tl3, tc3, t3, ⟨e2, hb2, by simp, by simp, i3.le (by omega)⟩, fun m => ⟨s3 m, hnm, m3 m⟩⟩
      obtain ⟨F, hF⟩ := choose_lt (α := ByteArray × List Tm) fld
      refine ⟨.mk k lo hi' s y0 m o ((List.range fl).map F), b, off, ⟨e, hb, f, fl, fc, by simp, by simp, by simp, by simp, by simp, by simp, by simp, by simp, by simp, by unfold maxLen at hfm; omega, fun q hq => ?_⟩, ?_, fun m q hq => ?_⟩
      · have hq' : q < fl := by simpa using hq
        obtain ⟨b2, off2, tl2, tc2, t2, ⟨h1, h2, h3, h4, h5⟩, _⟩ := hF q hq'
        exact ⟨b2, off2, tl2, tc2, t2, h1, h2, by simpa using h3, h4, by simpa using h5⟩
      · simp only [Tm.fs, List.length_map, List.length_range]
        unfold reachBytes at hfb
        omega
      · simp only [Tm.fs, List.length_map, List.length_range] at hq
        obtain ⟨_, _, _, _, _, _, h6⟩ := hF q hq
        simpa [Tm.fs] using h6 m
    have : Inhabited Tm := ⟨.mk 0 0 0 ⟨#[]⟩ false false false []⟩
    obtain ⟨T, hT⟩ := choose_lt (α := Tm) one
    refine ⟨t, tl, tc, (List.range tl).map T, hcs, ⟨by simp, by unfold maxLen at hm; omega, fun i hi => ?_⟩, fun m => ?_, fun m => ?_⟩
    · have hi' : i < tl := by simpa using hi
      obtain ⟨b, off, ⟨h1, h2⟩, _⟩ := hT i hi'
      exact ⟨b, off, h1, by simpa using h2⟩
    · cases m with
      | zero => trivial
      | succ m =>
        refine ⟨by simp only [List.length_map, List.length_range]; unfold reachBytes at hby; omega, fun i hi => ?_⟩
        have hi' : i < tl := by simpa using hi
        obtain ⟨b, off, _, h1, h2⟩ := hT i hi'
        simp only [List.getElem_map, List.getElem_range]
        exact ⟨h1, fun j hj => (h2 m j hj).1⟩
    · cases m with
      | zero => trivial
      | succ m =>
        intro x hx f hf
        obtain ⟨i, hi, rfl⟩ := List.getElem_of_mem hx
        have hi' : i < tl := by simpa using hi
        obtain ⟨b, off, _, h1, h2⟩ := hT i hi'
        simp only [List.getElem_map, List.getElem_range] at hf
        obtain ⟨j, hj, rfl⟩ := List.getElem_of_mem hf
        exact (h2 m j hj).2
set_option maxRecDepth 100000 in
theorem open_value_w {r : Reach} {b0 : Nat} {v : Value} {d : DataW H} {p : List MemPlace} (hv : Value.okWide Tryz.prog w r b0 24 v) (h : DataW.Trod enc Tryz.prog w base spare held 24 v d p) (hw : Wt 24 d) :
    ∃ (t : Option Addr) (tl tc n : Nat) (A : List Tm), v = .agg #[.slice t tl tc] ∧ InV w n t tl tc A ∧ (∀ m, SlimV m A) ∧ ∀ m, NmV m A := by
  obtain ⟨cs, rfl, hsz⟩ := okWide_struct Tryz.underlying24 hv
  obtain ⟨fuel, hf⟩ := h
  obtain ⟨l⟩ := cs
  obtain ⟨zs, n5, hn5, hd, hl, hzl, hg5⟩ := DataW.trod_struct Tryz.underlying24 hf
  simp only [Value.cells, cells24] at hl
  match l, hl with
  | [v1], _ =>
    match zs, hzl with
    | [z0], _ =>
      have g2 : DataW.trod enc Tryz.prog w base spare held n5 22 [v1] = some z0 := by simpa [Value.cells, cells22] using hg5 0 _ rfl
      have hwz : Wt 22 z0.1 := by
        simp only [Prod.mk.injEq] at hd
        rw [hd.1] at hw
        exact wt_part Tryz.underlying24 hw (i := 0) rfl rfl
      obtain ⟨t3, tl3, tc3, A3, e3, i3, s3, m3⟩ := open_terms_w n5 _ _ g2 hwz
      simp only [List.cons.injEq, and_true] at e3
      subst e3
      exact ⟨t3, tl3, tc3, _, A3, rfl, i3, s3, m3⟩
end
end Go.Proofs.YtddleeenlpigfaaGreatDoor
/- THE FRAME: the words' table; Few. -/
namespace Go.Proofs.YtddleeenlpigfaaGreatDoor
open Go.ChangeShapes Go.WideShapes Go.ChangeAt Go.RowKit
open Go.ChangeMaps (open_string shut_string)
/-- The library's two wraps at once: a premise on memory beside the row's, and the world's shape handed on. -/
theorem returns_shaped_and {H : Type} {enc : TypeId × Value → H} {a : Assume} {C : Checked} {os : Os} {f : FuncId} {fn : Func} {s : ChangeSpec} {conds : List PathCond} {apart fresh handsOn again : Bool} {X : World → Array Value → Prop}
    (hX : ∀ (w w' : World) (args : Array Value), w.heap = w'.heap → X w args → X w' args)
    (hown : ownKnob C.prog.godebug = none) (started : os.Started) (noInit : C.prog.inits.idxOf? f = none) (hfn : C.prog.funcs[f]? = some fn)
    (witness : ∃ (w : World) (tape : Tape) (i : Input), w.os = os ∧ (w.forCall tape i).Shaped C.prog ∧ i.vars = [] ∧ Input.okWide C.prog (w.forCall tape i) .any w.heap.size f i ∧
      ((s.pre enc C.prog fn conds apart (w.forCall tape i).memory i.args ∧ X (w.forCall tape i).memory i.args) ∧ sizedMet enc C.prog fn (OpenSpec.ofChange s) apart (w.forCall tape i).memory i.args) ∧ a.holds C.prog (lone (Frame.enter C.prog f i.args .normal) [] (w.forCall tape i)))
    (contract : ∀ (W : World) (base : Nat) (args : Array Value) (ds gs : List (DataW H)) (before : List MemPlace),
      (∀ (j : Nat) t v, fn.params[j]? = some t → args[j]? = some v → Value.okWide C.prog W .any base t v) →
      DataW.Whole enc C.prog fn.params.toList s.vars apart W args.toList ds gs before →
      (DataW.weightsEach C.prog (fn.params.toList ++ s.plain.varTypes C.prog) (ds ++ gs)).all (· ≤ reachBytes) = true → X W args → W.ShapedOpen C.prog →
      Calls C.prog f args W fun e W' => ∃ v, e = .returned v ∧ s.post enc C.prog fn apart fresh handsOn again W args v W') :
    ReturnsInHanded a C os f .any (fun w args => (s.pre enc C.prog fn conds apart w args ∧ X w args) ∧ sizedMet enc C.prog fn (OpenSpec.ofChange s) apart w args) (s.post enc C.prog fn apart fresh handsOn again) := by
  refine returnsInHanded_of_calls hown started noInit witness fun w tape i _ hsh _ hok hpre _ => ?_
  obtain ⟨_, _, _, fn2, hfn2, _, _, _, _, hval⟩ := hok
  obtain rfl : fn2 = fn := Option.some.inj (hfn2.symm.trans hfn)
  obtain ⟨⟨⟨ds, gs, before, hw, _⟩, hx⟩, hz⟩ := hpre
  refine (contract (w.forCall tape i) w.heap.size i.args ds gs before hval (DataW.Whole.of_heap (w' := w.forCall tape i) (by rfl) hw) (hz.weights hw) (hX _ _ _ (by rfl) hx) hsh).mono fun e W' ⟨v, he, hp⟩ => ?_
  subst he
  exact ChangeSpec.post_blind hp
theorem words_cells {W : World} (h : laidMetH Tryz.prog Rows.latOrderRow.laid W) : ∀ r, r < 9 → W.cell? ⟨0, r, none⟩ = some (.string (Nm.wordAt r)) := by
  intro r hr
  rw [MakeChecks.laidMetH_plain _ _ _ (by kernel_rfl)] at h
  obtain ⟨ps, hL, _, _⟩ := h
  simp only [Rows.latOrderRow, DataW.LaidVars] at hL
  obtain ⟨g, t, cs, fuel, p, _, hg, ht, hv, hd, _, _⟩ := hL
  obtain rfl := Option.some.inj ((show Tryz.prog.globalNamed "treillage/name.words" = some 0 by kernel_rfl).symm.trans hg)
  obtain rfl := Option.some.inj ((show (Tryz.prog.globals[0]?).map (·.type) = some 176 by kernel_rfl).symm.trans ht)
  obtain ⟨xs, m, _, ex, _, hl, hel⟩ := DataW.trod_array Tryz.underlying176 hd
  have c9 : Tryz.prog.cellsOf 9 = 1 := by kernel_rfl
  have hE := hel r hr
  rw [c9, Nat.mul_one, List.getElem?_eq_getElem (by omega)] at hE
  obtain ⟨s, e1, e2, _⟩ := DataW.trod_string Tryz.underlying9 hE
  have e3 : (xs.map (·.1)) = Nm.wordsL.map fun l => (DataW.lit (.string l) : DataW Unit) := (DataW.agg.inj (Prod.mk.inj ex).1).symm
  have e4 : (xs.map (·.1))[r]? = (Nm.wordsL.map fun l => (DataW.lit (.string l) : DataW Unit))[r]? := by rw [e3]
  have hlen : Nm.wordsL.length = 9 := rfl
  rw [List.getElem?_map, List.getElem?_map, List.getElem?_eq_getElem (by omega : r < xs.length), List.getElem?_eq_getElem (by omega : r < Nm.wordsL.length), e2] at e4
  have hs : s = Nm.wordAt r := by
    simp only [Option.map_some, Option.some.injEq, DataW.lit.injEq, Lit.string.injEq] at e4
    unfold Nm.wordAt
    rw [List.getD, List.getElem?_eq_getElem (by omega : r < Nm.wordsL.length), Option.getD_some, ← e4]
  rw [World.var?_cell hg hv r, ← hs]
  have h0 : ((cs.toList.drop r).take 1)[0]? = some (.string s) := by rw [e1]; rfl
  simpa using h0
theorem env_of {W : World} (h : laidMetH Tryz.prog Rows.latOrderRow.laid W) : Nm.Env W :=
  ⟨words_cells h, by have := World.block_lt_of_cell? _ _ (words_cells h 0 (by decide)); exact this⟩
theorem LnV.of : ∀ {n : Nat} {A : List Tm}, SlimV n A → LnV n A
  | 0, _, _ => trivial
  | n + 1, A, h => ⟨by have := h.1; omega, fun x hx f hf => by
      obtain ⟨i, hi, rfl⟩ := List.getElem_of_mem hx
      obtain ⟨j, hj, rfl⟩ := List.getElem_of_mem hf
      exact LnV.of ((h.2 i hi).2 j hj)⟩
/-- What Few of this layer tells. -/
def Few9P (wt : Int) (w : World) (e : Ending) (w' : World) : Prop := ∃ b : Bool, e = .returned (.bool b) ∧ Below w.heap.size w w' ∧ (b = true → wt ≤ 40)
set_option maxRecDepth 100000 in
set_option maxHeartbeats 8000000 in
theorem few9_any (n : Nat) (w : World) (t : Option Addr) (tl tc : Nat) (A : List Tm) (h : InV w n t tl tc A) : Calls Tryz.prog 12 #[.agg #[.slice t tl tc]] w (Few9P (wtV n A) w) := by
  have HL := Lib.hid (fun (W : World) (hW : Below w.heap.size w W) => few_any n W t tl tc A (InV.below hW h))
  have HD := Lib.hid (fun (W : World) (hW : Below w.heap.size w W) => rweight_in n W t tl tc A (InV.below hW h))
  clear h
  generalize wtV n A = wt at *
  have HX : ∃ X, w.alloc (.cells #[.slice t tl tc] 24) = X := ⟨_, rfl⟩
  obtain ⟨X, hX⟩ := HX
  have HXB : Hid (Below w.heap.size w X ∧ Bx X w.heap.size t tl tc) := by
    rw [← hX]; exact ⟨bl_alloc (Below.refl _ _), ⟨by simp, by simp [go_sem]⟩⟩
  go_enter Tryz.func12, Tryz.ntmps12
  go_upto_region 1 with fail
  clear hX
  have bx := HXB.out.2.2
  go_wp2_with (first
    | (go_at_call 36; refine (HL.out _ HXB.out.1).mono ?_; rintro e w1 ⟨b, rfl, hB⟩; have HB1 := Lib.hid hB; have bx1 := (HXB.out.2.later hB).2; clear hB; cases b)
    | (go_at_call 37; refine (HD.out _ (bl_step HXB.out.1 HB1.out)).mono ?_; rintro e w2 ⟨rfl, hB⟩; have HB2 := Lib.hid hB; clear hB))
  · go_ret
    exact ⟨_, rfl, bl_step HXB.out.1 HB1.out, fun h => absurd h (by decide)⟩
  · go_wp2_with (first
      | (go_at_call 37; refine (HD.out _ (bl_step HXB.out.1 HB1.out)).mono ?_; rintro e w2 ⟨rfl, hB⟩; have HB2 := Lib.hid hB; clear hB))
    go_ret
    exact ⟨_, rfl, bl_step HXB.out.1 (bl_step HB1.out HB2.out), fun h => of_decide_eq_true h⟩
end Go.Proofs.YtddleeenlpigfaaGreatDoor
