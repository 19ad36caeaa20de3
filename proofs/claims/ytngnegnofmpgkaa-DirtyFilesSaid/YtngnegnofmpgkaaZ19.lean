/- Im, Ja -/
import Derived.Test.YtngnegnofmpgkaaRows
import Derived.Lib.SmallJoins
import Derived.ProofKit
import Derived.ChangeOld
import Derived.SizedLaws
import Derived.Test.YtngnegnofmpgkaaZ18
/- WALK of RefsTell. -/
namespace Go.Proofs.Ytngnegnofmpgkaa.Gr
open Go.RowKit Go.Maps Go.Sort
open Go.Proofs.Ytngnegnofmpgkaa.Nm (StrRow)
theorem same_yes {w : World} {a a' : Option Addr} {len cap len' cap' : Nat} {xs : List ByteArray} (hS : StrRow w a len xs) (hT : StrRow w a' len' xs) : Calls Try.prog 8 #[.slice a len cap, .slice a' len' cap'] w (BoolP true w) := by
  have := rsame_eq a a' len cap len' cap' xs xs w hS hT
  rwa [eqB_yes rfl] at this
theorem set_row {w w' : World} {e : Ending} {r l : List ByteArray} {P : ByteArray → Bool} (hT : TxtsP r w e w') (hr : SetL P r) (hl : SetL P l) (hm : r.length ≤ 140737488355328) : RowR l w e w' := by
  obtain rfl := set_unique hr hl fun _ _ => rfl
  exact row_of hT hm fun y hy => ((hr.2 y).1 hy).1
/-- What the law holds. -/
structure TW (n : Nat) (xs : List Nd) (a : Option Addr) (len : Nat) (pts : List ByteArray) (ls : List Ln2) (a3 a4 : Option Addr) (base G : Nat) (w wr : World) : Prop where
  below : Below w.heap.size w wr
  nodes : NodeRow wr n a len xs
  points : StrRow wr a3 pts.length pts
  lines : LineRow wr a4 ls.length ls
  graph : GR wr base G (xs.length + 3 * ls.length) (PG (xs.map Nd.name) ls) (inL ls)
theorem TW.step {n : Nat} {xs : List Nd} {a : Option Addr} {len : Nat} {pts : List ByteArray} {ls : List Ln2} {a3 a4 : Option Addr} {base G : Nat} {w wr w' : World} (h : TW n xs a len pts ls a3 a4 base G w wr) (hb : Below wr.heap.size wr w') : TW n xs a len pts ls a3 a4 base G w w' :=
  ⟨below_step h.below hb, h.nodes.below hb, h.points.below hb, h.lines.below hb, h.graph.below hb⟩
end Go.Proofs.Ytngnegnofmpgkaa.Gr
/- THE FRAME: an expression that came in lies in memory; none of its lists takes more than the reach, and no text either. -/
namespace Go.Proofs.Ytngnegnofmpgkaa
open Go.Joins Go.ChangeShapes Go.WideShapes Go.ChangeAt Go.RowKit Go.Deep
theorem own_knob : ownKnob Try.prog.godebug = none := by kernel_rfl
theorem laidOut : laidOutB Try.prog = true := by kernel_rfl
theorem cells103 : Try.prog.cellsOf 38 = 7 := by kernel_rfl
theorem cells144 : Try.prog.cellsOf 69 = 8 := by kernel_rfl
theorem cells9 : Try.prog.cellsOf 9 = 1 := by kernel_rfl
theorem bytes103 : Try.prog.bytesOf 38 = 112 := by kernel_rfl
theorem bytes144 : Try.prog.bytesOf 69 = 128 := by kernel_rfl
theorem bytes9 : Try.prog.bytesOf 9 = 16 := by kernel_rfl
section
variable {H : Type} {enc : TypeId × Value → H} {P : Program} {w : World} {base : Nat} {spare : Nat → Bool} {held : Bool}
theorem open_agg7 {t : TypeId} {f0 f1 f2 f3 f4 f5 f6 : Field} {cs : List Value} {x : DataW H × List MemPlace} {fuel : Nat} (hs : P.underlying t = some (.struct #[f0, f1, f2, f3, f4, f5, f6])) (hone : oneCellFields P #[f0, f1, f2, f3, f4, f5, f6] = true)
    (hC : P.cellsOf t = 7) (h : DataW.trod enc P w base spare held fuel t cs = some x) :
    ∃ (v0 v1 v2 v3 v4 v5 v6 : Value) (y0 y1 y2 y3 y4 y5 y6 : DataW H × List MemPlace) (n : Nat), fuel = n + 1 ∧ cs = [v0, v1, v2, v3, v4, v5, v6] ∧ x.1 = .agg [y0.1, y1.1, y2.1, y3.1, y4.1, y5.1, y6.1] ∧
      DataW.trod enc P w base spare held n f0.type [v0] = some y0 ∧ DataW.trod enc P w base spare held n f1.type [v1] = some y1 ∧ DataW.trod enc P w base spare held n f2.type [v2] = some y2 ∧ DataW.trod enc P w base spare held n f3.type [v3] = some y3 ∧
      DataW.trod enc P w base spare held n f4.type [v4] = some y4 ∧ DataW.trod enc P w base spare held n f5.type [v5] = some y5 ∧ DataW.trod enc P w base spare held n f6.type [v6] = some y6 := by
  obtain ⟨xs, n, hfu, hx, hcl, hlen, hg⟩ := DataW.trod_struct hs h
  rw [hC] at hcl
  match cs, hcl with
  | [c0, c1, c2, c3, c4, c5, c6], _ =>
    obtain ⟨o0, k0⟩ := hone_of hone 0 f0 rfl
    obtain ⟨o1, k1⟩ := hone_of hone 1 f1 rfl
    obtain ⟨o2, k2⟩ := hone_of hone 2 f2 rfl
    obtain ⟨o3, k3⟩ := hone_of hone 3 f3 rfl
    obtain ⟨o4, k4⟩ := hone_of hone 4 f4 rfl
    obtain ⟨o5, k5⟩ := hone_of hone 5 f5 rfl
    obtain ⟨o6, k6⟩ := hone_of hone 6 f6 rfl
    match xs, hlen with
    | [y0, y1, y2, y3, y4, y5, y6], _ =>
      exact ⟨c0, c1, c2, c3, c4, c5, c6, y0, y1, y2, y3, y4, y5, y6, n, hfu, rfl, by simp [hx], by simpa [o0, k0] using hg 0 f0 rfl, by simpa [o1, k1] using hg 1 f1 rfl, by simpa [o2, k2] using hg 2 f2 rfl, by simpa [o3, k3] using hg 3 f3 rfl, by simpa [o4, k4] using hg 4 f4 rfl, by simpa [o5, k5] using hg 5 f5 rfl, by simpa [o6, k6] using hg 6 f6 rfl⟩
theorem slice_any {t e : TypeId} {fuel : Nat} {v : Value} {x : DataW H × List MemPlace} (ht : P.underlying t = some (.slice e)) (h : DataW.trod enc P w base spare held fuel t [v] = some x) : ∃ (f : Option Addr) (fl fc : Nat), v = .slice f fl fc := by
  rcases open_slice ht h with ⟨h0, _⟩ | ⟨a, len, cap, _, _, _, _, hc, _⟩
  · exact ⟨none, 0, 0, by simpa using h0⟩
  · exact ⟨some a, len, cap, by simpa using hc⟩
end
theorem spot_of {w : World} {a : Addr} {v : Value} (h : w.cell? a = some v) : a = ⟨a.block, a.off, none⟩ := by
  obtain ⟨b, o, s⟩ := a
  cases s with
  | none => rfl
  | some x => simp [World.cell?] at h; split at h <;> simp_all
theorem add_at (b o i : Nat) : (⟨b, o, none⟩ : Addr).add i = ⟨b, o + i, none⟩ := by
  unfold Addr.add
  split
  · simp_all
  · rfl
section
variable {H : Type} {enc : TypeId × Value → H} {w : World} {base : Nat} {spare : Nat → Bool} {held : Bool}
/-- No part of a datum weighs more than the reach. -/
def Wt (t : TypeId) (d : DataW H) : Prop := ∀ n ∈ DataW.weights Try.prog t d, n ≤ reachBytes
theorem wt_all {e : TypeId} : ∀ {l : List (DataW H)} {n : Nat} {d : DataW H}, d ∈ l → n ∈ DataW.weights Try.prog e d → n ∈ DataW.weightsAll Try.prog e l
  | a :: l, n, d, h, hn => by
    simp only [DataW.weightsAll, List.mem_append]
    rcases List.mem_cons.1 h with rfl | h
    · exact .inl hn
    · exact .inr (wt_all h hn)
theorem wt_part {t : TypeId} {fs : Array Field} {parts : List (DataW H)} (ht : Try.prog.underlying t = some (.struct fs)) (h : Wt t (.agg parts)) {i : Nat} {f : Field} {d : DataW H} (hf : fs[i]? = some f) (hd : parts[i]? = some d) : Wt f.type d := by
  intro n hn
  refine h n ?_
  simp only [DataW.weights, ht]
  exact DataW.weights_mem_each (j := i) (by simp [hf]) hd n hn
set_option maxRecDepth 100000 in
theorem slice_cells_w {t e : TypeId} {c fuel : Nat} {cs : List Value} {x : DataW H × List MemPlace} (ht : Try.prog.underlying t = some (.slice e)) (hc : Try.prog.cellsOf e = c) (hpos : 0 < c) (h : DataW.trod enc Try.prog w base spare held fuel t cs = some x) (hw : Wt t x.1) :
    ∃ (o : Option Addr) (len cap : Nat), cs = [.slice o len cap] ∧ len ≤ maxLen ∧ len * Try.prog.bytesOf e ≤ reachBytes ∧ ∀ i, i < len → ∃ (b off n : Nat) (cs' : List Value) (y : DataW H × List MemPlace), fuel = n + 1 ∧ o = some ⟨b, off, none⟩ ∧ b < w.heap.size ∧ cs'.length = c ∧
      (∀ j, j < c → w.cell? ⟨b, off + i * c + j, none⟩ = cs'[j]?) ∧ DataW.trod enc Try.prog w base spare held n e cs' = some y ∧ Wt e y.1 := by
  rcases DataW.trod_slice ht h with ⟨h0, _⟩ | ⟨a, len, cap, elems, rest, n, hfu, rfl, hx, hb, hl, hm, hlen, hel, _, _⟩
  · exact ⟨none, 0, 0, h0, by decide, by simp, fun i hi => absurd hi (Nat.not_lt_zero _)⟩
  · subst hx
    simp only [Wt, DataW.weights, ht, List.mem_cons, List.mem_append, List.length_map] at hw
    refine ⟨some a, len, cap, rfl, by omega, ?_, fun i hi => ?_⟩
    · have := hw _ (.inl rfl)
      rw [hlen, Nat.add_mul] at this
      omega
    have get : ∀ i, i < len → ∃ cs' y, w.cells? base (a.add (i * c)) c = some cs' ∧ DataW.trod enc Try.prog w base spare held n e cs' = some y ∧ y ∈ elems := fun i hi => by
      have h1 := hel i hi
      rw [hc, List.getElem?_eq_getElem (by omega)] at h1
      obtain ⟨cs', h2, h3⟩ := Option.bind_eq_some_iff.1 h1
      exact ⟨cs', _, h2, h3, List.getElem_mem _⟩
    obtain ⟨cs0, _, h0, _, _⟩ := get 0 (by omega)
    obtain ⟨_, l0, e0⟩ := World.cells?_some h0
    have z0 := e0 0 hpos
    have p0 : 0 < cs0.length := by omega
    rw [List.getElem?_eq_getElem p0, Nat.zero_mul] at z0
    have hz : w.cell? a = some (cs0[0]'p0) := by simpa [Addr.add] using z0
    have ha := spot_of hz
    have hbl := World.block_lt_of_cell? _ _ hz
    obtain ⟨cs', y, h1, h2, hmem⟩ := get i hi
    obtain ⟨_, l1, e1⟩ := World.cells?_some h1
    refine ⟨a.block, a.off, n, cs', y, hfu, by rw [← ha], hbl, l1, fun j hj => ?_, h2, fun m hm' => hw m (.inr (.inl (wt_all (List.mem_map_of_mem hmem) hm')))⟩
    have := e1 j hj
    rw [ha, add_at, add_at] at this
    exact this
theorem pick_lt {α : Type} [Inhabited α] {n : Nat} {P : Nat → α → Prop} (h : ∀ i, i < n → ∃ a, P i a) : ∃ f : Nat → α, ∀ i, i < n → P i (f i) := by
  refine ⟨fun i => if hi : i < n then Classical.choose (h i hi) else default, fun i hi => ?_⟩
  simp only [hi, dif_pos]
  exact Classical.choose_spec (h i hi)
theorem text_w {fuel : Nat} {v : Value} {x : DataW H × List MemPlace} (h : DataW.trod enc Try.prog w base spare held fuel 9 [v] = some x) (hw : Wt 9 x.1) : ∃ s : ByteArray, v = .string s ∧ s.size ≤ 140737488355328 := by
  obtain ⟨s, e, xn, _⟩ := DataW.trod_string Try.underlying9 h
  simp only [List.cons.injEq, and_true] at e
  refine ⟨s, e, ?_⟩
  rw [xn] at hw
  have h47 := hw s.data.toList.length (by simp [DataW.weights])
  rw [Nm.size_list, Lib.toList_data]
  have := reachBytes_lt
  omega
instance : Inhabited Hd := ⟨⟨0, 0, ⟨#[]⟩, none, 0, 0, none, 0, 0, false, none, 0, 0⟩⟩
instance : Inhabited Ex := ⟨.mk 0 0 ⟨#[]⟩ [] [] false []⟩
theorem InX.le {w : World} : ∀ {n m : Nat} {h : Hd} {x : Ex}, InX w n h x → n ≤ m → InX w m h x
  | 0, _, _, _, h, _ => h.elim
  | n + 1, 0, _, _, _, h => absurd h (by omega)
  | n + 1, m + 1, h, .mk op nn s pa ps o ks, ⟨h1, h2, h3, h4, h5, h6, h7, h8⟩, hle =>
    ⟨h1, h2, h3, h4, h5, h6, ⟨h7.count, h7.max, fun i hi => by
      obtain ⟨b, off, y, e, lt, hz, hc, hx, hI⟩ := h7.at_ i hi
      exact ⟨b, off, y, e, lt, hz, hc, hx, hI.le (by omega)⟩⟩, ⟨h8.count, h8.max, fun i hi => by
      obtain ⟨b, off, y, e, lt, hx, hI⟩ := h8.at_ i hi
      exact ⟨b, off, y, e, lt, hx, hI.le (by omega)⟩⟩⟩
set_option maxRecDepth 100000 in
theorem open_paths_w {fuel : Nat} {v : Value} {x : DataW H × List MemPlace} (h : DataW.trod enc Try.prog w base spare held fuel 26 [v] = some x) (hw : Wt 26 x.1) : ∃ (a : Option Addr) (l c : Nat) (pa : List ByteArray), v = .slice a l c ∧ Nm.StrRow w a l pa := by
  obtain ⟨a, l, c, hcs, hm, hby, hel⟩ := slice_cells_w Try.underlying26 cells9 (by decide) h hw
  rw [bytes9] at hby
  simp only [List.cons.injEq, and_true] at hcs
  have one : ∀ i, i < l → ∃ s : ByteArray, ∃ b off, a = some ⟨b, off, none⟩ ∧ b < w.heap.size ∧ w.cell? ⟨b, off + i, none⟩ = some (.string s) ∧ s.size ≤ 140737488355328 := fun i hi => by
    obtain ⟨b, off, n, cs', y, hfu, e, hb, hl, hc, ht, hwy⟩ := hel i hi
    match cs', hl with
    | [u], _ =>
      obtain ⟨s, rfl, hz⟩ := text_w ht hwy
      exact ⟨s, b, off, e, hb, by have := hc 0 (by omega); simpa using this, hz⟩
  have : Inhabited ByteArray := ⟨⟨#[]⟩⟩
  obtain ⟨f, hf⟩ := pick_lt one
  refine ⟨a, l, c, (List.range l).map f, hcs, by simp, by unfold reachBytes at hby; omega, fun i s hs => ?_, fun h0 => ?_⟩
  · obtain ⟨hi, rfl⟩ := List.getElem?_eq_some_iff.1 hs
    have hi' : i < l := by simpa using hi
    obtain ⟨b, off, _, _, _, hz⟩ := hf i hi'
    simpa using hz
  · obtain ⟨b, off, e, hb, _⟩ := hf 0 h0
    refine ⟨b, off, e, hb, fun i s hs => ?_⟩
    obtain ⟨hi, rfl⟩ := List.getElem?_eq_some_iff.1 hs
    have hi' : i < l := by simpa using hi
    obtain ⟨b2, off2, e2, _, hc, _⟩ := hf i hi'
    rw [e] at e2
    injection e2 with e3
    injection e3 with e4 e5
    subst e4 e5
    simpa using hc
theorem hd_at {b o : Nat} {h : Hd} (hc : ∀ j, j < 7 → w.cell? ⟨b, o + j, none⟩ = (h.vals.toList)[j]?) : HdAt w b o h :=
  ⟨hc 0 (by omega), hc 1 (by omega), hc 2 (by omega), hc 3 (by omega), hc 4 (by omega), hc 5 (by omega), hc 6 (by omega)⟩
set_option maxRecDepth 100000 in
theorem open_expr_w : ∀ (fuel : Nat) (cs : List Value) (x : DataW H × List MemPlace), DataW.trod enc Try.prog w base spare held fuel 38 cs = some x → Wt 38 x.1 →
    ∃ (h : Hd) (e : Ex), cs = h.vals.toList ∧ InX w (fuel + 1) h e := by
  intro fuel
  induction fuel using Nat.strongRecOn with
  | _ fuel ih =>
    intro cs x h hwx
    obtain ⟨v0, v1, v2, v3, v4, v5, v6, y0, y1, y2, y3, y4, y5, y6, n, hfu, rfl, hx, h0, h1, h2, h3, h4, h5, h6⟩ := open_agg7 Try.underlying38 (by kernel_rfl) cells103 h
    rw [hx] at hwx
    obtain ⟨op, e0, _, _⟩ := DataW.trod_int Try.underlying3 h0
    obtain ⟨nn, e1, _, _⟩ := DataW.trod_int Try.underlying3 h1
    obtain ⟨s, rfl, hs⟩ := text_w h2 (wt_part Try.underlying38 hwx (i := 2) rfl rfl)
    obtain ⟨p, pl, pc, pa, rfl, hpa⟩ := open_paths_w h3 (wt_part Try.underlying38 hwx (i := 3) rfl rfl)
    obtain ⟨o, e5, _⟩ := DataW.trod_bool Try.underlying4 h5
    simp only [List.cons.injEq, and_true] at e0 e1 e5
    subst e0 e1 e5
    obtain ⟨q, ql, qc, hq, hqm, hqb, hqe⟩ := slice_cells_w Try.underlying35 cells144 (by decide) h4 (wt_part Try.underlying38 hwx (i := 4) rfl rfl)
    obtain ⟨k, kl, kc, hk, hkm, hkb, hke⟩ := slice_cells_w Try.underlying36 cells103 (by decide) h6 (wt_part Try.underlying38 hwx (i := 6) rfl rfl)
    simp only [List.cons.injEq, and_true] at hq hk
    subst hq hk
    rw [bytes144] at hqb
    rw [bytes103] at hkb
    have kid : ∀ i, i < kl → ∃ z : HX, ∃ b off, k = some ⟨b, off, none⟩ ∧ b < w.heap.size ∧ HdAt w b (off + i * 7) z.1 ∧ InX w fuel z.1 z.2 := fun i hi => by
      obtain ⟨b, off, n2, cs', y, hn, e, hb, hl, hc, ht, hwy⟩ := hke i hi
      obtain ⟨h', e', rfl, hI⟩ := ih n2 (by omega) cs' y ht hwy
      exact ⟨(h', e'), b, off, e, hb, hd_at hc, hI.le (by omega)⟩
    have pair : ∀ i, i < ql → ∃ z : ByteArray × HX, ∃ b off, q = some ⟨b, off, none⟩ ∧ b < w.heap.size ∧ z.1.size ≤ 140737488355328 ∧ w.cell? ⟨b, off + i * 8, none⟩ = some (.string z.1) ∧ HdAt w b (off + i * 8 + 1) z.2.1 ∧ InX w fuel z.2.1 z.2.2 := fun i hi => by
      obtain ⟨b, off, n2, cs', y, hn, e, hb, hl, hc, ht, hwy⟩ := hqe i hi
      obtain ⟨ys, n4, hn4, hy2, _, hyl, hg⟩ := DataW.trod_struct Try.underlying69 ht
      match cs', hl with
      | u0 :: cs1, hl =>
        match ys, hyl with
        | [z0, z1], _ =>
          have g0 : DataW.trod enc Try.prog w base spare held n4 9 [u0] = some z0 := by have := hg 0 _ rfl; simpa [cells9] using this
          have hl1 : cs1.length = 7 := by simpa using hl
          have g1 : DataW.trod enc Try.prog w base spare held n4 38 cs1 = some z1 := by
            have h7 : DataW.trod enc Try.prog w base spare held n4 38 (((u0 :: cs1).drop 1).take (Try.prog.cellsOf 38)) = [z0, z1][1]? := hg 1 _ rfl
            have e7 : ((u0 :: cs1).drop 1).take (Try.prog.cellsOf 38) = cs1 := by rw [cells103, List.drop_succ_cons, List.drop_zero, ← hl1, List.take_length]
            rw [e7] at h7
            simpa using h7
          rw [hy2] at hwy
          obtain ⟨nm, rfl, hz⟩ := text_w g0 (wt_part Try.underlying69 hwy (i := 0) rfl rfl)
          obtain ⟨h', e', rfl, hI⟩ := ih n4 (by omega) cs1 z1 g1 (wt_part Try.underlying69 hwy (i := 1) rfl rfl)
          refine ⟨(nm, h', e'), b, off, e, hb, hz, hc 0 (by omega), hd_at fun j hj => ?_, hI.le (by omega)⟩
          have := hc (j + 1) (by omega)
          rw [List.getElem?_cons_succ] at this
          rw [← this]
          congr 2
          omega
    obtain ⟨fk, hfk⟩ := pick_lt (α := HX) kid
    have : Inhabited ByteArray := ⟨⟨#[]⟩⟩
    obtain ⟨fp, hfp⟩ := pick_lt (α := ByteArray × HX) pair
    refine ⟨⟨op, nn, s, p, pl, pc, q, ql, qc, o, k, kl, kc⟩, .mk op nn s pa ((List.range ql).map fun i => ((fp i).1, (fp i).2.2)) o ((List.range kl).map fun i => (fk i).2), rfl, rfl, rfl, rfl, rfl, hs, hpa, ⟨by simp, by show ql ≤ _; unfold reachBytes at hqb; omega, fun i hi => ?_⟩, ⟨by simp, by show kl ≤ _; unfold reachBytes at hkb; omega, fun i hi => ?_⟩⟩
    · have hi' : i < ql := by simpa using hi
      obtain ⟨b, off, e1, e2, e3, e4, e5, e6⟩ := hfp i hi'
      exact ⟨b, off, (fp i).2.1, e1, e2, by simpa using e3, by simpa using e4, e5, by simpa using e6⟩
    · have hi' : i < kl := by simpa using hi
      obtain ⟨b, off, e1, e2, e5, e6⟩ := hfk i hi'
      exact ⟨b, off, (fk i).1, e1, e2, e5, by simpa using e6⟩
set_option maxRecDepth 100000 in
theorem open_x {r : Reach} {b0 : Nat} {v : Value} {d : DataW H} {p : List MemPlace} (hv : Value.okWide Try.prog w r b0 38 v) (h : DataW.Trod enc Try.prog w base spare held 38 v d p) (hw : Wt 38 d) :
    ∃ (h : Hd) (n : Nat) (e : Ex), v = h.agg ∧ InX w n h e := by
  obtain ⟨cs, rfl, hsz⟩ := okWide_struct Try.underlying38 hv
  obtain ⟨fuel, hf⟩ := h
  obtain ⟨l⟩ := cs
  obtain ⟨h', e', hc, hI⟩ := open_expr_w fuel _ _ hf hw
  refine ⟨h', _, e', ?_, hI⟩
  simp only [Value.cells] at hc
  subst hc
  rfl
open Gr in
instance : Inhabited Nd := ⟨⟨⟨#[]⟩, false, []⟩⟩
open Gr in
theorem InKs.le {w : World} {n m : Nat} {a : Option Addr} {l : Nat} {ks : List Ex} (h : InKs (InX w n) w a l ks) (hle : n ≤ m) : InKs (InX w m) w a l ks :=
  ⟨h.count, h.max, fun i hi => by
    obtain ⟨b, off, y, e, lt, hx, hI⟩ := h.at_ i hi
    exact ⟨b, off, y, e, lt, hx, hI.le hle⟩⟩
set_option maxRecDepth 100000 in
theorem open_exprs_w {fuel : Nat} {v : Value} {x : DataW H × List MemPlace} (h : DataW.trod enc Try.prog w base spare held fuel 36 [v] = some x) (hw : Wt 36 x.1) : ∃ (a : Option Addr) (l c : Nat) (ks : List Ex), v = .slice a l c ∧ InKs (InX w fuel) w a l ks := by
  obtain ⟨k, kl, kc, hk, hkm, hkb, hke⟩ := slice_cells_w Try.underlying36 cells103 (by decide) h hw
  rw [bytes103] at hkb
  simp only [List.cons.injEq, and_true] at hk
  subst hk
  have kid : ∀ i, i < kl → ∃ z : HX, ∃ b off, k = some ⟨b, off, none⟩ ∧ b < w.heap.size ∧ HdAt w b (off + i * 7) z.1 ∧ InX w fuel z.1 z.2 := fun i hi => by
    obtain ⟨b, off, n2, cs', y, hn, e, hb, hl, hc, ht, hwy⟩ := hke i hi
    obtain ⟨h', e', rfl, hI⟩ := open_expr_w n2 cs' y ht hwy
    exact ⟨(h', e'), b, off, e, hb, hd_at hc, hI.le (by omega)⟩
  obtain ⟨fk, hfk⟩ := pick_lt (α := HX) kid
  refine ⟨k, kl, kc, (List.range kl).map fun i => (fk i).2, rfl, by simp, by show kl ≤ _; unfold reachBytes at hkb; omega, fun i hi => ?_⟩
  have hi' : i < kl := by simpa using hi
  obtain ⟨b, off, e1, e2, e5, e6⟩ := hfk i hi'
  exact ⟨b, off, (fk i).1, e1, e2, e5, by simpa using e6⟩
theorem cells67 : Try.prog.cellsOf 40 = 3 := by kernel_rfl
theorem cells65 : Try.prog.cellsOf 36 = 1 := by kernel_rfl
theorem cells4 : Try.prog.cellsOf 4 = 1 := by kernel_rfl
theorem bytes67 : Try.prog.bytesOf 40 = 48 := by kernel_rfl
open Gr in
set_option maxRecDepth 100000 in
/-- A list of nodes that came in. -/
theorem open_nodes {r : Reach} {b0 : Nat} {v : Value} {d : DataW H} {p : List MemPlace} (hv : Value.okWide Try.prog w r b0 29 v) (h : DataW.Trod enc Try.prog w base spare held 29 v d p) (hw : Wt 29 d) :
    ∃ (a : Option Addr) (l c n : Nat) (xs : List Nd), v = .slice a l c ∧ NodeRow w n a l xs := by
  obtain ⟨fuel, hf⟩ := h
  obtain ⟨a, l, c, hcs, hm, hby, hel⟩ := slice_cells_w Try.underlying29 cells67 (by decide) hf hw
  rw [bytes67] at hby
  have one : ∀ i, i < l → ∃ z : Nd, ∃ b off, a = some ⟨b, off, none⟩ ∧ b < w.heap.size ∧ ∃ a' dl dc, NdAt w fuel b (off + i * 3) a' dl dc z := fun i hi => by
    obtain ⟨b, off, n2, cs', y, hn, e, hb, hl, hc, ht, hwy⟩ := hel i hi
    obtain ⟨ys, n4, hn4, hy2, _, hyl, hg⟩ := DataW.trod_struct Try.underlying40 ht
    match cs', hl with
    | [u0, u1, u2], _ =>
      match ys, hyl with
      | [z0, z1, z2], _ =>
        have g0 : DataW.trod enc Try.prog w base spare held n4 9 [u0] = some z0 := by have := hg 0 _ rfl; simpa [cells9] using this
        have g1 : DataW.trod enc Try.prog w base spare held n4 4 [u1] = some z1 := by have := hg 1 _ rfl; simpa [cells9, cells4] using this
        have g2 : DataW.trod enc Try.prog w base spare held n4 36 [u2] = some z2 := by have := hg 2 _ rfl; simpa [cells9, cells4, cells65] using this
        rw [hy2] at hwy
        obtain ⟨nm, rfl, hz⟩ := text_w g0 (wt_part Try.underlying40 hwy (i := 0) rfl rfl)
        obtain ⟨o, e1, _⟩ := DataW.trod_bool Try.underlying4 g1
        simp only [List.cons.injEq, and_true] at e1
        subst e1
        obtain ⟨a', dl, dc, ks, rfl, hks⟩ := open_exprs_w g2 (wt_part Try.underlying40 hwy (i := 2) rfl rfl)
        exact ⟨⟨nm, o, ks⟩, b, off, e, hb, a', dl, dc, ⟨hc 0 (by omega), hc 1 (by omega), hc 2 (by omega), hz, hks.le (by omega)⟩⟩
  obtain ⟨f, hfn⟩ := pick_lt one
  have hcs' : v = .slice a l c := by
    obtain ⟨a', l', c', rfl⟩ := okWide_slice Try.underlying29 hv
    simpa [Value.cells] using hcs
  refine ⟨a, l, c, fuel, (List.range l).map f, hcs', by simp, by unfold reachBytes at hby; omega, fun h0 => ?_⟩
  obtain ⟨b, off, e, hb, _⟩ := hfn 0 h0
  refine ⟨b, off, e, hb, fun i x hx => ?_⟩
  obtain ⟨hi, rfl⟩ := List.getElem?_eq_some_iff.1 hx
  have hi' : i < l := by simpa using hi
  obtain ⟨b2, off2, e2, _, a', dl, dc, hN⟩ := hfn i hi'
  rw [e] at e2
  injection e2 with e3
  injection e3 with e4 e5
  subst e4 e5
  exact ⟨a', dl, dc, by simpa using hN⟩
end
end Go.Proofs.Ytngnegnofmpgkaa
