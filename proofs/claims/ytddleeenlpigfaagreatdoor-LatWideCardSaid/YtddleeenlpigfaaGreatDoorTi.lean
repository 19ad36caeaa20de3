/- WALK of the reference's both: what it stands on. -/
import Derived.Test.YtddleeenlpigfaaGreatDoorTh
namespace Go.Proofs.YtddleeenlpigfaaGreatDoor
open Go.RowKit
/-- A term's box of the call's own. -/
structure Bo (w : World) (N : Nat) (k lo hi : Int) (s : ByteArray) (y m o : Bool) (f : Option Addr) (fl fc : Nat) : Prop where
  lt : N < w.heap.size
  c : Tc w N k lo hi s y m o f fl fc
  fz : ∀ i, w.frozen? ⟨N, i, none⟩ = false
theorem Bo.later {w w' : World} {N : Nat} {k lo hi : Int} {s : ByteArray} {y m o : Bool} {f : Option Addr} {fl fc : Nat} (h : Bo w N k lo hi s y m o f fl fc) (hb : Below w.heap.size w w') : Bo w' N k lo hi s y m o f fl fc :=
  ⟨Nat.lt_of_lt_of_le h.lt hb.size, h.c.later hb h.lt, fun i => (hb.frozen (p := ⟨N, i, none⟩) h.lt).trans (h.fz i)⟩
theorem Bo.new (w : World) (k lo hi : Int) (s : ByteArray) (y m o : Bool) (f : Option Addr) (fl fc : Nat) : Bo (w.alloc (.cells #[.int .i64 k, .int .i64 lo, .int .i64 hi, .string s, .bool y, .bool m, .bool o, .slice f fl fc] 31)) w.heap.size k lo hi s y m o f fl fc :=
  ⟨new_lt, Tc.new w k lo hi s y m o f fl fc, fun i => by simp [go_sem]⟩
theorem Bo.new1 (w : World) (O : Obj) (k lo hi : Int) (s : ByteArray) (y m o : Bool) (f : Option Addr) (fl fc : Nat) : Bo ((w.alloc O).alloc (.cells #[.int .i64 k, .int .i64 lo, .int .i64 hi, .string s, .bool y, .bool m, .bool o, .slice f fl fc] 31)) (w.heap.size + 1) k lo hi s y m o f fl fc := by
  have h := Bo.new (w.alloc O) k lo hi s y m o f fl fc
  rw [show (w.alloc O).heap.size = w.heap.size + 1 by simp] at h
  exact h
/-- A slice's box. -/
def Bv (w : World) (N : Nat) (t : Option Addr) (tl tc : Nat) : Prop := N < w.heap.size ∧ w.cell? ⟨N, 0, none⟩ = some (.slice t tl tc) ∧ w.frozen? ⟨N, 0, none⟩ = false
theorem Bv.later {w w' : World} {N : Nat} {t : Option Addr} {tl tc : Nat} (h : Bv w N t tl tc) (hb : Below w.heap.size w w') : Bv w' N t tl tc := ⟨Nat.lt_of_lt_of_le h.1 hb.size, (hb.cell (p := ⟨N, 0, none⟩) h.1).trans h.2.1, (hb.frozen (p := ⟨N, 0, none⟩) h.1).trans h.2.2⟩
theorem Bv.new (w : World) (t : Option Addr) (tl tc : Nat) (ty : TypeId) : Bv (w.alloc (.cells #[.slice t tl tc] ty)) w.heap.size t tl tc := ⟨by simp, by simp [go_sem], by simp [go_sem]⟩
/-- A term written whole. -/
theorem set8 {W : World} {g : Nat} {k lo hi : Int} {s : ByteArray} {y m o : Bool} {f : Option Addr} {fl fc : Nat} (h : Bo W g k lo hi s y m o f fl fc) (v0 v1 v2 v3 v4 v5 v6 v7 : Value) :
    ((((((((W.setCell ⟨g, 0, none⟩ v0).setCell ⟨g, 1, none⟩ v1).setCell ⟨g, 2, none⟩ v2).setCell ⟨g, 3, none⟩ v3).setCell ⟨g, 4, none⟩ v4).setCell ⟨g, 5, none⟩ v5).setCell ⟨g, 6, none⟩ v6).setCell ⟨g, 7, none⟩ v7).cell? ⟨g, 0, none⟩ = some v0 ∧
    ((((((((W.setCell ⟨g, 0, none⟩ v0).setCell ⟨g, 1, none⟩ v1).setCell ⟨g, 2, none⟩ v2).setCell ⟨g, 3, none⟩ v3).setCell ⟨g, 4, none⟩ v4).setCell ⟨g, 5, none⟩ v5).setCell ⟨g, 6, none⟩ v6).setCell ⟨g, 7, none⟩ v7).cell? ⟨g, 1, none⟩ = some v1 ∧
    ((((((((W.setCell ⟨g, 0, none⟩ v0).setCell ⟨g, 1, none⟩ v1).setCell ⟨g, 2, none⟩ v2).setCell ⟨g, 3, none⟩ v3).setCell ⟨g, 4, none⟩ v4).setCell ⟨g, 5, none⟩ v5).setCell ⟨g, 6, none⟩ v6).setCell ⟨g, 7, none⟩ v7).cell? ⟨g, 2, none⟩ = some v2 ∧
    ((((((((W.setCell ⟨g, 0, none⟩ v0).setCell ⟨g, 1, none⟩ v1).setCell ⟨g, 2, none⟩ v2).setCell ⟨g, 3, none⟩ v3).setCell ⟨g, 4, none⟩ v4).setCell ⟨g, 5, none⟩ v5).setCell ⟨g, 6, none⟩ v6).setCell ⟨g, 7, none⟩ v7).cell? ⟨g, 3, none⟩ = some v3 ∧
    ((((((((W.setCell ⟨g, 0, none⟩ v0).setCell ⟨g, 1, none⟩ v1).setCell ⟨g, 2, none⟩ v2).setCell ⟨g, 3, none⟩ v3).setCell ⟨g, 4, none⟩ v4).setCell ⟨g, 5, none⟩ v5).setCell ⟨g, 6, none⟩ v6).setCell ⟨g, 7, none⟩ v7).cell? ⟨g, 4, none⟩ = some v4 ∧
    ((((((((W.setCell ⟨g, 0, none⟩ v0).setCell ⟨g, 1, none⟩ v1).setCell ⟨g, 2, none⟩ v2).setCell ⟨g, 3, none⟩ v3).setCell ⟨g, 4, none⟩ v4).setCell ⟨g, 5, none⟩ v5).setCell ⟨g, 6, none⟩ v6).setCell ⟨g, 7, none⟩ v7).cell? ⟨g, 5, none⟩ = some v5 ∧
    ((((((((W.setCell ⟨g, 0, none⟩ v0).setCell ⟨g, 1, none⟩ v1).setCell ⟨g, 2, none⟩ v2).setCell ⟨g, 3, none⟩ v3).setCell ⟨g, 4, none⟩ v4).setCell ⟨g, 5, none⟩ v5).setCell ⟨g, 6, none⟩ v6).setCell ⟨g, 7, none⟩ v7).cell? ⟨g, 6, none⟩ = some v6 ∧
    ((((((((W.setCell ⟨g, 0, none⟩ v0).setCell ⟨g, 1, none⟩ v1).setCell ⟨g, 2, none⟩ v2).setCell ⟨g, 3, none⟩ v3).setCell ⟨g, 4, none⟩ v4).setCell ⟨g, 5, none⟩ v5).setCell ⟨g, 6, none⟩ v6).setCell ⟨g, 7, none⟩ v7).cell? ⟨g, 7, none⟩ = some v7 := by
  obtain ⟨-, ⟨c0, c1, c2, c3, c4, c5, c6, c7⟩, -⟩ := h
  have far : ∀ (w : World) (p q : Nat) (v : Value), q ≠ p → (w.setCell ⟨g, p, none⟩ v).cell? ⟨g, q, none⟩ = w.cell? ⟨g, q, none⟩ := fun w p q v hn => set_far (.inr hn)
  refine ⟨?_, ?_, ?_, ?_, ?_, ?_, ?_, ?_⟩
  · rw [far _ _ _ _ (by decide), far _ _ _ _ (by decide), far _ _ _ _ (by decide), far _ _ _ _ (by decide), far _ _ _ _ (by decide), far _ _ _ _ (by decide), far _ _ _ _ (by decide)]; exact set_here (by rw [c0])
  · rw [far _ _ _ _ (by decide), far _ _ _ _ (by decide), far _ _ _ _ (by decide), far _ _ _ _ (by decide), far _ _ _ _ (by decide), far _ _ _ _ (by decide)]; exact set_here (by rw [far _ _ _ _ (by decide), c1])
  · rw [far _ _ _ _ (by decide), far _ _ _ _ (by decide), far _ _ _ _ (by decide), far _ _ _ _ (by decide), far _ _ _ _ (by decide)]; exact set_here (by rw [far _ _ _ _ (by decide), far _ _ _ _ (by decide), c2])
  · rw [far _ _ _ _ (by decide), far _ _ _ _ (by decide), far _ _ _ _ (by decide), far _ _ _ _ (by decide)]; exact set_here (by rw [far _ _ _ _ (by decide), far _ _ _ _ (by decide), far _ _ _ _ (by decide), c3])
  · rw [far _ _ _ _ (by decide), far _ _ _ _ (by decide), far _ _ _ _ (by decide)]; exact set_here (by rw [far _ _ _ _ (by decide), far _ _ _ _ (by decide), far _ _ _ _ (by decide), far _ _ _ _ (by decide), c4])
  · rw [far _ _ _ _ (by decide), far _ _ _ _ (by decide)]; exact set_here (by rw [far _ _ _ _ (by decide), far _ _ _ _ (by decide), far _ _ _ _ (by decide), far _ _ _ _ (by decide), far _ _ _ _ (by decide), c5])
  · rw [far _ _ _ _ (by decide)]; exact set_here (by rw [far _ _ _ _ (by decide), far _ _ _ _ (by decide), far _ _ _ _ (by decide), far _ _ _ _ (by decide), far _ _ _ _ (by decide), far _ _ _ _ (by decide), c6])
  · exact set_here (by rw [far _ _ _ _ (by decide), far _ _ _ _ (by decide), far _ _ _ _ (by decide), far _ _ _ _ (by decide), far _ _ _ _ (by decide), far _ _ _ _ (by decide), far _ _ _ _ (by decide), c7])
theorem bl_set8 {w W : World} {g : Nat} {v0 v1 v2 v3 v4 v5 v6 v7 : Value} (h : Below w.heap.size w W) (hg : w.heap.size ≤ g) : Below w.heap.size w ((((((((W.setCell ⟨g, 0, none⟩ v0).setCell ⟨g, 1, none⟩ v1).setCell ⟨g, 2, none⟩ v2).setCell ⟨g, 3, none⟩ v3).setCell ⟨g, 4, none⟩ v4).setCell ⟨g, 5, none⟩ v5).setCell ⟨g, 6, none⟩ v6).setCell ⟨g, 7, none⟩ v7) :=
  bl_set (bl_set (bl_set (bl_set (bl_set (bl_set (bl_set (bl_set h hg) hg) hg) hg) hg) hg) hg) hg
/-- The reference's In, one level down. -/
def RiH (n : Nat) : Prop := ∀ (P : Nat → Prop) (W : World) (t : Option Addr) (tl tc : Nat) (A : List Tm) (t2 : Option Addr) (tl2 tc2 : Nat) (B : List Tm), (∀ b, P b → b < W.heap.size) → InVP P W n t tl tc A → InVP P W n t2 tl2 tc2 B → Rw n A → Rw n B →
  Calls Tryz.prog 54 #[.agg #[.slice t tl tc], .agg #[.slice t2 tl2 tc2]] W (MeP P n (meetV n A B) W)
/-- What both answers. -/
def BoP (P : Nat → Prop) (n : Nat) (r : Int × List Tm) (w : World) (e : Ending) (w' : World) : Prop :=
  ∃ (ok : Bool) (c : Hr), e = .returned (.tuple #[c.v, .bool ok, .int .i64 r.1]) ∧ Below w.heap.size w w' ∧ (ok = true → r = (0, [c.x]) ∧ c.okP (fun b => P b ∨ w.heap.size ≤ b) n w') ∧ (ok = false → r.2 = [])
theorem insF_len {f : Fd} : ∀ {l : List Fd}, (insF f l).length = l.length + 1
  | [] => rfl
  | x :: l => by
    unfold insF
    split
    · rfl
    · rw [List.length_cons, insF_len, List.length_cons]
theorem fold_len {fs : List Fd} : ∀ {l : List Fd}, (l.foldr insF fs).length = l.length + fs.length
  | [] => by simp
  | x :: l => by rw [List.foldr_cons, insF_len, fold_len, List.length_cons]; omega
theorem uni_len {fs gs : List Fd} : (uni fs gs).length ≤ fs.length + gs.length := by
  unfold uni
  rw [fold_len]
  have := List.length_filter_le (fun g : Fd => (findF fs g.1).isNone) gs
  omega
theorem uni_find {fs gs : List Fd} (u1 : Up fs) (u2 : Up gs) {f : Fd} (hf : f ∈ uni fs gs) : (findF fs f.1 = none → findF gs f.1 = some f.2) ∧ ∀ V, findF fs f.1 = some V → V = f.2 := by
  refine ⟨fun h => ?_, fun V h => ?_⟩
  · rcases uni_mem.1 hf with h1 | ⟨h1, -⟩
    · obtain ⟨V, hV⟩ := find_has h1
      rw [h] at hV; cases hV
    · exact (findF_up u2).2 h1
  · rcases uni_mem.1 hf with h1 | ⟨-, h1⟩
    · have := (findF_up u1).2 (show (f.1, f.2) ∈ fs from h1)
      rw [h] at this; exact Option.some.inj this
    · rw [h] at h1; cases h1
theorem encF_one (h : Fh) : ∀ v ∈ h.enc, v.oneCell' = true := fun v hv => by
  simp only [Fh.enc, List.mem_cons, List.not_mem_nil, or_false] at hv
  rcases hv with rfl | rfl <;> rfl
/-- One field's header more. -/
theorem OwnFh.append {w : World} {B : Nat} {u : Value} {L : List Fh} (ho : OwnFh w B u L) (hby : (L.length + 1) * 40 ≤ 140737488355328) (hB : B ≤ w.heap.size) (h : Fh) :
    ∃ (g cap : Nat) (w4 : World), (Builtin.append_ #[29, 29] 29 #[u, .slice (some ⟨w.heap.size, 0, none⟩) 1 1]).run Tryz.prog (w.alloc (.cells h.enc.toArray 59)) = .ok (.slice (some ⟨g, 0, none⟩) (L.length + 1) cap) w4 ∧ Below B w w4 ∧ OwnFh w4 B (.slice (some ⟨g, 0, none⟩) (L.length + 1) cap) (L ++ [h]) ∧
      (∀ b, b < w.heap.size → u.ownBlock ≠ some b → w4.heap[b]? = w.heap[b]?) ∧ (u.ownBlock = some g ∨ w.heap.size ≤ g) ∧ w.heap.size ≤ w4.heap.size := by
  obtain ⟨i0, hi, hx⟩ := Option.map_eq_some_iff.1 info59'
  simp only [Prod.mk.injEq] at hx
  obtain ⟨hz0, hz1, hz2⟩ := hx
  have ha := bl_alloc (o := .cells h.enc.toArray 59) (Below.refl w.heap.size w)
  obtain ⟨g, cap, w4, hap, hown, hgrow, hloc, hlt⟩ := run_append_lies (P := Tryz.prog) (w.alloc (.cells h.enc.toArray 59)) 29 29 B 59 i0 _ 2 40 Tryz.underlying29 hi hz0 hz1 hz2 rfl (by omega) u L.length (L.map Fh.enc).flatten (owns_below ho ha)
    ⟨w.heap.size, 0, none⟩ 1 1 h.enc (encF_len h) (World.news_of_block (cs := h.enc.toArray) (t := 59) (fr := (0, 0)) (heap_new w _)) (encF_one h) (by omega) (by unfold maxLen; omega) hby (by simp; omega) (w.heap.size + 1) (by simp)
  refine ⟨g, cap, w4, hap, (ha.mono hB).trans ((Below.refl B _).grown hgrow (by simp; omega) (fun k hk => (ho.lt k hk).1)), ?_, fun b hb hne => ?_, ?_, ?_⟩
  · unfold OwnFh
    rw [List.map_append, List.flatten_append, List.length_append]
    simpa using hown
  · rw [hgrow.block b (by simp; omega) (fun e => hne e.symm)]
    exact ha.block b hb
  · rcases hloc with h | h
    · exact .inl h
    · exact .inr (by omega)
  · have := hgrow.size; simp at this; omega
/-- Between two names of both. -/
structure BI (P : Nat → Prop) (n B : Nat) (wr : World) (u : Value) (c : List Fh) (fs gs U : List Fd) (j : Nat) : Prop where
  own : OwnFh wr B u c
  ok : ∀ h ∈ c, h.ok fun t tl tc V => InVP (fun b => P b ∨ (B ≤ b ∧ u.ownBlock ≠ some b)) wr n t tl tc V
  len : c.length = j
  res : ∀ q (h : q < c.length) (h' : q < U.length), cm1 (meetV n) fs gs U[q] = (0, some c[q].f)
theorem BI.zero (P : Nat → Prop) (n B : Nat) (wr : World) (fs gs U : List Fd) : BI P n B wr (.slice none 0 0) [] fs gs U 0 := ⟨OwnFh.nil _ _, fun h hh => absurd hh (by simp), rfl, fun q h => absurd h (Nat.not_lt_zero _)⟩
theorem BI.below {P : Nat → Prop} {n B : Nat} {wr w' : World} {u : Value} {c : List Fh} {fs gs U : List Fd} {j : Nat} (h : BI P n B wr u c fs gs U j) (hb : Below wr.heap.size wr w') : BI P n B w' u c fs gs U j :=
  ⟨h.own.below hb, fun z hz => InVP.below hb (h.ok z hz), h.len, h.res⟩
/-- A box that lies below the row, and is no argument's, is written. -/
theorem BI.set {P : Nat → Prop} {n B : Nat} {wr : World} {u : Value} {c : List Fh} {fs gs U : List Fd} {j T o : Nat} {v : Value} (h : BI P n B wr u c fs gs U j) (hT : T < B) (hP : ¬ P T) : BI P n B (wr.setCell ⟨T, o, none⟩ v) u c fs gs U j :=
  ⟨owns_set h.own hT, fun z hz => InVP.to (Nat.le_of_eq set_size.symm) (fun b hb _ => ⟨hb, Below.heap_setCell _ _ _ _ (by show b ≠ T; rintro rfl; rcases hb with hb | hb; exact hP hb; omega)⟩) (h.ok z hz), h.len, h.res⟩
theorem BI.add {P : Nat → Prop} {n B : Nat} {wr : World} {u : Value} {c : List Fh} {fs gs U : List Fd} {j : Nat} (h : BI P n B wr u c fs gs U j) (hP : ∀ b, P b → b < B) (hj : j < U.length) {z : Fh} (hc : cm1 (meetV n) fs gs U[j] = (0, some z.f)) (hz : InVP (fun b => P b ∨ (B ≤ b ∧ u.ownBlock ≠ some b)) wr n z.t z.tl z.tc z.V)
    {w4 : World} {g cap : Nat} (ho : OwnFh w4 B (.slice (some ⟨g, 0, none⟩) (c.length + 1) cap) (c ++ [z])) (hk : ∀ b, b < wr.heap.size → u.ownBlock ≠ some b → w4.heap[b]? = wr.heap[b]?) (hg : u.ownBlock = some g ∨ wr.heap.size ≤ g) (hs : wr.heap.size ≤ w4.heap.size) :
    BI P n B w4 (.slice (some ⟨g, 0, none⟩) (c.length + 1) cap) (c ++ [z]) fs gs U (j + 1) := by
  have keep : ∀ b, (P b ∨ (B ≤ b ∧ u.ownBlock ≠ some b)) → b < wr.heap.size → (P b ∨ (B ≤ b ∧ (Value.slice (some ⟨g, 0, none⟩) (c.length + 1) cap).ownBlock ≠ some b)) ∧ w4.heap[b]? = wr.heap[b]? := fun b hb lt => by
    have hne : u.ownBlock ≠ some b := by
      rcases hb with hb | hb
      · intro e
        have h1 := (h.own.lt _ e).1
        have h2 := hP b hb
        omega
      · exact hb.2
    refine ⟨hb.imp id fun hb => ⟨hb.1, fun e => ?_⟩, hk b lt hne⟩
    simp only [Value.ownBlock, Option.some.injEq] at e
    subst e
    rcases hg with hg | hg
    · exact hb.2 hg
    · omega
  refine ⟨ho, fun x hx => ?_, by rw [List.length_append, h.len]; rfl, fun q hq hq' => ?_⟩
  · rcases List.mem_append.1 hx with hx | hx
    · exact InVP.to hs keep (h.ok x hx)
    · rw [List.mem_singleton.1 hx]; exact InVP.to hs keep hz
  · by_cases e : q < c.length
    · rw [List.getElem_append_left e]; exact h.res q e hq'
    · have e2 : q = c.length := by rw [List.length_append] at hq; simp at hq; omega
      subst e2
      rw [List.getElem_concat_length rfl]
      have := h.len
      subst this
      exact hc
theorem BI.inF {P : Nat → Prop} {n B : Nat} {w wr : World} {a : Option Addr} {l cap : Nat} {c : List Fh} {fs gs U : List Fd} {j : Nat} (h : BI P n B wr (.slice a l cap) c fs gs U j) (hB : w.heap.size ≤ B) (hz : (c.length : Int) ≤ 9223372036854775807) : l = c.length ∧ InFP (fun b => P b ∨ w.heap.size ≤ b) (fun t tl tc V => InVP (fun b => P b ∨ w.heap.size ≤ b) wr n t tl tc V) wr a c.length (c.map Fh.f) := by
  obtain ⟨a', cap', e, hrow⟩ := h.own.row
  cases e
  refine ⟨rfl, by rw [List.length_map], hz, fun i hi => ?_⟩
  have hi' : i < c.length := by simpa using hi
  rcases hrow with h0 | ⟨g, e, hg, hr⟩
  · rw [h0] at hi'; exact absurd hi' (by simp)
  · obtain ⟨r0, r1⟩ := hr.2.2 i hi'
    simp only [List.getElem_map]
    exact ⟨g, 0, c[i].tl, c[i].tc, c[i].t, e, .inr (by omega), hr.1, by rw [Nat.zero_add]; exact r0, by rw [Nat.zero_add]; exact r1, InVP.imp (fun b hb _ => hb.elim .inl (fun hb => .inr (by omega))) (h.ok _ (List.getElem_mem hi'))⟩
theorem Bo.keep {w w' : World} {B N : Nat} {k lo hi : Int} {s : ByteArray} {y m o : Bool} {f : Option Addr} {fl fc : Nat} (h : Bo w N k lo hi s y m o f fl fc) (hb : Below B w w') (hN : N < B) (hs : w.heap.size ≤ w'.heap.size) : Bo w' N k lo hi s y m o f fl fc := by
  obtain ⟨lt, ⟨c0, c1, c2, c3, c4, c5, c6, c7⟩, fz⟩ := h
  have e : ∀ i, w'.cell? ⟨N, i, none⟩ = w.cell? ⟨N, i, none⟩ := fun i => hb.cell (p := ⟨N, i, none⟩) hN
  exact ⟨Nat.lt_of_lt_of_le lt hs, ⟨(e 0).trans c0, (e 1).trans c1, (e 2).trans c2, (e 3).trans c3, (e 4).trans c4, (e 5).trans c5, (e 6).trans c6, (e 7).trans c7⟩, fun i => (hb.frozen (p := ⟨N, i, none⟩) hN).trans (fz i)⟩
theorem Bo.set7 {w : World} {N : Nat} {k lo hi : Int} {s : ByteArray} {y m o : Bool} {f : Option Addr} {fl fc : Nat} (h : Bo w N k lo hi s y m o f fl fc) (f' : Option Addr) (fl' fc' : Nat) : Bo (w.setCell ⟨N, 7, none⟩ (.slice f' fl' fc')) N k lo hi s y m o f' fl' fc' := by
  obtain ⟨lt, ⟨c0, c1, c2, c3, c4, c5, c6, c7⟩, fz⟩ := h
  have far : ∀ q, q ≠ 7 → (w.setCell ⟨N, 7, none⟩ (.slice f' fl' fc')).cell? ⟨N, q, none⟩ = w.cell? ⟨N, q, none⟩ := fun q hn => set_far (.inr hn)
  exact ⟨by rw [set_size]; exact lt, ⟨(far 0 (by decide)).trans c0, (far 1 (by decide)).trans c1, (far 2 (by decide)).trans c2, (far 3 (by decide)).trans c3, (far 4 (by decide)).trans c4, (far 5 (by decide)).trans c5, (far 6 (by decide)).trans c6, set_here c7⟩, fun i => by rw [World.frozen?_setCell]; exact fz i⟩
/-- Something is lacking at a name. -/
def LackU (xo yo : Bool) (fs gs : List Fd) (f : Fd) : Prop := (findF fs f.1 = none ∧ xo = false) ∨ (findF gs f.1 = none ∧ yo = false)
theorem comS_lack {g : List Tm → List Tm → Int × List Tm} {s t : Tm} {f : Fd} (hf : f ∈ uni s.fs t.fs) (h : LackU s.o t.o s.fs t.fs f) : comS g s t = (0, []) := by
  unfold comS
  rw [if_pos]
  rcases h with ⟨h1, h2⟩ | ⟨h1, h2⟩
  · have : lacksF s.fs t.fs = true := lacks_iff.2 ⟨f, (by
      rcases uni_mem.1 hf with h | h
      · obtain ⟨V, hV⟩ := find_has h
        rw [h1] at hV; cases hV
      · exact h.1), h1⟩
    rw [this, h2]; rfl
  · have : lacksF t.fs s.fs = true := lacks_iff.2 ⟨f, (by
      rcases uni_mem.1 hf with h | h
      · exact h
      · obtain ⟨V, hV⟩ := find_has h.1
        rw [h1] at hV; cases hV), h1⟩
    rw [this, h2]; simp
theorem comS_fine {g : List Tm → List Tm → Int × List Tm} {s t : Tm} (h : ∀ f ∈ uni s.fs t.fs, ¬ LackU s.o t.o s.fs t.fs f) : comS g s t = match cmL g s.fs t.fs (uni s.fs t.fs) with
    | (e, none) => (e, [])
    | (_, some l) => if 32 < l.length then (30, []) else (0, [.mk 4 0 0 ⟨#[]⟩ false false (s.o && t.o) l]) := by
  have key : ¬ ((!s.o && lacksF s.fs t.fs) || (!t.o && lacksF t.fs s.fs)) = true := ?_
  · unfold comS
    rw [if_neg key]
    rfl
  intro hc
  rw [Bool.or_eq_true, Bool.and_eq_true, Bool.and_eq_true, Bool.not_eq_true', Bool.not_eq_true'] at hc
  rcases hc with ⟨h1, h2⟩ | ⟨h1, h2⟩
  · obtain ⟨f, hf, hn⟩ := lacks_iff.1 h2
    exact h f (uni_mem.2 (.inr ⟨hf, hn⟩)) (.inl ⟨hn, h1⟩)
  · obtain ⟨f, hf, hn⟩ := lacks_iff.1 h2
    exact h f (uni_left hf) (.inr ⟨hn, h1⟩)
theorem BoP.no {P : Nat → Prop} {n : Nat} {r : Int × List Tm} {w w' : World} {E : Int} (hr : r = (E, [])) (hb : Below w.heap.size w w') : BoP P n r w (.returned (.tuple #[.agg #[.int .i64 0, .int .i64 0, .int .i64 0, .string ⟨#[]⟩, .bool false, .bool false, .bool false, .slice none 0 0], .bool false, .int .i64 E])) w' := by
  subst hr
  exact ⟨false, ⟨.mk 0 0 0 ⟨#[]⟩ false false false [], none, 0, 0⟩, rfl, hb, fun h => absurd h (by decide), fun _ => rfl⟩
/-- The facts of the walk that no world changes. -/
structure BF (g : List Tm → List Tm → Int × List Tm) (xo yo : Bool) (fs gs U : List Fd) (r : Int × List Tm) : Prop where
  u : U.length ≤ 64
  ne : ∀ j (h : j < U.length), nmAt U j = U[j].1 ∧ U[j].1.toList ≠ []
  fd : ∀ j (h : j < U.length), (findF fs U[j].1 = none → findF gs U[j].1 = some U[j].2) ∧ ∀ V, findF fs U[j].1 = some V → V = U[j].2
  lack : ∀ j (h : j < U.length), LackU xo yo fs gs U[j] → r = (0, [])
  bad : (∀ j (h : j < U.length), ¬ LackU xo yo fs gs U[j]) → ∀ (c : List Fh) (e : Int) (hl : c.length < U.length), (∀ q (h : q < c.length) (h' : q < U.length), cm1 g fs gs U[q] = (0, some c[q].f)) → cm1 g fs gs U[c.length] = (e, none) → r = (e, [])
  fine : (∀ j (h : j < U.length), ¬ LackU xo yo fs gs U[j]) → ∀ (c : List Fh), c.length = U.length → (∀ q (h : q < c.length) (h' : q < U.length), cm1 g fs gs U[q] = (0, some c[q].f)) → r = if 32 < c.length then (30, []) else (0, [.mk 4 0 0 ⟨#[]⟩ false false (xo && yo) (c.map Fh.f)])
theorem bf_of {g : List Tm → List Tm → Int × List Tm} {s t : Tm} (u1 : Up s.fs) (u2 : Up t.fs) (l1 : s.fs.length ≤ 32) (l2 : t.fs.length ≤ 32) (n1 : ∀ f ∈ s.fs, f.1.toList ≠ []) (n2 : ∀ f ∈ t.fs, f.1.toList ≠ []) : BF g s.o t.o s.fs t.fs (uni s.fs t.fs) (comS g s t) where
  u := Nat.le_trans uni_len (by omega)
  ne := fun j h => ⟨dif_pos h, by
    rcases uni_mem.1 (List.getElem_mem h) with h1 | h1
    · exact n1 _ h1
    · exact n2 _ h1.1⟩
  fd := fun j h => uni_find u1 u2 (List.getElem_mem h)
  lack := fun j h hl => comS_lack (List.getElem_mem h) hl
  bad := fun hn c e hl hh h1 => by
    rw [comS_fine (fun f hf => by obtain ⟨j, hj, rfl⟩ := List.getElem_of_mem hf; exact hn j hj), cmL_bad hl (fun j hj hjc => ⟨_, hh j hjc hj⟩) h1]
  fine := fun hn c hl hh => by
    rw [comS_fine (fun f hf => by obtain ⟨j, hj, rfl⟩ := List.getElem_of_mem hf; exact hn j hj), cmL_ok (l' := c.map Fh.f) (by rw [List.length_map, hl]) (fun j hj hj' => by rw [List.getElem_map]; exact hh j (by simpa using hj') hj)]
    simp only [List.length_map]
/-- A slice's box, to be written. -/
def Bvv (w : World) (N : Nat) (t : Option Addr) (tl tc : Nat) : Prop := N < w.heap.size ∧ w.cell? ⟨N, 0, none⟩ = some (.slice t tl tc) ∧ w.frozen? ⟨N, 0, none⟩ = false
theorem Bvv.later {w w' : World} {N : Nat} {t : Option Addr} {tl tc : Nat} (h : Bvv w N t tl tc) (hb : Below w.heap.size w w') : Bvv w' N t tl tc := ⟨Nat.lt_of_lt_of_le h.1 hb.size, (hb.cell (p := ⟨N, 0, none⟩) h.1).trans h.2.1, (hb.frozen (p := ⟨N, 0, none⟩) h.1).trans h.2.2⟩
/-- A field's box. -/
structure Bq (w : World) (G : Nat) (s : ByteArray) (t : Option Addr) (tl tc : Nat) : Prop where
  lt : G < w.heap.size
  c0 : w.cell? ⟨G, 0, none⟩ = some (.string s)
  c1 : w.cell? ⟨G, 1, none⟩ = some (.slice t tl tc)
  fz : ∀ i, w.frozen? ⟨G, i, none⟩ = false
theorem Bq.new (w : World) (s : ByteArray) (t : Option Addr) (tl tc : Nat) : Bq (w.alloc (.cells #[.string s, .slice t tl tc] 59)) w.heap.size s t tl tc := ⟨new_lt, by simp [go_sem], by simp [go_sem], fun i => by simp [go_sem]⟩
theorem Bq.later {w w' : World} {G : Nat} {s : ByteArray} {t : Option Addr} {tl tc : Nat} (h : Bq w G s t tl tc) (hb : Below w.heap.size w w') : Bq w' G s t tl tc :=
  ⟨Nat.lt_of_lt_of_le h.lt hb.size, (hb.cell (p := ⟨G, 0, none⟩) h.lt).trans h.c0, (hb.cell (p := ⟨G, 1, none⟩) h.lt).trans h.c1, fun i => (hb.frozen (p := ⟨G, i, none⟩) h.lt).trans (h.fz i)⟩
theorem Bq.set1 {w : World} {G : Nat} {s : ByteArray} {t : Option Addr} {tl tc : Nat} (h : Bq w G s t tl tc) (t' : Option Addr) (tl' tc' : Nat) : Bq (w.setCell ⟨G, 1, none⟩ (.slice t' tl' tc')) G s t' tl' tc' :=
  ⟨by rw [set_size]; exact h.lt, (set_far (.inr (by decide))).trans h.c0, set_here h.c1, fun i => by rw [World.frozen?_setCell]; exact h.fz i⟩

end Go.Proofs.YtddleeenlpigfaaGreatDoor
