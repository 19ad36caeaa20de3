/- Am, An, Ap, Aq -/
import Derived.Laws.IdiomCopy
import Derived.Lib.SliceRun
import Derived.Deep.DeepCutAuto
import Derived.Deep.CutBlock
import Derived.Deep.AppendLies
import Derived.Test.YtddleeenlpigfaaGreatDoorY21
import Derived.Test.YtddleeenlpigfaaGreatDoorY24
/- Terms' headers; the function that left hands to CompactFunc; runs of the same. -/
namespace Go.Proofs.YtddleeenlpigfaaGreatDoor
open Go.RowKit
/-- A term as it lies in a row: its fields by address. -/
structure Hr where
  x : Tm
  f : Option Addr
  fl : Nat
  fc : Nat
abbrev Hr.v (h : Hr) : Value := tv h.x.k h.x.lo h.x.hi h.x.s h.x.y h.x.m h.x.o h.f h.fl h.fc
def Hr.enc (h : Hr) : List Value := [.int .i64 h.x.k, .int .i64 h.x.lo, .int .i64 h.x.hi, .string h.x.s, .bool h.x.y, .bool h.x.m, .bool h.x.o, .slice h.f h.fl h.fc]
/-- Its fields lie in a world. -/
def Hr.ok (n : Nat) (w : World) (h : Hr) : Prop := InF (fun t tl tc V => InV w n t tl tc V) w h.f h.fl h.x.fs
theorem Hr.ok.below {n : Nat} {w w' : World} {h : Hr} (hb : Below w.heap.size w w') (k : h.ok n w) : h.ok n w' := InF.below (fun _ _ _ _ h => InV.below hb h) hb k
def T8 (w : World) (g o : Nat) (h : Hr) : Prop :=
  w.cell? ⟨g, o, none⟩ = some (.int .i64 h.x.k) ∧ w.cell? ⟨g, o + 1, none⟩ = some (.int .i64 h.x.lo) ∧ w.cell? ⟨g, o + 2, none⟩ = some (.int .i64 h.x.hi) ∧ w.cell? ⟨g, o + 3, none⟩ = some (.string h.x.s) ∧
  w.cell? ⟨g, o + 4, none⟩ = some (.bool h.x.y) ∧ w.cell? ⟨g, o + 5, none⟩ = some (.bool h.x.m) ∧ w.cell? ⟨g, o + 6, none⟩ = some (.bool h.x.o) ∧ w.cell? ⟨g, o + 7, none⟩ = some (.slice h.f h.fl h.fc)
theorem T8.to {w w' : World} {g o g' o' : Nat} {h : Hr} (k : T8 w g o h) (e : ∀ r, r < 8 → w'.cell? ⟨g', o' + r, none⟩ = w.cell? ⟨g, o + r, none⟩) : T8 w' g' o' h := by
  unfold T8
  rw [show w'.cell? ⟨g', o', none⟩ = w.cell? ⟨g, o, none⟩ from e 0 (by omega), e 1 (by omega), e 2 (by omega), e 3 (by omega), e 4 (by omega), e 5 (by omega), e 6 (by omega), e 7 (by omega)]
  exact k
theorem T8.inT {n : Nat} {w : World} {g o : Nat} {h : Hr} (hg : g < w.heap.size) (k : T8 w g o h) (hk : h.ok n w) : InTn w n g o h.x := by
  obtain ⟨x, f, fl, fc⟩ := h
  obtain ⟨a, lo, hi, s, y, m, o', fs⟩ := x
  exact ⟨hg, f, fl, fc, k.1, k.2.1, k.2.2.1, k.2.2.2.1, k.2.2.2.2.1, k.2.2.2.2.2.1, k.2.2.2.2.2.2.1, k.2.2.2.2.2.2.2, hk⟩
/-- The headers of a value. -/
theorem heads {n : Nat} {w : World} {t : Option Addr} {tl tc : Nat} {A : List Tm} (h : InV w (n + 1) t tl tc A) :
    ∃ L : List Hr, L.map (·.x) = A ∧ (∀ h ∈ L, h.ok n w) ∧ ∀ b off, t = some ⟨b, off, none⟩ → ∀ j (hj : j < L.length), b < w.heap.size ∧ T8 w b (off + j * 8) L[j] := by
  obtain ⟨hl, hz, hA⟩ := h
  have key : ∀ k, k ≤ A.length → ∃ L : List Hr, L.map (·.x) = A.take k ∧ (∀ h ∈ L, h.ok n w) ∧ ∀ b off, t = some ⟨b, off, none⟩ → ∀ j (hj : j < L.length), b < w.heap.size ∧ T8 w b (off + j * 8) L[j] := by
    intro k
    induction k with
    | zero => intro _; exact ⟨[], by simp, by simp, fun _ _ _ j hj => absurd hj (by simp)⟩
    | succ k ih =>
      intro hk
      obtain ⟨L, h1, h2, h3⟩ := ih (by omega)
      have hlen : L.length = k := by rw [← List.length_map (f := (·.x)), h1, List.length_take]; omega
      obtain ⟨b, off, e, i1⟩ := hA k (by omega)
      obtain ⟨lt1, f, fl, fc, c0, c1, c2, c3, c4, c5, c6, c7, hF⟩ := i1.cells
      refine ⟨L ++ [⟨A[k], f, fl, fc⟩], ?_, ?_, ?_⟩
      · rw [List.map_append, h1, List.map_singleton, List.take_succ_eq_append_getElem (by omega)]
      · intro h hh
        rcases List.mem_append.1 hh with hh | hh
        · exact h2 h hh
        · rw [List.mem_singleton.1 hh]; exact hF
      · intro b' off' e' j hj
        rw [e] at e'
        cases e'
        by_cases hjk : j < L.length
        · rw [List.getElem_append_left hjk]; exact h3 b off e j hjk
        · have : j = L.length := by simp at hj; omega
          subst this
          rw [List.getElem_concat_length rfl, hlen]
          exact ⟨lt1, c0, c1, c2, c3, c4, c5, c6, c7⟩
  obtain ⟨L, h1, h2, h3⟩ := key A.length (Nat.le_refl _)
  exact ⟨L, by rw [h1, List.take_length], h2, h3⟩
/-- A row of headers is a value. -/
theorem row_inV {n : Nat} {w : World} {g off : Nat} {tc : Nat} {L : List Hr} (hg : g < w.heap.size) (hz : (L.length : Int) ≤ 9223372036854775807) (hk : ∀ h ∈ L, h.ok n w) (row : ∀ j (hj : j < L.length), T8 w g (off + j * 8) L[j]) : InV w (n + 1) (some ⟨g, off, none⟩) L.length tc (L.map (·.x)) := by
  refine ⟨by rw [List.length_map], hz, fun i hi => ⟨g, off, rfl, ?_⟩⟩
  have hi' : i < L.length := by rw [List.length_map] at hi; exact hi
  rw [List.getElem_map]
  exact T8.inT hg (row i hi') (hk _ (List.getElem_mem hi'))
set_option maxRecDepth 100000 in
set_option maxHeartbeats 2000000 in
theorem eq1_any (n : Nat) (a b : Hr) (w : World) (ha : a.ok n w) (hb : b.ok n w) : Calls Tryz.prog 90 #[a.v, b.v] w (LackP (cmpT (cmpV n) a.x b.x == 0) w) := by
  obtain ⟨⟨k, lo, hi, s, y, m, o, fs⟩, f, fl, fc⟩ := a
  obtain ⟨⟨k2, lo2, hi2, s2, y2, m2, o2, fs2⟩, f2, fl2, fc2⟩ := b
  have HT := Lib.hid (fun (W : World) (hW : Below w.heap.size w W) => terms_in n (compare_in n) W k lo hi s y m o f fl fc fs k2 lo2 hi2 s2 y2 m2 o2 f2 fl2 fc2 fs2 (InF.below (fun _ _ _ _ h => InV.below hW h) hW ha) (InF.below (fun _ _ _ _ h => InV.below hW h) hW hb))
  clear ha hb
  simp only [Hr.v, Tm.k, Tm.lo, Tm.hi, Tm.s, Tm.y, Tm.m, Tm.o]
  generalize cmpT (cmpV n) (.mk k lo hi s y m o fs) (.mk k2 lo2 hi2 s2 y2 m2 o2 fs2) = r at *
  go_enter Tryz.func90, Tryz.ntmps90
  go_wp2_with (go_at_call 88; refine (HT.out _ (bl_alloc (bl_alloc (Below.refl _ _)))).mono ?_; rintro e w1 ⟨rfl, hB1⟩; have HB1 := Lib.hid (bl_step (bl_alloc (bl_alloc (Below.refl w.heap.size w))) hB1); clear hB1)
  go_ret
  exact ⟨rfl, HB1.out⟩
/-- One of each run. -/
def compF {α : Type} (eq : α → α → Bool) (p : α) : List α → List α
  | [] => []
  | x :: l => if eq x p then compF eq x l else x :: compF eq x l
def compL {α : Type} (eq : α → α → Bool) : List α → List α
  | [] => []
  | a :: l => a :: compF eq a l
theorem compF_snoc {α : Type} (eq : α → α → Bool) : ∀ (l : List α) (p x : α), compF eq p (l ++ [x]) = if eq x ((p :: l).getLast (by simp)) then compF eq p l else compF eq p l ++ [x]
  | [], p, x => by simp [compF]; rfl
  | a :: l, p, x => by
    have ih := compF_snoc eq l a x
    simp only [List.cons_append, compF, ih, List.getLast_cons_cons]
    by_cases h1 : eq a p = true <;> by_cases h2 : eq x ((a :: l).getLast (by simp)) = true <;> simp [h1, h2]
/-- Of one element more. -/
theorem compL_take {α : Type} (eq : α → α → Bool) (l : List α) (k : Nat) (hk : k + 1 < l.length) : compL eq (l.take (k + 2)) = if eq l[k + 1] (l[k]'(by omega)) then compL eq (l.take (k + 1)) else compL eq (l.take (k + 1)) ++ [l[k + 1]] := by
  cases l with
  | nil => simp at hk
  | cons a l =>
    have hk' : k < l.length := by simpa using hk
    rw [List.take_succ_cons, List.take_succ_cons]
    have e : l.take (k + 1) = l.take k ++ [l[k]] := List.take_succ_eq_append_getElem hk'
    simp only [compL, e, compF_snoc, List.getElem_cons_succ]
    have g : (a :: l.take k).getLast (by simp) = (a :: l)[k]'(by simp; omega) := by
      rw [List.getLast_eq_getElem]
      simp only [List.length_cons, List.length_take, Nat.min_eq_left (Nat.le_of_lt hk'), Nat.add_sub_cancel]
      cases k with
      | zero => rfl
      | succ k => simp
    rw [g]
    split <;> simp
theorem compL_all {α : Type} (eq : α → α → Bool) (l : List α) : ∀ k, k ≤ l.length → (∀ j (h : j + 1 < l.length), j + 1 < k → eq l[j + 1] (l[j]'(by omega)) = false) → compL eq (l.take k) = l.take k
  | 0, _, _ => by simp [compL]
  | 1, _, _ => by cases l <;> simp [compL, compF]
  | k + 2, hk, h => by
    rw [compL_take eq l k (by omega), h k (by omega) (by omega), compL_all eq l (k + 1) (by omega) (fun j h1 h2 => h j h1 (by omega))]
    rw [if_neg (by decide)]
    exact (List.take_succ_eq_append_getElem (by omega)).symm
theorem compF_len {α : Type} (eq : α → α → Bool) : ∀ (l : List α) (p : α), (compF eq p l).length ≤ l.length
  | [], _ => Nat.le_refl _
  | x :: l, p => by
    unfold compF
    split
    · exact Nat.le_trans (compF_len eq l x) (by simp)
    · simpa using compF_len eq l x
theorem compL_len {α : Type} (eq : α → α → Bool) (l : List α) : (compL eq l).length ≤ l.length := by
  cases l with
  | nil => exact Nat.le_refl _
  | cons a l => simpa [compL] using compF_len eq l a
end Go.Proofs.YtddleeenlpigfaaGreatDoor
/- WALK of CompactFunc at terms. -/
namespace Go.Proofs.YtddleeenlpigfaaGreatDoor
open Go.RowKit
def eqH (n : Nat) (a b : Hr) : Bool := cmpT (cmpV n) a.x b.x == 0
/-- A term stored. -/
def sets8 (w : World) (g o : Nat) (h : Hr) : World :=
  (((((((w.setCell ⟨g, o, none⟩ (.int .i64 h.x.k)).setCell ⟨g, o + 1, none⟩ (.int .i64 h.x.lo)).setCell ⟨g, o + 2, none⟩ (.int .i64 h.x.hi)).setCell ⟨g, o + 3, none⟩ (.string h.x.s)).setCell ⟨g, o + 4, none⟩ (.bool h.x.y)).setCell ⟨g, o + 5, none⟩ (.bool h.x.m)).setCell ⟨g, o + 6, none⟩ (.bool h.x.o)).setCell ⟨g, o + 7, none⟩ (.slice h.f h.fl h.fc)
theorem sets8_far {w : World} {g o : Nat} {h : Hr} {g' o' : Nat} (hne : g' ≠ g ∨ o' < o ∨ o + 8 ≤ o') : (sets8 w g o h).cell? ⟨g', o', none⟩ = w.cell? ⟨g', o', none⟩ := by
  unfold sets8
  rw [set_far (by omega), set_far (by omega), set_far (by omega), set_far (by omega), set_far (by omega), set_far (by omega), set_far (by omega), set_far (by omega)]
theorem set_has {w : World} {g o o' : Nat} {v : Value} (h : ∃ u, w.cell? ⟨g, o', none⟩ = some u) : ∃ u, (w.setCell ⟨g, o, none⟩ v).cell? ⟨g, o', none⟩ = some u := by
  obtain ⟨u, hu⟩ := h
  by_cases e : o' = o
  · subst e; exact ⟨v, set_here hu⟩
  · exact ⟨u, (set_far (.inr e)).trans hu⟩
theorem sets8_here {w : World} {g o : Nat} {h : Hr} (hc : ∀ r, r < 8 → ∃ u, w.cell? ⟨g, o + r, none⟩ = some u) : T8 (sets8 w g o h) g o h := by
  have c0 : ∃ u, w.cell? ⟨g, o, none⟩ = some u := hc 0 (by omega)
  have c1 := set_has (o := o) (v := .int .i64 h.x.k) (hc 1 (by omega))
  have c2 := set_has (o := o + 1) (v := .int .i64 h.x.lo) (set_has (o := o) (v := .int .i64 h.x.k) (hc 2 (by omega)))
  have c3 := set_has (o := o + 2) (v := .int .i64 h.x.hi) (set_has (o := o + 1) (v := .int .i64 h.x.lo) (set_has (o := o) (v := .int .i64 h.x.k) (hc 3 (by omega))))
  have c4 := set_has (o := o + 3) (v := .string h.x.s) (set_has (o := o + 2) (v := .int .i64 h.x.hi) (set_has (o := o + 1) (v := .int .i64 h.x.lo) (set_has (o := o) (v := .int .i64 h.x.k) (hc 4 (by omega)))))
  have c5 := set_has (o := o + 4) (v := .bool h.x.y) (set_has (o := o + 3) (v := .string h.x.s) (set_has (o := o + 2) (v := .int .i64 h.x.hi) (set_has (o := o + 1) (v := .int .i64 h.x.lo) (set_has (o := o) (v := .int .i64 h.x.k) (hc 5 (by omega))))))
  have c6 := set_has (o := o + 5) (v := .bool h.x.m) (set_has (o := o + 4) (v := .bool h.x.y) (set_has (o := o + 3) (v := .string h.x.s) (set_has (o := o + 2) (v := .int .i64 h.x.hi) (set_has (o := o + 1) (v := .int .i64 h.x.lo) (set_has (o := o) (v := .int .i64 h.x.k) (hc 6 (by omega)))))))
  have c7 := set_has (o := o + 6) (v := .bool h.x.o) (set_has (o := o + 5) (v := .bool h.x.m) (set_has (o := o + 4) (v := .bool h.x.y) (set_has (o := o + 3) (v := .string h.x.s) (set_has (o := o + 2) (v := .int .i64 h.x.hi) (set_has (o := o + 1) (v := .int .i64 h.x.lo) (set_has (o := o) (v := .int .i64 h.x.k) (hc 7 (by omega))))))))
  obtain ⟨_, c0⟩ := c0
  obtain ⟨_, c1⟩ := c1
  obtain ⟨_, c2⟩ := c2
  obtain ⟨_, c3⟩ := c3
  obtain ⟨_, c4⟩ := c4
  obtain ⟨_, c5⟩ := c5
  obtain ⟨_, c6⟩ := c6
  obtain ⟨_, c7⟩ := c7
  unfold sets8
  refine ⟨?_, ?_, ?_, ?_, ?_, ?_, ?_, set_here c7⟩
  · rw [set_far (.inr (by omega)), set_far (.inr (by omega)), set_far (.inr (by omega)), set_far (.inr (by omega)), set_far (.inr (by omega)), set_far (.inr (by omega)), set_far (.inr (by omega))]; exact set_here c0
  · rw [set_far (.inr (by omega)), set_far (.inr (by omega)), set_far (.inr (by omega)), set_far (.inr (by omega)), set_far (.inr (by omega)), set_far (.inr (by omega))]; exact set_here c1
  · rw [set_far (.inr (by omega)), set_far (.inr (by omega)), set_far (.inr (by omega)), set_far (.inr (by omega)), set_far (.inr (by omega))]; exact set_here c2
  · rw [set_far (.inr (by omega)), set_far (.inr (by omega)), set_far (.inr (by omega)), set_far (.inr (by omega))]; exact set_here c3
  · rw [set_far (.inr (by omega)), set_far (.inr (by omega)), set_far (.inr (by omega))]; exact set_here c4
  · rw [set_far (.inr (by omega)), set_far (.inr (by omega))]; exact set_here c5
  · rw [set_far (.inr (by omega))]; exact set_here c6
theorem sets8_has {w : World} {g o o' : Nat} {h : Hr} (k : ∃ u, w.cell? ⟨g, o', none⟩ = some u) : ∃ u, (sets8 w g o h).cell? ⟨g, o', none⟩ = some u :=
  set_has (set_has (set_has (set_has (set_has (set_has (set_has (set_has k)))))))
theorem sets8_kp {w a : World} {g o : Nat} {h : Hr} (k : Kp g w a) : Kp g w (sets8 a g o h) :=
  (((((((k.set (.inr rfl)).set (.inr rfl)).set (.inr rfl)).set (.inr rfl)).set (.inr rfl)).set (.inr rfl)).set (.inr rfl)).set (.inr rfl)
theorem sets8_frozen {w : World} {g o : Nat} {h : Hr} {p : Addr} : (sets8 w g o h).frozen? p = w.frozen? p := by
  unfold sets8
  rw [World.frozen?_setCell, World.frozen?_setCell, World.frozen?_setCell, World.frozen?_setCell, World.frozen?_setCell, World.frozen?_setCell, World.frozen?_setCell, World.frozen?_setCell]
/-- The library's clear at terms. -/
theorem clear_terms (w : World) (g o n : Nat) (hn : 0 < n) (hc : ∀ j, j < n * 8 → ∃ v, w.cell? ⟨g, o + j, none⟩ = some v) (hf : ∀ j, w.frozen? ⟨g, j, none⟩ = false) :
    ∃ Z : List Value, Z.length = n * 8 ∧ ∀ (ty : TypeId) (c : Nat), (Builtin.clear_ #[22] ty #[.slice (some ⟨g, o, none⟩) n c]).run Tryz.prog w = .ok (.tuple #[]) (w.setCells g o Z) := by
  have hl : (Builtin.zeroCells (Value.agg #[.int .i64 0, .int .i64 0, .int .i64 0, .string ⟨#[]⟩, .bool false, .bool false, .bool false, .slice none 0 0]).cells n).toList.length = n * 8 := by
    simp [Builtin.zeroCells, Value.cells]
  refine ⟨(Builtin.zeroCells (Value.agg #[.int .i64 0, .int .i64 0, .int .i64 0, .string ⟨#[]⟩, .bool false, .bool false, .bool false, .slice none 0 0]).cells n).toList, hl, fun ty c => ?_⟩
  have hst := run_storeCells_cells (P := Tryz.prog) g o (Builtin.zeroCells (Value.agg #[.int .i64 0, .int .i64 0, .int .i64 0, .string ⟨#[]⟩, .bool false, .bool false, .bool false, .slice none 0 0]).cells n).toList 0 w
    (fun j hj => by rw [hl] at hj; obtain ⟨v, hv⟩ := hc j hj; rw [Nat.add_zero, hv]; rfl) (fun j _ => hf _) (fun v hv => by
      simp only [Builtin.zeroCells, Value.cells, Array.toList_map, List.mem_map] at hv
      obtain ⟨i, -, rfl⟩ := hv
      have : i % 8 < 8 := Nat.mod_lt _ (by omega)
      show Value.oneCell' ((#[Value.int .i64 0, .int .i64 0, .int .i64 0, .string ⟨#[]⟩, .bool false, .bool false, .bool false, .slice none 0 0] : Array Value)[i % 8]!) = true
      generalize i % 8 = r at this
      match r, this with
      | 0, _ => rfl
      | 1, _ => rfl
      | 2, _ => rfl
      | 3, _ => rfl
      | 4, _ => rfl
      | 5, _ => rfl
      | 6, _ => rfl
      | 7, _ => rfl)
  rw [Nat.add_zero] at hst
  obtain ⟨m, rfl⟩ : ∃ m, n = m + 1 := ⟨n - 1, by omega⟩
  simp [Builtin.clear_, run_underlying Tryz.underlying22, hst]
theorem cells_kp {w a : World} {g o : Nat} {Z : List Value} (k : Kp g w a) : Kp g w (a.setCells g o Z) := by
  induction Z generalizing o a with
  | nil => exact k
  | cons v r ih => exact ih (k.set (.inr rfl))
/-- Between two rounds of the inner loop. -/
structure CInv (n g : Nat) (d : List Hr) (w : World) (m kk : Nat) : Prop where
  len : kk = (compL (eqH n) (d.take m)).length
  lt : kk + 1 ≤ m
  low : ∀ j (h : j < (compL (eqH n) (d.take m)).length), T8 w g (j * 8) (compL (eqH n) (d.take m))[j]
  high : ∀ j (h : j < d.length), m ≤ j + 1 → T8 w g (j * 8) d[j]
  has : ∀ q, q < d.length * 8 → ∃ v, w.cell? ⟨g, q, none⟩ = some v
  fz : ∀ o, w.frozen? ⟨g, o, none⟩ = false
  gl : g < w.heap.size
theorem CInv.below {n g : Nat} {d : List Hr} {w w' : World} {m kk : Nat} (h : CInv n g d w m kk) (hb : Below w.heap.size w w') : CInv n g d w' m kk :=
  ⟨h.len, h.lt, fun j hj => (h.low j hj).to (fun r _ => hb.cell (p := ⟨g, j * 8 + r, none⟩) h.gl), fun j hj hm => (h.high j hj hm).to (fun r _ => hb.cell (p := ⟨g, j * 8 + r, none⟩) h.gl),
    fun q hq => by obtain ⟨v, hv⟩ := h.has q hq; exact ⟨v, (hb.cell (p := ⟨g, q, none⟩) h.gl).trans hv⟩, fun o => (hb.frozen (p := ⟨g, o, none⟩) h.gl).trans (h.fz o), Nat.lt_of_lt_of_le h.gl hb.size⟩
theorem t8_has {w : World} {g o : Nat} {h : Hr} (k : T8 w g o h) (r : Nat) (hr : r < 8) : ∃ v, w.cell? ⟨g, o + r, none⟩ = some v := by
  obtain ⟨c0, c1, c2, c3, c4, c5, c6, c7⟩ := k
  match r, hr with
  | 0, _ => exact ⟨_, c0⟩
  | 1, _ => exact ⟨_, c1⟩
  | 2, _ => exact ⟨_, c2⟩
  | 3, _ => exact ⟨_, c3⟩
  | 4, _ => exact ⟨_, c4⟩
  | 5, _ => exact ⟨_, c5⟩
  | 6, _ => exact ⟨_, c6⟩
  | 7, _ => exact ⟨_, c7⟩
theorem CInv.start {n g : Nat} {d : List Hr} {w : World} {k : Nat} (hk : k + 1 < d.length) (hN : ∀ j (h : j + 1 < d.length), j + 1 < k + 1 → eqH n d[j + 1] (d[j]'(by omega)) = false) (hq : eqH n d[k + 1] (d[k]'(by omega)) = true)
    (row : ∀ j (h : j < d.length), T8 w g (j * 8) d[j]) (fz : ∀ o, w.frozen? ⟨g, o, none⟩ = false) (gl : g < w.heap.size) : CInv n g d w (k + 2) (k + 1) := by
  have e : compL (eqH n) (d.take (k + 2)) = d.take (k + 1) := by
    rw [compL_take (eqH n) d k hk, if_pos hq, compL_all (eqH n) d (k + 1) (by omega) (fun j h1 h2 => hN j h1 h2)]
  refine ⟨by rw [e, List.length_take]; omega, by omega, fun j hj => ?_, fun j hj _ => row j hj, fun q hq => ?_, fz, gl⟩
  · simp only [e] at hj ⊢
    rw [List.length_take] at hj
    rw [List.getElem_take]
    exact row j (by omega)
  · have := t8_has (row (q / 8) (by omega)) (q % 8) (Nat.mod_lt _ (by omega))
    rwa [Nat.div_add_mod' q 8] at this
theorem CInv.skip {n g : Nat} {d : List Hr} {w : World} {m kk : Nat} (h : CInv n g d w (m + 1) kk) (hm : m + 1 < d.length) (hq : eqH n d[m + 1] (d[m]'(by omega)) = true) : CInv n g d w (m + 2) kk := by
  have e : compL (eqH n) (d.take (m + 2)) = compL (eqH n) (d.take (m + 1)) := by rw [compL_take (eqH n) d m hm, if_pos hq]
  refine ⟨by rw [e]; exact h.len, by have := h.lt; omega, fun j hj => ?_, fun j hj hm => h.high j hj (by omega), h.has, h.fz, h.gl⟩
  simp only [e] at hj ⊢
  exact h.low j hj
theorem CInv.keep {n g : Nat} {d : List Hr} {w : World} {m kk : Nat} (h : CInv n g d w (m + 1) kk) (hm : m + 1 < d.length) (hq : eqH n d[m + 1] (d[m]'(by omega)) = false) : CInv n g d (sets8 w g (kk * 8) d[m + 1]) (m + 2) (kk + 1) := by
  have e : compL (eqH n) (d.take (m + 2)) = compL (eqH n) (d.take (m + 1)) ++ [d[m + 1]] := by rw [compL_take (eqH n) d m hm, hq]; rfl
  have hl := h.len
  have hlt := h.lt
  refine ⟨by rw [e, List.length_append]; simp [hl], by omega, fun j hj => ?_, fun j hj hm2 => (h.high j hj (by omega)).to (fun r hr => sets8_far (by omega)), fun q hq => sets8_has (h.has q hq), fun o => sets8_frozen.trans (h.fz o), ?_⟩
  · simp only [e] at hj ⊢
    by_cases hjl : j < (compL (eqH n) (d.take (m + 1))).length
    · rw [List.getElem_append_left hjl]
      exact (h.low j hjl).to (fun r hr => sets8_far (by omega))
    · have : j = kk := by simp at hj; omega
      subst this
      rw [List.getElem_concat_length hl]
      exact sets8_here (fun r hr => h.has _ (by omega))
  · have := (sets8_kp (h := d[m + 1]) (o := kk * 8) (Kp.refl g w)).size
    exact Nat.lt_of_lt_of_le h.gl this
def CompP (n : Nat) (g cap : Nat) (d : List Hr) (w : World) (e : Ending) (w' : World) : Prop :=
  e = .returned (.slice (some ⟨g, 0, none⟩) (compL (eqH n) d).length cap) ∧ Kp g w w' ∧ (∀ j (h : j < (compL (eqH n) d).length), T8 w' g (j * 8) (compL (eqH n) d)[j]) ∧ ∀ o, w'.frozen? ⟨g, o, none⟩ = false
set_option maxRecDepth 100000 in
set_option maxHeartbeats 8000000 in
theorem compact_any (n : Nat) (w0 : World) (g cap : Nat) (d : List Hr) (hcap : d.length ≤ cap) (hz : (d.length : Int) ≤ 9223372036854775807) (w : World) (hb : Below w0.heap.size w0 w) (hg : w0.heap.size ≤ g) (hgl : g < w.heap.size)
    (row : ∀ j (h : j < d.length), T8 w g (j * 8) d[j]) (fz : ∀ o, w.frozen? ⟨g, o, none⟩ = false) (ok : ∀ h ∈ d, h.ok n w0) :
    Calls Tryz.prog 89 #[.slice (some ⟨g, 0, none⟩) d.length cap, .func (.func 90) #[] #[]] w (CompP n g cap d w) := by
  have HROW := Lib.hid row
  have HFZ := Lib.hid fz
  have HOK := Lib.hid ok
  have HB := Lib.hid hb
  clear row fz ok hb
  by_cases h2 : d.length < 2
  · have e : compL (eqH n) d = d := by
      cases d with
      | nil => rfl
      | cons a l =>
        cases l with
        | nil => rfl
        | cons b l => exact absurd h2 (by simp)
    have HE := Lib.hid e
    clear e
    go_enter Tryz.func89, Tryz.ntmps89
    go_wp2_with fail
    go_ret
    unfold CompP
    rw [HE.out]
    exact ⟨rfl, Kp.refl _ _, HROW.out, HFZ.out⟩
  · go_enter Tryz.func89, Tryz.ntmps89
    go_wp2_with fail
    go_loopw [5] (fun i wr => ∃ k : Nat, k + 1 ≤ d.length ∧ i = .int .i64 ((k + 1 : Nat) : Int) ∧ Hid (∀ j (h : j + 1 < d.length), j + 1 < k + 1 → eqH n d[j + 1] (d[j]'(by omega)) = false) ∧ Hid (Below w.heap.size w wr)) (fun i _ => d.length - (intOf i).toNat)
    case atStart => exact ⟨0, by omega, rfl, fun j _ hj => absurd hj (by omega), Below.refl _ _⟩
    case round =>
      obtain ⟨k, hk, rfl, hN, hBr⟩ := hrel
      rename World => wr
      by_cases hlt : k + 1 < d.length
      · have hki : ((k + 1 : Nat) : Int) < (d.length : Int) := by omega
        have hk0 : (0 : Int) ≤ (k : Int) := by omega
        have V1 : Hid (∀ W, Below wr.heap.size wr W → T8 W g ((k + 1) * 8) d[k + 1]) := fun W hW =>
          (HROW.out (k + 1) hlt).to (fun r _ => (bl_step hBr.out hW).cell (p := ⟨g, (k + 1) * 8 + r, none⟩) hgl)
        have V2 : Hid (∀ W, Below wr.heap.size wr W → T8 W g (k * 8) d[k]) := fun W hW =>
          (HROW.out k (by omega)).to (fun r _ => (bl_step hBr.out hW).cell (p := ⟨g, k * 8 + r, none⟩) hgl)
        have HQ : ∃ q, eqH n d[k + 1] d[k] = q := ⟨_, rfl⟩
        obtain ⟨q, hq⟩ := HQ
        have KC : Hid (∀ W, Below wr.heap.size wr W → Calls Tryz.prog 90 #[(d[k + 1]).v, (d[k]).v] W fun e w' => e = .returned (.bool q) ∧ Below wr.heap.size wr w') := fun W hW => by
          have hw0 : Below w0.heap.size w0 W := HB.out.trans ((bl_step hBr.out hW).mono HB.out.size)
          have h := eq1_any n d[k + 1] d[k] W ((HOK.out _ (List.getElem_mem _)).below hw0) ((HOK.out _ (List.getElem_mem _)).below hw0)
          rw [show (cmpT (cmpV n) d[k + 1].x d[k].x == 0) = q from hq] at h
          exact h.mono fun _ _ ⟨a, b⟩ => ⟨a, bl_step hW b⟩
        have QQ := Lib.hid hq
        clear hq
        go_upto_region 6 with fail
        have HG1 : ∃ h1, d[k + 1] = h1 := ⟨_, rfl⟩
        have HG2 : ∃ h2, d[k] = h2 := ⟨_, rfl⟩
        obtain ⟨⟨⟨k1, lo1, hi1, s1, y1, m1, o1, g1⟩, f1, fl1, fc1⟩, e1⟩ := HG1
        obtain ⟨⟨⟨k2, lo2, hi2, s2, y2, m2, o2, g2⟩, f2, fl2, fc2⟩, e2⟩ := HG2
        rw [e1] at V1 KC
        rw [e2] at V2 KC
        clear e1 e2
        simp only [T8, Hr.v, Tm.k, Tm.lo, Tm.hi, Tm.s, Tm.y, Tm.m, Tm.o] at V1 V2 KC
        refine region_class (C := fun W => Below wr.heap.size wr W) (by kernel_rfl) (by kernel_rfl) ((Below.refl _ _).drew) ?_
        repeat (first | go_big_quiet_skip | (go_big_quiet_want; go_big_quiet_op; first | go_big_quiet_on | (apply Exists.intro; refine ⟨fun W hW => ?_, ?_⟩; (first | rfl | exact (KC.out W hW) | (obtain ⟨q0, q1, q2, q3, q4, q5, q6, q7⟩ := V1.out W hW; go_simp; first | done | rfl | exact ⟨rfl, rfl⟩) | (obtain ⟨q0, q1, q2, q3, q4, q5, q6, q7⟩ := V2.out W hW; go_simp; first | done | rfl | exact ⟨rfl, rfl⟩)); go_big_quiet_on)))
        refine wpQuiet_nil ?_
        intro w9 hW9
        have HB9 := Lib.hid (bl_step hBr.out hW9)
        clear hW9 V1 V2 KC
        cases q
        · go_wp2_with fail
          go_roundw
          case rel => exact ⟨k + 1, by omega, by go_num, fun j h hj => (by
            by_cases e : j = k
            · subst e; exact QQ.out
            · exact hN.out j h (by omega)), HB9⟩
          case measure => simp [intOf]; omega
        · have HC0 := Lib.hid (CInv.start hlt hN.out QQ.out (fun j h => (HROW.out j h).to (fun r _ => HB9.out.cell (p := ⟨g, j * 8 + r, none⟩) hgl)) (fun o => (HB9.out.frozen (p := ⟨g, o, none⟩) hgl).trans (HFZ.out o)) (Nat.lt_of_lt_of_le hgl HB9.out.size))
          go_wp2_with fail
          go_loopw [5, 7] (fun a i wi => ∃ (m kk : Nat), k + m + 2 ≤ d.length ∧ i = .int .i64 ((m + 1 : Nat) : Int) ∧ a = .int .i64 (kk : Int) ∧ Hid (CInv n g d wi (k + m + 2) kk) ∧ Hid (Kp g w wi)) (fun _ i _ => d.length - (intOf i).toNat)
          case atStart => exact ⟨0, k + 1, by omega, rfl, rfl, HC0, Kp.of HB9.out⟩
          case round =>
            obtain ⟨m, kk, hm, rfl, rfl, hC, hK⟩ := hrel
            rename World => wi
            have hkk := hC.out.lt
            by_cases hml : k + m + 2 < d.length
            · have q1 : ((m : Int) + 1) < (d.length : Int) - ((k : Int) + 1) := by omega
              have hm0 : (0 : Int) ≤ (m : Int) := by omega
              have VH : T8 wi g ((k + 1) * 8 + (m + 1) * 8) (d[k + m + 2]'hml) := by
                have := hC.out.high (k + m + 2) hml (by omega)
                rwa [show (k + m + 2) * 8 = (k + 1) * 8 + (m + 1) * 8 by omega] at this
              have VL : T8 wi g ((k + 1) * 8 + m * 8) (d[k + m + 1]'(by omega)) := by
                have := hC.out.high (k + m + 1) (by omega) (by omega)
                rwa [show (k + m + 1) * 8 = (k + 1) * 8 + m * 8 by omega] at this
              have V1 : Hid (∀ W, Below wi.heap.size wi W → T8 W g ((k + 1) * 8 + (m + 1) * 8) (d[k + m + 2]'hml)) := fun W hW => VH.to (fun r _ => hW.cell (p := ⟨g, (k + 1) * 8 + (m + 1) * 8 + r, none⟩) hC.out.gl)
              have V2 : Hid (∀ W, Below wi.heap.size wi W → T8 W g ((k + 1) * 8 + m * 8) (d[k + m + 1]'(by omega))) := fun W hW => VL.to (fun r _ => hW.cell (p := ⟨g, (k + 1) * 8 + m * 8 + r, none⟩) hC.out.gl)
              have HQ : ∃ q, eqH n (d[k + m + 2]'hml) (d[k + m + 1]'(by omega)) = q := ⟨_, rfl⟩
              obtain ⟨q, hq⟩ := HQ
              have KC : Hid (∀ W, Below wi.heap.size wi W → Calls Tryz.prog 90 #[(d[k + m + 2]'hml).v, (d[k + m + 1]'(by omega)).v] W fun e w' => e = .returned (.bool q) ∧ Below wi.heap.size wi w') := fun W hW => by
                have hw0 : Below w0.heap.size w0 W := (Kp.below HB.out hK.out hg).trans (hW.mono ((Kp.below HB.out hK.out hg).size))
                have h := eq1_any n (d[k + m + 2]'hml) (d[k + m + 1]'(by omega)) W ((HOK.out _ (List.getElem_mem _)).below hw0) ((HOK.out _ (List.getElem_mem _)).below hw0)
                rw [show (cmpT (cmpV n) (d[k + m + 2]'hml).x (d[k + m + 1]'(by omega)).x == 0) = q from hq] at h
                exact h.mono fun _ _ ⟨a, b⟩ => ⟨a, bl_step hW b⟩
              have QI := Lib.hid hq
              have HL := Lib.hid hml
              have HG1 : ∃ h1, (d[k + m + 2]'hml) = h1 := ⟨_, rfl⟩
              have HG2 : ∃ h2, (d[k + m + 1]'(by omega)) = h2 := ⟨_, rfl⟩
              obtain ⟨⟨⟨k1, lo1, hi1, s1, y1, m1, o1, g1⟩, f1, fl1, fc1⟩, e1⟩ := HG1
              obtain ⟨⟨⟨k2, lo2, hi2, s2, y2, m2, o2, g2⟩, f2, fl2, fc2⟩, e2⟩ := HG2
              rw [e1] at V1 KC VH
              rw [e2] at V2 KC
              have HE1 := Lib.hid e1
              clear e1 e2 VL hq
              simp only [T8, Hr.v, Tm.k, Tm.lo, Tm.hi, Tm.s, Tm.y, Tm.m, Tm.o] at V1 V2 KC VH
              go_upto_region 11 with fail
              refine region_class (C := fun W => Below wi.heap.size wi W) (by kernel_rfl) (by kernel_rfl) ((Below.refl _ _).drew) ?_
              repeat (first | go_big_quiet_skip | (go_big_quiet_want; go_big_quiet_op; first | go_big_quiet_on | (apply Exists.intro; refine ⟨fun W hW => ?_, ?_⟩; (first | rfl | exact (KC.out W hW) | (obtain ⟨q0, q1, q2, q3, q4, q5, q6, q7⟩ := V1.out W hW; go_simp; first | done | rfl | exact ⟨rfl, rfl⟩) | (obtain ⟨q0, q1, q2, q3, q4, q5, q6, q7⟩ := V2.out W hW; go_simp; first | done | rfl | exact ⟨rfl, rfl⟩)); go_big_quiet_on)))
              refine wpQuiet_nil ?_
              intro wz hWz
              have HCz := Lib.hid (hC.out.below hWz)
              have HKz := Lib.hid (hK.out.step hWz)
              have hz1 := V1.out wz hWz
              clear hWz V2 KC VH
              cases q
              · obtain ⟨a0, a1, a2, a3, a4, a5, a6, a7⟩ := hz1
                have hkkd : kk < d.length := by omega
                obtain ⟨v0, b0⟩ := HCz.out.has (kk * 8) (by omega)
                obtain ⟨v1, b1⟩ := HCz.out.has (kk * 8 + 1) (by omega)
                obtain ⟨v2, b2⟩ := HCz.out.has (kk * 8 + 2) (by omega)
                obtain ⟨v3, b3⟩ := HCz.out.has (kk * 8 + 3) (by omega)
                obtain ⟨v4, b4⟩ := HCz.out.has (kk * 8 + 4) (by omega)
                obtain ⟨v5, b5⟩ := HCz.out.has (kk * 8 + 5) (by omega)
                obtain ⟨v6, b6⟩ := HCz.out.has (kk * 8 + 6) (by omega)
                obtain ⟨v7, b7⟩ := HCz.out.has (kk * 8 + 7) (by omega)
                have hff := HCz.out.fz
                have hkki : (kk : Int) < (d.length : Int) := by omega
                have hkk0 : (0 : Int) ≤ (kk : Int) := by omega
                clear V1
                go_wp2_with fail
                go_roundw
                case rel => exact ⟨m + 1, kk + 1, by omega, by go_num, by go_num, (show Hid (CInv n g d _ (k + (m + 1) + 2) (kk + 1)) from by
                  have h := HCz.out.keep (m := k + m + 1) HL.out QI.out
                  rw [HE1.out] at h
                  exact h), sets8_kp (h := ⟨.mk k1 lo1 hi1 s1 y1 m1 o1 g1, f1, fl1, fc1⟩) HKz.out⟩
                case measure => simp [intOf]; omega
              · clear hz1 V1
                go_wp2_with fail
                go_roundw
                case rel => exact ⟨m + 1, kk, by omega, by go_num, rfl, HCz.out.skip (m := k + m + 1) HL.out QI.out, HKz⟩
                case measure => simp [intOf]; omega
            · have hml2 : k + m + 2 = d.length := by omega
              have q1 : ¬ (((m : Int) + 1) < (d.length : Int) - ((k : Int) + 1)) := by omega
              have hkki : (kk : Int) ≤ (d.length : Int) := by omega
              have hkkc : (kk : Int) ≤ (cap : Int) := by omega
              have hkk0 : (0 : Int) ≤ (kk : Int) := by omega
              obtain ⟨Z, hZl, hcl⟩ := clear_terms wi g (kk * 8) (d.length - kk) (by omega) (fun j hj => hC.out.has _ (by omega)) hC.out.fz
              have HZ := Lib.hid hZl
              have HM := Lib.hid hml2
              clear hZl hml2
              go_wp2_with fail
              go_ret
              have hC2 := hC.out
              rw [HM.out] at hC2
              have e : d.take d.length = d := List.take_length
              refine ⟨?_, cells_kp hK.out, fun j h => ?_, fun o => (World.frozen?_setCells _ _ _ _ _).trans (hC.out.fz o)⟩
              · have hl := hC2.len
                rw [e] at hl
                rw [← hl]; rfl
              · have hl := hC2.len
                have h3 := hC2.low j (by rw [e]; exact h)
                simp only [e] at h3 hl
                exact h3.to (fun r hr => World.cell?_setCells_out g Z _ wi ⟨g, j * 8 + r, none⟩ (fun _ _ => .inl (by show j * 8 + r < kk * 8; omega)))
      · have hkd : k + 1 = d.length := by omega
        have e : compL (eqH n) d = d := by
          have h := compL_all (eqH n) d d.length (Nat.le_refl _) (fun j h1 h2 => hN.out j h1 (by omega))
          rwa [List.take_length] at h
        have HE := Lib.hid e
        have HK := Lib.hid (Kp.of (P := g) hBr.out)
        have hq : ¬ (((k : Int) + 1) < (d.length : Int)) := by omega
        clear e hkd
        go_wp2_with fail
        go_ret
        unfold CompP
        rw [HE.out]
        exact ⟨rfl, HK.out, fun j h => (HROW.out j h).to (fun r _ => hBr.out.cell (p := ⟨g, j * 8 + r, none⟩) hgl), fun o => (hBr.out.frozen (p := ⟨g, o, none⟩) hgl).trans (HFZ.out o)⟩
end Go.Proofs.YtddleeenlpigfaaGreatDoor
/- PLAIN MATHEMATICS: what is sorted, of each run one, is what comes of putting one behind the other. -/
namespace Go.Proofs.YtddleeenlpigfaaGreatDoor
theorem enc_at {w : World} {g o : Nat} {h : Hr} (k : T8 w g o h) (r : Nat) (hr : r < 8) : w.cell? ⟨g, o + r, none⟩ = some (h.enc[r]!) := by
  obtain ⟨c0, c1, c2, c3, c4, c5, c6, c7⟩ := k
  match r, hr with
  | 0, _ => exact c0
  | 1, _ => exact c1
  | 2, _ => exact c2
  | 3, _ => exact c3
  | 4, _ => exact c4
  | 5, _ => exact c5
  | 6, _ => exact c6
  | 7, _ => exact c7
theorem t8_of {w : World} {g o : Nat} {h : Hr} (k : ∀ r, r < 8 → w.cell? ⟨g, o + r, none⟩ = some (h.enc[r]!)) : T8 w g o h :=
  ⟨k 0 (by omega), k 1 (by omega), k 2 (by omega), k 3 (by omega), k 4 (by omega), k 5 (by omega), k 6 (by omega), k 7 (by omega)⟩
theorem comp_lt {α : Type} {f : α → α → Int} (hf : Cmp f) : ∀ (l : List α) (p : α), (p :: l).Pairwise (fun a b => f a b ≤ 0) → (∀ x ∈ compF (fun a b => f a b == 0) p l, f p x < 0) ∧ (compF (fun a b => f a b == 0) p l).Pairwise (fun a b => f a b < 0)
  | [], _, _ => ⟨fun x hx => by simp [compF] at hx, List.Pairwise.nil⟩
  | a :: l, p, h => by
    have h1 := List.pairwise_cons.1 h
    obtain ⟨g1, g2⟩ := comp_lt hf l a h1.2
    have hpa := h1.1 a (by simp)
    have key : ∀ x, f a x < 0 → f p x < 0 := fun x hx => by
      have t := hf.trans p a x hpa (by omega)
      have : f p x ≠ 0 := fun e => by have := (t.2 e).2; omega
      omega
    by_cases e : f a p = 0
    · have e' : compF (fun a b => f a b == 0) p (a :: l) = compF (fun a b => f a b == 0) a l := by
        unfold compF; rw [if_pos (by simpa using e)]; cases l <;> rfl
      rw [e']
      exact ⟨fun x hx => key x (g1 x hx), g2⟩
    · have e' : compF (fun a b => f a b == 0) p (a :: l) = a :: compF (fun a b => f a b == 0) a l := by
        rw [compF, if_neg (by simpa using e)]
      rw [e']
      have hlt : f p a < 0 := by have := hf.anti p a; omega
      refine ⟨fun x hx => ?_, List.pairwise_cons.2 ⟨g1, g2⟩⟩
      rcases List.mem_cons.1 hx with rfl | hx
      · exact hlt
      · exact key x (g1 x hx)
theorem comp_has {α : Type} {f : α → α → Int} (hf : Cmp f) : ∀ (l : List α) (p x : α), x ∈ l → ∃ y ∈ p :: compF (fun a b => f a b == 0) p l, f x y = 0
  | a :: l, p, x, hx => by
    by_cases e : f a p = 0
    · have e' : compF (fun a b => f a b == 0) p (a :: l) = compF (fun a b => f a b == 0) a l := by
        rw [compF, if_pos (by simpa using e)]
      rw [e']
      rcases List.mem_cons.1 hx with rfl | hx
      · exact ⟨p, by simp, e⟩
      · obtain ⟨y, hy, hxy⟩ := comp_has hf l a x hx
        rcases List.mem_cons.1 hy with rfl | hy
        · exact ⟨p, by simp, hf.zero hxy e⟩
        · exact ⟨y, by simp [hy], hxy⟩
    · have e' : compF (fun a b => f a b == 0) p (a :: l) = a :: compF (fun a b => f a b == 0) a l := by
        rw [compF, if_neg (by simpa using e)]
      rw [e']
      rcases List.mem_cons.1 hx with rfl | hx
      · exact ⟨x, by simp, hf.refl x⟩
      · obtain ⟨y, hy, hxy⟩ := comp_has hf l a x hx
        exact ⟨y, by simp [List.mem_cons.1 hy], hxy⟩
theorem compF_sub {α : Type} {eq : α → α → Bool} : ∀ (l : List α) (p x : α), x ∈ compF eq p l → x ∈ l
  | [], _, _, h => by simp [compF] at h
  | a :: l, p, x, h => by
    unfold compF at h
    split at h
    · exact List.mem_cons_of_mem _ (compF_sub l a x h)
    · rcases List.mem_cons.1 h with rfl | h
      · simp
      · exact List.mem_cons_of_mem _ (compF_sub l a x h)
theorem compL_sub {α : Type} {eq : α → α → Bool} {l : List α} {x : α} (h : x ∈ compL eq l) : x ∈ l := by
  cases l with
  | nil => simp [compL] at h
  | cons a l =>
    rcases List.mem_cons.1 h with rfl | h
    · simp
    · exact List.mem_cons_of_mem _ (compF_sub l a x h)
theorem compL_lt {α : Type} {f : α → α → Int} (hf : Cmp f) {l : List α} (h : l.Pairwise (fun a b => f a b ≤ 0)) : (compL (fun a b => f a b == 0) l).Pairwise (fun a b => f a b < 0) := by
  cases l with
  | nil => exact List.Pairwise.nil
  | cons a l => exact List.pairwise_cons.2 (comp_lt hf l a h)
theorem compL_has {α : Type} {f : α → α → Int} (hf : Cmp f) {l : List α} {x : α} (hx : x ∈ l) : ∃ y ∈ compL (fun a b => f a b == 0) l, f x y = 0 := by
  cases l with
  | nil => simp at hx
  | cons a l =>
    rcases List.mem_cons.1 hx with rfl | hx
    · exact ⟨x, by simp [compL], hf.refl x⟩
    · exact comp_has hf l a x hx
/-- The terms of the headers, sorted, of each run one. -/
theorem comp_some {n : Nat} {A : List Tm} (hA : ∀ x ∈ A, Dt n x) {d' : List Hr} (hp : (d'.map (·.x)).Perm A) (hs : d'.Pairwise (fun a b => cmpT (cmpV n) a.x b.x ≤ 0)) :
    (compL (eqH n) d').map (·.x) = someL (cmpT (cmpV n)) A := by
  have hf : Cmp (fun a b : Hr => cmpT (cmpV n) a.x b.x) := (cmpT_cmp n).key Hr.x
  have h1 := compL_lt hf hs
  refine ups_ext (cmpT_cmp n) ?_ (someL_ups (cmpT_cmp n) A) (fun x => ?_)
  · unfold Ups
    rw [List.pairwise_map]
    exact h1
  · rw [someL_mem (sharp_of hA), ← hp.mem_iff]
    constructor
    · intro hx
      obtain ⟨h, hh, rfl⟩ := List.mem_map.1 hx
      exact List.mem_map.2 ⟨h, compL_sub hh, rfl⟩
    · intro hx
      obtain ⟨h, hh, rfl⟩ := List.mem_map.1 hx
      obtain ⟨y, hy, h0⟩ := compL_has hf hh
      have e : h.x = y.x := cmpT_eq (hA _ (hp.mem_iff.1 (List.mem_map.2 ⟨h, hh, rfl⟩))) (hA _ (hp.mem_iff.1 (List.mem_map.2 ⟨y, compL_sub hy, rfl⟩))) h0
      exact List.mem_map.2 ⟨y, hy, e.symm⟩
end Go.Proofs.YtddleeenlpigfaaGreatDoor
/- Clone at terms, told by headers; a header appended. -/
namespace Go.Proofs.YtddleeenlpigfaaGreatDoor
open Go.RowKit
/-- A row of headers, in a block of its own. -/
def RowH (w : World) (g : Nat) (d : List Hr) : Prop := g < w.heap.size ∧ (∀ o, w.frozen? ⟨g, o, none⟩ = false) ∧ ∀ j (h : j < d.length), T8 w g (j * 8) d[j]
theorem RowH.below {w w' : World} {g : Nat} {d : List Hr} (h : RowH w g d) (hb : Below w.heap.size w w') : RowH w' g d :=
  ⟨Nat.lt_of_lt_of_le h.1 hb.size, fun o => (hb.frozen (p := ⟨g, o, none⟩) h.1).trans (h.2.1 o), fun j hj => (h.2.2 j hj).to (fun r _ => hb.cell (p := ⟨g, j * 8 + r, none⟩) h.1)⟩
/-- What a clone of terms is. -/
def CloneH (d : List Hr) (tl : Nat) (A : List Tm) (w : World) (e : Ending) (w' : World) : Prop :=
  ∃ (t' : Option Addr) (c' : Nat), e = .returned (.slice t' tl c') ∧ Below w.heap.size w w' ∧ (A = [] ∨ ∃ g, t' = some ⟨g, 0, none⟩ ∧ tl ≤ c' ∧ w.heap.size ≤ g ∧ RowH w' g d)
theorem clone_heads (n : Nat) (w0 w : World) (hW : Below w0.heap.size w0 w) (t : Option Addr) (tl tc : Nat) (A : List Tm) (h : InV w0 (n + 1) t tl tc A) (hbig : tl * 72 ≤ 140737488355328) (d : List Hr) (hd : d.map (·.x) = A) (hrow0 : ∀ b off, t = some ⟨b, off, none⟩ → ∀ j (hj : j < d.length), b < w0.heap.size ∧ T8 w0 b (off + j * 8) d[j]) : Calls Tryz.prog 83 #[.slice t tl tc] w (CloneH d tl A w) := by
  have hrow : ∀ b off, t = some ⟨b, off, none⟩ → ∀ j (hj : j < d.length), b < w.heap.size ∧ T8 w b (off + j * 8) d[j] := fun b off e j hj =>
    ⟨Nat.lt_of_lt_of_le (hrow0 b off e j hj).1 hW.size, (hrow0 b off e j hj).2.to (fun r _ => hW.cell (p := ⟨b, off + j * 8 + r, none⟩) (hrow0 b off e j hj).1)⟩
  by_cases h0 : A = []
  · subst h0
    have h00 : tl = 0 := by have := h.1; simpa using this.symm
    subst h00
    exact (cloneT_any t 0 tc w (Nat.zero_le _) (by omega) (.inl rfl)).mono fun e w' ⟨t', c', he, hb, _⟩ => ⟨t', c', he, hb, .inl rfl⟩
  · have hl : A.length = tl := h.1
    have hd0 : d.length = tl := by rw [← hl, ← hd, List.length_map]
    have hpos : 0 < A.length := List.length_pos_iff.2 h0
    obtain ⟨b, off, rfl, -⟩ := h.2.2 0 hpos
    have hcell : ∀ q, q < tl * 8 → ∃ v, w.cell? ⟨b, off + q, none⟩ = some v ∧ v.oneCell' = true := fun q hq => by
      obtain ⟨c0, c1, c2, c3, c4, c5, c6, c7⟩ := (hrow b off rfl (q / 8) (by omega)).2
      have e : off + q = off + q / 8 * 8 + q % 8 := by have := Nat.div_add_mod' q 8; omega
      have hr : q % 8 < 8 := Nat.mod_lt _ (by omega)
      rw [e]
      generalize q % 8 = r at hr
      match r, hr with
      | 0, _ => exact ⟨_, c0, rfl⟩
      | 1, _ => exact ⟨_, c1, rfl⟩
      | 2, _ => exact ⟨_, c2, rfl⟩
      | 3, _ => exact ⟨_, c3, rfl⟩
      | 4, _ => exact ⟨_, c4, rfl⟩
      | 5, _ => exact ⟨_, c5, rfl⟩
      | 6, _ => exact ⟨_, c6, rfl⟩
      | 7, _ => exact ⟨_, c7, rfl⟩
    have hb0 : b < w.heap.size := (hrow b off rfl 0 (by omega)).1
    refine (cloneT_at ⟨b, off, none⟩ tl tc ((List.range (tl * 8)).map fun j => (w.cell? ⟨b, off + j, none⟩).getD default) w (by simp) (by have := h.2.1; unfold maxLen; omega) hbig (fun j u hj => ?_) (fun u hu => ?_)).mono ?_
    · rw [Addr.add_lit]
      obtain ⟨hlt, hj⟩ := List.getElem?_eq_some_iff.1 hj
      simp only [List.length_map, List.length_range] at hlt
      obtain ⟨u', hu', _⟩ := hcell j hlt
      simp only [List.getElem_map, List.getElem_range, hu', Option.getD_some] at hj
      rw [hu', hj]
    · obtain ⟨j, hj, rfl⟩ := List.mem_map.1 hu
      obtain ⟨u', hu', h1⟩ := hcell j (List.mem_range.1 hj)
      rw [hu']
      exact h1
    · rintro e w' ⟨v', rfl, hown, hnn, hb⟩
      have hcap : ∃ a c, v' = .slice a tl c ∧ tl ≤ c := by
        rcases hown.2 with ⟨rfl, -⟩ | ⟨g, cap, cur, rfl, _, _, hc, _⟩
        · exact absurd rfl hnn
        · exact ⟨_, _, rfl, hc⟩
      obtain ⟨g, cap, rfl, hg, hlt, hfz, hce⟩ := row_of_owns hown hnn
      obtain ⟨_, _, e, hc⟩ := hcap
      cases e
      refine ⟨_, cap, rfl, hb, .inr ⟨g, rfl, hc, hg, hlt, hfz, fun j hj => ?_⟩⟩
      refine (hrow b off rfl j hj).2.to (fun r hr => ?_)
      rw [hce (j * 8 + r) (by simp; omega)]
      obtain ⟨u', hu', _⟩ := hcell (j * 8 + r) (by omega)
      rw [← Nat.add_assoc] at hu'
      simp only [List.getElem?_map, List.getElem?_range (show j * 8 + r < tl * 8 by omega), Option.map_some, ← Nat.add_assoc, hu', Option.getD_some]
theorem flat_get {α : Type} {s : Nat} : ∀ (L : List (List α)) (i r : Nat) (_ : ∀ x ∈ L, x.length = s) (_ : r < s) (hi : i < L.length), L.flatten[i * s + r]? = L[i][r]?
  | x :: L, 0, r, hs, hr, _ => by
    have : x.length = s := hs x (by simp)
    rw [Nat.zero_mul, Nat.zero_add, List.flatten_cons, List.getElem?_append_left (by omega)]
    rfl
  | x :: L, i + 1, r, hs, hr, hi => by
    have hx : x.length = s := hs x (by simp)
    rw [List.flatten_cons, List.getElem?_append_right (by rw [hx, Nat.add_mul]; omega)]
    have e : (i + 1) * s + r - x.length = i * s + r := by rw [hx, Nat.add_mul]; omega
    rw [e, flat_get L i r (fun y hy => hs y (by simp [hy])) hr (by simpa using hi)]
    rfl
theorem owns_below {w w' : World} {base E size n : Nat} {v : Value} {xs : List Value} (h : w.ownsRow base E size v n xs) (hb : Below w.heap.size w w') : w'.ownsRow base E size v n xs := by
  obtain ⟨h1, h2⟩ := h
  refine ⟨h1, ?_⟩
  rcases h2 with h2 | ⟨g, cap, cur, hv, hg, hh, r⟩
  · exact Or.inl h2
  · exact Or.inr ⟨g, cap, cur, hv, hg, by rw [hb.block g (Array.getElem?_eq_some_iff.1 hh).1]; exact hh, r⟩
theorem owns_set {w : World} {base E size n : Nat} {v : Value} {xs : List Value} (h : w.ownsRow base E size v n xs) {T o : Nat} {u : Value} (hT : T < base) : (w.setCell ⟨T, o, none⟩ u).ownsRow base E size v n xs := by
  obtain ⟨h1, h2⟩ := h
  refine ⟨h1, ?_⟩
  rcases h2 with h2 | ⟨g, cap, cur, hv, hg, hh, r⟩
  · exact Or.inl h2
  · exact Or.inr ⟨g, cap, cur, hv, hg, by rw [set_heap (by omega)]; exact hh, r⟩
/-- A row of a call's own that holds headers. -/
def OwnH (w : World) (base : Nat) (u : Value) (L : List Hr) : Prop := w.ownsRow base 31 8 u L.length (L.map Hr.enc).flatten
theorem OwnH.nil (w : World) (base : Nat) : OwnH w base (.slice none 0 0) [] := World.ownsRow_nil _ _ _ _
theorem OwnH.below {w w' : World} {base : Nat} {u : Value} {L : List Hr} (h : OwnH w base u L) (hb : Below w.heap.size w w') : OwnH w' base u L := owns_below h hb
theorem OwnH.set {w : World} {base : Nat} {u : Value} {L : List Hr} (h : OwnH w base u L) {T o : Nat} {x : Value} (hT : T < base) : OwnH (w.setCell ⟨T, o, none⟩ x) base u L := owns_set h hT
theorem enc_len (h : Hr) : h.enc.length = 8 := rfl
theorem heap_new (w : World) (o : Obj) : (w.alloc o).heap[w.heap.size]? = some o := by show (w.heap.push o)[w.heap.size]? = _; simp
/-- One header more. -/
theorem OwnH.append {w : World} {B : Nat} {u : Value} {L : List Hr} (ho : OwnH w B u L) (hby : (L.length + 1) * 72 ≤ 140737488355328) (hB : B ≤ w.heap.size) (h : Hr) :
    ∃ (g cap : Nat) (w4 : World), (Builtin.append_ #[22, 22] 22 #[u, .slice (some ⟨w.heap.size, 0, none⟩) 1 1]).run Tryz.prog (w.alloc (.cells h.enc.toArray 31)) = .ok (.slice (some ⟨g, 0, none⟩) (L.length + 1) cap) w4 ∧ Below B w w4 ∧ OwnH w4 B (.slice (some ⟨g, 0, none⟩) (L.length + 1) cap) (L ++ [h]) := by
  obtain ⟨i0, hi, hz0, hz1, hz2⟩ := info_parts info24
  have ha := bl_alloc (o := .cells h.enc.toArray 31) (Below.refl w.heap.size w)
  obtain ⟨g, cap, w4, hap, hown, hgrow, hloc, hlt⟩ := run_append_lies (P := Tryz.prog) (w.alloc (.cells h.enc.toArray 31)) 22 22 B 31 i0 _ 8 72 Tryz.underlying22 hi hz0 hz1 hz2 rfl (by omega) u L.length (L.map Hr.enc).flatten (owns_below ho ha)
    ⟨w.heap.size, 0, none⟩ 1 1 h.enc (enc_len h) (World.news_of_block (cs := h.enc.toArray) (t := 31) (fr := (0, 0)) (heap_new w _)) (fun v hv => by
      simp only [Hr.enc, List.mem_cons, List.not_mem_nil, or_false] at hv
      rcases hv with rfl | rfl | rfl | rfl | rfl | rfl | rfl | rfl <;> rfl) (by omega) (by unfold maxLen; omega) hby (by simp; omega) (w.heap.size + 1) (by simp)
  refine ⟨g, cap, w4, hap, (ha.mono hB).trans ((Below.refl B _).grown hgrow (by simp; omega) (fun k hk => (ho.lt k hk).1)), ?_⟩
  unfold OwnH
  rw [List.map_append, List.flatten_append, List.length_append]
  simpa using hown
/-- The row that was made is a value. -/
theorem OwnH.inV {n : Nat} {w : World} {base : Nat} {t : Option Addr} {tl tc : Nat} {L : List Hr} (ho : OwnH w base (.slice t tl tc) L) (hz : (L.length : Int) ≤ 9223372036854775807) (hok : ∀ h ∈ L, h.ok n w) : InV w (n + 1) t tl tc (L.map (·.x)) ∧ tl = L.length := by
  by_cases h0 : L = []
  · subst h0
    rcases ho.2 with ⟨e, -⟩ | ⟨g, cap, cur, e, _⟩
    · cases e
      exact ⟨⟨rfl, by decide, fun i hi => absurd hi (by simp)⟩, rfl⟩
    · cases e
      exact ⟨⟨rfl, by decide, fun i hi => absurd hi (by simp)⟩, rfl⟩
  · have hpos : 0 < L.length := List.length_pos_iff.2 h0
    obtain ⟨g, cap, e, h1, h2, h3, h4⟩ := row_of_owns ho (by
      rcases ho.2 with ⟨_, e⟩ | ⟨g, cap, cur, e, _⟩
      · omega
      · rw [e]; simp)
    cases e
    have hl : (L.map Hr.enc).flatten.length = L.length * 8 := ho.1
    refine ⟨row_inV h2 hz hok (fun j hj => t8_of fun r hr => ?_), rfl⟩
    rw [Nat.zero_add, h4 (j * 8 + r) (by omega), flat_get (L.map Hr.enc) j r (fun x hx => by obtain ⟨h, -, rfl⟩ := List.mem_map.1 hx; rfl) hr (by simpa using hj), List.getElem_map]
    exact List.getElem?_eq_getElem (by rw [enc_len]; exact hr) |>.trans (by rw [getElem!_pos _ r (by rw [enc_len]; exact hr)])
end Go.Proofs.YtddleeenlpigfaaGreatDoor
