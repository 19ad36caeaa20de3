/- ShelfC, Bf, Bg -/
import Derived.Shelf.Small.Strs
import Derived.Test.YtfhknnldkfngdaaGreatDoorProg
import Derived.Test.YtfhknnldkfngdaaGreatDoorY27
import Derived.Test.YtfhknnldkfngdaaGreatDoorY20
/- The library's contract of strings.Compare at this program's own numbers, laid by the library's command and written out in plain words. -/
namespace Go.Proofs
open Go.Shelf
def Tryz.lays106_ren : Go.Shelf.Ren := ⟨fun | 106 => 169 | 213 => 181 | 265 => 192 | n => n, fun | 9 => 9 | 3 => 3 | n => n, fun | n => n⟩
end Go.Proofs
/- A field as it lies in a row; SortFunc at fields; Clone at fields. -/
namespace Go.Proofs.YtfhknnldkfngdaaGreatDoor
open Go.RowKit
open Go.Sort (grow PermIn SortedIn HoldsK SWO flatK putRowK)
theorem compare_bytes : ∀ l m : List UInt8, Lib.compareBytes l m = if Op.bytesLess l m = true then -1 else if l = m then 0 else 1
  | [], [] => by rw [less_irrefl]; rfl
  | [], b :: m => by rw [bytesLess_eq]; simp [Lib.compareBytes]
  | a :: l, [] => by rw [bytesLess_eq]; simp [Lib.compareBytes]
  | a :: l, b :: m => by
    have ih := compare_bytes l m
    rw [bytesLess_eq] at ih ⊢
    simp only [decide_eq_true_eq] at ih ⊢
    unfold Lib.compareBytes
    simp only [ih, List.cons_lt_cons_iff, List.cons.injEq]
    by_cases h1 : a < b
    · rw [if_pos h1, if_pos (.inl h1)]
    · by_cases h2 : b < a
      · have hne : a ≠ b := fun e => by subst e; exact h1 h2
        rw [if_neg h1, if_pos h2, if_neg (fun c => c.elim h1 fun c => hne c.1), if_neg (fun c => hne c.1)]
      · have e : a = b := UInt8.le_antisymm (UInt8.not_lt.1 h2) (UInt8.not_lt.1 h1)
        subst e
        rw [if_neg h1, if_neg h1]
        simp [h1]
theorem compare_S (a b : ByteArray) : Lib.compareBytes a.data.toList b.data.toList = cmpS a b := by
  rw [compare_bytes, ← Lib.toList_data, ← Lib.toList_data]; rfl
/-- A field as it lies in a row: its value by address. -/
structure Fh where
  nm : ByteArray
  V : List Tm
  t : Option Addr
  tl : Nat
  tc : Nat
abbrev Fh.v (h : Fh) : Value := .agg #[.string h.nm, .slice h.t h.tl h.tc]
def Fh.enc (h : Fh) : List Value := [.string h.nm, .slice h.t h.tl h.tc]
def Fh.f (h : Fh) : Fd := (h.nm, h.V)
def Fh.ok (I : Option Addr → Nat → Nat → List Tm → Prop) (h : Fh) : Prop := I h.t h.tl h.tc h.V
instance : Inhabited Fh := ⟨⟨⟨#[]⟩, [], none, 0, 0⟩⟩
def T2 (w : World) (g o : Nat) (h : Fh) : Prop := w.cell? ⟨g, o, none⟩ = some (.string h.nm) ∧ w.cell? ⟨g, o + 1, none⟩ = some (.slice h.t h.tl h.tc)
/-- A row of fields, in a block of its own. -/
def RowF (w : World) (g : Nat) (d : List Fh) : Prop := g < w.heap.size ∧ (∀ o, w.frozen? ⟨g, o, none⟩ = false) ∧ ∀ j (h : j < d.length), T2 w g (j * 2) d[j]
theorem RowF.below {w w' : World} {g : Nat} {d : List Fh} (h : RowF w g d) (hb : Below w.heap.size w w') : RowF w' g d :=
  ⟨Nat.lt_of_lt_of_le h.1 hb.size, fun o => (hb.frozen (p := ⟨g, o, none⟩) h.1).trans (h.2.1 o), fun j hj => ⟨(hb.cell (p := ⟨g, j * 2, none⟩) h.1).trans (h.2.2 j hj).1, (hb.cell (p := ⟨g, j * 2 + 1, none⟩) h.1).trans (h.2.2 j hj).2⟩⟩
/-- The headers of a struct's fields. -/
theorem fheads {I : Option Addr → Nat → Nat → List Tm → Prop} {w : World} {f : Option Addr} {fl : Nat} {fs : List Fd} (h : InF I w f fl fs) :
    ∃ d : List Fh, d.map Fh.f = fs ∧ (∀ x ∈ d, x.ok I) ∧ ∀ b off, f = some ⟨b, off, none⟩ → ∀ j (hj : j < d.length), b < w.heap.size ∧ T2 w b (off + j * 2) d[j] := by
  obtain ⟨hl, hz, hA⟩ := h
  have key : ∀ k, k ≤ fs.length → ∃ L : List Fh, L.map Fh.f = fs.take k ∧ (∀ h ∈ L, h.ok I) ∧ ∀ b off, f = some ⟨b, off, none⟩ → ∀ j (hj : j < L.length), b < w.heap.size ∧ T2 w b (off + j * 2) L[j] := by
    intro k
    induction k with
    | zero => intro _; exact ⟨[], by simp, by simp, fun _ _ _ j hj => absurd hj (by simp)⟩
    | succ k ih =>
      intro hk
      obtain ⟨L, h1, h2, h3⟩ := ih (by omega)
      have hlen : L.length = k := by rw [← List.length_map (f := Fh.f), h1, List.length_take]; omega
      obtain ⟨b, off, tl, tc, t, e, lt1, c0, c1, hI⟩ := hA k (by omega)
      refine ⟨L ++ [⟨fs[k].1, fs[k].2, t, tl, tc⟩], ?_, fun x hx => ?_, fun b' off' e' j hj => ?_⟩
      · rw [List.map_append, h1, List.take_succ_eq_append_getElem (by omega)]; rfl
      · rcases List.mem_append.1 hx with hx | hx
        · exact h2 x hx
        · rw [List.mem_singleton.1 hx]; exact hI
      · by_cases hjk : j < L.length
        · rw [List.getElem_append_left hjk]; exact h3 b' off' e' j hjk
        · have ej : j = L.length := by simp at hj; omega
          subst ej
          rw [e] at e'; cases e'
          rw [List.getElem_append_right (Nat.le_refl _)]
          simp only [Nat.sub_self, List.getElem_cons_zero, hlen]
          exact ⟨lt1, c0, c1⟩
  obtain ⟨L, h1, h2⟩ := key fs.length (Nat.le_refl _)
  exact ⟨L, by rw [h1, List.take_length], h2⟩
theorem encF_at {w : World} {g o : Nat} {h : Fh} (k : T2 w g o h) (r : Nat) (hr : r < 2) : w.cell? ⟨g, o + r, none⟩ = some (h.enc[r]!) := by
  match r, hr with
  | 0, _ => exact k.1
  | 1, _ => exact k.2
theorem t2_of {w : World} {g o : Nat} {h : Fh} (k : ∀ r, r < 2 → w.cell? ⟨g, o + r, none⟩ = some (h.enc[r]!)) : T2 w g o h := ⟨k 0 (by decide), k 1 (by decide)⟩
def cmpFh (a b : Fh) : Int := cmpS a.nm b.nm
theorem cmpF_swo : SWO (ltOf cmpFh) where
  irrefl x := by simp [ltOf, cmpFh, cmpS_cmp.refl]
  trans x y z := by
    simp only [ltOf, decide_eq_true_eq]
    unfold cmpFh
    intro h1 h2
    have t := cmpS_cmp.trans x.nm y.nm z.nm (by omega) (by omega)
    by_cases h0 : cmpS x.nm z.nm = 0
    · have := (t.2 h0).1; omega
    · omega
  ntrans x y z := by
    simp only [ltOf, decide_eq_false_iff_not]
    unfold cmpFh
    intro h1 h2 h3
    have a1 := cmpS_cmp.anti x.nm y.nm
    have a2 := cmpS_cmp.anti y.nm z.nm
    have a3 := cmpS_cmp.anti x.nm z.nm
    have := (cmpS_cmp.trans z.nm y.nm x.nm (by omega) (by omega)).1
    omega
theorem sortWF_kp (w : World) (g m : Nat) (D : Array Fh) (os : Array Obj) : Kp g w (sortWorldK Fh.enc 2 w g 0 m D os) := by
  refine ⟨rfl, rfl, rfl, ?_, fun k hk hP => ?_⟩
  · simp [sortWorldK, grow, putRowK, Sort.putRow, Sort.mapBlock, Sort.ahead]
  · simp only [sortWorldK]
    rw [Sort.heap_grow_old _ _ (by simpa [putRowK, Sort.putRow, Sort.mapBlock, Sort.ahead] using hk)]
    simp only [putRowK, Sort.putRow, Sort.mapBlock, Sort.ahead, Array.getElem?_modify]
    rw [if_neg (fun e => hP e.symm)]
theorem sortWF_frozen (w : World) (g m : Nat) (D : Array Fh) (os : Array Obj) (hg : g < w.heap.size) (o : Nat) : (sortWorldK Fh.enc 2 w g 0 m D os).frozen? ⟨g, o, none⟩ = w.frozen? ⟨g, o, none⟩ := by
  simp only [sortWorldK]
  rw [Sort.frozen?_grow _ _ _ (by simpa [putRowK, Sort.putRow, Sort.mapBlock, Sort.ahead] using hg)]
  unfold putRowK
  rw [Go.Sort.frozen?_putRow]
  rfl
def SortFP (g : Nat) (d : List Fh) (w : World) (e : Ending) (w' : World) : Prop :=
  e = .returned (.tuple #[]) ∧ ∃ d' : List Fh, d'.Perm d ∧ d'.Pairwise (fun a b => cmpS a.nm b.nm ≤ 0) ∧ Kp g w w' ∧ RowF w' g d'
end Go.Proofs.YtfhknnldkfngdaaGreatDoor
/- WALK of united. -/
namespace Go.Proofs.YtfhknnldkfngdaaGreatDoor
open Go.RowKit
/-- A row of a call's own that holds fields. -/
def OwnFh (w : World) (base : Nat) (u : Value) (L : List Fh) : Prop := w.ownsRow base 52 2 u L.length (L.map Fh.enc).flatten
theorem OwnFh.nil (w : World) (base : Nat) : OwnFh w base (.slice none 0 0) [] := World.ownsRow_nil _ _ _ _
theorem OwnFh.below {w w' : World} {base : Nat} {u : Value} {L : List Fh} (h : OwnFh w base u L) (hb : Below w.heap.size w w') : OwnFh w' base u L := owns_below h hb
theorem encF_len (h : Fh) : h.enc.length = 2 := rfl
theorem encs_len (L : List Fh) : (L.map Fh.enc).flatten.length = L.length * 2 := by
  induction L with
  | nil => rfl
  | cons x L ih => rw [List.map_cons, List.flatten_cons, List.length_append, ih, encF_len, List.length_cons]; omega
theorem encs_one {L : List Fh} : ∀ u ∈ (L.map Fh.enc).flatten, u.oneCell' = true := fun u hu => by
  obtain ⟨l, hl, hu⟩ := List.mem_flatten.1 hu
  obtain ⟨h, _, rfl⟩ := List.mem_map.1 hl
  simp only [Fh.enc, List.mem_cons, List.not_mem_nil, or_false] at hu
  rcases hu with rfl | rfl <;> rfl
/-- The row that is owned, as a slice of fields. -/
theorem OwnFh.row {w : World} {base : Nat} {u : Value} {L : List Fh} (ho : OwnFh w base u L) : ∃ a cap, u = .slice a L.length cap ∧ (L = [] ∨ ∃ g, a = some ⟨g, 0, none⟩ ∧ base ≤ g ∧ RowF w g L) := by
  by_cases h0 : L = []
  · subst h0
    obtain ⟨a, c, rfl⟩ := slice_of_owns ho
    exact ⟨a, c, rfl, .inl rfl⟩
  · have hnn : u ≠ .slice none 0 0 := fun e => by
      rcases ho.2 with ⟨_, hn⟩ | ⟨g, cap, cur, e2, _⟩
      · exact h0 (List.eq_nil_of_length_eq_zero hn)
      · rw [e] at e2; cases e2
    obtain ⟨g, cap, rfl, hg, hlt, hfz, hce⟩ := row_of_owns ho hnn
    refine ⟨_, cap, rfl, .inr ⟨g, rfl, hg, hlt, hfz, fun j hj => t2_of fun r hr => ?_⟩⟩
    rw [hce (j * 2 + r) (by rw [encs_len]; omega), flat_get (s := 2) (L.map Fh.enc) j r (fun x hx => by obtain ⟨h, _, rfl⟩ := List.mem_map.1 hx; rfl) hr (by simpa using hj), List.getElem_map]
    match r, hr with
    | 0, _ => rfl
    | 1, _ => rfl
/-- Clone at fields. -/
theorem clone_fields (I : Option Addr → Nat → Nat → List Tm → Prop) (w : World) (f : Option Addr) (fl fc : Nat) (fs : List Fd) (h : InF I w f fl fs) (h32 : fl ≤ 32) :
    Calls Tryz.prog 89 #[.slice f fl fc] w fun e w' => ∃ u d, e = .returned u ∧ Below w.heap.size w w' ∧ d.map Fh.f = fs ∧ (∀ x ∈ d, x.ok I) ∧ OwnFh w' w.heap.size u d := by
  obtain ⟨d, hd, hok, hrow⟩ := fheads h
  have hl : d.length = fl := by rw [← h.1, ← hd, List.length_map]
  cases f with
  | none =>
    have h0 : fl = 0 := by
      refine Classical.byContradiction fun c => ?_
      obtain ⟨_, _, _, _, _, e, _⟩ := h.2.2 0 (by have := h.1; omega)
      cases e
    subst h0
    have hd0 : d = [] := List.eq_nil_of_length_eq_zero hl
    exact (cloneF_nil 0 fc w).mono fun e w' ⟨a, b⟩ => ⟨_, d, a, by rw [b]; exact Below.refl _ _, hd, hok, by rw [hd0]; exact OwnFh.nil _ _⟩
  | some ad =>
    refine (cloneF_at ad fl fc (d.map Fh.enc).flatten w (by rw [encs_len, hl]) (by unfold maxLen; omega) (by omega) (fun j u hj => ?_) encs_one).mono ?_
    · obtain ⟨hlt, hj⟩ := List.getElem?_eq_some_iff.1 hj
      rw [encs_len] at hlt
      have hfl : 0 < fs.length := by rw [h.1]; omega
      obtain ⟨b, off, _, _, _, e, _⟩ := h.2.2 0 hfl
      obtain rfl : ad = ⟨b, off, none⟩ := Option.some.inj e
      rw [Addr.add_lit]
      have hr := (hrow b off rfl (j / 2) (by omega)).2
      have h2 := encF_at hr (j % 2) (Nat.mod_lt _ (by decide))
      have e3 : off + j / 2 * 2 + j % 2 = off + j := by have := Nat.div_add_mod' j 2; omega
      rw [e3] at h2
      rw [h2, ← hj]
      have h4 := flat_get (s := 2) (d.map Fh.enc) (j / 2) (j % 2) (fun x hx => by obtain ⟨h, _, rfl⟩ := List.mem_map.1 hx; rfl) (Nat.mod_lt _ (by decide)) (by simp; omega)
      rw [Nat.div_add_mod', List.getElem?_eq_getElem (by rw [encs_len]; omega), List.getElem_map] at h4
      rw [h4]
      have hr2 : j % 2 < 2 := Nat.mod_lt _ (by decide)
      generalize j % 2 = r at hr2
      match r, hr2 with
      | 0, _ => rfl
      | 1, _ => rfl
    · rintro e w' ⟨v', rfl, hown, hnn, hb⟩
      exact ⟨v', d, rfl, hb, hd, hok, by unfold OwnFh; rw [hl]; exact hown⟩
/-- A variable's cell. -/
def Dx (w : World) (N : Nat) (v : Value) : Prop := N < w.heap.size ∧ w.cell? ⟨N, 0, none⟩ = some v
theorem Dx.later {w w' : World} {N : Nat} {v : Value} (h : Dx w N v) (hb : Below w.heap.size w w') : Dx w' N v := ⟨Nat.lt_of_lt_of_le h.1 hb.size, (hb.cell (p := ⟨N, 0, none⟩) h.1).trans h.2⟩
theorem ret_sl {a : Option Addr} {n m c : Nat} (h : n = m) : Ending.returned (.slice a n c) = .returned (.slice a m c) := by rw [h]
/-- What united answers. -/
def UniP (I : Option Addr → Nat → Nat → List Tm → Prop) (fs gs : List Fd) (w : World) (e : Ending) (w' : World) : Prop :=
  ∃ (a : Option Addr) (cap : Nat) (d : List Fh), e = .returned (.slice a d.length cap) ∧ Below w.heap.size w w' ∧ d.map Fh.f = uni fs gs ∧ (∀ x ∈ d, x.ok I) ∧ (d = [] ∨ ∃ g, a = some ⟨g, 0, none⟩ ∧ w.heap.size ≤ g ∧ RowF w' g d)
/-- Those of the first k that are lacking. -/
def lackK (fs gs : List Fd) (k : Nat) : List Fd := (gs.take k).filter fun g => (findF fs g.1).isNone
theorem lackK_yes {fs gs : List Fd} {k : Nat} (hk : k < gs.length) (h : (findF fs gs[k].1).isNone = true) : lackK fs gs (k + 1) = lackK fs gs k ++ [gs[k]] := by
  unfold lackK; rw [List.take_succ_eq_append_getElem hk, List.filter_append, List.filter_cons, h]; rfl
theorem lackK_no {fs gs : List Fd} {k : Nat} (hk : k < gs.length) (h : (findF fs gs[k].1).isNone = false) : lackK fs gs (k + 1) = lackK fs gs k := by
  unfold lackK; rw [List.take_succ_eq_append_getElem hk, List.filter_append, List.filter_cons, h]; simp
theorem perm_uni {fs gs : List Fd} (hf : Up fs) (hg : Up gs) {d : List Fh} (hp : (d.map Fh.f).Perm (fs ++ lackK fs gs gs.length)) (hs : d.Pairwise fun a b => cmpS a.nm b.nm ≤ 0) : d.map Fh.f = uni fs gs := by
  have hm : ∀ y, y ∈ d.map Fh.f ↔ y ∈ fs ∨ (y ∈ gs ∧ findF fs y.1 = none) := fun y => by
    rw [hp.mem_iff, List.mem_append]
    unfold lackK
    rw [List.take_length, List.mem_filter, Option.isNone_iff_eq_none]
  have hne : (fs ++ lackK fs gs gs.length).Pairwise fun a b => a.1.toList ≠ b.1.toList := by
    have one : ∀ {l : List Fd}, Up l → l.Pairwise fun a b => a.1.toList ≠ b.1.toList := fun h => h.imp fun h e => by rw [e, less_irrefl] at h; exact absurd h (by decide)
    rw [List.pairwise_append]
    refine ⟨one hf, one ((hg.sublist (List.take_sublist _ _)).filter _), fun a ha b hb => ?_⟩
    have := (List.mem_filter.1 hb).2
    exact fun e => findF_no (Option.isNone_iff_eq_none.1 this) a ha e.symm
  have hne2 : (d.map Fh.f).Pairwise fun a b => a.1.toList ≠ b.1.toList := (hp.pairwise_iff fun h e => h e.symm).2 hne
  refine uni_is hf hg ?_ hm
  unfold Up
  rw [List.pairwise_map] at hne2 ⊢
  refine (List.Pairwise.and hs hne2).imp fun {a b} h => ?_
  obtain ⟨h1, h2⟩ := h
  have h2' : a.nm.toList ≠ b.nm.toList := h2
  show Op.bytesLess a.nm.toList b.nm.toList = true
  unfold cmpS at h1
  cases hb : Op.bytesLess a.nm.toList b.nm.toList
  · rw [hb, if_neg (by simp), if_neg h2'] at h1; exact absurd h1 (by decide)
  · rfl
theorem info59' : (Tryz.prog.info? 52).map (fun i => (i.zero, i.size, i.bytes)) = some (some (.agg #[.string ByteArray.empty, .slice none 0 0]), 2, 40) := info59
end Go.Proofs.YtfhknnldkfngdaaGreatDoor
