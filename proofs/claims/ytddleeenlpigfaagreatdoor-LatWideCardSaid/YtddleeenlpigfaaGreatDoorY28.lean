/- ShelfC, Bf, Bg -/
import Derived.Shelf.Small.Strs
import Derived.Test.YtddleeenlpigfaaGreatDoorProg
import Derived.Test.YtddleeenlpigfaaGreatDoorY27
import Derived.Test.YtddleeenlpigfaaGreatDoorY20
/- The library's contract of strings.Compare at this program's own numbers, laid by the library's command and written out in plain words. -/
namespace Go.Proofs
open Go.Shelf
def Tryz.lays106_ren : Go.Shelf.Ren := ⟨fun | 106 => 169 | 213 => 181 | 265 => 192 | n => n, fun | 9 => 9 | 3 => 3 | n => n, fun | n => n⟩
theorem Tryz.lays106 : Go.Proofs.Lays.n106 Tryz.prog Tryz.lays106_ren := {
  mixed := by kernel_rfl
  f106 := Tryz.func169.trans (congrArg some (by kernel_rfl))
  f213 := Tryz.func181.trans (congrArg some (by kernel_rfl))
  f265 := Tryz.func192.trans (congrArg some (by kernel_rfl))
  t3 := Tryz.underlying3
  a3 := Tryz.isAgg3
  z3 := Tryz.sizeOf3
  v3 := Tryz.zeroValue3
  t9 := Tryz.underlying9
  a9 := Tryz.isAgg9
  z9 := Tryz.sizeOf9
  v9 := Tryz.zeroValue9 }
open Go.RowKit in
theorem Tryz.strings_Compare (a b : ByteArray) (w : World) :
    Calls Tryz.prog 169 #[.string a, .string b] w fun e w' => e = .returned (.int .i64 (Lib.compareBytes a.data.toList b.data.toList)) ∧ w' = w := Any.strings_Compare Tryz.lays106 a b w
end Go.Proofs
/- A field as it lies in a row; SortFunc at fields; Clone at fields. -/
namespace Go.Proofs.YtddleeenlpigfaaGreatDoor
open Go.RowKit
open Go.Sort (grow PermIn SortedIn HoldsK SWO flatK putRowK)
theorem compare_bytes : ∀ l m : List UInt8, Lib.compareBytes l m = if Op.bytesLess l m = true then -1 else if l = m then 0 else 1
  | [], [] => by rw [less_irrefl]; rfl
  | [], b :: m => by rw [bytesLess_eq]; simp [Lib.compareBytes]
  | a :: l, [] => by rw [bytesLess_eq]; simp [Lib.compareBytes]
  | a :: l, b :: m => by
    have ih := compare_bytes l m
    rw [bytesLess_eq] at ih ⊢
    simp only [decide_eq_true_eq] at ih ⊢
    unfold Lib.compareBytes
    simp only [ih, List.cons_lt_cons_iff, List.cons.injEq]
    by_cases h1 : a < b
    · rw [if_pos h1, if_pos (.inl h1)]
    · by_cases h2 : b < a
      · have hne : a ≠ b := fun e => by subst e; exact h1 h2
        rw [if_neg h1, if_pos h2, if_neg (fun c => c.elim h1 fun c => hne c.1), if_neg (fun c => hne c.1)]
      · have e : a = b := UInt8.le_antisymm (UInt8.not_lt.1 h2) (UInt8.not_lt.1 h1)
        subst e
        rw [if_neg h1, if_neg h1]
        simp [h1]
theorem compare_S (a b : ByteArray) : Lib.compareBytes a.data.toList b.data.toList = cmpS a b := by
  rw [compare_bytes, ← Lib.toList_data, ← Lib.toList_data]; rfl
/-- A field as it lies in a row: its value by address. -/
structure Fh where
  nm : ByteArray
  V : List Tm
  t : Option Addr
  tl : Nat
  tc : Nat
abbrev Fh.v (h : Fh) : Value := .agg #[.string h.nm, .slice h.t h.tl h.tc]
def Fh.enc (h : Fh) : List Value := [.string h.nm, .slice h.t h.tl h.tc]
def Fh.f (h : Fh) : Fd := (h.nm, h.V)
def Fh.ok (I : Option Addr → Nat → Nat → List Tm → Prop) (h : Fh) : Prop := I h.t h.tl h.tc h.V
instance : Inhabited Fh := ⟨⟨⟨#[]⟩, [], none, 0, 0⟩⟩
def T2 (w : World) (g o : Nat) (h : Fh) : Prop := w.cell? ⟨g, o, none⟩ = some (.string h.nm) ∧ w.cell? ⟨g, o + 1, none⟩ = some (.slice h.t h.tl h.tc)
/-- A row of fields, in a block of its own. -/
def RowF (w : World) (g : Nat) (d : List Fh) : Prop := g < w.heap.size ∧ (∀ o, w.frozen? ⟨g, o, none⟩ = false) ∧ ∀ j (h : j < d.length), T2 w g (j * 2) d[j]
theorem RowF.below {w w' : World} {g : Nat} {d : List Fh} (h : RowF w g d) (hb : Below w.heap.size w w') : RowF w' g d :=
  ⟨Nat.lt_of_lt_of_le h.1 hb.size, fun o => (hb.frozen (p := ⟨g, o, none⟩) h.1).trans (h.2.1 o), fun j hj => ⟨(hb.cell (p := ⟨g, j * 2, none⟩) h.1).trans (h.2.2 j hj).1, (hb.cell (p := ⟨g, j * 2 + 1, none⟩) h.1).trans (h.2.2 j hj).2⟩⟩
/-- The headers of a struct's fields. -/
theorem fheads {I : Option Addr → Nat → Nat → List Tm → Prop} {w : World} {f : Option Addr} {fl : Nat} {fs : List Fd} (h : InF I w f fl fs) :
    ∃ d : List Fh, d.map Fh.f = fs ∧ (∀ x ∈ d, x.ok I) ∧ ∀ b off, f = some ⟨b, off, none⟩ → ∀ j (hj : j < d.length), b < w.heap.size ∧ T2 w b (off + j * 2) d[j] := by
  obtain ⟨hl, hz, hA⟩ := h
  have key : ∀ k, k ≤ fs.length → ∃ L : List Fh, L.map Fh.f = fs.take k ∧ (∀ h ∈ L, h.ok I) ∧ ∀ b off, f = some ⟨b, off, none⟩ → ∀ j (hj : j < L.length), b < w.heap.size ∧ T2 w b (off + j * 2) L[j] := by
    intro k
    induction k with
    | zero => intro _; exact ⟨[], by simp, by simp, fun _ _ _ j hj => absurd hj (by simp)⟩
    | succ k ih =>
      intro hk
      obtain ⟨L, h1, h2, h3⟩ := ih (by omega)
      have hlen : L.length = k := by rw [← List.length_map (f := Fh.f), h1, List.length_take]; omega
      obtain ⟨b, off, tl, tc, t, e, lt1, c0, c1, hI⟩ := hA k (by omega)
      refine ⟨L ++ [⟨fs[k].1, fs[k].2, t, tl, tc⟩], ?_, fun x hx => ?_, fun b' off' e' j hj => ?_⟩
      · rw [List.map_append, h1, List.take_succ_eq_append_getElem (by omega)]; rfl
      · rcases List.mem_append.1 hx with hx | hx
        · exact h2 x hx
        · rw [List.mem_singleton.1 hx]; exact hI
      · by_cases hjk : j < L.length
        · rw [List.getElem_append_left hjk]; exact h3 b' off' e' j hjk
        · have ej : j = L.length := by simp at hj; omega
          subst ej
          rw [e] at e'; cases e'
          rw [List.getElem_append_right (Nat.le_refl _)]
          simp only [Nat.sub_self, List.getElem_cons_zero, hlen]
          exact ⟨lt1, c0, c1⟩
  obtain ⟨L, h1, h2⟩ := key fs.length (Nat.le_refl _)
  exact ⟨L, by rw [h1, List.take_length], h2⟩
theorem encF_at {w : World} {g o : Nat} {h : Fh} (k : T2 w g o h) (r : Nat) (hr : r < 2) : w.cell? ⟨g, o + r, none⟩ = some (h.enc[r]!) := by
  match r, hr with
  | 0, _ => exact k.1
  | 1, _ => exact k.2
theorem t2_of {w : World} {g o : Nat} {h : Fh} (k : ∀ r, r < 2 → w.cell? ⟨g, o + r, none⟩ = some (h.enc[r]!)) : T2 w g o h := ⟨k 0 (by decide), k 1 (by decide)⟩
set_option maxRecDepth 100000 in
set_option maxHeartbeats 2000000 in
theorem names168 (a b : Fh) (w : World) : Calls Tryz.prog 168 #[a.v, b.v] w (GmpPost (cmpS a.nm b.nm) w) := by
  obtain ⟨n1, V1, t1, l1, c1⟩ := a
  obtain ⟨n2, V2, t2, l2, c2⟩ := b
  have e := compare_S n1 n2
  show Calls _ _ _ _ (GmpPost (cmpS n1 n2) w)
  rw [← e]
  clear e
  have HC : Hid (∀ W, Calls Tryz.prog 169 #[.string n1, .string n2] W fun e w' => e = .returned (.int .i64 (Lib.compareBytes n1.data.toList n2.data.toList)) ∧ W = w') := fun W => (Tryz.strings_Compare n1 n2 W).mono fun e w' ⟨a, b⟩ => ⟨a, b.symm⟩
  generalize Lib.compareBytes n1.data.toList n2.data.toList = r at *
  go_enter Tryz.func168, Tryz.ntmps168
  go_wp2_with (go_at_call 169; refine (HC.out _).mono ?_; rintro e w1 ⟨rfl, rfl⟩)
  go_ret
  exact ⟨rfl, gl_alloc (gl_alloc (Gr.refl _ _))⟩
def cmpFh (a b : Fh) : Int := cmpS a.nm b.nm
theorem cmpF_swo : SWO (ltOf cmpFh) where
  irrefl x := by simp [ltOf, cmpFh, cmpS_cmp.refl]
  trans x y z := by
    simp only [ltOf, decide_eq_true_eq]
    unfold cmpFh
    intro h1 h2
    have t := cmpS_cmp.trans x.nm y.nm z.nm (by omega) (by omega)
    by_cases h0 : cmpS x.nm z.nm = 0
    · have := (t.2 h0).1; omega
    · omega
  ntrans x y z := by
    simp only [ltOf, decide_eq_false_iff_not]
    unfold cmpFh
    intro h1 h2 h3
    have a1 := cmpS_cmp.anti x.nm y.nm
    have a2 := cmpS_cmp.anti y.nm z.nm
    have a3 := cmpS_cmp.anti x.nm z.nm
    have := (cmpS_cmp.trans z.nm y.nm x.nm (by omega) (by omega)).1
    omega
theorem enters168 : ∀ args w, (callFunc 168 args).run Tryz.prog w = .ok (.enter 168 args) w := enters_of Tryz.func168 (by kernel_rfl) rfl
theorem sortWF_kp (w : World) (g m : Nat) (D : Array Fh) (os : Array Obj) : Kp g w (sortWorldK Fh.enc 2 w g 0 m D os) := by
  refine ⟨rfl, rfl, rfl, ?_, fun k hk hP => ?_⟩
  · simp [sortWorldK, grow, putRowK, Sort.putRow, Sort.mapBlock, Sort.ahead]
  · simp only [sortWorldK]
    rw [Sort.heap_grow_old _ _ (by simpa [putRowK, Sort.putRow, Sort.mapBlock, Sort.ahead] using hk)]
    simp only [putRowK, Sort.putRow, Sort.mapBlock, Sort.ahead, Array.getElem?_modify]
    rw [if_neg (fun e => hP e.symm)]
theorem sortWF_frozen (w : World) (g m : Nat) (D : Array Fh) (os : Array Obj) (hg : g < w.heap.size) (o : Nat) : (sortWorldK Fh.enc 2 w g 0 m D os).frozen? ⟨g, o, none⟩ = w.frozen? ⟨g, o, none⟩ := by
  simp only [sortWorldK]
  rw [Sort.frozen?_grow _ _ _ (by simpa [putRowK, Sort.putRow, Sort.mapBlock, Sort.ahead] using hg)]
  unfold putRowK
  rw [Go.Sort.frozen?_putRow]
  rfl
def SortFP (g : Nat) (d : List Fh) (w : World) (e : Ending) (w' : World) : Prop :=
  e = .returned (.tuple #[]) ∧ ∃ d' : List Fh, d'.Perm d ∧ d'.Pairwise (fun a b => cmpS a.nm b.nm ≤ 0) ∧ Kp g w w' ∧ RowF w' g d'
theorem sortF_any (g cap : Nat) (d : List Fh) (hz : d.length < 4611686018427387904) (w : World) (row : RowF w g d) :
    Calls Tryz.prog 167 #[.slice (some ⟨g, 0, none⟩) d.length cap, .func (.func 168) #[] #[]] w (SortFP g d w) := by
  obtain ⟨hgl, fz, row⟩ := row
  have hH : HoldsK Fh.enc 2 w g 0 d.toArray := by
    intro j hj
    rw [Sort.size_flatK, List.size_toArray] at hj
    refine ⟨?_, fz _⟩
    rw [Sort.get_flatK _ _ _ _ (by simpa using hj), Nat.zero_add]
    have hjd : j / 2 < d.length := by omega
    have h := encF_at (row (j / 2) hjd) (j % 2) (Nat.mod_lt _ (by omega))
    rw [Nat.div_add_mod'] at h
    rw [h]
    have : d.toArray[j / 2]! = d[j / 2] := by rw [getElem!_pos _ _ (by simpa using hjd)]; simp
    rw [this]
    rfl
  have hcmp : CmpLays Tryz.prog 168 #[] Fh.enc 2 cmpFh g 0 d.toArray.size w := fun m os dk _ x y => (names168 x y _).mono fun e w' ⟨h1, h2⟩ => ⟨h1, grow_of h2⟩
  have h := AnyQ.slices_SortFunc Tryz.sortF 2 Tryz.isAgg59 Tryz.sizeOf59 Fh.enc (fun _ => rfl) (fun x v hv => by
    simp only [Fh.enc, List.mem_cons, List.not_mem_nil, or_false] at hv
    rcases hv with rfl | rfl <;> rfl) cmpFh cmpF_swo 168 #[] g 0 cap d.toArray w enters168 hcmp hH hgl (by simpa using hz)
  rw [List.size_toArray] at h
  refine Calls.mono h ?_
  rintro e w' ⟨rfl, D', m, os, hp, hs, rfl⟩
  obtain ⟨hp1, -, hp3⟩ := hp
  have hsz : D'.size = d.length := by rw [hp1, List.size_toArray]
  have hH' := Go.Proofs.holdsK_sortWorldK_c Fh.enc 2 w g 0 d.toArray D' m os hH hgl hp1
  have hrow : ∀ j (h : j < D'.size), T2 (sortWorldK Fh.enc 2 w g 0 m D' os) g (j * 2) D'[j] := fun j h => t2_of fun r hr => by
    have := (hH'.cell h hr).1
    rw [Nat.zero_add, getElem!_pos D' j h] at this
    exact this
  refine ⟨rfl, D'.toList, ?_, ?_, sortWF_kp w g m D' os, Nat.lt_of_lt_of_le hgl (sortWF_kp w g m D' os).size, fun o => (sortWF_frozen w g m D' os hgl o).trans (fz o), fun j h => ?_⟩
  · have e1 : D'.extract 0 d.length = D' := by rw [← hsz]; simp
    have e2 : d.toArray.extract 0 d.length = d.toArray := by simp
    rw [e1, e2] at hp3
    simpa using hp3
  · rw [List.pairwise_iff_getElem]
    intro i j hi hj hij
    rw [Array.length_toList] at hi hj
    have := hs i j (Nat.zero_le _) hij (by omega)
    rw [getElem!_pos D' j hj, getElem!_pos D' i hi] at this
    have h9 : ¬ cmpS (D'[j]).nm (D'[i]).nm < 0 := of_decide_eq_false this
    rw [Array.getElem_toList, Array.getElem_toList]
    have a := cmpS_cmp.anti (D'[i]).nm (D'[j]).nm
    omega
  · rw [Array.getElem_toList]
    exact hrow j (by simpa using h)
end Go.Proofs.YtddleeenlpigfaaGreatDoor
/- WALK of united. -/
namespace Go.Proofs.YtddleeenlpigfaaGreatDoor
open Go.RowKit
theorem sortF_zero (t : Option Addr) (c : Nat) (fv : Value) (w : World) : Calls Tryz.prog 167 #[.slice t 0 c, fv] w fun e w' => e = .returned (.tuple #[]) ∧ w' = w := AnyF.slices_SortFunc_none Tryz.sortF t c fv w
/-- A row of a call's own that holds fields. -/
def OwnFh (w : World) (base : Nat) (u : Value) (L : List Fh) : Prop := w.ownsRow base 59 2 u L.length (L.map Fh.enc).flatten
theorem OwnFh.nil (w : World) (base : Nat) : OwnFh w base (.slice none 0 0) [] := World.ownsRow_nil _ _ _ _
theorem OwnFh.below {w w' : World} {base : Nat} {u : Value} {L : List Fh} (h : OwnFh w base u L) (hb : Below w.heap.size w w') : OwnFh w' base u L := owns_below h hb
theorem encF_len (h : Fh) : h.enc.length = 2 := rfl
theorem encs_len (L : List Fh) : (L.map Fh.enc).flatten.length = L.length * 2 := by
  induction L with
  | nil => rfl
  | cons x L ih => rw [List.map_cons, List.flatten_cons, List.length_append, ih, encF_len, List.length_cons]; omega
theorem encs_one {L : List Fh} : ∀ u ∈ (L.map Fh.enc).flatten, u.oneCell' = true := fun u hu => by
  obtain ⟨l, hl, hu⟩ := List.mem_flatten.1 hu
  obtain ⟨h, _, rfl⟩ := List.mem_map.1 hl
  simp only [Fh.enc, List.mem_cons, List.not_mem_nil, or_false] at hu
  rcases hu with rfl | rfl <;> rfl
/-- The row that is owned, as a slice of fields. -/
theorem OwnFh.row {w : World} {base : Nat} {u : Value} {L : List Fh} (ho : OwnFh w base u L) : ∃ a cap, u = .slice a L.length cap ∧ (L = [] ∨ ∃ g, a = some ⟨g, 0, none⟩ ∧ base ≤ g ∧ RowF w g L) := by
  by_cases h0 : L = []
  · subst h0
    obtain ⟨a, c, rfl⟩ := slice_of_owns ho
    exact ⟨a, c, rfl, .inl rfl⟩
  · have hnn : u ≠ .slice none 0 0 := fun e => by
      rcases ho.2 with ⟨_, hn⟩ | ⟨g, cap, cur, e2, _⟩
      · exact h0 (List.eq_nil_of_length_eq_zero hn)
      · rw [e] at e2; cases e2
    obtain ⟨g, cap, rfl, hg, hlt, hfz, hce⟩ := row_of_owns ho hnn
    refine ⟨_, cap, rfl, .inr ⟨g, rfl, hg, hlt, hfz, fun j hj => t2_of fun r hr => ?_⟩⟩
    rw [hce (j * 2 + r) (by rw [encs_len]; omega), flat_get (s := 2) (L.map Fh.enc) j r (fun x hx => by obtain ⟨h, _, rfl⟩ := List.mem_map.1 hx; rfl) hr (by simpa using hj), List.getElem_map]
    match r, hr with
    | 0, _ => rfl
    | 1, _ => rfl
/-- Clone at fields. -/
theorem clone_fields (I : Option Addr → Nat → Nat → List Tm → Prop) (w : World) (f : Option Addr) (fl fc : Nat) (fs : List Fd) (h : InF I w f fl fs) (h32 : fl ≤ 32) :
    Calls Tryz.prog 84 #[.slice f fl fc] w fun e w' => ∃ u d, e = .returned u ∧ Below w.heap.size w w' ∧ d.map Fh.f = fs ∧ (∀ x ∈ d, x.ok I) ∧ OwnFh w' w.heap.size u d := by
  obtain ⟨d, hd, hok, hrow⟩ := fheads h
  have hl : d.length = fl := by rw [← h.1, ← hd, List.length_map]
  cases f with
  | none =>
    have h0 : fl = 0 := by
      refine Classical.byContradiction fun c => ?_
      obtain ⟨_, _, _, _, _, e, _⟩ := h.2.2 0 (by have := h.1; omega)
      cases e
    subst h0
    have hd0 : d = [] := List.eq_nil_of_length_eq_zero hl
    exact (cloneF_nil 0 fc w).mono fun e w' ⟨a, b⟩ => ⟨_, d, a, by rw [b]; exact Below.refl _ _, hd, hok, by rw [hd0]; exact OwnFh.nil _ _⟩
  | some ad =>
    refine (cloneF_at ad fl fc (d.map Fh.enc).flatten w (by rw [encs_len, hl]) (by unfold maxLen; omega) (by omega) (fun j u hj => ?_) encs_one).mono ?_
    · obtain ⟨hlt, hj⟩ := List.getElem?_eq_some_iff.1 hj
      rw [encs_len] at hlt
      have hfl : 0 < fs.length := by rw [h.1]; omega
      obtain ⟨b, off, _, _, _, e, _⟩ := h.2.2 0 hfl
      obtain rfl : ad = ⟨b, off, none⟩ := Option.some.inj e
      rw [Addr.add_lit]
      have hr := (hrow b off rfl (j / 2) (by omega)).2
      have h2 := encF_at hr (j % 2) (Nat.mod_lt _ (by decide))
      have e3 : off + j / 2 * 2 + j % 2 = off + j := by have := Nat.div_add_mod' j 2; omega
      rw [e3] at h2
      rw [h2, ← hj]
      have h4 := flat_get (s := 2) (d.map Fh.enc) (j / 2) (j % 2) (fun x hx => by obtain ⟨h, _, rfl⟩ := List.mem_map.1 hx; rfl) (Nat.mod_lt _ (by decide)) (by simp; omega)
      rw [Nat.div_add_mod', List.getElem?_eq_getElem (by rw [encs_len]; omega), List.getElem_map] at h4
      rw [h4]
      have hr2 : j % 2 < 2 := Nat.mod_lt _ (by decide)
      generalize j % 2 = r at hr2
      match r, hr2 with
      | 0, _ => rfl
      | 1, _ => rfl
    · rintro e w' ⟨v', rfl, hown, hnn, hb⟩
      exact ⟨v', d, rfl, hb, hd, hok, by unfold OwnFh; rw [hl]; exact hown⟩
/-- A variable's cell. -/
def Dx (w : World) (N : Nat) (v : Value) : Prop := N < w.heap.size ∧ w.cell? ⟨N, 0, none⟩ = some v
theorem Dx.later {w w' : World} {N : Nat} {v : Value} (h : Dx w N v) (hb : Below w.heap.size w w') : Dx w' N v := ⟨Nat.lt_of_lt_of_le h.1 hb.size, (hb.cell (p := ⟨N, 0, none⟩) h.1).trans h.2⟩
theorem ret_sl {a : Option Addr} {n m c : Nat} (h : n = m) : Ending.returned (.slice a n c) = .returned (.slice a m c) := by rw [h]
/-- What united answers. -/
def UniP (I : Option Addr → Nat → Nat → List Tm → Prop) (fs gs : List Fd) (w : World) (e : Ending) (w' : World) : Prop :=
  ∃ (a : Option Addr) (cap : Nat) (d : List Fh), e = .returned (.slice a d.length cap) ∧ Below w.heap.size w w' ∧ d.map Fh.f = uni fs gs ∧ (∀ x ∈ d, x.ok I) ∧ (d = [] ∨ ∃ g, a = some ⟨g, 0, none⟩ ∧ w.heap.size ≤ g ∧ RowF w' g d)
/-- Those of the first k that are lacking. -/
def lackK (fs gs : List Fd) (k : Nat) : List Fd := (gs.take k).filter fun g => (findF fs g.1).isNone
theorem lackK_yes {fs gs : List Fd} {k : Nat} (hk : k < gs.length) (h : (findF fs gs[k].1).isNone = true) : lackK fs gs (k + 1) = lackK fs gs k ++ [gs[k]] := by
  unfold lackK; rw [List.take_succ_eq_append_getElem hk, List.filter_append, List.filter_cons, h]; rfl
theorem lackK_no {fs gs : List Fd} {k : Nat} (hk : k < gs.length) (h : (findF fs gs[k].1).isNone = false) : lackK fs gs (k + 1) = lackK fs gs k := by
  unfold lackK; rw [List.take_succ_eq_append_getElem hk, List.filter_append, List.filter_cons, h]; simp
theorem perm_uni {fs gs : List Fd} (hf : Up fs) (hg : Up gs) {d : List Fh} (hp : (d.map Fh.f).Perm (fs ++ lackK fs gs gs.length)) (hs : d.Pairwise fun a b => cmpS a.nm b.nm ≤ 0) : d.map Fh.f = uni fs gs := by
  have hm : ∀ y, y ∈ d.map Fh.f ↔ y ∈ fs ∨ (y ∈ gs ∧ findF fs y.1 = none) := fun y => by
    rw [hp.mem_iff, List.mem_append]
    unfold lackK
    rw [List.take_length, List.mem_filter, Option.isNone_iff_eq_none]
  have hne : (fs ++ lackK fs gs gs.length).Pairwise fun a b => a.1.toList ≠ b.1.toList := by
    have one : ∀ {l : List Fd}, Up l → l.Pairwise fun a b => a.1.toList ≠ b.1.toList := fun h => h.imp fun h e => by rw [e, less_irrefl] at h; exact absurd h (by decide)
    rw [List.pairwise_append]
    refine ⟨one hf, one ((hg.sublist (List.take_sublist _ _)).filter _), fun a ha b hb => ?_⟩
    have := (List.mem_filter.1 hb).2
    exact fun e => findF_no (Option.isNone_iff_eq_none.1 this) a ha e.symm
  have hne2 : (d.map Fh.f).Pairwise fun a b => a.1.toList ≠ b.1.toList := (hp.pairwise_iff fun h e => h e.symm).2 hne
  refine uni_is hf hg ?_ hm
  unfold Up
  rw [List.pairwise_map] at hne2 ⊢
  refine (List.Pairwise.and hs hne2).imp fun {a b} h => ?_
  obtain ⟨h1, h2⟩ := h
  have h2' : a.nm.toList ≠ b.nm.toList := h2
  show Op.bytesLess a.nm.toList b.nm.toList = true
  unfold cmpS at h1
  cases hb : Op.bytesLess a.nm.toList b.nm.toList
  · rw [hb, if_neg (by simp), if_neg h2'] at h1; exact absurd h1 (by decide)
  · rfl
theorem info59' : (Tryz.prog.info? 59).map (fun i => (i.zero, i.size, i.bytes)) = some (some (.agg #[.string ByteArray.empty, .slice none 0 0]), 2, 40) := info59
set_option maxRecDepth 100000 in
set_option maxHeartbeats 8000000 in
theorem united_any (I : Option Addr → Nat → Nat → List Tm → Prop) (w : World) (b1 off1 b2 off2 : Nat) (x y : Tm) (hx : InT I w b1 off1 x) (hy : InT I w b2 off2 y) (h1 : x.fs.length ≤ 32) (h2 : y.fs.length ≤ 32) (u1 : Up x.fs) (u2 : Up y.fs) :
    Calls Tryz.prog 147 #[.pointer (some ⟨b1, off1, none⟩), .pointer (some ⟨b2, off2, none⟩)] w (UniP I x.fs y.fs w) := by
  obtain ⟨lt1, f1, fl1, fc1, -, -, -, -, -, -, -, c7, hF1⟩ := hx.cells
  obtain ⟨lt2, f2, fl2, fc2, -, -, -, -, -, -, -, d7, hF2⟩ := hy.cells
  have HX := Lib.hid hx
  have HCL : Hid (Calls Tryz.prog 84 #[.slice f1 fl1 fc1] w fun e w' => ∃ u d, e = .returned u ∧ Below w.heap.size w w' ∧ d.map Fh.f = x.fs ∧ (∀ z ∈ d, z.ok I) ∧ OwnFh w' w.heap.size u d) := clone_fields I w f1 fl1 fc1 x.fs hF1 (by have := hF1.1; omega)
  obtain ⟨dy, hdy, hoky, hrowy⟩ := fheads hF2
  have hly : dy.length = fl2 := by rw [← hF2.1, ← hdy, List.length_map]
  subst hly
  have HDY := Lib.hid (And.intro hdy hoky)
  have HROW := Lib.hid hrowy
  have HU := Lib.hid (And.intro u1 u2)
  have hl2 : (dy.length : Int) ≤ 32 := by have := hF2.1; omega
  have HNE : Hid (0 < dy.length → ∃ b off, f2 = some ⟨b, off, none⟩) := fun h => by
    obtain ⟨b, off, _, _, _, e, _⟩ := hF2.2.2 0 (by have := hF2.1; omega)
    exact ⟨b, off, e⟩
  have HLX : Hid (x.fs.length ≤ 32) := h1
  have enters := enters166
  clear hx hy hF1 hF2 hdy hoky hrowy u1 u2 h1 h2
  go_enter Tryz.func147, Tryz.ntmps147
  go_wp2_with (first
    | (go_at_call 84; refine HCL.out.mono ?_; rintro e w1 ⟨u, d, rfl, hB1, hd, hok, hown⟩; have HB1 := Lib.hid hB1; have HD := Lib.hid (And.intro hd hok); have HOWN := Lib.hid hown; have d71 := (hB1.cell (p := ⟨b2, off2 + 7, none⟩) lt2).trans d7; clear hB1 hd hok hown)
    | (go_at_call 140; refine (lacking_any b1 off1 _).mono ?_; rintro e w2 ⟨rfl, hB2, hN, hC⟩; have HB2 := Lib.hid hB2; have HN := Lib.hid (And.intro hN hC); have d72 := (hB2.cell (p := ⟨b2, off2 + 7, none⟩) (Nat.lt_of_lt_of_le lt2 HB1.out.size)).trans d71; clear hB2 hN hC))
  clear d71 d72 c7 d7
  obtain ⟨i0, hi, hz0, hz1, hz2⟩ := info_parts info59
  have HBA : Hid (Below w.heap.size w w2) := bl_step HB1.out HB2.out
  have HOW2 : Hid (OwnFh w2 w.heap.size u d) := HOWN.out.below HB2.out
  have HUB : Hid (u.ownBlock ≠ some w1.heap.size) := fun e => by have := (HOWN.out.lt _ e).2; omega
  have HDX : Hid (Dx w2 w1.heap.size (.pointer (some ⟨b1, off1, none⟩))) := HN.out
  obtain ⟨N, hNE⟩ : ∃ N, w1.heap.size = N := ⟨_, rfl⟩
  have HNW : Hid (w.heap.size ≤ N) := by rw [← hNE]; exact HB1.out.size
  rw [hNE] at HUB HDX ⊢
  clear HB1 HB2 HOWN HN hNE
  go_loopw [5, 21] (fun v i wr => ∃ (k : Nat) (L : List Fh), k ≤ dy.length ∧ i = .int .i64 k ∧ Hid (OwnFh wr w.heap.size v L) ∧ Hid (v.ownBlock ≠ some N) ∧ Hid (L.map Fh.f = x.fs ++ lackK x.fs y.fs k ∧ (∀ z ∈ L, z.ok I) ∧ L.length ≤ 32 + k) ∧ Hid (Below w.heap.size w wr) ∧ Hid (Dx wr N (.pointer (some ⟨b1, off1, none⟩)))) (fun _ i _ => dy.length - (intOf i).toNat)
  case atStart => exact ⟨0, d, Nat.zero_le _, rfl, HOW2, HUB, ⟨by rw [HD.out.1]; simp [lackK], HD.out.2, by have h1 := congrArg List.length HD.out.1; rw [List.length_map] at h1; have := HLX.out; omega⟩, HBA, HDX⟩
  case round =>
    obtain ⟨k, L, hk, rfl, hO, hUB, hL, hB, hDX⟩ := hrel
    rename World => wr
    by_cases hlt : k < dy.length
    · have hki : (k : Int) < (dy.length : Int) := by omega
      have hk0 : (0 : Int) ≤ (k : Int) := by omega
      obtain ⟨b, off, rfl⟩ := HNE.out (by omega)
      obtain ⟨lt3, d0, d1⟩ := HROW.out b off rfl k hlt
      replace d0 := (hB.out.cell (p := ⟨b, off + k * 2, none⟩) lt3).trans d0
      replace d1 := (hB.out.cell (p := ⟨b, off + k * 2 + 1, none⟩) lt3).trans d1
      have hfy : y.fs[k]? = some dy[k].f := by rw [← HDY.out.1, List.getElem?_map, List.getElem?_eq_getElem hlt]; rfl
      have hky : k < y.fs.length := (List.getElem?_eq_some_iff.1 hfy).1
      have hfy2 : y.fs[k] = dy[k].f := by rw [List.getElem?_eq_getElem hky] at hfy; exact Option.some.inj hfy
      have HOKk := Lib.hid (HDY.out.2 _ (List.getElem_mem hlt))
      have HFK : Hid (∀ q : Bool, (findF x.fs dy[k].nm).isNone = q → (q = true → lackK x.fs y.fs (k + 1) = lackK x.fs y.fs k ++ [dy[k].f]) ∧ (q = false → lackK x.fs y.fs (k + 1) = lackK x.fs y.fs k)) := fun q hq => by
        have hq' : (findF x.fs y.fs[k].1).isNone = q := by rw [hfy2]; exact hq
        exact ⟨fun e => by rw [lackK_yes hky (by rw [hq', e]), hfy2], fun e => lackK_no hky (by rw [hq', e])⟩
      clear hfy hfy2 hky lt3
      generalize dy[k] = h at *
      obtain ⟨q, hq⟩ : ∃ q, (findF x.fs h.nm).isNone = q := ⟨_, rfl⟩
      have HFQ := Lib.hid (HFK.out q hq)
      have HLK : Hid (∀ W, Below wr.heap.size wr W → Calls Tryz.prog 166 #[.agg #[.string h.nm, .slice h.t h.tl h.tc], .pointer (some ⟨N, 0, none⟩)] W (LackP q W)) := fun W hW => hq ▸ lacks_one _ W b1 off1 N x (HX.out.below (fun _ _ _ _ h => h) (bl_step hB.out hW)) (Nat.lt_of_lt_of_le hDX.out.1 hW.size) ((hW.cell (p := ⟨N, 0, none⟩) hDX.out.1).trans hDX.out.2) h.nm h.t h.tl h.tc
      clear hq HFK
      obtain ⟨nm, V, t, tl, tc⟩ := h
      simp only at d0 d1 HLK
      cases q
      · have HFN := Lib.hid (HFQ.out.2 rfl)
        clear HFQ
        go_wp2_with (go_at_fn 166; refine (HLK.out _ (bl_alloc (Below.refl _ _))).mono ?_; rintro e w3 ⟨rfl, hB3⟩; have HB3 := Lib.hid (bl_step (bl_alloc (Below.refl _ _)) hB3); clear hB3)
        go_roundw
        case rel => exact ⟨k + 1, L, by omega, by go_num, hO.out.below HB3.out, hUB, ⟨by rw [HFN.out]; exact hL.out.1, hL.out.2.1, by have := hL.out.2.2; omega⟩, bl_step hB.out HB3.out, hDX.out.later HB3.out⟩
        case measure => simp [intOf]; omega
      · have HFN := Lib.hid (HFQ.out.1 rfl)
        clear HFQ
        have hl3 := hL.out.2.2
        go_wp2_with (first
          | (go_at_fn 166; refine (HLK.out _ (bl_alloc (Below.refl _ _))).mono ?_; rintro e w3 ⟨rfl, hB3⟩
             have c0 : w3.cell? ⟨wr.heap.size, 0, none⟩ = some (.string nm) := (hB3.cell (p := ⟨wr.heap.size, 0, none⟩) (by simp)).trans (by simp [go_sem])
             have c1 : w3.cell? ⟨wr.heap.size, 1, none⟩ = some (.slice t tl tc) := (hB3.cell (p := ⟨wr.heap.size, 1, none⟩) (by simp)).trans (by simp [go_sem])
             have HB3 := Lib.hid (bl_step (bl_alloc (Below.refl _ _)) hB3); clear hB3)
          | (at_builtin; refine wpList_append_lies _ rfl _ _ 29 rfl w.heap.size 59 i0 (.agg #[.string ByteArray.empty, .slice none 0 0]) 2 40 Tryz.underlying29 hi hz0 hz1 hz2 rfl (by decide) _ L.length (L.map Fh.enc).flatten rfl (owns_below (hO.out.below HB3.out) (bl_alloc (Below.refl _ _))) ⟨w3.heap.size, 0, none⟩ 1 1 [.string nm, .slice t tl tc] rfl rfl (World.news_of_block (cs := #[.string nm, .slice t tl tc]) (t := 59) (fr := (0, 0)) (heap_new _ _)) (fun u hu => by simp only [List.mem_cons, List.not_mem_nil, or_false] at hu; rcases hu with rfl | rfl <;> rfl) (by decide) (by unfold maxLen; omega) (by omega) (by have := HB3.out.size; have := hB.out.size; simp; omega) _ rfl ?_; intro gg cap w4 hown hgrow hat hltg
             have HO4 := Lib.hid hown; have HG4 := Lib.hid hgrow; have HAT := Lib.hid (And.intro hat hltg); clear hown hgrow hat hltg))
        go_roundw
        case rel =>
          have hw3 : Below w.heap.size w (w3.alloc (.cells #[.string nm, .slice t tl tc] 59)) := bl_alloc (bl_step hB.out HB3.out)
          have hdx3 : Dx (w3.alloc (.cells #[.string nm, .slice t tl tc] 59)) N (.pointer (some ⟨b1, off1, none⟩)) := (hDX.out.later HB3.out).later (bl_alloc (Below.refl _ _))
          refine ⟨k + 1, L ++ [⟨nm, V, t, tl, tc⟩], by omega, by go_num, ?_, ?_, ⟨?_, ?_, ?_⟩, ?_, ?_⟩
          · show World.ownsRow _ _ _ _ _ _ _
            rw [List.map_append, List.flatten_append, List.length_append]
            simpa [Fh.enc] using HO4.out
          · have h1 := HAT.out.1
            have h2 := hUB.out
            have h3 := (hDX.out.later HB3.out).1
            intro e
            simp only [Value.ownBlock, Option.some.injEq] at e
            subst e
            rcases h1 with h1 | h1
            · exact h2 h1
            · rw [show (w3.alloc (.cells #[.string nm, .slice t tl tc] 59)).heap.size = w3.heap.size + 1 by simp] at h1; omega
          · rw [List.map_append, hL.out.1, HFN.out, List.append_assoc]; rfl
          · intro z hz
            rcases List.mem_append.1 hz with hz | hz
            · exact hL.out.2.1 z hz
            · rw [List.mem_singleton.1 hz]; exact HOKk.out
          · rw [List.length_append]; show L.length + 1 ≤ _; omega
          · exact hw3.grown HG4.out hw3.size (fun k hk => (hO.out.lt k hk).1)
          · exact ⟨Nat.lt_of_lt_of_le hdx3.1 HG4.out.size, (HG4.out.cell_far ⟨N, 0, none⟩ hdx3.1 (fun e => hUB.out e.symm)).trans hdx3.2⟩
        case measure => simp [intOf]; omega
    · have ek : k = dy.length := by omega
      subst ek
      have hly : y.fs.length = dy.length := by rw [← HDY.out.1, List.length_map]
      obtain ⟨a, cap, rfl, hrow⟩ := hO.out.row
      have HR := Lib.hid hrow
      have HLL := Lib.hid hL.out
      rcases hrow with h0 | ⟨g, rfl, hg, hr⟩
      · subst h0
        have HPU : Hid ([] = uni x.fs y.fs) := perm_uni (d := []) HU.out.1 HU.out.2 (by rw [hly, ← HLL.out.1]) (by simp)
        clear hly
        go_wp2_with (go_at_call 167; refine (sortF_zero _ _ _ _).mono ?_; rintro e w5 ⟨rfl, rfl⟩)
        go_ret
        exact ⟨a, cap, [], rfl, hB.out, HPU.out, by simp, .inl rfl⟩
      · have HRO := Lib.hid hr
        have hz : L.length < 4611686018427387904 := by have := HLL.out.2.2; omega
        have HGB := Lib.hid hg
        have HLY := Lib.hid hly
        clear hr hg hly
        go_wp2_with (go_at_call 167; refine (sortF_any g cap L hz wr HRO.out).mono ?_; rintro e w5 ⟨rfl, d', hp, hs, hk5, hr5⟩; have HP5 := Lib.hid (And.intro hp hs); have HK5 := Lib.hid (And.intro hk5 hr5); clear hp hs hk5 hr5)
        go_ret
        refine ⟨_, cap, d', ret_sl HP5.out.1.length_eq.symm, Kp.below hB.out HK5.out.1 HGB.out, ?_, fun z hz => HLL.out.2.1 z (HP5.out.1.mem_iff.1 hz), .inr ⟨g, rfl, HGB.out, HK5.out.2⟩⟩
        refine perm_uni HU.out.1 HU.out.2 ?_ HP5.out.2
        rw [HLY.out, ← HLL.out.1]
        exact HP5.out.1.map _
end Go.Proofs.YtddleeenlpigfaaGreatDoor
