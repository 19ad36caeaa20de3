/- Ga, Gb -/
import Derived.Test.YtngnegnofmpgkaaChecked
import Derived.WalkKit
import Derived.WalkSpells
import Derived.WalkLawsBesides
import Derived.Lib.Hide
import Derived.Laws.Rows
import Derived.RegionTactic
import Derived.Maps.OwnSet
import Derived.Maps.OwnOps
import Derived.Maps.RangeWalk
import Derived.Maps.Range
import Derived.BigRegion
/- A GRAPH OF TEXTS IN MEMORY: its box, its map of points, the maps of their lines; a point more, a line more. -/
namespace Go.Proofs.Ytngnegnofmpgkaa.Gr
open Go.RowKit Go.Maps
theorem law9 : Keyed Try.prog 9 := string_keyed Try.underlying9
/-- What a text reads as, as a key. -/
abbrev kS (s : ByteArray) : Lit := .string s.data.toList
def okS (s : ByteArray) : Prop := s.size ≤ 140737488355328
theorem okS.len {s : ByteArray} (h : okS s) : s.size ≤ maxLen := by unfold okS at h; unfold maxLen; omega
theorem key9 {s : ByteArray} (hs : okS s) : keyOf Try.prog 9 (.string s) = some (kS s) := Go.WideMaps.keyOf_string_mk Try.underlying9 hs.len
theorem kS_inj {s t : ByteArray} (h : kS s = kS t) : s = t := by
  injection h with h
  exact ByteArray.ext (Array.toList_inj.1 h)
theorem kS_ne {s t : ByteArray} (h : s ≠ t) : kS s ≠ kS t := fun e => h (kS_inj e)
theorem kS_key (s : ByteArray) : WideAt.IsKeyLit (kS s) := trivial
/-- How a map of maps reads: each inner map as the block that it is. -/
def Rm : Value → Option (DataW Value × List MemPlace)
  | .map m => some (.held (.map m), [])
  | _ => none
theorem Rm_inv {v : Value} {y : DataW Value × List MemPlace} (h : Rm v = some y) : (∃ m : Option Nat, v = .map m) ∧ y = (.held v, []) := by
  cases v <;> simp [Rm] at h
  exact ⟨⟨_, rfl⟩, h.symm⟩
noncomputable abbrev Re : Value → Option (DataW Value × List MemPlace) := plainElem Try.prog 4
theorem ownsMap_tight {R : Value → Option (DataW Value × List MemPlace)} {w : World} {n : Nat} {D : DataW Value} {b : Nat} (h : w.ownsMap Try.prog 9 R b n D) : w.ownsMap Try.prog 9 R b (Maps.size D) D := by
  obtain ⟨es, clock, hb, F, hs, rfl⟩ := h
  exact ⟨es, clock, hb, F, by simp [Maps.size, length_sorted], rfl⟩
theorem grow_of {w w' : World} (h : Below w.heap.size w w') : w.grownBy w' none := ⟨h.os, h.tape, h.output, h.size, fun k hk _ => h.block k hk⟩
theorem below_of {w w' : World} {base c : Nat} (h : w.grownBy w' (some c)) (hb : base ≤ w.heap.size) (hc : base ≤ c) : Below base w w' :=
  ⟨h.os, h.tape, h.output, h.size, fun k hk => h.block k (by omega) (by intro e; injection e with e; omega)⟩
/-- A graph in block G: b its map; F: the map of each point's lines; E: what that reads as; P: its points; L: its lines. -/
structure Gr (w : World) (base G b : Nat) (D : DataW Value) (F : ByteArray → Option Nat) (E : ByteArray → DataW Value) (m : Nat) (P : ByteArray → Bool) (L : ByteArray → ByteArray → Bool) : Prop where
  box : w.heap[G]? = some (.cells #[.map (some b)] 120)
  own : w.ownsMap Try.prog 9 Rm b (Maps.size D) D
  lowG : base ≤ G
  lowb : base ≤ b
  ne : G ≠ b
  bas : base ≤ w.heap.size
  atK : ∀ s, okS s → D.atKey (kS s) (.held (.map none)) = .held (.map (F s))
  has : ∀ s, okS s → Maps.has D (kS s) = P s
  fp : ∀ s, okS s → (F s).isSome = P s
  inn : ∀ s c, okS s → F s = some c → w.ownsMap Try.prog 9 Re c (Maps.size (E s)) (E s)
  low : ∀ s c, okS s → F s = some c → base ≤ c ∧ c ≠ b ∧ c ≠ G
  lin : ∀ s c, okS s → F s = some c → ∀ t, okS t → Maps.has (E s) (kS t) = L s t
  szi : ∀ s c, okS s → F s = some c → Maps.size (E s) ≤ m
  non : ∀ s t, okS s → P s = false → L s t = false
  cl : ∀ s t, okS s → okS t → L s t = true → P t = true
  apart : ∀ s t c, okS s → okS t → F s = some c → F t = some c → s = t
  siz : Maps.size D ≤ m
  kok : ∀ s, Maps.has D (kS s) = true → okS s
  kin : ∀ s c, okS s → F s = some c → ∀ t, Maps.has (E s) (kS t) = true → okS t
variable {w w' : World} {base G b m : Nat} {D : DataW Value} {F : ByteArray → Option Nat} {E : ByteArray → DataW Value} {P : ByteArray → Bool} {L : ByteArray → ByteArray → Bool}
theorem Gr.ltG (h : Gr w base G b D F E m P L) : G < w.heap.size := (Array.getElem?_eq_some_iff.1 h.box).1
theorem Gr.below (h : Gr w base G b D F E m P L) (hb : Below w.heap.size w w') : Gr w' base G b D F E m P L :=
  { h with
    box := (hb.block G h.ltG).trans h.box
    own := h.own.kept (grow_of hb) (by simp)
    bas := Nat.le_trans h.bas hb.size
    inn := fun s c hs hc => (h.inn s c hs hc).kept (grow_of hb) (by simp) }
theorem Gr.more (h : Gr w base G b D F E m P L) {m' : Nat} (hm : m ≤ m') : Gr w base G b D F E m' P L :=
  { h with szi := fun s c hs hc => Nat.le_trans (h.szi s c hs hc) hm, siz := Nat.le_trans h.siz hm }
/-- A point more. -/
theorem Gr.add (h : Gr w base G b D F E m P L) {k : ByteArray} (hk : okS k) (hP : P k = false) (hm : m < 1000000000) :
    ∃ w2 D', (Instr.mapUpdate 118 (.map (some b)) (.string k) (.map (some w.heap.size))).run Try.prog (w.alloc (.map #[] 0)) = .ok () w2 ∧
      Gr w2 base G b D' (fun s => if s = k then some w.heap.size else F s) (fun s => if s = k then .map [] else E s) (m + 1) (fun s => P s || decide (s = k)) L ∧ Below base w w2 := by
  have hal := World.grownBy_alloc w (.map #[] 0) none
  obtain ⟨es, hDe, hti, -⟩ := h.own.entries law9
  have hty : Maps.Tidy D := ⟨es, hDe, hti⟩
  have hFk : F k = none := by
    have := h.fp k hk
    rw [hP] at this
    exact Option.not_isSome_iff_eq_none.1 (by rw [this]; decide)
  have hmade := World.ownsMap_made w Try.prog 9 (Re : Value → Option (DataW Value × List MemPlace))
  obtain ⟨w2, hrun, hmap, hg⟩ := (h.own.kept hal (by simp)).update law9 Try.underlying118 (by have := h.siz; unfold maxLen; omega) (key9 hk) (val := .map (some w.heap.size)) (d := .held (.map (some w.heap.size))) (ps := []) rfl
  have hbl : b < w.heap.size := h.own.lt
  have hz1 : (w.alloc (.map #[] 0)).heap.size = w.heap.size + 1 := by simp
  have hbB : Below base w w2 := ((Below.refl base w).alloc h.bas _).trans (below_of hg (by rw [hz1]; have := h.bas; omega) h.lowb)
  refine ⟨w2, D.put (kS k) (.held (.map (some w.heap.size))), hrun, ?_, hbB⟩
  refine { box := ?_, own := ownsMap_tight hmap, lowG := h.lowG, lowb := h.lowb, ne := h.ne, bas := Nat.le_trans h.bas hbB.size, atK := ?_, has := ?_, fp := ?_, inn := ?_, low := ?_, lin := ?_, szi := ?_, non := ?_, cl := ?_, apart := ?_, siz := ?_, kok := ?_, kin := ?_ }
  · rw [hg.block G (by rw [hz1]; have := h.ltG; omega) (by intro e; injection e with e; exact h.ne e), hal.block G h.ltG (by simp)]
    exact h.box
  · intro s hs
    by_cases e : s = k
    · subst e
      simp only [if_true]
      exact Maps.atKey_put_same hty.isMap (kS_key _) _ _
    · simp only [if_neg e]
      rw [Maps.atKey_put_other (kS_ne e)]
      exact h.atK s hs
  · intro s hs
    by_cases e : s = k
    · subst e
      rw [Maps.has_put_same hty.isMap (kS_key _)]
      simp
    · rw [Maps.has_put_other (kS_ne e), h.has s hs]
      simp [e]
  · intro s hs
    by_cases e : s = k
    · subst e; simp
    · show (if s = k then some w.heap.size else F s).isSome = (P s || decide (s = k))
      rw [if_neg e, h.fp s hs]
      simp [e]
  · intro s c hs hc
    by_cases e : s = k
    · subst e
      simp only [if_true, Option.some.injEq] at hc ⊢
      subst hc
      exact ownsMap_tight (hmade.kept hg (by intro e; injection e with e; omega))
    · simp only [if_neg e] at hc ⊢
      exact ((h.inn s c hs hc).kept hal (by simp)).kept hg (by intro e2; injection e2 with e2; exact (h.low s c hs hc).2.1 e2)
  · intro s c hs hc
    by_cases e : s = k
    · subst e
      simp only [if_true, Option.some.injEq] at hc
      subst hc
      have := h.ltG
      exact ⟨h.bas, by omega, by omega⟩
    · simp only [if_neg e] at hc
      exact h.low s c hs hc
  · intro s c hs hc t ht
    by_cases e : s = k
    · subst e
      simp only [if_true]
      rw [h.non s t hs hP]
      rfl
    · simp only [if_neg e] at hc ⊢
      exact h.lin s c hs hc t ht
  · intro s c hs hc
    by_cases e : s = k
    · subst e
      simp only [if_true]
      exact Nat.zero_le _
    · simp only [if_neg e] at hc ⊢
      exact Nat.le_succ_of_le (h.szi s c hs hc)
  · intro s t hs hp
    simp only [Bool.or_eq_false_iff] at hp
    exact h.non s t hs hp.1
  · intro s t hs ht hl
    rw [h.cl s t hs ht hl]
    rfl
  · intro s t c hs ht hc hc2
    by_cases e : s = k
    · by_cases e2 : t = k
      · rw [e, e2]
      · exfalso
        simp only [if_pos e, Option.some.injEq] at hc
        simp only [if_neg e2] at hc2
        have := (h.inn t c ht hc2).lt
        omega
    · by_cases e2 : t = k
      · exfalso
        simp only [if_pos e2, Option.some.injEq] at hc2
        simp only [if_neg e] at hc
        have := (h.inn s c hs hc).lt
        omega
      · simp only [if_neg e] at hc
        simp only [if_neg e2] at hc2
        exact h.apart s t c hs ht hc hc2
  · rw [Maps.size_put hty]
    have := h.siz
    split <;> omega
  · intro s hh
    by_cases e : s = k
    · rw [e]; exact hk
    · rw [Maps.has_put_other (kS_ne e)] at hh
      exact h.kok s hh
  · intro s c hs hc t hh
    by_cases e : s = k
    · subst e
      simp only [if_true] at hh
      exact absurd hh (by simp [Maps.has_eq])
    · simp only [if_neg e] at hc hh
      exact h.kin s c hs hc t hh
/-- A line more. -/
theorem Gr.line (h : Gr w base G b D F E m P L) {s t : ByteArray} {c : Nat} (hs : okS s) (ht : okS t) (hF : F s = some c) (hP : P t = true) (hm : m < 1000000000) :
    ∃ w2 E', (Instr.mapUpdate 90 (.map (some c)) (.string t) (.bool true)).run Try.prog w = .ok () w2 ∧
      Gr w2 base G b D F E' (m + 1) P (fun x y => L x y || (decide (x = s) && decide (y = t))) ∧ Below base w w2 := by
  obtain ⟨es, hDe, hti, -⟩ := (h.inn s c hs hF).entries law9
  have hty : Maps.Tidy (E s) := ⟨es, hDe, hti⟩
  obtain ⟨w2, hrun, hmap, hg⟩ := (h.inn s c hs hF).update law9 Try.underlying90 (by have := h.szi s c hs hF; unfold maxLen; omega) (key9 ht) (plainElem_bool Try.underlying4 true)
  obtain ⟨l1, l2, l3⟩ := h.low s c hs hF
  have hbB : Below base w w2 := below_of hg h.bas l1
  refine ⟨w2, fun x => if x = s then (E s).put (kS t) (.lit (.bool true)) else E x, hrun, ?_, hbB⟩
  refine { box := ?_, own := h.own.kept hg (by intro e; injection e with e; exact l2 e.symm), lowG := h.lowG, lowb := h.lowb, ne := h.ne, bas := Nat.le_trans h.bas hbB.size, atK := h.atK, has := h.has, fp := h.fp, inn := ?_, low := h.low, lin := ?_, szi := ?_, non := ?_, cl := ?_, apart := h.apart, siz := Nat.le_succ_of_le h.siz, kok := h.kok, kin := ?_ }
  · rw [hg.block G h.ltG (by intro e; injection e with e; exact l3 e.symm)]
    exact h.box
  · intro x d hx hd
    by_cases e : x = s
    · obtain rfl : c = d := Option.some.inj (hF.symm.trans (by rw [← e]; exact hd))
      subst e
      simp only [if_true]
      exact ownsMap_tight hmap
    · simp only [if_neg e]
      refine (h.inn x d hx hd).kept hg (fun e2 => ?_)
      injection e2 with e2
      subst e2
      exact e (h.apart x s d hx hs hd hF)
  · intro x d hx hd y hy
    by_cases e : x = s
    · obtain rfl : c = d := Option.some.inj (hF.symm.trans (by rw [← e]; exact hd))
      subst e
      simp only [if_true]
      by_cases e2 : y = t
      · subst e2
        rw [Maps.has_put_same hty.isMap (kS_key _)]
        simp
      · rw [Maps.has_put_other (kS_ne e2), h.lin x c hx hF y hy]
        simp [e2]
    · simp only [if_neg e]
      rw [h.lin x d hx hd y hy]
      simp [e]
  · intro x d hx hd
    by_cases e : x = s
    · obtain rfl : c = d := Option.some.inj (hF.symm.trans (by rw [← e]; exact hd))
      subst e
      simp only [if_true]
      rw [Maps.size_put hty]
      have := h.szi x c hx hF
      split <;> omega
    · simp only [if_neg e]
      exact Nat.le_succ_of_le (h.szi x d hx hd)
  · intro x y hx hp
    have hxs : x ≠ s := fun e => by
      subst e
      have := h.fp x hx
      rw [hF, hp] at this
      simp at this
    rw [h.non x y hx hp]
    simp [hxs]
  · intro x y hx hy hl
    simp only [Bool.or_eq_true, Bool.and_eq_true, decide_eq_true_eq] at hl
    rcases hl with hl | ⟨-, rfl⟩
    · exact h.cl x y hx hy hl
    · exact hP
  · intro x d hx hd y hh
    by_cases e : x = s
    · obtain rfl : c = d := Option.some.inj (hF.symm.trans (by rw [← e]; exact hd))
      subst e
      simp only [if_true] at hh
      by_cases e2 : y = t
      · rw [e2]; exact ht
      · rw [Maps.has_put_other (kS_ne e2)] at hh
        exact h.kin x c hx hF y hh
    · simp only [if_neg e] at hh
      exact h.kin x d hx hd y hh
end Go.Proofs.Ytngnegnofmpgkaa.Gr
/- WALKS of graph's held, Has, Add, Link, Len. -/
namespace Go.Proofs.Ytngnegnofmpgkaa.Gr
open Go.RowKit Go.Maps
def GR (w : World) (base G m : Nat) (P : ByteArray → Bool) (L : ByteArray → ByteArray → Bool) : Prop := ∃ b D F E, Gr w base G b D F E m P L
theorem GR.below {w w' : World} {base G m : Nat} {P : ByteArray → Bool} {L : ByteArray → ByteArray → Bool} (h : GR w base G m P L) (hb : Below w.heap.size w w') : GR w' base G m P L := by
  obtain ⟨b, D, F, E, h⟩ := h
  exact ⟨b, D, F, E, h.below hb⟩
section
variable {w : World} {base G b m : Nat} {D : DataW Value} {F : ByteArray → Option Nat} {E : ByteArray → DataW Value} {P : ByteArray → Bool} {L : ByteArray → ByteArray → Bool}
theorem Gr.cell (h : Gr w base G b D F E m P L) : w.cell? ⟨G, 0, none⟩ = some (.map (some b)) := by
  have := h.box
  simp [World.cell?, this]
set_option maxRecDepth 100000 in
/-- The map of a point's lines. -/
theorem Gr.look (h : Gr w base G b D F E m P L) {k : ByteArray} (hk : okS k) : (Instr.lookup 118 (.map (some b)) (.string k) false).run Try.prog w = .ok (.map (F k)) w := by
  obtain ⟨v, ps, hrun, hR⟩ := h.own.lookup law9 Try.underlying118 (z := .map none) (Try.zeroValue90 w) (zd := .held (.map none)) (zp := []) rfl (key9 hk)
  have := (Rm_inv hR).2
  rw [h.atK k hk] at this
  injection this with h1 h2
  injection h1 with h1
  rw [hrun, h1]
end
theorem held_some (G : Nat) (v : Value) (w : World) (h : w.cell? ⟨G, 0, none⟩ = some v) : Calls Try.prog 91 #[.pointer (some ⟨G, 0, none⟩)] w fun e w' => e = .returned v ∧ w' = w := by
  go_enter Try.func91, Try.ntmps91
  go_wp2
  go_ret
  exact ⟨rfl, rfl⟩
theorem held_nil (w : World) : Calls Try.prog 91 #[.pointer none] w fun e w' => e = .returned (.map none) ∧ w' = w := by
  go_enter Try.func91, Try.ntmps91
  go_wp2
  go_ret
  exact ⟨rfl, rfl⟩
theorem neq_nil77 (w : World) (c : Option Nat) : (binOp .neq 90 (.map c) (.map none)).run Try.prog w = .ok (.bool (!c.isNone)) w := run_neq_map_nil w 90 9 4 c Try.underlying90
theorem neq_nil74 (w : World) (c : Option Nat) : (binOp .neq 118 (.map c) (.map none)).run Try.prog w = .ok (.bool (!c.isNone)) w := run_neq_map_nil w 118 9 90 c Try.underlying118
set_option maxRecDepth 100000 in
set_option maxHeartbeats 2000000 in
theorem has_any {w : World} {base G m : Nat} {P : ByteArray → Bool} {L : ByteArray → ByteArray → Bool} (h : GR w base G m P L) {k : ByteArray} (hk : okS k) : Calls Try.prog 75 #[.pointer (some ⟨G, 0, none⟩), .string k] w fun e w' => e = .returned (.bool (P k)) ∧ w' = w := by
  obtain ⟨b, D, F, E, h⟩ := h
  have HH := fun W hc => Lib.hid (held_some G (.map (some b)) W hc)
  have c0 := h.cell
  have hl := h.look hk
  have hq := fun W => neq_nil77 W (F k)
  have hp : (F k).isSome = P k := h.fp k hk
  have HP := Lib.hid hp
  generalize F k = fk at *
  clear h hp
  go_enter Try.func75, Try.ntmps75
  go_wp2_with (go_at_call 91; refine (HH _ c0).out.mono ?_; rintro e w1 ⟨rfl, rfl⟩)
  go_ret
  exact ⟨by rw [HP.out]; rfl, rfl⟩
set_option maxRecDepth 100000 in
set_option maxHeartbeats 4000000 in
theorem add_any {w : World} {base G m : Nat} {P : ByteArray → Bool} {L : ByteArray → ByteArray → Bool} (h : GR w base G m P L) {k : ByteArray} (hk : okS k) (hm : m < 1000000000) :
    Calls Try.prog 69 #[.pointer (some ⟨G, 0, none⟩), .string k] w fun e w' => e = .returned (.tuple #[]) ∧ GR w' base G (m + 1) (fun s => P s || decide (s = k)) L ∧ Below base w w' := by
  have HA := fun W (hg : GR W base G m P L) => Lib.hid (has_any hg hk)
  obtain ⟨b, D, F, E, h⟩ := h
  have HH := fun W hc => Lib.hid (held_some G (.map (some b)) W hc)
  have c0 := h.cell
  have hq := fun W => neq_nil74 W (some b)
  have HG := Lib.hid h
  by_cases hP : P k = true
  · rw [hP] at HA
    have he : (fun s => P s || decide (s = k)) = P := by
      funext s
      by_cases e : s = k
      · subst e; simp [hP]
      · simp [e]
    rw [he]
    clear h he hP
    go_enter Try.func69, Try.ntmps69
    go_wp2_with (first
      | (go_at_call 91; refine (HH _ c0).out.mono ?_; rintro e w1 ⟨rfl, rfl⟩)
      | (go_at_call 75; refine (HA _ ⟨b, D, F, E, HG.out⟩).out.mono ?_; rintro e w1 ⟨rfl, rfl⟩))
    go_end0
    exact ⟨rfl, ⟨b, D, F, E, HG.out.more (Nat.le_succ _)⟩, Below.refl _ _⟩
  · have hPf : P k = false := by simpa using hP
    rw [hPf] at HA
    obtain ⟨w2, D', hrun, hg2, hb2⟩ := h.add hk hPf hm
    have HG2 := Lib.hid hg2; have HB2 := Lib.hid hb2; have HR := Lib.hid hrun
    have hmm := @run_makeMap Try.prog
    clear h hP hPf hrun hg2 hb2
    go_enter Try.func69, Try.ntmps69
    go_wp2_with (first
      | (go_at_call 91; refine (HH _ c0).out.mono ?_; rintro e w1 ⟨rfl, rfl⟩)
      | (go_at_call 75; refine (HA _ ⟨b, D, F, E, HG.out⟩).out.mono ?_; rintro e w1 ⟨rfl, rfl⟩; have hrun := HR.out))
    go_end0
    exact ⟨rfl, ⟨b, D', _, _, HG2.out⟩, HB2.out⟩
theorem link_pts {w : World} {base G m : Nat} {P : ByteArray → Bool} {L : ByteArray → ByteArray → Bool} (h : GR w base G m P L) {s t : ByteArray} (hs : okS s) (ht : okS t) (hPs : P s = true) (hPt : P t = true) (hm : m < 1000000000) :
    ∃ b c w2, w.cell? ⟨G, 0, none⟩ = some (.map (some b)) ∧ (Instr.lookup 118 (.map (some b)) (.string s) false).run Try.prog w = .ok (.map (some c)) w ∧ (Instr.mapUpdate 90 (.map (some c)) (.string t) (.bool true)).run Try.prog w = .ok () w2 ∧
      GR w2 base G (m + 1) P (fun x y => L x y || (decide (x = s) && decide (y = t))) ∧ Below base w w2 := by
  obtain ⟨b, D, F, E, h⟩ := h
  obtain ⟨c, hc⟩ : ∃ c, F s = some c := Option.isSome_iff_exists.1 (by rw [h.fp s hs, hPs])
  obtain ⟨w2, E', hrun, hg, hb⟩ := h.line hs ht hc hPt hm
  have hl := h.look hs
  rw [hc] at hl
  exact ⟨b, c, w2, h.cell, hl, hrun, ⟨b, D, F, E', hg⟩, hb⟩
set_option maxRecDepth 100000 in
set_option maxHeartbeats 4000000 in
theorem link_any {w : World} {base G m : Nat} {P : ByteArray → Bool} {L : ByteArray → ByteArray → Bool} (h : GR w base G m P L) {s t : ByteArray} (hs : okS s) (ht : okS t) (hm : m + 3 < 1000000000) :
    Calls Try.prog 71 #[.pointer (some ⟨G, 0, none⟩), .string s, .string t] w fun e w' => e = .returned (.tuple #[]) ∧ GR w' base G (m + 3) (fun x => (P x || decide (x = s)) || decide (x = t)) (fun x y => L x y || (decide (x = s) && decide (y = t))) ∧ Below base w w' := by
  have H1 := Lib.hid (add_any h hs (by omega))
  have H2 := fun W (hg : GR W base G (m + 1) (fun x => P x || decide (x = s)) L) => Lib.hid (add_any hg ht (by omega))
  clear h
  go_enter Try.func71, Try.ntmps71
  go_wp2_with fail
  go_at_call 69; refine H1.out.mono ?_; rintro e w1 ⟨rfl, hg1, hb1⟩
  have HB1 := Lib.hid hb1
  have H2 := Lib.hid ((H2 _ hg1).out)
  clear hg1 hb1
  go_wp2_with fail
  go_at_call 69; refine H2.out.mono ?_; rintro e w2 ⟨rfl, hg2, hb2⟩
  have HB2 := Lib.hid (HB1.out.trans hb2)
  obtain ⟨b, c, w3, c0, hl, hrun, hg3, hb3⟩ := link_pts hg2 hs ht (by simp) (by simp) (by omega)
  have HG3 := Lib.hid hg3
  have HB3 := Lib.hid (HB2.out.trans hb3)
  have HH := fun W hc => Lib.hid (held_some G (.map (some b)) W hc)
  have hq := fun W => neq_nil77 W (some c)
  clear hg2 hb2 hg3 hb3
  go_wp2_with (go_at_call 91; refine (HH _ c0).out.mono ?_; rintro e w1 ⟨rfl, rfl⟩)
  go_end0
  exact ⟨rfl, HG3.out, HB3.out⟩
end Go.Proofs.Ytngnegnofmpgkaa.Gr
