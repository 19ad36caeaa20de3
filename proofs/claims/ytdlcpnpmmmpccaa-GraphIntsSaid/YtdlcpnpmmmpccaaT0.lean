/- Pa, Pb, Pc, Pd, Pe, Qa -/
import Derived.Test.YtdlcpnpmmmpccaaChecked
import Derived.WalkKit
import Derived.WalkSpells
import Derived.WalkLawsBesides
import Derived.Lib.Hide
import Derived.Laws.Rows
import Derived.RegionTactic
import Derived.Maps.OwnSet
import Derived.Maps.OwnOps
import Derived.Maps.RangeWalk
import Derived.Maps.Range
import Derived.BigRegion
import Derived.Test.YtdlcpnpmmmpccaaZ9
import Derived.Sort.OwnSortedInts
import Derived.Test.YtdlcpnpmmmpccaaX2
import Derived.Deep.QuietTactic
import Derived.BigQuiet
import Derived.Shelf.GgClosure.Gives
/- A GRAPH OF TEXTS IN MEMORY: its box, its map of points, the maps of their lines; a point more, a line more. -/
namespace Go.Proofs.Ytdlcpnpmmmpccaa.Gn
open Go.RowKit Go.Maps
theorem law3 : Keyed Try.prog 3 := int_keyed Try.underlying3
/-- What a number reads as, as a key. -/
abbrev kS (s : Int) : Lit := .int .i64 s
def okS (s : Int) : Prop := (Lit.int .i64 s).wf = true
theorem key3 {s : Int} (hs : okS s) : keyOf Try.prog 3 (.int .i64 s) = some (kS s) := keyOf_int_mk Try.underlying3 hs
theorem kS_inj {s t : Int} (h : kS s = kS t) : s = t := by
  injection h with h
theorem kS_ne {s t : Int} (h : s ≠ t) : kS s ≠ kS t := fun e => h (kS_inj e)
theorem kS_key (s : Int) : WideAt.IsKeyLit (kS s) := trivial
/-- How a map of maps reads: each inner map as the block that it is. -/
def Rm : Value → Option (DataW Value × List MemPlace)
  | .map m => some (.held (.map m), [])
  | _ => none
theorem Rm_inv {v : Value} {y : DataW Value × List MemPlace} (h : Rm v = some y) : (∃ m : Option Nat, v = .map m) ∧ y = (.held v, []) := by
  cases v <;> simp [Rm] at h
  exact ⟨⟨_, rfl⟩, h.symm⟩
noncomputable abbrev Re : Value → Option (DataW Value × List MemPlace) := plainElem Try.prog 4
theorem ownsMap_tight {R : Value → Option (DataW Value × List MemPlace)} {w : World} {n : Nat} {D : DataW Value} {b : Nat} (h : w.ownsMap Try.prog 3 R b n D) : w.ownsMap Try.prog 3 R b (Maps.size D) D := by
  obtain ⟨es, clock, hb, F, hs, rfl⟩ := h
  exact ⟨es, clock, hb, F, by simp [Maps.size, length_sorted], rfl⟩
theorem grow_of {w w' : World} (h : Below w.heap.size w w') : w.grownBy w' none := ⟨h.os, h.tape, h.output, h.size, fun k hk _ => h.block k hk⟩
theorem below_of {w w' : World} {base c : Nat} (h : w.grownBy w' (some c)) (hb : base ≤ w.heap.size) (hc : base ≤ c) : Below base w w' :=
  ⟨h.os, h.tape, h.output, h.size, fun k hk => h.block k (by omega) (by intro e; injection e with e; omega)⟩
/-- A graph in block G: b its map; F: the map of each point's lines; E: what that reads as; P: its points; L: its lines. -/
structure Gr (w : World) (base G b : Nat) (D : DataW Value) (F : Int → Option Nat) (E : Int → DataW Value) (m : Nat) (P : Int → Bool) (L : Int → Int → Bool) : Prop where
  box : w.heap[G]? = some (.cells #[.map (some b)] 89)
  own : w.ownsMap Try.prog 3 Rm b (Maps.size D) D
  lowG : base ≤ G
  lowb : base ≤ b
  ne : G ≠ b
  bas : base ≤ w.heap.size
  atK : ∀ s, okS s → D.atKey (kS s) (.held (.map none)) = .held (.map (F s))
  has : ∀ s, okS s → Maps.has D (kS s) = P s
  fp : ∀ s, okS s → (F s).isSome = P s
  inn : ∀ s c, okS s → F s = some c → w.ownsMap Try.prog 3 Re c (Maps.size (E s)) (E s)
  low : ∀ s c, okS s → F s = some c → base ≤ c ∧ c ≠ b ∧ c ≠ G
  lin : ∀ s c, okS s → F s = some c → ∀ t, okS t → Maps.has (E s) (kS t) = L s t
  szi : ∀ s c, okS s → F s = some c → Maps.size (E s) ≤ m
  non : ∀ s t, okS s → P s = false → L s t = false
  cl : ∀ s t, okS s → okS t → L s t = true → P t = true
  apart : ∀ s t c, okS s → okS t → F s = some c → F t = some c → s = t
  siz : Maps.size D ≤ m
  kok : ∀ s, Maps.has D (kS s) = true → okS s
  kin : ∀ s c, okS s → F s = some c → ∀ t, Maps.has (E s) (kS t) = true → okS t
variable {w w' : World} {base G b m : Nat} {D : DataW Value} {F : Int → Option Nat} {E : Int → DataW Value} {P : Int → Bool} {L : Int → Int → Bool}
theorem Gr.ltG (h : Gr w base G b D F E m P L) : G < w.heap.size := (Array.getElem?_eq_some_iff.1 h.box).1
theorem Gr.below (h : Gr w base G b D F E m P L) (hb : Below w.heap.size w w') : Gr w' base G b D F E m P L :=
  { h with
    box := (hb.block G h.ltG).trans h.box
    own := h.own.kept (grow_of hb) (by simp)
    bas := Nat.le_trans h.bas hb.size
    inn := fun s c hs hc => (h.inn s c hs hc).kept (grow_of hb) (by simp) }
theorem Gr.more (h : Gr w base G b D F E m P L) {m' : Nat} (hm : m ≤ m') : Gr w base G b D F E m' P L :=
  { h with szi := fun s c hs hc => Nat.le_trans (h.szi s c hs hc) hm, siz := Nat.le_trans h.siz hm }
/-- A point more. -/
theorem Gr.add (h : Gr w base G b D F E m P L) {k : Int} (hk : okS k) (hP : P k = false) (hm : m < 1000000000) :
    ∃ w2 D', (Instr.mapUpdate 87 (.map (some b)) (.int .i64 k) (.map (some w.heap.size))).run Try.prog (w.alloc (.map #[] 0)) = .ok () w2 ∧
      Gr w2 base G b D' (fun s => if s = k then some w.heap.size else F s) (fun s => if s = k then .map [] else E s) (m + 1) (fun s => P s || decide (s = k)) L ∧ Below base w w2 := by
  have hal := World.grownBy_alloc w (.map #[] 0) none
  obtain ⟨es, hDe, hti, -⟩ := h.own.entries law3
  have hty : Maps.Tidy D := ⟨es, hDe, hti⟩
  have hFk : F k = none := by
    have := h.fp k hk
    rw [hP] at this
    exact Option.not_isSome_iff_eq_none.1 (by rw [this]; decide)
  have hmade := World.ownsMap_made w Try.prog 3 (Re : Value → Option (DataW Value × List MemPlace))
  obtain ⟨w2, hrun, hmap, hg⟩ := (h.own.kept hal (by simp)).update law3 Try.underlying87 (by have := h.siz; unfold maxLen; omega) (key3 hk) (val := .map (some w.heap.size)) (d := .held (.map (some w.heap.size))) (ps := []) rfl
  have hbl : b < w.heap.size := h.own.lt
  have hz1 : (w.alloc (.map #[] 0)).heap.size = w.heap.size + 1 := by simp
  have hbB : Below base w w2 := ((Below.refl base w).alloc h.bas _).trans (below_of hg (by rw [hz1]; have := h.bas; omega) h.lowb)
  refine ⟨w2, D.put (kS k) (.held (.map (some w.heap.size))), hrun, ?_, hbB⟩
  refine { box := ?_, own := ownsMap_tight hmap, lowG := h.lowG, lowb := h.lowb, ne := h.ne, bas := Nat.le_trans h.bas hbB.size, atK := ?_, has := ?_, fp := ?_, inn := ?_, low := ?_, lin := ?_, szi := ?_, non := ?_, cl := ?_, apart := ?_, siz := ?_, kok := ?_, kin := ?_ }
  · rw [hg.block G (by rw [hz1]; have := h.ltG; omega) (by intro e; injection e with e; exact h.ne e), hal.block G h.ltG (by simp)]
    exact h.box
  · intro s hs
    by_cases e : s = k
    · subst e
      simp only [if_true]
      exact Maps.atKey_put_same hty.isMap (kS_key _) _ _
    · simp only [if_neg e]
      rw [Maps.atKey_put_other (kS_ne e)]
      exact h.atK s hs
  · intro s hs
    by_cases e : s = k
    · subst e
      rw [Maps.has_put_same hty.isMap (kS_key _)]
      simp
    · rw [Maps.has_put_other (kS_ne e), h.has s hs]
      simp [e]
  · intro s hs
    by_cases e : s = k
    · subst e; simp
    · show (if s = k then some w.heap.size else F s).isSome = (P s || decide (s = k))
      rw [if_neg e, h.fp s hs]
      simp [e]
  · intro s c hs hc
    by_cases e : s = k
    · subst e
      simp only [if_true, Option.some.injEq] at hc ⊢
      subst hc
      exact ownsMap_tight (hmade.kept hg (by intro e; injection e with e; omega))
    · simp only [if_neg e] at hc ⊢
      exact ((h.inn s c hs hc).kept hal (by simp)).kept hg (by intro e2; injection e2 with e2; exact (h.low s c hs hc).2.1 e2)
  · intro s c hs hc
    by_cases e : s = k
    · subst e
      simp only [if_true, Option.some.injEq] at hc
      subst hc
      have := h.ltG
      exact ⟨h.bas, by omega, by omega⟩
    · simp only [if_neg e] at hc
      exact h.low s c hs hc
  · intro s c hs hc t ht
    by_cases e : s = k
    · subst e
      simp only [if_true]
      rw [h.non s t hs hP]
      rfl
    · simp only [if_neg e] at hc ⊢
      exact h.lin s c hs hc t ht
  · intro s c hs hc
    by_cases e : s = k
    · subst e
      simp only [if_true]
      exact Nat.zero_le _
    · simp only [if_neg e] at hc ⊢
      exact Nat.le_succ_of_le (h.szi s c hs hc)
  · intro s t hs hp
    simp only [Bool.or_eq_false_iff] at hp
    exact h.non s t hs hp.1
  · intro s t hs ht hl
    rw [h.cl s t hs ht hl]
    rfl
  · intro s t c hs ht hc hc2
    by_cases e : s = k
    · by_cases e2 : t = k
      · rw [e, e2]
      · exfalso
        simp only [if_pos e, Option.some.injEq] at hc
        simp only [if_neg e2] at hc2
        have := (h.inn t c ht hc2).lt
        omega
    · by_cases e2 : t = k
      · exfalso
        simp only [if_pos e2, Option.some.injEq] at hc2
        simp only [if_neg e] at hc
        have := (h.inn s c hs hc).lt
        omega
      · simp only [if_neg e] at hc
        simp only [if_neg e2] at hc2
        exact h.apart s t c hs ht hc hc2
  · rw [Maps.size_put hty]
    have := h.siz
    split <;> omega
  · intro s hh
    by_cases e : s = k
    · rw [e]; exact hk
    · rw [Maps.has_put_other (kS_ne e)] at hh
      exact h.kok s hh
  · intro s c hs hc t hh
    by_cases e : s = k
    · subst e
      simp only [if_true] at hh
      exact absurd hh (by simp [Maps.has_eq])
    · simp only [if_neg e] at hc hh
      exact h.kin s c hs hc t hh
/-- A line more. -/
theorem Gr.line (h : Gr w base G b D F E m P L) {s t : Int} {c : Nat} (hs : okS s) (ht : okS t) (hF : F s = some c) (hP : P t = true) (hm : m < 1000000000) :
    ∃ w2 E', (Instr.mapUpdate 91 (.map (some c)) (.int .i64 t) (.bool true)).run Try.prog w = .ok () w2 ∧
      Gr w2 base G b D F E' (m + 1) P (fun x y => L x y || (decide (x = s) && decide (y = t))) ∧ Below base w w2 := by
  obtain ⟨es, hDe, hti, -⟩ := (h.inn s c hs hF).entries law3
  have hty : Maps.Tidy (E s) := ⟨es, hDe, hti⟩
  obtain ⟨w2, hrun, hmap, hg⟩ := (h.inn s c hs hF).update law3 Try.underlying91 (by have := h.szi s c hs hF; unfold maxLen; omega) (key3 ht) (plainElem_bool Try.underlying4 true)
  obtain ⟨l1, l2, l3⟩ := h.low s c hs hF
  have hbB : Below base w w2 := below_of hg h.bas l1
  refine ⟨w2, fun x => if x = s then (E s).put (kS t) (.lit (.bool true)) else E x, hrun, ?_, hbB⟩
  refine { box := ?_, own := h.own.kept hg (by intro e; injection e with e; exact l2 e.symm), lowG := h.lowG, lowb := h.lowb, ne := h.ne, bas := Nat.le_trans h.bas hbB.size, atK := h.atK, has := h.has, fp := h.fp, inn := ?_, low := h.low, lin := ?_, szi := ?_, non := ?_, cl := ?_, apart := h.apart, siz := Nat.le_succ_of_le h.siz, kok := h.kok, kin := ?_ }
  · rw [hg.block G h.ltG (by intro e; injection e with e; exact l3 e.symm)]
    exact h.box
  · intro x d hx hd
    by_cases e : x = s
    · obtain rfl : c = d := Option.some.inj (hF.symm.trans (by rw [← e]; exact hd))
      subst e
      simp only [if_true]
      exact ownsMap_tight hmap
    · simp only [if_neg e]
      refine (h.inn x d hx hd).kept hg (fun e2 => ?_)
      injection e2 with e2
      subst e2
      exact e (h.apart x s d hx hs hd hF)
  · intro x d hx hd y hy
    by_cases e : x = s
    · obtain rfl : c = d := Option.some.inj (hF.symm.trans (by rw [← e]; exact hd))
      subst e
      simp only [if_true]
      by_cases e2 : y = t
      · subst e2
        rw [Maps.has_put_same hty.isMap (kS_key _)]
        simp
      · rw [Maps.has_put_other (kS_ne e2), h.lin x c hx hF y hy]
        simp [e2]
    · simp only [if_neg e]
      rw [h.lin x d hx hd y hy]
      simp [e]
  · intro x d hx hd
    by_cases e : x = s
    · obtain rfl : c = d := Option.some.inj (hF.symm.trans (by rw [← e]; exact hd))
      subst e
      simp only [if_true]
      rw [Maps.size_put hty]
      have := h.szi x c hx hF
      split <;> omega
    · simp only [if_neg e]
      exact Nat.le_succ_of_le (h.szi x d hx hd)
  · intro x y hx hp
    have hxs : x ≠ s := fun e => by
      subst e
      have := h.fp x hx
      rw [hF, hp] at this
      simp at this
    rw [h.non x y hx hp]
    simp [hxs]
  · intro x y hx hy hl
    simp only [Bool.or_eq_true, Bool.and_eq_true, decide_eq_true_eq] at hl
    rcases hl with hl | ⟨-, rfl⟩
    · exact h.cl x y hx hy hl
    · exact hP
  · intro x d hx hd y hh
    by_cases e : x = s
    · obtain rfl : c = d := Option.some.inj (hF.symm.trans (by rw [← e]; exact hd))
      subst e
      simp only [if_true] at hh
      by_cases e2 : y = t
      · rw [e2]; exact ht
      · rw [Maps.has_put_other (kS_ne e2)] at hh
        exact h.kin x c hx hF y hh
    · simp only [if_neg e] at hh
      exact h.kin x d hx hd y hh
end Go.Proofs.Ytdlcpnpmmmpccaa.Gn
/- WALKS of graph's held, Has, Add, Link, Len. -/
namespace Go.Proofs.Ytdlcpnpmmmpccaa.Gn
open Go.RowKit Go.Maps
def GR (w : World) (base G m : Nat) (P : Int → Bool) (L : Int → Int → Bool) : Prop := ∃ b D F E, Gr w base G b D F E m P L
theorem GR.below {w w' : World} {base G m : Nat} {P : Int → Bool} {L : Int → Int → Bool} (h : GR w base G m P L) (hb : Below w.heap.size w w') : GR w' base G m P L := by
  obtain ⟨b, D, F, E, h⟩ := h
  exact ⟨b, D, F, E, h.below hb⟩
section
variable {w : World} {base G b m : Nat} {D : DataW Value} {F : Int → Option Nat} {E : Int → DataW Value} {P : Int → Bool} {L : Int → Int → Bool}
theorem Gr.cell (h : Gr w base G b D F E m P L) : w.cell? ⟨G, 0, none⟩ = some (.map (some b)) := by
  have := h.box
  simp [World.cell?, this]
set_option maxRecDepth 100000 in
/-- The map of a point's lines. -/
theorem Gr.look (h : Gr w base G b D F E m P L) {k : Int} (hk : okS k) : (Instr.lookup 87 (.map (some b)) (.int .i64 k) false).run Try.prog w = .ok (.map (F k)) w := by
  obtain ⟨v, ps, hrun, hR⟩ := h.own.lookup law3 Try.underlying87 (z := .map none) (Try.zeroValue91 w) (zd := .held (.map none)) (zp := []) rfl (key3 hk)
  have := (Rm_inv hR).2
  rw [h.atK k hk] at this
  injection this with h1 h2
  injection h1 with h1
  rw [hrun, h1]
end
theorem held_some (G : Nat) (v : Value) (w : World) (h : w.cell? ⟨G, 0, none⟩ = some v) : Calls Try.prog 61 #[.pointer (some ⟨G, 0, none⟩)] w fun e w' => e = .returned v ∧ w' = w := by
  go_enter Try.func61, Try.ntmps61
  go_wp2
  go_ret
  exact ⟨rfl, rfl⟩
theorem held_nil (w : World) : Calls Try.prog 61 #[.pointer none] w fun e w' => e = .returned (.map none) ∧ w' = w := by
  go_enter Try.func61, Try.ntmps61
  go_wp2
  go_ret
  exact ⟨rfl, rfl⟩
theorem neq_nil77 (w : World) (c : Option Nat) : (binOp .neq 91 (.map c) (.map none)).run Try.prog w = .ok (.bool (!c.isNone)) w := run_neq_map_nil w 91 3 4 c Try.underlying91
theorem neq_nil74 (w : World) (c : Option Nat) : (binOp .neq 87 (.map c) (.map none)).run Try.prog w = .ok (.bool (!c.isNone)) w := run_neq_map_nil w 87 3 91 c Try.underlying87
set_option maxRecDepth 100000 in
set_option maxHeartbeats 2000000 in
theorem has_any {w : World} {base G m : Nat} {P : Int → Bool} {L : Int → Int → Bool} (h : GR w base G m P L) {k : Int} (hk : okS k) : Calls Try.prog 84 #[.pointer (some ⟨G, 0, none⟩), .int .i64 k] w fun e w' => e = .returned (.bool (P k)) ∧ w' = w := by
  obtain ⟨b, D, F, E, h⟩ := h
  have HH := fun W hc => Lib.hid (held_some G (.map (some b)) W hc)
  have c0 := h.cell
  have hl := h.look hk
  have hq := fun W => neq_nil77 W (F k)
  have hp : (F k).isSome = P k := h.fp k hk
  have HP := Lib.hid hp
  generalize F k = fk at *
  clear h hp
  go_enter Try.func84, Try.ntmps84
  go_wp2_with (go_at_call 61; refine (HH _ c0).out.mono ?_; rintro e w1 ⟨rfl, rfl⟩)
  go_ret
  exact ⟨by rw [HP.out]; rfl, rfl⟩
set_option maxRecDepth 100000 in
set_option maxHeartbeats 4000000 in
theorem add_any {w : World} {base G m : Nat} {P : Int → Bool} {L : Int → Int → Bool} (h : GR w base G m P L) {k : Int} (hk : okS k) (hm : m < 1000000000) :
    Calls Try.prog 60 #[.pointer (some ⟨G, 0, none⟩), .int .i64 k] w fun e w' => e = .returned (.tuple #[]) ∧ GR w' base G (m + 1) (fun s => P s || decide (s = k)) L ∧ Below base w w' := by
  have HA := fun W (hg : GR W base G m P L) => Lib.hid (has_any hg hk)
  obtain ⟨b, D, F, E, h⟩ := h
  have HH := fun W hc => Lib.hid (held_some G (.map (some b)) W hc)
  have c0 := h.cell
  have hq := fun W => neq_nil74 W (some b)
  have HG := Lib.hid h
  by_cases hP : P k = true
  · rw [hP] at HA
    have he : (fun s => P s || decide (s = k)) = P := by
      funext s
      by_cases e : s = k
      · subst e; simp [hP]
      · simp [e]
    rw [he]
    clear h he hP
    go_enter Try.func60, Try.ntmps60
    go_wp2_with (first
      | (go_at_call 61; refine (HH _ c0).out.mono ?_; rintro e w1 ⟨rfl, rfl⟩)
      | (go_at_call 84; refine (HA _ ⟨b, D, F, E, HG.out⟩).out.mono ?_; rintro e w1 ⟨rfl, rfl⟩))
    go_end0
    exact ⟨rfl, ⟨b, D, F, E, HG.out.more (Nat.le_succ _)⟩, Below.refl _ _⟩
  · have hPf : P k = false := by simpa using hP
    rw [hPf] at HA
    obtain ⟨w2, D', hrun, hg2, hb2⟩ := h.add hk hPf hm
    have HG2 := Lib.hid hg2; have HB2 := Lib.hid hb2; have HR := Lib.hid hrun
    have hmm := @run_makeMap Try.prog
    clear h hP hPf hrun hg2 hb2
    go_enter Try.func60, Try.ntmps60
    go_wp2_with (first
      | (go_at_call 61; refine (HH _ c0).out.mono ?_; rintro e w1 ⟨rfl, rfl⟩)
      | (go_at_call 84; refine (HA _ ⟨b, D, F, E, HG.out⟩).out.mono ?_; rintro e w1 ⟨rfl, rfl⟩; have hrun := HR.out))
    go_end0
    exact ⟨rfl, ⟨b, D', _, _, HG2.out⟩, HB2.out⟩
theorem link_pts {w : World} {base G m : Nat} {P : Int → Bool} {L : Int → Int → Bool} (h : GR w base G m P L) {s t : Int} (hs : okS s) (ht : okS t) (hPs : P s = true) (hPt : P t = true) (hm : m < 1000000000) :
    ∃ b c w2, w.cell? ⟨G, 0, none⟩ = some (.map (some b)) ∧ (Instr.lookup 87 (.map (some b)) (.int .i64 s) false).run Try.prog w = .ok (.map (some c)) w ∧ (Instr.mapUpdate 91 (.map (some c)) (.int .i64 t) (.bool true)).run Try.prog w = .ok () w2 ∧
      GR w2 base G (m + 1) P (fun x y => L x y || (decide (x = s) && decide (y = t))) ∧ Below base w w2 := by
  obtain ⟨b, D, F, E, h⟩ := h
  obtain ⟨c, hc⟩ : ∃ c, F s = some c := Option.isSome_iff_exists.1 (by rw [h.fp s hs, hPs])
  obtain ⟨w2, E', hrun, hg, hb⟩ := h.line hs ht hc hPt hm
  have hl := h.look hs
  rw [hc] at hl
  exact ⟨b, c, w2, h.cell, hl, hrun, ⟨b, D, F, E', hg⟩, hb⟩
set_option maxRecDepth 100000 in
set_option maxHeartbeats 4000000 in
theorem link_any {w : World} {base G m : Nat} {P : Int → Bool} {L : Int → Int → Bool} (h : GR w base G m P L) {s t : Int} (hs : okS s) (ht : okS t) (hm : m + 3 < 1000000000) :
    Calls Try.prog 30 #[.pointer (some ⟨G, 0, none⟩), .int .i64 s, .int .i64 t] w fun e w' => e = .returned (.tuple #[]) ∧ GR w' base G (m + 3) (fun x => (P x || decide (x = s)) || decide (x = t)) (fun x y => L x y || (decide (x = s) && decide (y = t))) ∧ Below base w w' := by
  have H1 := Lib.hid (add_any h hs (by omega))
  have H2 := fun W (hg : GR W base G (m + 1) (fun x => P x || decide (x = s)) L) => Lib.hid (add_any hg ht (by omega))
  clear h
  go_enter Try.func30, Try.ntmps30
  go_wp2_with fail
  go_at_call 60; refine H1.out.mono ?_; rintro e w1 ⟨rfl, hg1, hb1⟩
  have HB1 := Lib.hid hb1
  have H2 := Lib.hid ((H2 _ hg1).out)
  clear hg1 hb1
  go_wp2_with fail
  go_at_call 60; refine H2.out.mono ?_; rintro e w2 ⟨rfl, hg2, hb2⟩
  have HB2 := Lib.hid (HB1.out.trans hb2)
  obtain ⟨b, c, w3, c0, hl, hrun, hg3, hb3⟩ := link_pts hg2 hs ht (by simp) (by simp) (by omega)
  have HG3 := Lib.hid hg3
  have HB3 := Lib.hid (HB2.out.trans hb3)
  have HH := fun W hc => Lib.hid (held_some G (.map (some b)) W hc)
  have hq := fun W => neq_nil77 W (some c)
  clear hg2 hb2 hg3 hb3
  go_wp2_with (go_at_call 61; refine (HH _ c0).out.mono ?_; rintro e w1 ⟨rfl, rfl⟩)
  go_end0
  exact ⟨rfl, HG3.out, HB3.out⟩
end Go.Proofs.Ytdlcpnpmmmpccaa.Gn
/- WALK of graph's Points at int: a map's keys, collected and sorted. -/
namespace Go.Proofs.Ytdlcpnpmmmpccaa.Gn
open Go.RowKit Go.Maps Go.Sort
open Go.Proofs.Ytdlcpnpmmmpccaa.Gr (grown_none grown_row below_none)
abbrev leI : Int → Int → Bool := fun x y => decide (x ≤ y)
theorem info3 : (Try.prog.info? 3).map (fun i => (i.zero, i.size, i.bytes)) = some (some (.int .i64 0), 1, 8) := by kernel_rfl
theorem kI_inj {x y : Int} (h : Value.int .i64 x = Value.int .i64 y) : x = y := by injection h
theorem keyOf_int3 {key : Value} {kl : Lit} (h : keyOf Try.prog 3 key = some kl) : ∃ x : Int, key = .int .i64 x ∧ kl = .int .i64 x ∧ okS x := by
  cases key <;> simp [keyOf, Try.underlying3, mapKey] at h
  rename_i q x
  obtain ⟨⟨rfl, hs⟩, rfl⟩ := h
  exact ⟨x, rfl, rfl, hs⟩
/-- The keys met so far. -/
def ColI (D0 : DataW Value) (left : Lit → Bool) (ss : List Int) : Prop := ss.Nodup ∧ ∀ x, x ∈ ss ↔ (Maps.has D0 (kS x) = true ∧ left (kS x) = false)
theorem ColI.start (D0 : DataW Value) : ColI D0 (Maps.has D0) [] := ⟨List.nodup_nil, fun x => by cases Maps.has D0 (kS x) <;> simp⟩
theorem ColI.step {D0 : DataW Value} {left : Lit → Bool} {ss : List Int} (h : ColI D0 left ss) {x : Int} {y : DataW Value} (hlk : left (kS x) = true) (hat : ∀ zd, D0.atKey (kS x) zd = y) : ColI D0 (fun z => left z && !z.sameKey (kS x)) (ss ++ [x]) := by
  have hhas : Maps.has D0 (kS x) = true := Maps.has_true_of_atKey hat
  have hnew : x ∉ ss := fun hx => by have := ((h.2 x).1 hx).2; rw [hlk] at this; cases this
  refine ⟨List.nodup_append.2 ⟨h.1, by simp, fun a ha b hb => by simp at hb; subst hb; exact fun e => hnew (e ▸ ha)⟩, fun y => ?_⟩
  by_cases hy : y = x
  · subst hy; simp [hhas, Lit.sameKey]
  · simp [h.2 y, hy, Lit.sameKey]
/-- Numbers that rise. -/
def Rise (l : List Int) : Prop := l.Pairwise fun a b => a < b
def SetL (P : Int → Bool) (l : List Int) : Prop := Rise l ∧ ∀ s, s ∈ l ↔ (okS s ∧ P s = true)
def TxtsP (l : List Int) (w : World) (e : Ending) (w' : World) : Prop := ∃ v, e = .returned v ∧ w'.ownsRow w.heap.size 3 1 v l.length (l.map (Value.int .i64)) ∧ Below w.heap.size w w'
def SetR (P : Int → Bool) (m : Nat) (w : World) (e : Ending) (w' : World) : Prop := ∃ l, TxtsP l w e w' ∧ SetL P l ∧ l.length ≤ m
theorem sorted_le (ss : List Int) : (ss.mergeSort leI).Pairwise fun a b => a ≤ b := by
  have tr : ∀ a b c : Int, leI a b = true → leI b c = true → leI a c = true := fun a b c h1 h2 => by simp only [leI, decide_eq_true_eq] at *; omega
  have tq : ∀ a b : Int, (leI a b || leI b a) = true := fun a b => by simp only [leI, Bool.or_eq_true, decide_eq_true_eq]; omega
  exact (List.pairwise_mergeSort tr tq ss).imp fun h => by simpa [leI] using h
theorem set_of {D : DataW Value} {left : Lit → Bool} {ss : List Int} {P : Int → Bool} (hC : ColI D left ss) (hl : ∀ k, left k = false) (hh : ∀ s, okS s → Maps.has D (kS s) = P s) (hk : ∀ s, Maps.has D (kS s) = true → okS s) : SetL P (ss.mergeSort leI) := by
  refine ⟨?_, fun s => ?_⟩
  · have hnd : (ss.mergeSort leI).Pairwise (· ≠ ·) := (List.mergeSort_perm ss leI).symm.nodup_iff.1 hC.1
    exact List.Pairwise.imp₂ (fun a b (h1 : a ≤ b) (h2 : a ≠ b) => by omega) (sorted_le ss) hnd
  · constructor
    · intro hx
      have h1 := (hC.2 s).1 ((List.mergeSort_perm ss leI).mem_iff.1 hx)
      have h2 := hk s h1.1
      exact ⟨h2, by rw [← hh _ h2]; exact h1.1⟩
    · rintro ⟨h1, h2⟩
      exact (List.mergeSort_perm ss leI).mem_iff.2 ((hC.2 _).2 ⟨by rw [← hh s h1] at h2; exact h2, hl _⟩)
set_option maxRecDepth 100000 in
set_option maxHeartbeats 8000000 in
theorem points_any {w : World} {base G m : Nat} {P : Int → Bool} {L : Int → Int → Bool} (h : GR w base G m P L) (hm : m ≤ 1000000) : Calls Try.prog 62 #[.pointer (some ⟨G, 0, none⟩)] w (SetR P m w) := by
  obtain ⟨b, D, F, E, h⟩ := h
  have HH := fun W hc => Lib.hid (held_some G (.map (some b)) W hc)
  have c0 := h.cell
  have hown := h.own
  have hsz := h.siz
  have HG := Lib.hid h
  obtain ⟨i0, hi, hz0, hz1, hz2⟩ := info_parts info3
  clear h
  go_enter Try.func62, Try.ntmps62
  go_wp2_with (first
    | (go_at_call 61; refine (HH _ c0).out.mono ?_; rintro e w1 ⟨rfl, rfl⟩)
    | (at_range; refine wpList_range_own _ rfl _ 87 rfl 3 91 law3 Try.underlying87 _ b _ _ rfl hown ?_; intro w0 hrg0 hg0 hs0)
    | go_in)
  go_frame
  go_loopw [3] (fun v wr => ∃ (left : Lit → Bool) (cnt : Nat) (ss : List Int), wr.ranges Try.prog 3 Rm b w1.heap.size (Maps.size D) D left cnt ∧ Hid (ColI D left ss) ∧ ss.length + cnt ≤ Maps.size D ∧ Hid (wr.ownsRow (w1.heap.size + 1) 3 1 v ss.length (ss.map (Value.int .i64))) ∧ Hid (w1.grownBy wr none) ∧ w1.heap.size + 1 ≤ wr.heap.size)
    (fun _ wr => wr.rangeLeft b w1.heap.size)
  case atStart => exact ⟨_, _, [], hrg0, Lib.hid (ColI.start D), by simp, Lib.hid (World.ownsRow_nil _ _ _ _), Lib.hid hg0, by omega⟩
  case round =>
    obtain ⟨left, cnt, ss, hrg, hC, hn, hO, hG, hws⟩ := hrel
    have hlb : b < w1.heap.size := HG.out.own.lt
    go_wp2_with (first
      | (at_next; refine wpList_next_ranges _ rfl _ rfl 3 law3 Rm (Value.int .i64) (fun c : Option Nat => .map c) (fun key kl hk => by obtain ⟨x, hx, _⟩ := keyOf_int3 hk; exact ⟨x, hx⟩) (fun v y hv => (Rm_inv hv).1) b w1.heap.size _ _ _ _ rfl hrg ?_ ?_)
      | go_in)
    · intro _ hl0
      have hset := Lib.hid (set_of hC.out hl0 HG.out.has HG.out.kok)
      have hlen : ss.length ≤ m := by omega
      have HGO := Lib.hid hG.out
      rcases hO.out.2 with ⟨rfl, h0⟩ | ⟨g, cap, cur, rfl, hbase, hb, h1, h2, h3, h4⟩
      · obtain rfl : ss = [] := List.eq_nil_of_length_eq_zero h0
        clear hO hC hG hrg
        go_wp2_with (go_at_call 85; refine (Try.slices_Sort_int_none _ _ _).mono ?_; rintro e w2 ⟨rfl, rfl⟩)
        go_ret
        exact ⟨[], ⟨_, rfl, World.ownsRow_nil _ _ _ _, below_none HGO.out⟩, by simpa using hset.out, by simp⟩
      · have hS := Lib.hid (Try.slices_Sort_int g 0 cap ss wr (holds_of_blockI hb (by simpa using h4)) (Array.getElem?_eq_some_iff.1 hb).1 (by omega))
        have HB := Lib.hid (And.intro hb (And.intro h1 (And.intro h2 h3)))
        clear hO hC hG hrg hb h1 h2 h3 h4
        go_wp2_with (go_at_call 85; refine hS.out.mono ?_; rintro e w2 ⟨rfl, n, os, rfl⟩)
        go_ret
        have hl2 : (ss.mergeSort leI).length = ss.length := by simp
        have hrow := ownsRow_sortedI (ts := ss.mergeSort leI) (n := n) (os := os) hl2 hbase HB.out.1 HB.out.2.1 HB.out.2.2.1 HB.out.2.2.2
        refine ⟨ss.mergeSort leI, ⟨_, rfl, ?_, ?_⟩, hset.out, by simpa using hlen⟩
        · rw [hl2]
          exact owns_up hrow (by omega)
        · exact below_none (grown_none HGO.out (grownBy_sortedI _) (by omega))
    · intro x c kl yd yp w2 cnt1 hkey hlk hv hat hrg1 hlt hg1 hs1 hen
      obtain ⟨x', ex, rfl, hlx⟩ := keyOf_int3 hkey
      obtain rfl : x = x' := kI_inj ex
      have HC1 := Lib.hid (hC.out.step hlk hat)
      have hri := row_ne_iter hO.out hrg
      have HO1 := Lib.hid (hO.out.kept hg1 (.inr hri.symm))
      have HG1 := Lib.hid (grown_none hG.out hg1 (Nat.le_refl _))
      have hrl := hrg.left_eq
      have hws2 : w1.heap.size + 1 ≤ w2.heap.size := by omega
      clear hs1 hws
      clear hkey hlk hv hat hrg hg1 hri ex hC hO hG
      go_wp2_with (at_builtin; refine wpList_append_own_at _ rfl _ _ 54 rfl (w1.heap.size + 1) 3 i0 (.int .i64 0) 1 8 Try.underlying54 hi hz0 hz1 hz2 rfl (by decide) _ ss.length (ss.map (Value.int .i64)) rfl (HO1.out.alloc _) ⟨w2.heap.size, 0, none⟩ 1 1 [(Value.int .i64) x] rfl rfl (cell_one_new _ _ _) (by intro v hv; simp at hv; subst hv; rfl) (by unfold maxLen; omega) (by omega) (by simp; omega) ?_; intro v' w3 hown' hgrow3 hnil3 hat3; have HO3 := Lib.hid hown'; have HG3 := Lib.hid (grown_row ((HG1.out).andThen (World.grownBy_alloc _ _ none) (by simp)) hgrow3 (fun g hg => by have := ((HO1.out.alloc (.cells #[(Value.int .i64) x] 3)).lt g hg).1; omega)); have hrg3 := (hrg1.alloc (.cells #[(Value.int .i64) x] 3)).kept hgrow3 (row_ne_low (HO1.out.alloc (.cells #[(Value.int .i64) x] 3)) (by omega)) (row_ne_low (HO1.out.alloc (.cells #[(Value.int .i64) x] 3)) (by omega)); have hs3 := hgrow3.size; clear hown' hgrow3 hnil3 hat3 hrg1)
      go_roundw
      case rel => exact ⟨_, cnt1, ss ++ [x], hrg3, HC1, by simp; omega, by rw [List.length_append, List.map_append]; exact HO3, HG3, by simp at hs3; omega⟩
      case measure => rw [hrg3.left_eq, hrl]; exact hlt
end Go.Proofs.Ytdlcpnpmmmpccaa.Gn
/- WALK of graph's To. -/
namespace Go.Proofs.Ytdlcpnpmmmpccaa.Gn
open Go.RowKit Go.Maps Go.Sort
open Go.Proofs.Ytdlcpnpmmmpccaa.Gr (grown_none grown_row below_none)
set_option maxRecDepth 100000 in
set_option maxHeartbeats 8000000 in
theorem to_any {w : World} {base G m : Nat} {P : Int → Bool} {L : Int → Int → Bool} (h : GR w base G m P L) (hm : m ≤ 1000000) {k0 : Int} (hk : okS k0) : Calls Try.prog 63 #[.pointer (some ⟨G, 0, none⟩), .int .i64 k0] w (SetR (fun t => L k0 t) m w) := by
  obtain ⟨b, D, F, E, h⟩ := h
  have HH := fun W hc => Lib.hid (held_some G (.map (some b)) W hc)
  have c0 := h.cell
  have hlk := h.look hk
  have HG := Lib.hid h
  cases hF : F k0 with
  | none =>
    rw [hF] at hlk
    have hPf : P k0 = false := by rw [← h.fp k0 hk, hF]; rfl
    have hset : Hid (SetL (fun t => L k0 t) []) := ⟨List.Pairwise.nil, fun s => by
      constructor
      · intro hs; exact absurd hs (by simp)
      · rintro ⟨h1, h2⟩
        have h2 : L k0 s = true := h2
        rw [h.non k0 s hk hPf] at h2
        exact absurd h2 (by decide)⟩
    have hrg := run_range_nilMap (P := Try.prog) w 91 3 4 Try.underlying91
    have hnx : ∀ ty, (Instr.next (.pointer (some ⟨w.heap.size, 0, none⟩)) false ty).run Try.prog (w.alloc (.mapIter none 0 #[] 0)) = _ := fun ty => run_next_nilMap w ty 0 0 #[]
    clear h hF hPf
    go_enter Try.func63, Try.ntmps63
    go_wp2_with (first
      | (go_at_call 61; refine (HH _ c0).out.mono ?_; rintro e w1 ⟨rfl, rfl⟩)
      | go_in)
    refine wp_loop_rounds 1 ?_
    rw [rounds_succ]
    go_wp2_with (go_at_call 85; refine (Try.slices_Sort_int_none _ _ _).mono ?_; rintro e w2 ⟨rfl, rfl⟩)
    go_ret
    exact ⟨[], ⟨_, rfl, World.ownsRow_nil _ _ _ _, (Below.refl _ _).alloc (Nat.le_refl _) _⟩, hset.out, by simp⟩
  | some c =>
  rw [hF] at hlk
  have hown := h.inn k0 c hk hF
  have hsz := h.szi k0 c hk hF
  have HL := Lib.hid (h.lin k0 c hk hF)
  have HK := Lib.hid (h.kin k0 c hk hF)
  have hbl := hown.lt
  obtain ⟨i0, hi, hz0, hz1, hz2⟩ := info_parts info3
  generalize E k0 = D0 at *
  clear h hF
  go_enter Try.func63, Try.ntmps63
  go_wp2_with (first
    | (go_at_call 61; refine (HH _ c0).out.mono ?_; rintro e w1 ⟨rfl, rfl⟩)
    | (at_range; refine wpList_range_own _ rfl _ 91 rfl 3 4 law3 Try.underlying91 _ c _ _ rfl hown ?_; intro w0 hrg0 hg0 hs0)
    | go_in)
  go_frame
  go_loopw [5] (fun v wr => ∃ (left : Lit → Bool) (cnt : Nat) (ss : List Int), wr.ranges Try.prog 3 Re c w1.heap.size (Maps.size D0) D0 left cnt ∧ Hid (ColI D0 left ss) ∧ ss.length + cnt ≤ Maps.size D0 ∧ Hid (wr.ownsRow (w1.heap.size + 1) 3 1 v ss.length (ss.map (Value.int .i64))) ∧ Hid (w1.grownBy wr none) ∧ w1.heap.size + 1 ≤ wr.heap.size)
    (fun _ wr => wr.rangeLeft c w1.heap.size)
  case atStart => exact ⟨_, _, [], hrg0, Lib.hid (ColI.start D0), by simp, Lib.hid (World.ownsRow_nil _ _ _ _), Lib.hid hg0, by omega⟩
  case round =>
    obtain ⟨left, cnt, ss, hrg, hC, hn, hO, hG, hws⟩ := hrel
    have hlb : c < w1.heap.size := hbl
    go_wp2_with (first
      | (at_next; refine wpList_next_ranges _ rfl _ rfl 3 law3 Re (Value.int .i64) (fun v : Value => v) (fun key kl hk => by obtain ⟨x, hx, _⟩ := keyOf_int3 hk; exact ⟨x, hx⟩) (fun v y _ => ⟨v, rfl⟩) c w1.heap.size _ _ _ _ rfl hrg ?_ ?_)
      | go_in)
    · intro _ hl0
      have hset := Lib.hid (set_of (P := fun t => L k0 t) hC.out hl0 HL.out HK.out)
      have hlen : ss.length ≤ m := by omega
      have HGO := Lib.hid hG.out
      rcases hO.out.2 with ⟨rfl, h0⟩ | ⟨g, cap, cur, rfl, hbase, hb, h1, h2, h3, h4⟩
      · obtain rfl : ss = [] := List.eq_nil_of_length_eq_zero h0
        clear hO hC hG hrg
        go_wp2_with (go_at_call 85; refine (Try.slices_Sort_int_none _ _ _).mono ?_; rintro e w2 ⟨rfl, rfl⟩)
        go_ret
        exact ⟨[], ⟨_, rfl, World.ownsRow_nil _ _ _ _, below_none HGO.out⟩, by simpa using hset.out, by simp⟩
      · have hS := Lib.hid (Try.slices_Sort_int g 0 cap ss wr (holds_of_blockI hb (by simpa using h4)) (Array.getElem?_eq_some_iff.1 hb).1 (by omega))
        have HB := Lib.hid (And.intro hb (And.intro h1 (And.intro h2 h3)))
        clear hO hC hG hrg hb h1 h2 h3 h4
        go_wp2_with (go_at_call 85; refine hS.out.mono ?_; rintro e w2 ⟨rfl, n, os, rfl⟩)
        go_ret
        have hl2 : (ss.mergeSort leI).length = ss.length := by simp
        have hrow := ownsRow_sortedI (ts := ss.mergeSort leI) (n := n) (os := os) hl2 hbase HB.out.1 HB.out.2.1 HB.out.2.2.1 HB.out.2.2.2
        refine ⟨ss.mergeSort leI, ⟨_, rfl, ?_, ?_⟩, hset.out, by simpa using hlen⟩
        · rw [hl2]
          exact owns_up hrow (by omega)
        · exact below_none (grown_none HGO.out (grownBy_sortedI _) (by omega))
    · intro x cb kl yd yp w2 cnt1 hkey hlk hv hat hrg1 hlt hg1 hs1 hen
      obtain ⟨x', ex, rfl, hlx⟩ := keyOf_int3 hkey
      obtain rfl : x = x' := kI_inj ex
      have HC1 := Lib.hid (hC.out.step hlk hat)
      have hri := row_ne_iter hO.out hrg
      have HO1 := Lib.hid (hO.out.kept hg1 (.inr hri.symm))
      have HG1 := Lib.hid (grown_none hG.out hg1 (Nat.le_refl _))
      have hrl := hrg.left_eq
      have hws2 : w1.heap.size + 1 ≤ w2.heap.size := by omega
      clear hs1 hws
      clear hkey hlk hv hat hrg hg1 hri ex hC hO hG
      go_wp2_with (at_builtin; refine wpList_append_own_at _ rfl _ _ 54 rfl (w1.heap.size + 1) 3 i0 (.int .i64 0) 1 8 Try.underlying54 hi hz0 hz1 hz2 rfl (by decide) _ ss.length (ss.map (Value.int .i64)) rfl (HO1.out.alloc _) ⟨w2.heap.size, 0, none⟩ 1 1 [(Value.int .i64) x] rfl rfl (cell_one_new _ _ _) (by intro v hv; simp at hv; subst hv; rfl) (by unfold maxLen; omega) (by omega) (by simp; omega) ?_; intro v' w3 hown' hgrow3 hnil3 hat3; have HO3 := Lib.hid hown'; have HG3 := Lib.hid (grown_row ((HG1.out).andThen (World.grownBy_alloc _ _ none) (by simp)) hgrow3 (fun g hg => by have := ((HO1.out.alloc (.cells #[(Value.int .i64) x] 3)).lt g hg).1; omega)); have hrg3 := (hrg1.alloc (.cells #[(Value.int .i64) x] 3)).kept hgrow3 (row_ne_low (HO1.out.alloc (.cells #[(Value.int .i64) x] 3)) (by omega)) (row_ne_low (HO1.out.alloc (.cells #[(Value.int .i64) x] 3)) (by omega)); have hs3 := hgrow3.size; clear hown' hgrow3 hnil3 hat3 hrg1)
      go_roundw
      case rel => exact ⟨_, cnt1, ss ++ [x], hrg3, HC1, by simp; omega, by rw [List.length_append, List.map_append]; exact HO3, HG3, by simp at hs3; omega⟩
      case measure => rw [hrg3.left_eq, hrl]; exact hlt
end Go.Proofs.Ytdlcpnpmmmpccaa.Gn
/- LISTS OF NUMBERS, MAPS THAT TELL OF NUMBERS, in memory. -/
namespace Go.Proofs.Ytdlcpnpmmmpccaa.Gn
set_option maxRecDepth 100000
open Go.RowKit Go.Maps Go.Sort
open Go.Proofs.Ytdlcpnpmmmpccaa.Gr (grown_none grown_row below_none Qrow qrow_of run_append_q nodup_le grown_trans Qrow.slice Qrow.shape)
theorem size_of {R : Value → Option (DataW Value × List MemPlace)} {w : World} {b n : Nat} {D : DataW Value} {P : Int → Bool} {l : List Int} (own : w.ownsMap Try.prog 3 R b n D) (hh : ∀ s, okS s → Maps.has D (kS s) = P s) (hk : ∀ s, Maps.has D (kS s) = true → okS s) (hS : SetL P l) : Maps.size D = l.length := by
  obtain ⟨es, hD, hpw, -⟩ := own.entries law3
  obtain ⟨es', hD', hko⟩ := own.keysOf
  obtain rfl : es = es' := by rw [hD] at hD'; simpa using hD'
  subst hD
  have hkey : ∀ p ∈ es, ∃ x : Int, p.1 = kS x ∧ okS x := fun p hp => by
    obtain ⟨v, hv⟩ := hko p hp
    obtain ⟨x, _, hx, hok⟩ := keyOf_int3 hv
    exact ⟨x, hx, hok⟩
  have hp : (l.map kS).Perm (es.map fun p => p.1) := by
    refine (List.perm_ext_iff_of_nodup ?_ ?_).2 fun y => ?_
    · exact List.pairwise_map.2 (hS.1.imp fun {a b} h e => by have := kS_inj e; omega)
    · exact List.pairwise_map.2 (hpw.imp fun {a b} h => h)
    · rw [List.mem_map, List.mem_map]
      constructor
      · rintro ⟨s, hs, rfl⟩
        obtain ⟨h1, h2⟩ := (hS.2 s).1 hs
        rw [← hh s h1, Maps.has_eq, List.any_eq_true] at h2
        obtain ⟨p, hp, e⟩ := h2
        obtain ⟨x, hx, -⟩ := hkey p hp
        refine ⟨p, hp, ?_⟩
        rw [hx] at e ⊢
        simpa [Lit.sameKey, eq_comm] using e
      · rintro ⟨p, hp, rfl⟩
        obtain ⟨x, hx, hok⟩ := hkey p hp
        refine ⟨x, (hS.2 x).2 ⟨hok, ?_⟩, hx.symm⟩
        rw [← hh x hok, Maps.has_eq, List.any_eq_true]
        exact ⟨p, hp, by rw [hx]; simp [Lit.sameKey]⟩
  have := hp.length_eq
  rw [List.length_map, List.length_map] at this
  rw [this]
  rfl
theorem Rise.nodup {l : List Int} (h : Rise l) : l.Nodup := h.imp fun {a b} h e => by omega
theorem rise_unique {l l' : List Int} (h : Rise l) (h' : Rise l') (hm : ∀ s, s ∈ l ↔ s ∈ l') : l = l' := by
  have hp : l.Perm l' := (List.perm_ext_iff_of_nodup h.nodup h'.nodup).2 hm
  refine List.Perm.eq_of_pairwise (le := fun (a b : Int) => a < b) (fun a b _ _ h1 h2 => by omega) h h' hp
theorem set_unique {P P' : Int → Bool} {l l' : List Int} (h : SetL P l) (h' : SetL P' l') (hP : ∀ s, okS s → P s = P' s) : l = l' :=
  rise_unique h.1 h'.1 fun s => by
    rw [h.2, h'.2]
    exact ⟨fun ⟨a, b⟩ => ⟨a, by rw [← hP s a]; exact b⟩, fun ⟨a, b⟩ => ⟨a, by rw [hP s a]; exact b⟩⟩
theorem set_filter {P Q : Int → Bool} {l : List Int} (hS : SetL P l) (hq : ∀ t, okS t → Q t = true → P t = true) : SetL Q (l.filter Q) := by
  refine ⟨hS.1.filter _, fun s => ?_⟩
  rw [List.mem_filter, hS.2]
  exact ⟨fun h => ⟨h.1.1, h.2⟩, fun h => ⟨⟨h.1, hq s h.1 h.2⟩, h.2⟩⟩
structure StrRow (w : World) (a : Option Addr) (len : Nat) (xs : List Int) : Prop where
  count : xs.length = len
  max : len ≤ 140737488355328
  each : ∀ (i : Nat) (x : Int), xs[i]? = some x → okS x
  at_ : 0 < len → ∃ b off, a = some ⟨b, off, none⟩ ∧ b < w.heap.size ∧ ∀ (i : Nat) (x : Int), xs[i]? = some x → w.cell? ⟨b, off + i, none⟩ = some (.int .i64 x)
theorem StrRow.below {w w' : World} {a : Option Addr} {len : Nat} {xs : List Int} (h : StrRow w a len xs) (hb : Below w.heap.size w w') : StrRow w' a len xs := by
  obtain ⟨h1, h2, h3, h4⟩ := h
  refine ⟨h1, h2, h3, fun h0 => ?_⟩
  obtain ⟨b, off, e, hlt, hc⟩ := h4 h0
  exact ⟨b, off, e, Nat.lt_of_lt_of_le hlt hb.size, fun i x hx => by rw [hb.cell (p := ⟨b, off + i, none⟩) hlt]; exact hc i x hx⟩
theorem str_row {w : World} {base : Nat} {v : Value} {l : List Int} (h : w.ownsRow base 3 1 v l.length (l.map (Value.int .i64))) (hl : l.length ≤ 140737488355328) (hs : ∀ y ∈ l, okS y) :
    ∃ a c, v = .slice a l.length c ∧ StrRow w a l.length l := by
  rcases h.2 with ⟨rfl, hn0⟩ | ⟨g, cap, cur, rfl, hb, hg, hcap, hm, hsz, htake⟩
  · have h0 : l.length = 0 := hn0
    refine ⟨none, 0, by rw [h0], rfl, hl, fun i x hx => hs x (List.mem_of_getElem? hx), fun h1 => by omega⟩
  · refine ⟨_, cap, rfl, rfl, hl, fun i x hx => hs x (List.mem_of_getElem? hx), fun h1 => ⟨g, 0, rfl, (Array.getElem?_eq_some_iff.1 hg).1, fun i x hx => ?_⟩⟩
    have h2 := h.cells (g := g) rfl i (.int .i64 x) (by rw [List.getElem?_map, hx]; rfl)
    rwa [show (⟨g, 0, none⟩ : Addr).add i = ⟨g, 0 + i, none⟩ by unfold Addr.add; split <;> simp_all] at h2
def inB (s : Int) (xs : List Int) : Bool := xs.any fun x => decide (x = s)
theorem inB_iff {s : Int} {xs : List Int} : inB s xs = true ↔ s ∈ xs := by
  unfold inB
  rw [List.any_eq_true]
  exact ⟨fun ⟨x, hx, e⟩ => by rw [← of_decide_eq_true e]; exact hx, fun h => ⟨s, h, decide_eq_true rfl⟩⟩
abbrev Ln2 := Int × Int
def inL (ls : List Ln2) (k t : Int) : Bool := ls.any fun l => decide (l.1 = k) && decide (l.2 = t)
theorem inL_iff {ls : List Ln2} {k t : Int} : inL ls k t = true ↔ (k, t) ∈ ls := by
  unfold inL
  rw [List.any_eq_true]
  constructor
  · rintro ⟨⟨x, y⟩, hx, e⟩
    simp only [Bool.and_eq_true, decide_eq_true_eq] at e
    rw [← e.1, ← e.2]
    exact hx
  · intro h
    exact ⟨_, h, by simp⟩
theorem run_own {w : World} {base : Nat} {v : Value} {xs news : List Int} (hq : w.ownsRow base 3 1 v xs.length (xs.map (Value.int .i64))) {a : Option Addr} {c : Nat} (hn : StrRow w a news.length news) (hl : xs.length + news.length ≤ 1000000) (hb : base ≤ w.heap.size) (ty : TypeId) :
    ∃ v' w', (Builtin.append_ #[54, 54] ty #[v, .slice a news.length c]).run Try.prog w = .ok v' w' ∧ w'.ownsRow base 3 1 v' (xs ++ news).length ((xs ++ news).map (Value.int .i64)) ∧ w.grownBy w' v.ownBlock ∧ (v'.ownBlock = v.ownBlock ∨ v'.ownBlock = some w.heap.size) := by
  obtain ⟨i0, hi, hz0, hz1, hz2⟩ := info_parts info3
  by_cases h0 : 0 < news.length
  · obtain ⟨b, off, rfl, hlt, hc⟩ := hn.at_ h0
    obtain ⟨v', w', hr, h1, h2, -, h4⟩ := run_append_own_at (P := Try.prog) w base 54 ty 3 i0 _ 1 8 Try.underlying54 hi hz0 hz1 hz2 rfl (by decide) v xs.length (xs.map (Value.int .i64)) hq ⟨b, off, none⟩ news.length c (news.map (Value.int .i64)) (by simp) (fun j u hj => by
      rw [List.getElem?_map] at hj
      cases hx : news[j]? with
      | none => rw [hx] at hj; cases hj
      | some x =>
        rw [hx] at hj
        injection hj with hj
        subst hj
        rw [Addr.add_lit]
        exact hc j x hx) (fun u hu => by
      obtain ⟨x, -, rfl⟩ := List.mem_map.1 hu
      rfl) (by unfold maxLen; omega) (by omega) hb
    exact ⟨v', w', hr, by rw [List.length_append, List.map_append]; exact h1, h2, h4⟩
  · obtain rfl : news = [] := List.eq_nil_of_length_eq_zero (by omega)
    refine ⟨v, w, ?_, by simpa using hq, ⟨rfl, rfl, rfl, Nat.le_refl _, fun _ _ _ => rfl⟩, .inl rfl⟩
    rcases hq.2 with ⟨rfl, -⟩ | ⟨g, cap, cur, rfl, -, -, hcap, -⟩
    · cases a <;> simp [Builtin.append_, run_underlying Try.underlying54, sizeOf, typeInfo, hi, Builtin.lenOf, Builtin.firstCells, loadCells, loadCellsFrom]
    · cases a <;> simp [Builtin.append_, run_underlying Try.underlying54, sizeOf, typeInfo, hi, hcap, Builtin.lenOf, Builtin.firstCells, loadCells, loadCellsFrom, storeCells]
theorem own_cut {w : World} {base g n cap : Nat} {k : Int} {ol : List Int} (hn : n = ol.length + 1) (h : w.ownsRow base 3 1 (.slice (some ⟨g, 0, none⟩) n cap) n ((ol ++ [k]).map (Value.int .i64))) :
    w.ownsRow base 3 1 (.slice (some ⟨g, 0, none⟩) ol.length cap) ol.length (ol.map (Value.int .i64)) := by
  subst hn
  rcases h.2 with ⟨h1, -⟩ | ⟨g', cap', cur, hv, hb, hg, hle, hm, hs, ht⟩
  · cases h1
  · injection hv with e1 e2 e3
    injection e1 with e1
    injection e1 with e1 e4
    subst e1 e3
    refine ⟨by simp, .inr ⟨g, cap, cur, rfl, hb, hg, by omega, hm, hs, ?_⟩⟩
    rw [Nat.mul_one] at ht ⊢
    have h2 : (cur.toList.take (ol.length + 1)).take ol.length = cur.toList.take ol.length := by rw [List.take_take, Nat.min_eq_left (by omega)]
    rw [← h2, ht, List.map_append, List.take_left' (by simp)]
def SM (w : World) (b n : Nat) (Q : Int → Bool) : Prop := ∃ D, w.ownsMap Try.prog 3 Re b n D ∧ ∀ s, okS s → D.atKey (kS s) (.lit (.bool false)) = .lit (.bool (Q s))
theorem SM.lt {w : World} {b n : Nat} {Q : Int → Bool} (h : SM w b n Q) : b < w.heap.size := by
  obtain ⟨D, h, -⟩ := h
  exact h.lt
theorem SM.more {w : World} {b n m : Nat} {Q : Int → Bool} (h : SM w b n Q) (hm : n ≤ m) : SM w b m Q := by
  obtain ⟨D, h, h2⟩ := h
  exact ⟨D, h.mono hm, h2⟩
theorem SM.kept {w w' : World} {b n : Nat} {Q : Int → Bool} (h : SM w b n Q) {r : Option Nat} (hg : w.grownBy w' r) (hr : r ≠ some b) : SM w' b n Q := by
  obtain ⟨D, h, h2⟩ := h
  exact ⟨D, h.kept hg hr.symm, h2⟩
theorem SM.below {w w' : World} {b n : Nat} {Q : Int → Bool} (h : SM w b n Q) (hb : Below w.heap.size w w') : SM w' b n Q := h.kept (grow_of hb) (by simp)
theorem SM.made (w : World) : SM (w.alloc (.map #[] 0)) w.heap.size 0 (fun _ => false) := ⟨.map [], World.ownsMap_made w Try.prog 3 Re, fun _ _ => rfl⟩
theorem bool_inv {v : Value} {c : Bool} {ps : List MemPlace} (h : (Re v : Option (DataW Value × List MemPlace)) = some (.lit (.bool c), ps)) : v = .bool c := by
  simp only [Re, plainElem, Try.underlying4] at h
  cases v <;> simp at h
  rw [h.1]
theorem SM.look {w : World} {b n : Nat} {Q : Int → Bool} (h : SM w b n Q) {k : Int} (hk : okS k) : (Instr.lookup 91 (.map (some b)) (.int .i64 k) false).run Try.prog w = .ok (.bool (Q k)) w := by
  obtain ⟨D, h, h2⟩ := h
  obtain ⟨v, ps, hrun, hR⟩ := h.lookup law3 Try.underlying91 (z := .bool false) (Try.zeroValue4 w) (plainElem_bool Try.underlying4 false) (key3 hk)
  rw [h2 k hk] at hR
  rw [hrun, bool_inv hR]
theorem SM.put {w : World} {b n : Nat} {Q : Int → Bool} (h : SM w b n Q) {k : Int} (hk : okS k) (hn : n < 1000000000) : ∃ w2, (Instr.mapUpdate 91 (.map (some b)) (.int .i64 k) (.bool true)).run Try.prog w = .ok () w2 ∧ SM w2 b (n + 1) (fun s => Q s || decide (s = k)) ∧ w.grownBy w2 (some b) := by
  obtain ⟨D, h, h2⟩ := h
  obtain ⟨es, hDe, hti, -⟩ := h.entries law3
  have hty : Maps.Tidy D := ⟨es, hDe, hti⟩
  obtain ⟨w2, hrun, hmap, hg⟩ := h.update law3 Try.underlying91 (by unfold maxLen; omega) (key3 hk) (plainElem_bool Try.underlying4 true)
  refine ⟨w2, hrun, ⟨_, hmap, fun s hs => ?_⟩, hg⟩
  by_cases e : s = k
  · subst e
    rw [Maps.atKey_put_same hty.isMap (kS_key _)]
    simp
  · rw [Maps.atKey_put_other (kS_ne e), h2 s hs]
    simp [e]
def ClM (w : World) (B b m : Nat) (Q : Int → Bool) : Prop := w.cell? ⟨B, 0, none⟩ = some (.map (some b)) ∧ SM w b m Q
theorem ClM.kept {w w' : World} {B b m : Nat} {Q : Int → Bool} (h : ClM w B b m Q) {r : Option Nat} (hg : w.grownBy w' r) (h1 : r ≠ some B) (h2 : r ≠ some b) : ClM w' B b m Q :=
  ⟨hg.cell h.1 (fun e => h1 e.symm), h.2.kept hg h2⟩
def Tells (g B b m : Nat) (Q R : Int → Bool) : Prop := ∀ (W : World) (x : Int), ClM W B b m Q → okS x → Calls Try.prog g #[.int .i64 x, .pointer (some ⟨B, 0, none⟩)] W fun e w' => e = .returned (.bool (R x)) ∧ W = w'
def CutP (xs : List Int) (base : Nat) (v : Value) (w : World) (e : Ending) (w' : World) : Prop := ∃ v', e = .returned v' ∧ w'.ownsRow base 3 1 v' xs.length (xs.map (Value.int .i64)) ∧ w.grownBy w' v.ownBlock
end Go.Proofs.Ytdlcpnpmmmpccaa.Gn
/- A HEAP OF TEXTS IN MEMORY; WALKS of its Less, Swap. (at int) -/
namespace Go.Proofs.Ytdlcpnpmmmpccaa.Gn
open Go.RowKit Go.Maps Go.Sort
open Go.Proofs.Ytdlcpnpmmmpccaa.Gr (grown_none grown_row below_none Qrow qrow_of nodup_le grown_trans Qrow.slice Qrow.shape hp_alloc it)
def lsB (a b : Int) : Bool := decide (a < b)
theorem own_at {w : World} {base : Nat} {v : Value} {hs : List Int} (h : w.ownsRow base 3 1 v hs.length (hs.map (Value.int .i64))) (h0 : 0 < hs.length) : ∃ g cap cur, v = .slice (some ⟨g, 0, none⟩) hs.length cap ∧ base ≤ g ∧ g < w.heap.size ∧ w.heap[g]? = some (.cells cur 3 (0, 0)) ∧ hs.length ≤ cap ∧ cur.size = cap ∧ (∀ j, j < hs.length → w.cell? ⟨g, j, none⟩ = some (.int .i64 (hs.getD j 0))) := by
  rcases h.2 with ⟨-, h1⟩ | ⟨g, cap, cur, rfl, hb, hg, hn, -, hs2, ht⟩
  · omega
  · refine ⟨g, cap, cur, rfl, hb, (Array.getElem?_eq_some_iff.1 hg).1, hg, hn, by omega, fun j hj => ?_⟩
    rw [h.cellAt j (by omega)]
    simp [List.getD, hj]
set_option maxRecDepth 100000 in
set_option maxHeartbeats 4000000 in
theorem hless_any {w : World} {base : Nat} {v : Value} {hs : List Int} (h : w.ownsRow base 3 1 v hs.length (hs.map (Value.int .i64))) (hmax : hs.length ≤ 1000000) {i j : Nat} (hi : i < hs.length) (hj : j < hs.length) : Calls Try.prog 163 #[v, .int .i64 i, .int .i64 j] w (BoolP (lsB (hs.getD i 0) (hs.getD j 0)) w) := by
  obtain ⟨g, cap, cur, rfl, -, -, -, hcap, -, hc⟩ := own_at h (by omega)
  have c1 := hc i hi
  have c2 := hc j hj
  unfold lsB
  generalize hs.getD i 0 = x at *
  generalize hs.getD j 0 = y at *
  generalize hs.length = n at *
  clear hc h
  go_enter Try.func163, Try.ntmps163
  go_wp2_with fail
  go_quiet (fail)
  go_wp2_with fail
  go_ret
  exact ⟨rfl, below_drewN' (Below.refl _ _) nq⟩
set_option maxRecDepth 100000 in
set_option maxHeartbeats 4000000 in
theorem hswap_at {w : World} {g n cap : Nat} {x y : Int} (_hcap : n ≤ cap) (_hmax : n ≤ 1000000) {i j : Nat} (hi : i < n) (hj : j < n) (hij : ¬ i = j) (c1 : w.cell? ⟨g, i, none⟩ = some (.int .i64 x)) (c2 : w.cell? ⟨g, j, none⟩ = some (.int .i64 y)) (f1 : w.frozen? ⟨g, i, none⟩ = false) (f2 : w.frozen? ⟨g, j, none⟩ = false) :
    Calls Try.prog 166 #[.slice (some ⟨g, 0, none⟩) n cap, .int .i64 i, .int .i64 j] w (fun e w' => e = .returned (.tuple #[]) ∧ w' = ((w.setCell ⟨g, i, none⟩ (.int .i64 y)).setCell ⟨g, j, none⟩ (.int .i64 x)).drew) := by
  have hji : ¬ j = i := fun e => hij e.symm
  have e1 : ∀ v : Value, (w.setCell ⟨g, i, none⟩ v).cell? ⟨g, j, none⟩ = some (.int .i64 y) := fun v => by
    rw [World.cell?_setCell_other _ _ _ _ (by intro e; injection e with _ e; exact hij e)]
    exact c2
  have e2 : ∀ v : Value, (w.setCell ⟨g, j, none⟩ v).cell? ⟨g, i, none⟩ = some (.int .i64 x) := fun v => by
    rw [World.cell?_setCell_other _ _ _ _ (by intro e; injection e with _ e; exact hji e)]
    exact c1
  go_enter Try.func166, Try.ntmps166
  go_wp2_with fail
  go_region
  go_wp2_with fail
  go_end0
  exact ⟨rfl, rfl⟩
set_option maxRecDepth 100000 in
set_option maxHeartbeats 4000000 in
theorem hswap_one {w : World} {g n cap : Nat} {x : Int} (_hcap : n ≤ cap) (_hmax : n ≤ 1000000) {i : Nat} (hi : i < n) (c1 : w.cell? ⟨g, i, none⟩ = some (.int .i64 x)) (f1 : w.frozen? ⟨g, i, none⟩ = false) :
    Calls Try.prog 166 #[.slice (some ⟨g, 0, none⟩) n cap, .int .i64 i, .int .i64 i] w (fun e w' => e = .returned (.tuple #[]) ∧ w' = ((w.setCell ⟨g, i, none⟩ (.int .i64 x)).setCell ⟨g, i, none⟩ (.int .i64 x)).drew) := by
  have e1 : (w.setCell ⟨g, i, none⟩ (.int .i64 x)).cell? ⟨g, i, none⟩ = some (.int .i64 x) := World.cell?_setCell_same _ _ _ c1
  go_enter Try.func166, Try.ntmps166
  go_wp2_with fail
  go_region
  go_wp2_with fail
  go_end0
  exact ⟨rfl, rfl⟩
/-- Two of a list, each in the other one's place. -/
def swapL (hs : List Int) (i j : Nat) : List Int := (hs.set i (hs.getD j 0)).set j (hs.getD i 0)
theorem swapL_len (hs : List Int) (i j : Nat) : (swapL hs i j).length = hs.length := by unfold swapL; simp
theorem hswap_any {w : World} {base : Nat} {v : Value} {hs : List Int} (h : w.ownsRow base 3 1 v hs.length (hs.map (Value.int .i64))) (hmax : hs.length ≤ 1000000) {i j : Nat} (hi : i < hs.length) (hj : j < hs.length) :
    Calls Try.prog 166 #[v, .int .i64 i, .int .i64 j] w (fun e w' => e = .returned (.tuple #[]) ∧ w'.ownsRow base 3 1 v (swapL hs i j).length ((swapL hs i j).map (Value.int .i64)) ∧ w.grownBy w' v.ownBlock) := by
  obtain ⟨g, cap, cur, rfl, -, -, hg, hcap, -, hc⟩ := own_at h (by omega)
  have hf : ∀ o, w.frozen? ⟨g, o, none⟩ = false := fun o => by simp [World.frozen?, hg]
  have hfin : ∀ w', w' = ((w.setCell ⟨g, i, none⟩ (.int .i64 (hs.getD j 0))).setCell ⟨g, j, none⟩ (.int .i64 (hs.getD i 0))).drew → w'.ownsRow base 3 1 (.slice (some ⟨g, 0, none⟩) hs.length cap) (swapL hs i j).length ((swapL hs i j).map (Value.int .i64)) ∧ w.grownBy w' (Value.slice (some ⟨g, 0, none⟩) hs.length cap).ownBlock := by
    rintro w' rfl
    obtain ⟨h1, g1⟩ := h.stored i (.int .i64 (hs.getD j 0))
    obtain ⟨h2, g2⟩ := h1.stored j (.int .i64 (hs.getD i 0))
    refine ⟨?_, ⟨g2.os.trans g1.os, g2.tape.trans g1.tape, g2.output.trans g1.output, Nat.le_trans g1.size g2.size, fun k hk hne => (g2.block k (Nat.lt_of_lt_of_le hk g1.size) hne).trans (g1.block k hk hne)⟩⟩
    rw [swapL_len]
    have := h2.drew
    unfold swapL
    rw [List.map_set, List.map_set]
    exact this
  by_cases hij : i = j
  · subst hij
    refine (hswap_one hcap hmax hi (hc i hi) (hf i)).mono ?_
    rintro e w' ⟨rfl, hw⟩
    exact ⟨rfl, hfin w' hw⟩
  · refine (hswap_at hcap hmax hi hj hij (hc i hi) (hc j hj) (hf i) (hf j)).mono ?_
    rintro e w' ⟨rfl, hw⟩
    exact ⟨rfl, hfin w' hw⟩
end Go.Proofs.Ytdlcpnpmmmpccaa.Gn
