/- Ra -/
import Derived.RangeFuncNested
import Derived.RangeFuncBound
import Derived.RangeFuncCalls
import Derived.RangeFuncLeaves
import Derived.Shelf.Abstract
import Derived.Shelf.RegionOpen
import Derived.WalkKit
import Derived.OwnWalkIn
import Derived.TacticsInMore
import Derived.LoopNIn
import Derived.LoopIn
import Derived.Lib.Hide
/- A RANGE OVER A FUNCTION WHOSE BODY IS TOLD WHAT HOLDS OF WHAT IT IS HANDED, whose iterator may itself range over functions. -/
namespace Go.Proofs.YtlpilbghblbpbaaDoor
open Go.RowKit Go.Shelf
theorem room_of_none {F : Fence} (hd : F.depth = none) (k : Nat) : F.room k := fun d h => by rw [hd] at h; cases h
theorem roundIn_any {F : Fence} (hd : F.depth = none) {m m' : Nat} {P : Program} {l : Nat} {f : FuncId} {tmps : Array Value} {assign body : Code} {w : World} {R : Ending → World → Prop}
    (h : RoundIn F m P l f tmps assign body w R) : RoundIn F m' P l f tmps assign body w R := ⟨h.1, fun c cs _ => h.2 c cs (room_of_none hd _)⟩
theorem yieldAt_any {F : Fence} (hd : F.depth = none) {m : Nat} (m' : Nat) {P : Program} {l : Nat} {args : Array Value} {W : World} {R : Ending → World → Prop} (h : YieldAt F m P l args W R) : YieldAt F m' P l args W R := by
  obtain ⟨fn, tmps, assign, body, hy, hR⟩ := h
  exact ⟨fn, tmps, assign, body, hy, roundIn_any hd hR⟩
/-- The blocks of F lie as they lay. -/
def Stays (F : Nat → Prop) (W W' : World) : Prop := W.heap.size ≤ W'.heap.size ∧ ∀ i, F i → i < W.heap.size → W'.heap[i]? = W.heap[i]?
theorem Stays.refl (F : Nat → Prop) (W : World) : Stays F W W := ⟨Nat.le_refl _, fun _ _ _ => rfl⟩
theorem Stays.trans {F : Nat → Prop} {X Y Z : World} (h : Stays F X Y) (k : Stays F Y Z) : Stays F X Z := ⟨Nat.le_trans h.1 k.1, fun i hB hi => (k.2 i hB (Nat.lt_of_lt_of_le hi h.1)).trans (h.2 i hB hi)⟩
theorem Stays.less {F F' : Nat → Prop} {X Y : World} (h : Stays F' X Y) (hF : ∀ r, F r → F' r) : Stays F X Y := ⟨h.1, fun i hi => h.2 i (hF i hi)⟩
theorem Stays.grown {F : Nat → Prop} {X Y Z : World} {row : Option Nat} (h : Stays F X Y) (hg : Y.grownBy Z row) (hr : ∀ r, row = some r → F r → X.heap.size ≤ r) : Stays F X Z :=
  ⟨Nat.le_trans h.1 hg.size, fun i hF hi => (hg.block i (Nat.lt_of_lt_of_le hi h.1) (fun e => by have := hr i e.symm hF; omega)).trans (h.2 i hF hi)⟩
theorem Stays.boxed {F : Nat → Prop} {b : Nat} {X Y : World} {t : TypeId} {v : Value} (h : Stays F X Y) (hb : F b) (hx : Boxed X b t v) : Boxed Y b t v := (h.2 b hb (Array.getElem?_eq_some_iff.1 hx).1).trans hx
def none_ : Nat → Prop := fun _ => False
/-- What a caller keeps, whatever becomes of the blocks of F, which are others'. -/
structure Fr {α : Type} (J : (Nat → Prop) → List α → World → Prop) : Prop where
  grow : ∀ {F pre X Y}, J F pre X → X.grownBy Y none → J (fun r => F r ∨ (X.heap.size ≤ r ∧ r < Y.heap.size)) pre Y
  put : ∀ {F pre X Y r}, J F pre X → F r → X.grownBy Y (some r) → J F pre Y
  less : ∀ {F F' pre X}, (∀ r, F r → F' r) → J F' pre X → J F pre X
theorem Fr.keep {α : Type} {J : (Nat → Prop) → List α → World → Prop} (h : Fr J) {F : Nat → Prop} {pre : List α} {X Y : World} (hj : J F pre X) (hg : X.grownBy Y none) : J F pre Y := h.less (fun _ => .inl) (h.grow hj hg)
theorem Fr.alloc {α : Type} {J : (Nat → Prop) → List α → World → Prop} (h : Fr J) {F : Nat → Prop} {pre : List α} {X : World} (hj : J F pre X) (o : Obj) : J F pre (X.alloc o) := h.keep hj (World.grownBy_alloc X o none)
theorem Fr.putObj {α : Type} {J : (Nat → Prop) → List α → World → Prop} (h : Fr J) {F : Nat → Prop} {pre : List α} {X : World} {r : Nat} (hj : J F pre X) (hr : F r) (o : Obj) : J F pre (X.putObj r o) := h.put hj hr (grownBy_putObj' X r o)
/-- WHAT AN ITERATOR PROMISES, which may look at what the caller keeps ('Inv'), and tells of each thing that it hands over ('Fit'). -/
def FitSeq {α : Type} (P : Program) (g : Nat) (lb : Array Value) (encs : α → Array Value) (Inv : World → Prop) (Fit : List α → α → Prop) (S Sp : List α → Prop) : Prop :=
  ∀ (l : Nat) (J Jx : (Nat → Prop) → List α → World → Prop) (W : World), Fr J → Fr Jx → (∀ F pre X, J F pre X → Inv X) →
    (∀ m F pre x X, J F pre X → Fit pre x → YieldAt Fence.wide m P l (encs x) X fun e Y => (e = .returned (.bool true) ∧ J F (pre ++ [x]) Y ∧ Stays F X Y) ∨ (e = .returned (.bool false) ∧ Jx F (pre ++ [x]) Y ∧ Stays F X Y)) →
    J none_ [] W → Calls P g (#[.func (.yield l) #[] #[]] ++ lb) W fun e W' => (∃ v, e = .returned v) ∧ ((∃ xs, S xs ∧ J none_ xs W') ∨ ∃ pre, Sp pre ∧ Jx none_ pre W')
/-- How a round's body may be left. -/
def fitPost {α : Type} (F : Nat → Prop) (I : (Nat → Prop) → List α → World → Prop) (Ix : Code → (Nat → Prop) → List α → World → Prop) (xs : List α) (W : World) : Exit → Act → World → Prop
  | .normal, _, W' => Stays F W W' ∧ I F xs W'
  | .ret, _, W' => Stays F W W' ∧ Ix .ret F xs W'
  | .exit id, _, W' => Stays F W W' ∧ Ix (.exit id) F xs W'
  | .goto t, _, W' => Stays F W W' ∧ Ix (.goto t) F xs W'
  | .panic _, _, _ => False
  | .outgrown, _, _ => False
set_option maxHeartbeats 1000000 in
theorem range_fit {α : Type} {n : Nat} {P : Program} {g : Operand} {ps : Array Tmp} {assign body : Code} {Q : Exit → Act → World → Prop} {a : Act} {w : World} (h1 : 1 ≤ n) {gf : Nat} {lb : Array Value} (hg : a.eval g = .func (.func gf) #[] lb)
    (eg : ∀ args w, (callFunc gf args).run P w = .ok (.enter gf args) w) {encs : α → Array Value} {Inv : World → Prop} {Fit : List α → α → Prop} {S Sp : List α → Prop} (hseq : FitSeq P gf lb encs Inv Fit S Sp) (hps : ∀ x, (encs x).size = ps.size)
    (I : (Nat → Prop) → List α → World → Prop) (Ix : Code → (Nat → Prop) → List α → World → Prop) (hI : Fr I) (hIx : ∀ c, Fr (Ix c)) (hInv : ∀ F pre X, I F pre X → Inv X) (h0 : I none_ [] w)
    (hround : ∀ (l : Nat) (F : Nat → Prop) (pre : List α) (x : α) (X : World), F l → (∃ r, X.heap[l]? = some (.loop r)) → I F pre X → Fit pre x →
      assign.wpIn (Fence.wide.inRound l) (n - 1 - 1) P (Exit.then (fun a' X' => Stays F X X' ∧ I F pre X' ∧ ∀ Y, Y.heap.size = X'.heap.size → (∀ i, i ≠ l → Y.heap[i]? = X'.heap[i]?) → (∃ r, Y.heap[l]? = some (.loop r)) → I F pre Y → body.wpIn (Fence.wide.inRound l) (n - 1 - 1) P (fitPost F I Ix (pre ++ [x]) Y) a' Y) (fun _ _ _ => False))
        { tmps := (ps.zip (encs x)).foldl (fun t (p, v) => t.setIfInBounds p v) a.tmps, defers := [] } X)
    (hdone : ∀ (D : Nat) (F : Nat → Prop) (xs : List α) (X : World), F D → S xs → I F xs X → X.heap[D]? = some (.deferred (some [])) → Q .normal { a with defers := { target := .collected D, args := #[] } :: a.defers } X)
    (hstop : ∀ (D : Nat) (F : Nat → Prop) (c : Code) (pre : List α) (X : World), F D → Sp pre → Ix c F pre X → X.heap[D]? = some (.deferred (some [])) → c.wpIn Fence.wide n P Q { a with defers := { target := .collected D, args := #[] } :: a.defers } X) :
    (Code.rangeFunc g ps assign body).wpIn Fence.wide n P Q a w := by
  refine wpIn_rangeFunc fun fn hfn => ?_
  let rc : LoopState → Option Code → Loop := fun st pe => { state := st, pending := pe, fn, tmps := a.tmps, params := ps, assign, body, defers := w.heap.size }
  obtain ⟨D, hD⟩ : ∃ D, D = w.heap.size := ⟨_, rfl⟩
  obtain ⟨l, hL⟩ : ∃ l, l = w.heap.size + 1 := ⟨_, rfl⟩
  have hlD : D ≠ l := by omega
  obtain ⟨W1, hW1⟩ : ∃ W1, W1 = (w.alloc (.deferred (some []))).alloc (.loop (rc .ready none)) := ⟨_, rfl⟩
  have hz : (w.alloc (.deferred (some []))).heap.size = l := by simp [hL]
  have hl1 : W1.heap[l]? = some (.loop (rc .ready none)) := by
    have := World.alloc_heap_new (w.alloc (.deferred (some []))) (.loop (rc .ready none)); rw [hz] at this; rw [hW1]; exact this
  have hd1 : W1.heap[D]? = some (.deferred (some [])) := by
    rw [hW1]; exact (Below.heap_alloc _ _ _ (by rw [hz]; omega)).trans (by rw [hD]; exact World.alloc_heap_new w _)
  have hs1 : W1.heap.size = w.heap.size + 2 := by rw [hW1]; simp
  let U : (Nat → Prop) → Nat → Prop := fun F r => F r ∨ r = D ∨ r = l
  have hi1 : I (U none_) [] W1 := by
    have h2 := hI.grow (hI.grow h0 (World.grownBy_alloc w (.deferred (some [])) none)) (World.grownBy_alloc _ (.loop (rc .ready none)) none)
    rw [← hW1] at h2
    refine hI.less ?_ h2
    rintro r (h | h | h)
    · exact h.elim
    · exact .inl (.inr ⟨by omega, by omega⟩)
    · exact .inr ⟨by omega, by omega⟩
  refine ⟨l, [{ target := .collected D, args := #[] }], W1, { target := .fn (.func gf) lb, args := #[.func (.yield l) #[] #[]] }, W1, gf, #[.func (.yield l) #[] #[]] ++ lb, W1, by rw [hL, hD, hW1]; exact run_enterLoop_outer _ _ _ _ _, ?_, fun _ _ => trivial, ?_, fun _ => h1, ?_⟩
  · simp only [resolve, hg]
    simp [go_sem]
  · simp [invoke, go_sem, eg]
  let Jr : LoopState → Option Code → (Nat → Prop) → World → Prop := fun st pe F X => X.heap[l]? = some (.loop (rc st pe)) ∧ X.heap[D]? = some (.deferred (some [])) ∧ ¬ F D ∧ ¬ F l
  have jgrow : ∀ {st pe F X Y}, Jr st pe F X → X.grownBy Y none → Jr st pe (fun r => F r ∨ (X.heap.size ≤ r ∧ r < Y.heap.size)) Y := fun {st pe F X Y} h hg => by
    have h1 := (Array.getElem?_eq_some_iff.1 h.1).1
    have h2 := (Array.getElem?_eq_some_iff.1 h.2.1).1
    refine ⟨(hg.block _ h1 (fun e => by cases e)).trans h.1, (hg.block _ h2 (fun e => by cases e)).trans h.2.1, ?_, ?_⟩
    · rintro (h3 | h3)
      · exact h.2.2.1 h3
      · omega
    · rintro (h3 | h3)
      · exact h.2.2.2 h3
      · omega
  have jput : ∀ {st pe F X Y r}, Jr st pe F X → F r → X.grownBy Y (some r) → Jr st pe F Y := fun {st pe F X Y r} h hr hg =>
    ⟨(hg.block _ (Array.getElem?_eq_some_iff.1 h.1).1 (fun e => by cases e; exact h.2.2.2 hr)).trans h.1, (hg.block _ (Array.getElem?_eq_some_iff.1 h.2.1).1 (fun e => by cases e; exact h.2.2.1 hr)).trans h.2.1, h.2.2⟩
  have jless : ∀ {st pe F F' X}, (∀ r, F r → F' r) → Jr st pe F' X → Jr st pe F X := fun hF h => ⟨h.1, h.2.1, fun h3 => h.2.2.1 (hF _ h3), fun h3 => h.2.2.2 (hF _ h3)⟩
  have fr : ∀ {I' : (Nat → Prop) → List α → World → Prop} (st : LoopState) (pe : Option Code), Fr I' → Fr (fun F pre X => I' (U F) pre X ∧ Jr st pe F X) := fun st pe hI' =>
    ⟨fun h hg => ⟨hI'.less (fun r h3 => h3.elim (fun h4 => h4.elim (fun h5 => .inl (.inl h5)) .inr) (fun h4 => .inl (.inr h4))) (hI'.grow h.1 hg), jgrow h.2 hg⟩, fun h hr hg => ⟨hI'.put h.1 (.inl hr) hg, jput h.2 hr hg⟩,
     fun hF h => ⟨hI'.less (fun r h3 => h3.elim (fun h4 => .inl (hF _ h4)) .inr) h.1, jless hF h.2⟩⟩
  refine (callsIn_wide.2 (hseq l (fun F pre X => I (U F) pre X ∧ Jr .ready none F X) (fun F pre X => ∃ c, Ix c (U F) pre X ∧ Jr .done (some c) F X) W1 (fr _ _ hI)
    ⟨fun h hg => h.imp fun c hc => (fr _ _ (hIx c)).grow hc hg, fun h hr hg => h.imp fun c hc => (fr _ _ (hIx c)).put hc hr hg, fun hF h => h.imp fun c hc => (fr _ _ (hIx c)).less hF hc⟩
    (fun F pre X h => hInv _ pre X h.1) ?_ ⟨hi1, hl1, hd1, id, id⟩)).mono ?_
  · rintro m F pre x X ⟨hi, hl, hd, nD, nl⟩ hfit
    have hlt : l < X.heap.size := (Array.getElem?_eq_some_iff.1 hl).1
    have hltD : D < X.heap.size := (Array.getElem?_eq_some_iff.1 hd).1
    refine yieldAt_any rfl m (m := n - 1 - 1) ⟨fn, _, assign, body, run_yield (P := P) (args := encs x) hl (hps x), roundIn_of_wpIn hfn (wpIn_mono (hround l (U F) pre x X (.inr (.inr rfl)) ⟨_, hl⟩ hi hfit) ?_)⟩
    rintro e a1 Xa hp
    cases e with
    | normal =>
      obtain ⟨hst0, hia, hbody⟩ := hp
      have hla : Xa.heap[l]? = some (.loop (rc .ready none)) := (hst0.2 l (.inr (.inr rfl)) hlt).trans hl
      have hda : Xa.heap[D]? = some (.deferred (some [])) := (hst0.2 D (.inr (.inl rfl)) hltD).trans hd
      have hlta : l < Xa.heap.size := (Array.getElem?_eq_some_iff.1 hla).1
      have hltDa : D < Xa.heap.size := (Array.getElem?_eq_some_iff.1 hda).1
      obtain ⟨X2, hX2⟩ : ∃ X2, X2 = Xa.putObj l (.loop (rc .busy none)) := ⟨_, rfl⟩
      have hl2 : X2.heap[l]? = some (.loop (rc .busy none)) := by rw [hX2]; exact World.putObj_heap_same hlta
      have hd2 : X2.heap[D]? = some (.deferred (some [])) := by rw [hX2]; exact (World.putObj_heap_other hlD).trans hda
      have hz2 : X2.heap.size = Xa.heap.size := by simp [hX2, World.putObj]
      refine ⟨X2, by rw [hX2]; exact run_beginRound hla rfl, wpIn_mono (hbody X2 hz2 (fun i hi => by rw [hX2]; exact World.putObj_heap_other hi) ⟨_, hl2⟩ (by rw [hX2]; exact hI.putObj hia (.inr (.inr rfl)) _)) ?_⟩
      have st3 : ∀ {jump : Option Code} {st : LoopState} {Y : World}, Stays (U F) X2 Y → Stays F X (Y.putObj l (.loop (rc st jump))) := fun {jump st Y} hst =>
        ⟨by simp only [World.putObj, Array.size_setIfInBounds]; have := hst.1; have := hst0.1; omega, fun i hF hi => by
          have hil : i ≠ l := fun e => nl (e ▸ hF)
          have h3 := hst0.1
          rw [World.putObj_heap_other hil, hst.2 i (.inl hF) (by omega), hX2]
          exact (World.putObj_heap_other hil).trans (hst0.2 i (.inl hF) hi)⟩
      have fin : ∀ (jump : Option Code) (st : LoopState) (Y : World), st = (if jump.isNone then .ready else .done) → Stays (U F) X2 Y →
          (Instr.endRound l jump).run P Y = .ok (.bool jump.isNone) (Y.putObj l (.loop (rc st jump))) ∧ Y.heap[l]? = some (.loop (rc .busy none)) ∧ Jr st jump F (Y.putObj l (.loop (rc st jump))) := fun jump st Y hst hst2 => by
        have hlY := (hst2.2 l (.inr (.inr rfl)) (by omega)).trans hl2
        exact ⟨by rw [run_endRound (P := P) jump hlY, hst], hlY, World.putObj_heap_same (Array.getElem?_eq_some_iff.1 hlY).1, (World.putObj_heap_other hlD).trans ((hst2.2 D (.inr (.inl rfl)) (by omega)).trans hd2), nD, nl⟩
      rintro e a2 Y hp
      cases e with
      | normal =>
        obtain ⟨hst, hiY⟩ := hp
        obtain ⟨hr, hlY, hj⟩ := fin none .ready Y rfl hst
        exact ⟨_, _, hr, .inl ⟨rfl, ⟨hI.putObj hiY (.inr (.inr rfl)) _, hj⟩, st3 hst⟩⟩
      | ret =>
        obtain ⟨hst, hiY⟩ := hp
        obtain ⟨hr, hlY, hj⟩ := fin (some .ret) .done Y rfl hst
        exact ⟨_, _, hr, .inr ⟨rfl, ⟨.ret, (hIx _).putObj hiY (.inr (.inr rfl)) _, hj⟩, st3 hst⟩⟩
      | exit id =>
        obtain ⟨hst, hiY⟩ := hp
        obtain ⟨hr, hlY, hj⟩ := fin (some (.exit id)) .done Y rfl hst
        exact ⟨_, _, hr, .inr ⟨rfl, ⟨.exit id, (hIx _).putObj hiY (.inr (.inr rfl)) _, hj⟩, st3 hst⟩⟩
      | goto t =>
        obtain ⟨hst, hiY⟩ := hp
        obtain ⟨hr, hlY, hj⟩ := fin (some (.goto t)) .done Y rfl hst
        exact ⟨_, _, hr, .inr ⟨rfl, ⟨.goto t, (hIx _).putObj hiY (.inr (.inr rfl)) _, hj⟩, st3 hst⟩⟩
      | panic ch => exact hp.elim
      | outgrown => exact hp.elim
    | _ => exact hp.elim
  · rintro e X ⟨⟨v, rfl⟩, (⟨xs, hS, hi, hl, hd, _⟩ | ⟨pre, hSp, c, hc, hl, hd, _⟩)⟩
    · exact ⟨none, _, run_endLoop (P := P) hl (by simp [rc]), hdone D _ xs _ (.inr (.inl rfl)) hS (hI.putObj hi (.inr (.inr rfl)) _) ((World.putObj_heap_other hlD).trans hd)⟩
    · exact ⟨some c, _, run_endLoop (P := P) hl (by simp [rc]), hstop D _ c pre _ (.inr (.inl rfl)) hSp ((hIx c).putObj hc (.inr (.inr rfl)) _) ((World.putObj_heap_other hlD).trans hd)⟩
end Go.Proofs.YtlpilbghblbpbaaDoor
