/- Bk, Bl, Bm, Bn -/
import Derived.Laws.AppendOwnNone
import Derived.Lib.AppendZeros
import Derived.OwnWalk
import Derived.Laws.OwnMore
import Derived.Test.YtddleeenlpigfaaGreatDoorY19
import Derived.Test.YtddleeenlpigfaaGreatDoorY29
/- What lies between two pairs of a meet. -/
namespace Go.Proofs.YtddleeenlpigfaaGreatDoor
open Go.RowKit
/-- The row that is owned, as a slice of terms. -/
theorem OwnH.row {w : World} {base : Nat} {u : Value} {L : List Hr} (ho : OwnH w base u L) : ∃ a cap, u = .slice a L.length cap ∧ ∀ b off, a = some ⟨b, off, none⟩ → ∀ j (hj : j < L.length), off = 0 ∧ base ≤ b ∧ b < w.heap.size ∧ T8 w b (off + j * 8) L[j] := by
  by_cases h0 : L = []
  · subst h0
    obtain ⟨a, c, rfl⟩ := slice_of_owns ho
    exact ⟨a, c, rfl, fun _ _ _ j hj => absurd hj (by simp)⟩
  · have hnn : u ≠ .slice none 0 0 := fun e => by
      rcases ho.2 with ⟨_, hn⟩ | ⟨g, cap, cur, e2, _⟩
      · exact h0 (List.eq_nil_of_length_eq_zero hn)
      · rw [e] at e2; cases e2
    obtain ⟨g, cap, rfl, hg, hlt, hfz, hce⟩ := row_of_owns ho hnn
    have hl : (L.map Hr.enc).flatten.length = L.length * 8 := ho.1
    refine ⟨_, cap, rfl, fun b off e j hj => ?_⟩
    cases e
    refine ⟨rfl, hg, hlt, t8_of fun r hr => ?_⟩
    rw [Nat.zero_add, hce (j * 8 + r) (by omega), flat_get (L.map Hr.enc) j r (fun x hx => by obtain ⟨h, -, rfl⟩ := List.mem_map.1 hx; rfl) hr (by simpa using hj), List.getElem_map]
    exact List.getElem?_eq_getElem (by rw [enc_len]; exact hr) |>.trans (by rw [getElem!_pos _ r (by rw [enc_len]; exact hr)])
/-- A row of headers of a call's own, as a value. -/
theorem OwnH.inVP {P : Nat → Prop} {n : Nat} {w : World} {base : Nat} {t : Option Addr} {tl tc : Nat} {L : List Hr} (ho : OwnH w base (.slice t tl tc) L) (hz : (L.length : Int) ≤ 9223372036854775807) (hP : ∀ b, base ≤ b → P b) (hok : ∀ h ∈ L, h.okP P n w) : InVP P w (n + 1) t tl tc (L.map (·.x)) := by
  obtain ⟨a, cap, e, hrow⟩ := ho.row
  cases e
  refine ⟨by simp, hz, fun i hi => ?_⟩
  have hi' : i < L.length := by simpa using hi
  have hne : ∃ b off, t = some ⟨b, off, none⟩ := by
    rcases ho.2 with ⟨_, hn⟩ | ⟨g, cap, cur, e2, _⟩
    · omega
    · cases e2; exact ⟨g, 0, rfl⟩
  obtain ⟨b, off, rfl⟩ := hne
  obtain ⟨h1, h2, h3, h4⟩ := hrow b off rfl i hi'
  refine ⟨b, off, rfl, hP b h2, h3, ?_⟩
  have ho := hok _ (List.getElem_mem hi')
  simp only [List.getElem_map]
  revert h4 ho
  generalize L[i] = h
  intro h4 ho
  obtain ⟨⟨k', lo, hi', s, y, m, o, fs⟩, f, fl, fc⟩ := h
  obtain ⟨c0, c1, c2, c3, c4, c5, c6, c7⟩ := h4
  exact ⟨f, fl, fc, c0, c1, c2, c3, c4, c5, c6, c7, ho⟩
/-- Between two pairs. -/
structure MInv (P : Nat → Prop) (n : Nat) (X wr : World) (u : Value) (L : List Hr) (D : List (Tm × Tm)) : Prop where
  old : Below X.heap.size X wr
  own : OwnH wr X.heap.size u L
  ok : ∀ h ∈ L, h.okP (fun b => P b ∨ (X.heap.size ≤ b ∧ u.ownBlock ≠ some b)) n wr
  res : L.map (·.x) = D.flatMap fun p => (comT (meetV n) p.1 p.2).2
  fine : ∀ p ∈ D, (comT (meetV n) p.1 p.2).1 = 0
  len : L.length ≤ D.length
theorem MInv.below {P : Nat → Prop} {n : Nat} {X wr w' : World} {u : Value} {L : List Hr} {D : List (Tm × Tm)} (h : MInv P n X wr u L D) (hb : Below wr.heap.size wr w') : MInv P n X w' u L D :=
  ⟨bl_step h.old hb, h.own.below hb, fun z hz => (h.ok z hz).below hb, h.res, h.fine, h.len⟩
theorem MInv.skip {P : Nat → Prop} {n : Nat} {X wr : World} {u : Value} {L : List Hr} {D : List (Tm × Tm)} {p : Tm × Tm} (h : MInv P n X wr u L D) (hp : comT (meetV n) p.1 p.2 = (0, [])) : MInv P n X wr u L (D ++ [p]) :=
  ⟨h.old, h.own, h.ok, by rw [h.res, List.flatMap_append]; simp [hp], fun q hq => by
    rcases List.mem_append.1 hq with hq | hq
    · exact h.fine q hq
    · rw [List.mem_singleton.1 hq, hp], by have := h.len; simp; omega⟩
theorem MInv.add {P : Nat → Prop} {n : Nat} {w X wr : World} (hX : Below w.heap.size w X) (hP : ∀ b, P b → b < w.heap.size) {u : Value} {L : List Hr} {D : List (Tm × Tm)} {p : Tm × Tm} {hd : Hr} (h : MInv P n X wr u L D) (hp : comT (meetV n) p.1 p.2 = (0, [hd.x])) (hok : hd.okP (fun b => P b ∨ (X.heap.size ≤ b ∧ u.ownBlock ≠ some b)) n wr)
    {w' : World} {gg cap H : Nat} (hH : wr.heap.size = H) (hown : w'.ownsRow X.heap.size 31 8 (.slice (some ⟨gg, 0, none⟩) (L.length + 1) cap) (L.length + 1) ((L.map Hr.enc).flatten ++ hd.enc)) (hgrow : wr.grownBy w' u.ownBlock) (hat : u.ownBlock = some gg ∨ gg = H) :
    MInv P n X w' (.slice (some ⟨gg, 0, none⟩) (L.length + 1) cap) (L ++ [hd]) (D ++ [p]) := by
  have keep : ∀ b, (P b ∨ (X.heap.size ≤ b ∧ u.ownBlock ≠ some b)) → b < wr.heap.size → (P b ∨ (X.heap.size ≤ b ∧ (Value.slice (some ⟨gg, 0, none⟩) (L.length + 1) cap).ownBlock ≠ some b)) ∧ w'.heap[b]? = wr.heap[b]? := fun b hb lt => by
    have hne : u.ownBlock ≠ some b := by
      rcases hb with hb | hb
      · intro e
        have h1 := (h.own.lt _ e).1
        have h2 := hP b hb
        have h3 := hX.size
        omega
      · exact hb.2
    refine ⟨hb.imp id fun hb => ⟨hb.1, fun e => ?_⟩, hgrow.block b lt (fun e => hne e.symm)⟩
    simp only [Value.ownBlock, Option.some.injEq] at e
    subst e
    rcases hat with hat | hat
    · exact hb.2 hat
    · omega
  refine ⟨h.old.grown hgrow h.old.size (fun k hk => (h.own.lt k hk).1), ?_, fun z hz => ?_, ?_, fun q hq => ?_, ?_⟩
  · show World.ownsRow _ _ _ _ _ _ _
    rw [List.map_append, List.flatten_append, List.length_append]
    simpa using hown
  · rcases List.mem_append.1 hz with hz | hz
    · exact (h.ok z hz).to hgrow.size keep
    · rw [List.mem_singleton.1 hz]; exact hok.to hgrow.size keep
  · rw [List.map_append, h.res, List.flatMap_append]; simp [hp]
  · rcases List.mem_append.1 hq with hq | hq
    · exact h.fine q hq
    · rw [List.mem_singleton.1 hq, hp]
  · have := h.len; simp; omega
end Go.Proofs.YtddleeenlpigfaaGreatDoor
/- WALK of meet. -/
namespace Go.Proofs.YtddleeenlpigfaaGreatDoor
open Go.RowKit
/-- The boxes of meet's parameters, and of its result. -/
structure MBox (t : Option Addr) (tl tc : Nat) (t2 : Option Addr) (tl2 tc2 : Nat) (w X : World) : Prop where
  old : Below w.heap.size w X
  size : X.heap.size = w.heap.size + 1 + 1 + 1
  ba : Cx X w.heap.size 0 (.slice t tl tc)
  bb : Cx X (w.heap.size + 1) 0 (.slice t2 tl2 tc2)
  br : Cx X (w.heap.size + 1 + 1) 0 (.slice none 0 0)
theorem MBox.new (w : World) (t : Option Addr) (tl tc : Nat) (t2 : Option Addr) (tl2 tc2 : Nat) : MBox t tl tc t2 tl2 tc2 w (((w.alloc (.cells #[.slice t tl tc] 24)).alloc (.cells #[.slice t2 tl2 tc2] 24)).alloc (.cells #[.slice none 0 0] 24)) :=
  ⟨bl_alloc (bl_alloc (bl_alloc (Below.refl _ _))), by simp, ⟨by simp; omega, by simp [go_sem], by simp [go_sem]⟩, ⟨by simp, by simp [go_sem], by simp [go_sem]⟩, ⟨by simp, by simp [go_sem], by simp [go_sem]⟩⟩
/-- A header's box, apart from the row. -/
structure BoxA (w : World) (N : Nat) (h : Hr) (u : Value) : Prop where
  t8 : T8 w N 0 h
  lt : N < w.heap.size
  ne : u.ownBlock ≠ some N
theorem BoxA.below {w w' : World} {N : Nat} {h : Hr} {u : Value} (k : BoxA w N h u) (hb : Below w.heap.size w w') : BoxA w' N h u := ⟨k.t8.to fun r _ => hb.cell (p := ⟨N, 0 + r, none⟩) k.lt, Nat.lt_of_lt_of_le k.lt hb.size, k.ne⟩
theorem BoxA.grown {w w' : World} {N : Nat} {h : Hr} {u : Value} (k : BoxA w N h u) (hg : w.grownBy w' u.ownBlock) {gg n cap H : Nat} (hH : w.heap.size = H) (hat : u.ownBlock = some gg ∨ gg = H) : BoxA w' N h (.slice (some ⟨gg, 0, none⟩) n cap) :=
  ⟨k.t8.to fun r _ => hg.cell_far ⟨N, 0 + r, none⟩ k.lt (fun e => k.ne e.symm), Nat.lt_of_lt_of_le k.lt hg.size, fun e => by
    simp only [Value.ownBlock, Option.some.injEq] at e
    subst e
    rcases hat with hat | hat
    · exact k.ne hat
    · have := k.lt; omega⟩
end Go.Proofs.YtddleeenlpigfaaGreatDoor
/- WALKS of Meet, Below, Any, None. -/
namespace Go.Proofs.YtddleeenlpigfaaGreatDoor
open Go.RowKit
theorem right_size {s : ByteArray} (h : Nm.rightL s.toList = true) : s.size ≤ 16 := by
  unfold Nm.rightL at h
  simp only [Bool.and_eq_true, decide_eq_true_eq] at h
  rw [Nm.size_list]; exact h.1.1.1.2
theorem nm_of : ∀ {n l : Nat} {A : List Tm}, RV n l A → NmV n A
  | 0, _, _, _ => trivial
  | n + 1, 0, _, h => by unfold RV at h; exact h.elim
  | n + 1, l + 1, A, h => fun x hx f hf => by
    obtain ⟨x4, rf, _⟩ := gt_f (h.1 x hx) hf
    have := right_size (ris_names (gt_four (h.1 x hx) x4).2.1.2.1 f hf)
    exact ⟨by omega, nm_of rf⟩
theorem RG.nm {n : Nat} {A : List Tm} (h : RG n A) : NmV n A := nm_of h.1
theorem RG.rw {n : Nat} {A : List Tm} (h : RG n A) : Rw n A := ⟨⟨16, h.1⟩, h.2⟩
theorem inV_nil {w : World} {n : Nat} {t : Option Addr} {tc : Nat} : InV w (n + 1) t 0 tc [] := ⟨rfl, by decide, fun i hi => absurd hi (Nat.not_lt_zero _)⟩
theorem Vin.inVP {w : World} {n : Nat} {t : Option Addr} {tl tc : Nat} {A : List Tm} (h : Vin w n t tl tc A) : InVP (· < w.heap.size) w n t tl tc A := h.v.inVP
/-- A value of whatever make that is right, once more in memory. -/
theorem Vin.of {w w' : World} {n : Nat} {t : Option Addr} {tl tc : Nat} {A : List Tm} (hE : Nm.Env w) (hb : Below w.heap.size w w') (h : InV w' n t tl tc A) (hr : NmV n A) : Vin w' n t tl tc A := ⟨h, hr, hE.below hb⟩
end Go.Proofs.YtddleeenlpigfaaGreatDoor
/- WALKS of Grow and Concat at terms. -/
namespace Go.Proofs.YtddleeenlpigfaaGreatDoor
open Go.RowKit
/-- A slice of terms, by headers. -/
structure SegH (w : World) (t : Option Addr) (l : Nat) (L : List Hr) : Prop where
  len : L.length = l
  at_ : 0 < l → ∃ b off, t = some ⟨b, off, none⟩ ∧ b < w.heap.size ∧ ∀ j (hj : j < L.length), T8 w b (off + j * 8) L[j]
theorem SegH.below {w w' : World} {t : Option Addr} {l : Nat} {L : List Hr} (h : SegH w t l L) (hb : Below w.heap.size w w') : SegH w' t l L :=
  ⟨h.len, fun h0 => by
    obtain ⟨b, off, e, lt, hr⟩ := h.at_ h0
    exact ⟨b, off, e, Nat.lt_of_lt_of_le lt hb.size, fun j hj => (hr j hj).to fun r _ => hb.cell (p := ⟨b, off + j * 8 + r, none⟩) lt⟩⟩
end Go.Proofs.YtddleeenlpigfaaGreatDoor
