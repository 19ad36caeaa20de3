/- Bk, Bl, Bm, Bn -/
import Derived.Laws.AppendOwnNone
import Derived.Lib.AppendZeros
import Derived.OwnWalk
import Derived.Laws.OwnMore
import Derived.Test.YtddleeenlpigfaaGreatDoorY19
import Derived.Test.YtddleeenlpigfaaGreatDoorY29
/- What lies between two pairs of a meet. -/
namespace Go.Proofs.YtddleeenlpigfaaGreatDoor
open Go.RowKit
theorem scal_w (n : Nat) (c : Sc) : wF n c.tm.fs = 0 := rfl
/-- What is in common of two terms is one, or none, and no heavier than so much. -/
theorem comT_w {n l : Nat} {a b : Tm} (ga : Gt n l a) (gb : Gt n l b) (wa : wF n a.fs ≤ 512) (wb : wF n b.fs ≤ 512) : ∀ c ∈ (comT (meetV n) a b).2, wF n c.fs ≤ 16384 := by
  intro c hc
  unfold comT at hc
  by_cases a5 : a.k = 5
  · rw [if_pos a5] at hc; rw [List.mem_singleton.1 hc]; omega
  · rw [if_neg a5] at hc
    by_cases b5 : b.k = 5
    · rw [if_pos b5] at hc; rw [List.mem_singleton.1 hc]; omega
    · rw [if_neg b5] at hc
      by_cases h4 : a.k = 4 ∧ b.k = 4
      · rw [if_pos h4] at hc
        unfold comS at hc
        split at hc
        · simp at hc
        · have ua := gt_up ga h4.1
          have ub := gt_up gb h4.2
          rcases cmL_cases (g := meetV n) a.fs b.fs (uni a.fs b.fs) with ⟨L', h1, h2, h3⟩ | ⟨f, hf, e, h1, h2⟩
          · have hS := shared_of ua ub h2 h3
            rw [h1] at hc
            simp only at hc
            split at hc
            · simp at hc
            · rename_i h32
              rw [List.mem_singleton.1 hc]
              show wF n L' ≤ 16384
              have one : ∀ f' ∈ L', wN n f'.2 ≤ 512 := fun f' hf' => by
                obtain ⟨f2, hf2, hc2⟩ := hS.from_ f' hf'
                rcases (cm1_some hc2).2 with ⟨V, W, hV, hW, hz, -, e2⟩ | ⟨-, rfl⟩
                · rw [e2]
                  have rV := (gt_f ga ((findF_up ua).1 hV)).2.1
                  have rW := (gt_f gb ((findF_up ub).1 hW)).2.1
                  match n, l, rV, rW, hz with
                  | 0, _, rV, _, _ => unfold RV at rV; exact rV.elim
                  | n + 1, 0, rV, _, _ => unfold RV at rV; exact rV.elim
                  | n + 1, l + 1, rV, rW, hz =>
                    rcases meet_rv rV rW with e | ⟨M, e, _, hw, _⟩
                    · rw [e] at hz; exact absurd hz (by decide)
                    · rw [e]; exact hw
                · rcases uni_mem.1 hf2 with h | ⟨h, _⟩
                  · exact Nat.le_trans (wF_mem h) wa
                  · exact Nat.le_trans (wF_mem h) wb
              have sum : ∀ L : List Fd, (∀ f ∈ L, wN n f.2 ≤ 512) → wF n L ≤ L.length * 512 := fun L => by
                induction L with
                | nil => intro _; simp [wF]
                | cons f L ih =>
                  intro h
                  rw [wF_cons, List.length_cons]
                  have := h f (by simp)
                  have := ih fun f hf => h f (by simp [hf])
                  omega
              have := sum L' one
              omega
          · rw [h2] at hc; simp at hc
      · rw [if_neg h4] at hc
        cases hm : scM a b with
        | none => rw [hm] at hc; simp at hc
        | some c' =>
          rw [hm] at hc
          rw [List.mem_singleton.1 hc, scal_w]; omega
/-- The headers of a value, in such blocks. -/
theorem pheads {P : Nat → Prop} {n : Nat} {w : World} {t : Option Addr} {tl tc : Nat} {A : List Tm} (h : InVP P w (n + 1) t tl tc A) :
    ∃ L : List Hr, L.map (·.x) = A ∧ (∀ h ∈ L, h.okP P n w) ∧ ∀ b off, t = some ⟨b, off, none⟩ → ∀ j (hj : j < L.length), b < w.heap.size ∧ T8 w b (off + j * 8) L[j] := by
  obtain ⟨hl, hz, hA⟩ := h
  have key : ∀ k, k ≤ A.length → ∃ L : List Hr, L.map (·.x) = A.take k ∧ (∀ h ∈ L, h.okP P n w) ∧ ∀ b off, t = some ⟨b, off, none⟩ → ∀ j (hj : j < L.length), b < w.heap.size ∧ T8 w b (off + j * 8) L[j] := by
    intro k
    induction k with
    | zero => intro _; exact ⟨[], by simp, by simp, fun _ _ _ j hj => absurd hj (by simp)⟩
    | succ k ih =>
      intro hk
      obtain ⟨L, h1, h2, h3⟩ := ih (by omega)
      have hlen : L.length = k := by rw [← List.length_map (f := (·.x)), h1, List.length_take]; omega
      obtain ⟨b, off, e, hp, lt1, i1⟩ := hA k (by omega)
      have hx : ∃ x, A[k] = x := ⟨_, rfl⟩
      obtain ⟨x, hx⟩ := hx
      rw [hx] at i1
      obtain ⟨k', lo, hi', s, y, m, o, fs⟩ := x
      obtain ⟨f, fl, fc, c0, c1, c2, c3, c4, c5, c6, c7, hF⟩ := i1
      refine ⟨L ++ [⟨.mk k' lo hi' s y m o fs, f, fl, fc⟩], ?_, fun z hz => ?_, fun b' off' e' j hj => ?_⟩
      · rw [List.map_append, h1, List.take_succ_eq_append_getElem (by omega), hx]; rfl
      · rcases List.mem_append.1 hz with hz | hz
        · exact h2 z hz
        · rw [List.mem_singleton.1 hz]; exact hF
      · by_cases hjk : j < L.length
        · rw [List.getElem_append_left hjk]; exact h3 b' off' e' j hjk
        · have ej : j = L.length := by simp at hj; omega
          subst ej
          rw [e] at e'; cases e'
          rw [List.getElem_append_right (Nat.le_refl _)]
          simp only [Nat.sub_self, List.getElem_cons_zero, hlen]
          exact ⟨lt1, c0, c1, c2, c3, c4, c5, c6, c7⟩
  obtain ⟨L, h1, h2⟩ := key A.length (Nat.le_refl _)
  exact ⟨L, by rw [h1, List.take_length], h2⟩
/-- The row that is owned, as a slice of terms. -/
theorem OwnH.row {w : World} {base : Nat} {u : Value} {L : List Hr} (ho : OwnH w base u L) : ∃ a cap, u = .slice a L.length cap ∧ ∀ b off, a = some ⟨b, off, none⟩ → ∀ j (hj : j < L.length), off = 0 ∧ base ≤ b ∧ b < w.heap.size ∧ T8 w b (off + j * 8) L[j] := by
  by_cases h0 : L = []
  · subst h0
    obtain ⟨a, c, rfl⟩ := slice_of_owns ho
    exact ⟨a, c, rfl, fun _ _ _ j hj => absurd hj (by simp)⟩
  · have hnn : u ≠ .slice none 0 0 := fun e => by
      rcases ho.2 with ⟨_, hn⟩ | ⟨g, cap, cur, e2, _⟩
      · exact h0 (List.eq_nil_of_length_eq_zero hn)
      · rw [e] at e2; cases e2
    obtain ⟨g, cap, rfl, hg, hlt, hfz, hce⟩ := row_of_owns ho hnn
    have hl : (L.map Hr.enc).flatten.length = L.length * 8 := ho.1
    refine ⟨_, cap, rfl, fun b off e j hj => ?_⟩
    cases e
    refine ⟨rfl, hg, hlt, t8_of fun r hr => ?_⟩
    rw [Nat.zero_add, hce (j * 8 + r) (by omega), flat_get (L.map Hr.enc) j r (fun x hx => by obtain ⟨h, -, rfl⟩ := List.mem_map.1 hx; rfl) hr (by simpa using hj), List.getElem_map]
    exact List.getElem?_eq_getElem (by rw [enc_len]; exact hr) |>.trans (by rw [getElem!_pos _ r (by rw [enc_len]; exact hr)])
/-- A row of headers of a call's own, as a value. -/
theorem OwnH.inVP {P : Nat → Prop} {n : Nat} {w : World} {base : Nat} {t : Option Addr} {tl tc : Nat} {L : List Hr} (ho : OwnH w base (.slice t tl tc) L) (hz : (L.length : Int) ≤ 9223372036854775807) (hP : ∀ b, base ≤ b → P b) (hok : ∀ h ∈ L, h.okP P n w) : InVP P w (n + 1) t tl tc (L.map (·.x)) := by
  obtain ⟨a, cap, e, hrow⟩ := ho.row
  cases e
  refine ⟨by simp, hz, fun i hi => ?_⟩
  have hi' : i < L.length := by simpa using hi
  have hne : ∃ b off, t = some ⟨b, off, none⟩ := by
    rcases ho.2 with ⟨_, hn⟩ | ⟨g, cap, cur, e2, _⟩
    · omega
    · cases e2; exact ⟨g, 0, rfl⟩
  obtain ⟨b, off, rfl⟩ := hne
  obtain ⟨h1, h2, h3, h4⟩ := hrow b off rfl i hi'
  refine ⟨b, off, rfl, hP b h2, h3, ?_⟩
  have ho := hok _ (List.getElem_mem hi')
  simp only [List.getElem_map]
  revert h4 ho
  generalize L[i] = h
  intro h4 ho
  obtain ⟨⟨k', lo, hi', s, y, m, o, fs⟩, f, fl, fc⟩ := h
  obtain ⟨c0, c1, c2, c3, c4, c5, c6, c7⟩ := h4
  exact ⟨f, fl, fc, c0, c1, c2, c3, c4, c5, c6, c7, ho⟩
/-- Between two pairs. -/
structure MInv (P : Nat → Prop) (n : Nat) (X wr : World) (u : Value) (L : List Hr) (D : List (Tm × Tm)) : Prop where
  old : Below X.heap.size X wr
  own : OwnH wr X.heap.size u L
  ok : ∀ h ∈ L, h.okP (fun b => P b ∨ (X.heap.size ≤ b ∧ u.ownBlock ≠ some b)) n wr
  res : L.map (·.x) = D.flatMap fun p => (comT (meetV n) p.1 p.2).2
  fine : ∀ p ∈ D, (comT (meetV n) p.1 p.2).1 = 0
  len : L.length ≤ D.length
theorem MInv.below {P : Nat → Prop} {n : Nat} {X wr w' : World} {u : Value} {L : List Hr} {D : List (Tm × Tm)} (h : MInv P n X wr u L D) (hb : Below wr.heap.size wr w') : MInv P n X w' u L D :=
  ⟨bl_step h.old hb, h.own.below hb, fun z hz => (h.ok z hz).below hb, h.res, h.fine, h.len⟩
theorem MInv.skip {P : Nat → Prop} {n : Nat} {X wr : World} {u : Value} {L : List Hr} {D : List (Tm × Tm)} {p : Tm × Tm} (h : MInv P n X wr u L D) (hp : comT (meetV n) p.1 p.2 = (0, [])) : MInv P n X wr u L (D ++ [p]) :=
  ⟨h.old, h.own, h.ok, by rw [h.res, List.flatMap_append]; simp [hp], fun q hq => by
    rcases List.mem_append.1 hq with hq | hq
    · exact h.fine q hq
    · rw [List.mem_singleton.1 hq, hp], by have := h.len; simp; omega⟩
theorem MInv.add {P : Nat → Prop} {n : Nat} {w X wr : World} (hX : Below w.heap.size w X) (hP : ∀ b, P b → b < w.heap.size) {u : Value} {L : List Hr} {D : List (Tm × Tm)} {p : Tm × Tm} {hd : Hr} (h : MInv P n X wr u L D) (hp : comT (meetV n) p.1 p.2 = (0, [hd.x])) (hok : hd.okP (fun b => P b ∨ (X.heap.size ≤ b ∧ u.ownBlock ≠ some b)) n wr)
    {w' : World} {gg cap H : Nat} (hH : wr.heap.size = H) (hown : w'.ownsRow X.heap.size 31 8 (.slice (some ⟨gg, 0, none⟩) (L.length + 1) cap) (L.length + 1) ((L.map Hr.enc).flatten ++ hd.enc)) (hgrow : wr.grownBy w' u.ownBlock) (hat : u.ownBlock = some gg ∨ gg = H) :
    MInv P n X w' (.slice (some ⟨gg, 0, none⟩) (L.length + 1) cap) (L ++ [hd]) (D ++ [p]) := by
  have keep : ∀ b, (P b ∨ (X.heap.size ≤ b ∧ u.ownBlock ≠ some b)) → b < wr.heap.size → (P b ∨ (X.heap.size ≤ b ∧ (Value.slice (some ⟨gg, 0, none⟩) (L.length + 1) cap).ownBlock ≠ some b)) ∧ w'.heap[b]? = wr.heap[b]? := fun b hb lt => by
    have hne : u.ownBlock ≠ some b := by
      rcases hb with hb | hb
      · intro e
        have h1 := (h.own.lt _ e).1
        have h2 := hP b hb
        have h3 := hX.size
        omega
      · exact hb.2
    refine ⟨hb.imp id fun hb => ⟨hb.1, fun e => ?_⟩, hgrow.block b lt (fun e => hne e.symm)⟩
    simp only [Value.ownBlock, Option.some.injEq] at e
    subst e
    rcases hat with hat | hat
    · exact hb.2 hat
    · omega
  refine ⟨h.old.grown hgrow h.old.size (fun k hk => (h.own.lt k hk).1), ?_, fun z hz => ?_, ?_, fun q hq => ?_, ?_⟩
  · show World.ownsRow _ _ _ _ _ _ _
    rw [List.map_append, List.flatten_append, List.length_append]
    simpa using hown
  · rcases List.mem_append.1 hz with hz | hz
    · exact (h.ok z hz).to hgrow.size keep
    · rw [List.mem_singleton.1 hz]; exact hok.to hgrow.size keep
  · rw [List.map_append, h.res, List.flatMap_append]; simp [hp]
  · rcases List.mem_append.1 hq with hq | hq
    · exact h.fine q hq
    · rw [List.mem_singleton.1 hq, hp]
  · have := h.len; simp; omega
end Go.Proofs.YtddleeenlpigfaaGreatDoor
/- WALK of meet. -/
namespace Go.Proofs.YtddleeenlpigfaaGreatDoor
open Go.RowKit
theorem meetV_big {n : Nat} {A B : List Tm} (h : 512 < A.length * B.length) : meetV (n + 1) A B = (30, []) := by
  show (if 512 < A.length * B.length then _ else _) = _
  rw [if_pos h]
theorem meetV_fine {n : Nat} {A B : List Tm} (h : ¬ 512 < A.length * B.length) (h0 : ∀ p ∈ prs A B, (comT (meetV n) p.1 p.2).1 = 0) : meetV (n + 1) A B = nrm n ((prs A B).flatMap fun p => (comT (meetV n) p.1 p.2).2) := by
  show (if 512 < A.length * B.length then _ else _) = _
  rw [if_neg h, acc_fine h0, if_neg (by simp)]
theorem meetV_bad {n : Nat} {A B : List Tm} (h : ¬ 512 < A.length * B.length) (hE : ∀ p ∈ prs A B, (comT (meetV n) p.1 p.2).1 = 0 ∨ (comT (meetV n) p.1 p.2).1 = 30) (h0 : ∃ p ∈ prs A B, (comT (meetV n) p.1 p.2).1 ≠ 0) : meetV (n + 1) A B = (30, []) := by
  show (if 512 < A.length * B.length then _ else _) = _
  rw [if_neg h, acc_bad hE h0, if_pos (by simp)]
theorem prs_succ {A B : List Tm} {k : Nat} (hk : k < A.length) : prs (A.take (k + 1)) B = prs (A.take k) B ++ B.map fun b => (A[k], b) := by
  unfold prs
  rw [List.take_succ_eq_append_getElem hk, List.flatMap_append]; simp
/-- The boxes of meet's parameters, and of its result. -/
structure MBox (t : Option Addr) (tl tc : Nat) (t2 : Option Addr) (tl2 tc2 : Nat) (w X : World) : Prop where
  old : Below w.heap.size w X
  size : X.heap.size = w.heap.size + 1 + 1 + 1
  ba : Cx X w.heap.size 0 (.slice t tl tc)
  bb : Cx X (w.heap.size + 1) 0 (.slice t2 tl2 tc2)
  br : Cx X (w.heap.size + 1 + 1) 0 (.slice none 0 0)
theorem MBox.new (w : World) (t : Option Addr) (tl tc : Nat) (t2 : Option Addr) (tl2 tc2 : Nat) : MBox t tl tc t2 tl2 tc2 w (((w.alloc (.cells #[.slice t tl tc] 24)).alloc (.cells #[.slice t2 tl2 tc2] 24)).alloc (.cells #[.slice none 0 0] 24)) :=
  ⟨bl_alloc (bl_alloc (bl_alloc (Below.refl _ _))), by simp, ⟨by simp; omega, by simp [go_sem], by simp [go_sem]⟩, ⟨by simp, by simp [go_sem], by simp [go_sem]⟩, ⟨by simp, by simp [go_sem], by simp [go_sem]⟩⟩
theorem inVP_nil {P : Nat → Prop} {w : World} {n : Nat} {t : Option Addr} {tc : Nat} : InVP P w (n + 1) t 0 tc [] := ⟨rfl, by decide, fun i hi => absurd hi (Nat.not_lt_zero _)⟩
theorem new_size {w : World} {o : Obj} : (w.alloc o).heap.size = w.heap.size + 1 := by simp
theorem news_t8 {w : World} {g : Nat} {h : Hr} (k : T8 w g 0 h) : ∀ j u, h.enc[j]? = some u → w.cell? ((⟨g, 0, none⟩ : Addr).add j) = some u := fun j u hu => by
  have hj : j < 8 := (List.getElem?_eq_some_iff.1 hu).1
  have := enc_at k j hj
  rw [Addr.add_lit, this]
  rw [getElem!_pos h.enc j hj]
  rw [← hu, List.getElem?_eq_getElem hj]
theorem encH_one (h : Hr) : ∀ u ∈ h.enc, u.oneCell' = true := fun u hu => by
  simp only [Hr.enc, List.mem_cons, List.not_mem_nil, or_false] at hu
  rcases hu with rfl | rfl | rfl | rfl | rfl | rfl | rfl | rfl <;> rfl
/-- A header's box, apart from the row. -/
structure BoxA (w : World) (N : Nat) (h : Hr) (u : Value) : Prop where
  t8 : T8 w N 0 h
  lt : N < w.heap.size
  ne : u.ownBlock ≠ some N
theorem BoxA.below {w w' : World} {N : Nat} {h : Hr} {u : Value} (k : BoxA w N h u) (hb : Below w.heap.size w w') : BoxA w' N h u := ⟨k.t8.to fun r _ => hb.cell (p := ⟨N, 0 + r, none⟩) k.lt, Nat.lt_of_lt_of_le k.lt hb.size, k.ne⟩
theorem BoxA.grown {w w' : World} {N : Nat} {h : Hr} {u : Value} (k : BoxA w N h u) (hg : w.grownBy w' u.ownBlock) {gg n cap H : Nat} (hH : w.heap.size = H) (hat : u.ownBlock = some gg ∨ gg = H) : BoxA w' N h (.slice (some ⟨gg, 0, none⟩) n cap) :=
  ⟨k.t8.to fun r _ => hg.cell_far ⟨N, 0 + r, none⟩ k.lt (fun e => k.ne e.symm), Nat.lt_of_lt_of_le k.lt hg.size, fun e => by
    simp only [Value.ownBlock, Option.some.injEq] at e
    subst e
    rcases hat with hat | hat
    · exact k.ne hat
    · have := k.lt; omega⟩
/-- One pair: a header of the one, a header of the other. -/
theorem pair_in {A B : List Tm} {k j : Nat} (hk : k < A.length) (hj : j < B.length) : (A[k], B[j]) ∈ prs A B := mem_prs.2 ⟨List.getElem_mem hk, List.getElem_mem hj⟩
set_option maxRecDepth 100000 in
set_option maxHeartbeats 8000000 in
/-- The inner loop's round, as a theorem of its own: what stands ahead of the call. -/
theorem pair_common {n l : Nat} {P : Nat → Prop} {w : World} (ih : MeH n) (hP : ∀ b, P b → b < w.heap.size) {ha hb : Hr} (oa : ha.okP P n w) (ob : hb.okP P n w) (ga : Gt n l ha.x) (gb : Gt n l hb.x) (wa : wF n ha.x.fs ≤ 512) (wb : wF n hb.x.fs ≤ 512) (W : World) (hW : Below w.heap.size w W) :
    Calls Tryz.prog 82 #[ha.v, hb.v] W (ComP P n (comT (meetV n) ha.x hb.x) W) :=
  lcommon_any n P W (fun b h => Nat.lt_of_lt_of_le (hP b h) hW.size) ha hb (oa.below hW) (ob.below hW) ⟨l, ga⟩ ⟨l, gb⟩ wa wb ih
set_option maxRecDepth 100000 in
set_option maxHeartbeats 8000000 in
theorem meet_step (n : Nat) (ih : MeH n) : MeH (n + 1) := by
  intro P w t tl tc A t2 tl2 tc2 B hP hA hB rA rB
  obtain ⟨⟨lA, vA⟩, wA⟩ := rA
  obtain ⟨⟨lB, vB⟩, wB⟩ := rB
  replace vA := vA.le (Nat.le_max_left lA lB)
  replace vB := vB.le (Nat.le_max_right lA lB)
  generalize max lA lB = l9 at vA vB
  cases l9 with
  | zero => unfold RV at vA; exact vA.elim
  | succ l =>
  have gA : ∀ x ∈ A, Gt n l x := vA.1
  have gB : ∀ x ∈ B, Gt n l x := vB.1
  obtain ⟨da, hda, oka, rowa⟩ := pheads hA
  obtain ⟨db, hdb, okb, rowb⟩ := pheads hB
  obtain rfl : A.length = tl := inVP_len hA
  obtain rfl : B.length = tl2 := inVP_len hB
  have HA := Lib.hid (And.intro hda (And.intro oka rowa))
  have HB := Lib.hid (And.intro hdb (And.intro okb rowb))
  have HGA := Lib.hid (And.intro gA wA)
  have HGB := Lib.hid (And.intro gB wB)
  have HG := Lib.hid (meet_good n l)
  have HP := Lib.hid hP
  have HIH := Lib.hid ih
  have HNA : Hid (0 < A.length → ∃ b off, t = some ⟨b, off, none⟩) := fun h => by
    obtain ⟨b, off, e, _⟩ := hA.2.2 0 h; exact ⟨b, off, e⟩
  have HNB : Hid (0 < B.length → ∃ b off, t2 = some ⟨b, off, none⟩) := fun h => by
    obtain ⟨b, off, e, _⟩ := hB.2.2 0 h; exact ⟨b, off, e⟩
  have hlA : (A.length : Int) ≤ 512 := by rw [wN_U] at wA; omega
  have hlB : (B.length : Int) ≤ 512 := by rw [wN_U] at wB; omega
  have hm0 : (0 : Int) ≤ (A.length : Int) * (B.length : Int) := Int.mul_nonneg (by omega) (by omega)
  have hm1 : (A.length : Int) * (B.length : Int) ≤ 262144 := by
    have : (A.length : Int) * (B.length : Int) ≤ 512 * 512 := Int.mul_le_mul hlA hlB (by omega) (by omega)
    omega
  have HMM : Hid ((A.length : Int) * (B.length : Int) = ((A.length * B.length : Nat) : Int)) := by show _ = _; exact (Int.natCast_mul _ _).symm
  obtain ⟨mv, hmv⟩ : ∃ mv, meetV (n + 1) A B = mv := ⟨_, rfl⟩
  rw [hmv]
  have HMV := Lib.hid hmv
  clear hA hB vA vB gA gB hda hdb oka okb rowa rowb wA wB hP ih hmv
  go_enter Tryz.func52, Tryz.ntmps52
  go_upto_region 1 with fail
  have HXE : ∃ X, ((w.alloc (.cells #[.slice t A.length tc] 24)).alloc (.cells #[.slice t2 B.length tc2] 24)).alloc (.cells #[.slice none 0 0] 24) = X := ⟨_, rfl⟩
  obtain ⟨X, hX⟩ := HXE
  have HXB : Hid (MBox t A.length tc t2 B.length tc2 w X) := by rw [← hX]; exact MBox.new w t A.length tc t2 B.length tc2
  rw [hX]
  clear hX
  obtain ⟨-, x0, -⟩ := HXB.out.ba
  obtain ⟨-, x1, -⟩ := HXB.out.bb
  by_cases hbig : 512 < A.length * B.length
  · have hv : mv = (30, []) := by rw [← HMV.out, meetV_big hbig]
    subst hv
    have hbig' : (512 : Int) < (A.length : Int) * (B.length : Int) := by have := HMM.out; omega
    clear hbig
    go_wp2_with (go_at_call 15; refine (none_any _).mono ?_; rintro e w4 ⟨rfl, hB4⟩; obtain ⟨rz, rc, rf⟩ := HXB.out.br.later hB4; have HB4 := Lib.hid (bl_step HXB.out.old hB4); clear hB4)
    exact bodyPost_ret (v := .tuple #[.agg #[.slice none 0 0], .int .i64 30]) (by simp [results, Tryz.results52, go_sem, set_here rc]) rfl ⟨none, 0, 0, rfl, bl_set HB4.out (by show w.heap.size ≤ w.heap.size + 1 + 1; omega), inVP_nil⟩
  · have hbig' : ¬ ((512 : Int) < (A.length : Int) * (B.length : Int)) := by have := HMM.out; omega
    have HBG := Lib.hid hbig
    clear hbig
    have hda : da.length = A.length := by rw [← HA.out.1, List.length_map]
    have hdb : db.length = B.length := by rw [← HB.out.1, List.length_map]
    have HLN := Lib.hid (And.intro hda hdb)
    clear hda hdb
    go_wp2_with fail
    clear x0 x1
    go_loopw [6, 25] (fun v i wr => ∃ (k : Nat) (L : List Hr), k ≤ A.length ∧ i = .int .i64 k ∧ Hid (MInv P n X wr v L (prs (A.take k) B))) (fun _ i _ => A.length - (intOf i).toNat)
    case atStart => exact ⟨0, [], Nat.zero_le _, rfl, Below.refl _ _, OwnH.nil _ _, fun h hh => by simp at hh, by simp [prs], fun p hp => by simp [prs] at hp, by simp⟩
    case round =>
      obtain ⟨k, L, hk, rfl, hI⟩ := hrel
      rename World => wr
      obtain ⟨-, y1, -⟩ := HXB.out.bb.later hI.out.old
      by_cases hlt : k < A.length
      · have hki : (k : Int) < (A.length : Int) := by omega
        have hk0 : (0 : Int) ≤ (k : Int) := by omega
        obtain ⟨b1, off1, rfl⟩ := HNA.out (by omega)
        have hkd : k < da.length := by rw [HLN.out.1]; exact hlt
        obtain ⟨lt1, q0, q1, q2, q3, q4, q5, q6, q7⟩ := HA.out.2.2 b1 off1 rfl k hkd
        have HOKA := Lib.hid (HA.out.2.1 _ (List.getElem_mem hkd))
        have hxa : da[k].x = A[k] := by
          have := congrArg (fun l => l[k]?) HA.out.1
          simpa [hkd, hlt] using this
        have HXA := Lib.hid hxa
        have hbw := bl_step HXB.out.old hI.out.old
        replace q0 := (hbw.cell (p := ⟨b1, off1 + k * 8, none⟩) lt1).trans q0
        replace q1 := (hbw.cell (p := ⟨b1, off1 + k * 8 + 1, none⟩) lt1).trans q1
        replace q2 := (hbw.cell (p := ⟨b1, off1 + k * 8 + 2, none⟩) lt1).trans q2
        replace q3 := (hbw.cell (p := ⟨b1, off1 + k * 8 + 3, none⟩) lt1).trans q3
        replace q4 := (hbw.cell (p := ⟨b1, off1 + k * 8 + 4, none⟩) lt1).trans q4
        replace q5 := (hbw.cell (p := ⟨b1, off1 + k * 8 + 5, none⟩) lt1).trans q5
        replace q6 := (hbw.cell (p := ⟨b1, off1 + k * 8 + 6, none⟩) lt1).trans q6
        replace q7 := (hbw.cell (p := ⟨b1, off1 + k * 8 + 7, none⟩) lt1).trans q7
        clear hbw lt1 hxa
        generalize da[k] = ha at *
        have HBX : Hid (Below wr.heap.size wr (wr.alloc (hbox ha))) := bl_alloc (Below.refl _ _)
        have y11 : (wr.alloc (hbox ha)).cell? ⟨w.heap.size + 1, 0, none⟩ = some (.slice t2 B.length tc2) := ((HXB.out.bb.later hI.out.old).later HBX.out).2.1
        have HST : Hid (MInv P n X (wr.alloc (hbox ha)) u6 L (prs (A.take k) B ++ (B.take 0).map fun b => (A[k], b))) := by
          have e0 : prs (A.take k) B ++ ((B.take 0).map fun b => (A[k], b)) = prs (A.take k) B := by simp
          rw [e0]
          exact hI.out.below HBX.out
        have HT0 : Hid (BoxA (wr.alloc (hbox ha)) wr.heap.size ha u6) := ⟨T8.box wr ha 31, new_lt, fun e => by have := (hI.out.own.lt _ e).2; omega⟩
        go_wp2_with fail
        clear q0 q1 q2 q3 q4 q5 q6 q7 y11 y1
        go_loopw [6, 32] (fun v i wi => ∃ (j : Nat) (L : List Hr), j ≤ B.length ∧ i = .int .i64 j ∧ Hid (MInv P n X wi v L (prs (A.take k) B ++ (B.take j).map fun b => (A[k], b))) ∧ Hid (BoxA wi wr.heap.size ha v)) (fun _ i _ => B.length - (intOf i).toNat)
        case atStart => exact ⟨0, L, Nat.zero_le _, rfl, HST, HT0⟩
        case round =>
          obtain ⟨j, L2, hj, rfl, hI2, hT⟩ := hrel
          rename World => wi
          clear HST HT0
          by_cases hjl : j < B.length
          · have hji : (j : Int) < (B.length : Int) := by omega
            have hj0 : (0 : Int) ≤ (j : Int) := by omega
            obtain ⟨b2, off2, rfl⟩ := HNB.out (by omega)
            have hjd : j < db.length := by rw [HLN.out.2]; exact hjl
            obtain ⟨lt2, p0, p1, p2, p3, p4, p5, p6, p7⟩ := HB.out.2.2 b2 off2 rfl j hjd
            have hokb := HB.out.2.1 _ (List.getElem_mem hjd)
            have hxb : db[j].x = B[j] := by
              have := congrArg (fun l => l[j]?) HB.out.1
              simpa [hjd, hjl] using this
            have hbw := bl_step HXB.out.old hI2.out.old
            replace p0 := (hbw.cell (p := ⟨b2, off2 + j * 8, none⟩) lt2).trans p0
            replace p1 := (hbw.cell (p := ⟨b2, off2 + j * 8 + 1, none⟩) lt2).trans p1
            replace p2 := (hbw.cell (p := ⟨b2, off2 + j * 8 + 2, none⟩) lt2).trans p2
            replace p3 := (hbw.cell (p := ⟨b2, off2 + j * 8 + 3, none⟩) lt2).trans p3
            replace p4 := (hbw.cell (p := ⟨b2, off2 + j * 8 + 4, none⟩) lt2).trans p4
            replace p5 := (hbw.cell (p := ⟨b2, off2 + j * 8 + 5, none⟩) lt2).trans p5
            replace p6 := (hbw.cell (p := ⟨b2, off2 + j * 8 + 6, none⟩) lt2).trans p6
            replace p7 := (hbw.cell (p := ⟨b2, off2 + j * 8 + 7, none⟩) lt2).trans p7
            have hgA := HGA.out.1 _ (List.getElem_mem hlt)
            have hgB := HGB.out.1 _ (List.getElem_mem hjl)
            have hwA : wF n A[k].fs ≤ 512 := by have h1 := wN_mem (n := n) (List.getElem_mem hlt); have := HGA.out.2; omega
            have hwB : wF n B[j].fs ≤ 512 := by have h1 := wN_mem (n := n) (List.getElem_mem hjl); have := HGB.out.2; omega
            have HCM : Hid (∀ W, Below wi.heap.size wi W → Calls Tryz.prog 82 #[ha.v, db[j].v] W (ComP P n (comT (meetV n) A[k] B[j]) W)) := fun W hW => by
              have := pair_common HIH.out HP.out HOKA.out hokb (by rw [HXA.out]; exact hgA) (by rw [hxb]; exact hgB) (by rw [HXA.out]; exact hwA) (by rw [hxb]; exact hwB) W (bl_step hbw hW)
              rwa [HXA.out, hxb] at this
            have hErr := (comT_ok HG.out hgA hgB).1
            have HBW := Lib.hid hbw
            clear hbw lt2 hokb hxb hgA hgB hwA hwB
            generalize db[j] = hb at *
            obtain ⟨c0, c1, c2, c3, c4, c5, c6, c7⟩ := (hT.out.below (bl_alloc (o := hbox hb) (Below.refl _ _))).t8
            obtain ⟨q, hq⟩ : ∃ q, comT (meetV n) A[k] B[j] = q := ⟨_, rfl⟩
            have HQ := Lib.hid hq
            rw [hq] at HCM hErr
            clear hq
            have HTK : Hid ((B.take (j + 1)).map (fun b => (A[k], b)) = (B.take j).map (fun b => (A[k], b)) ++ [(A[k], B[j])]) := by
              rw [List.take_succ_eq_append_getElem hjl, List.map_append]; rfl
            obtain ⟨qe, qL⟩ := q
            simp only at hErr
            by_cases hq3 : qe = 30
            · subst hq3
              have HC30 : Hid (∀ W, Below wi.heap.size wi W → Calls Tryz.prog 82 #[ha.v, hb.v] W fun e w' => ∃ aa tl cap, e = .returned (.tuple #[.slice aa tl cap, .int .i64 30]) ∧ Below W.heap.size W w') := fun W hW => (HCM.out W hW).mono fun e w' ⟨aa, tl, cap, he, hB, _⟩ => ⟨aa, tl, cap, he, hB⟩
              have hv : mv = (30, []) := by
                rw [← HMV.out]
                refine meetV_bad HBG.out (fun p hp => ?_) ⟨(A[k], B[j]), pair_in hlt hjl, by rw [HQ.out]; show (30 : Int) ≠ 0; decide⟩
                obtain ⟨h1, h2⟩ := mem_prs.1 hp
                exact (comT_ok HG.out (HGA.out.1 _ h1) (HGB.out.1 _ h2)).1.imp id fun h => h.1
              subst hv
              clear HCM hErr
              go_wp2_with (first
                | (go_at_call 82; refine (HC30.out _ (bl_alloc (Below.refl _ _))).mono ?_; rintro e w5 ⟨aa, tl5, cap5, rfl, hB5⟩; have HB5 := Lib.hid (bl_step (bl_alloc (Below.refl _ _)) hB5); clear hB5)
                | (go_at_call 15; refine (none_any _).mono ?_; rintro e w6 ⟨rfl, hB6⟩; obtain ⟨rz, rc, rf⟩ := HXB.out.br.later (bl_step hI2.out.old (bl_step HB5.out hB6)); have HB6 := Lib.hid (bl_step HBW.out (bl_step HB5.out hB6)); clear hB6))
              exact bodyPost_ret (v := .tuple #[.agg #[.slice none 0 0], .int .i64 30]) (by simp [results, Tryz.results52, go_sem, set_here rc]) rfl ⟨none, 0, 0, rfl, bl_set HB6.out (by show w.heap.size ≤ w.heap.size + 1 + 1; omega), inVP_nil⟩
            · have hq0 : qe = 0 := hErr.resolve_right fun c => hq3 c.1
              subst hq0
              clear hErr hq3
              obtain ⟨i0, hi, hz0, hz1, hz2⟩ := info_parts info24
              have hl2 := hI2.out.len
              have HLB : Hid (L2.length ≤ 512) := by
                have h1 : (prs (A.take k) B ++ (B.take j).map fun b => (A[k], b)).length = k * B.length + j := by
                  have : ∀ T : List Tm, (prs T B).length = T.length * B.length := fun T => by
                    induction T with
                    | nil => simp [prs]
                    | cons a T ih => unfold prs at *; rw [List.flatMap_cons, List.length_append, ih, List.length_map, List.length_cons, Nat.add_mul]; omega
                  rw [List.length_append, this, List.length_map, List.length_take, List.length_take]
                  rw [Nat.min_eq_left (by omega), Nat.min_eq_left (by omega)]
                have h2 : k * B.length + j ≤ A.length * B.length := by
                  have : (k + 1) * B.length ≤ A.length * B.length := Nat.mul_le_mul_right _ hlt
                  rw [Nat.add_mul] at this
                  omega
                have h3 := HBG.out
                have h4 : L2.length ≤ 512 := by omega
                exact h4
              by_cases hqL : qL = []
              · subst hqL
                have HC0 : Hid (∀ W, Below wi.heap.size wi W → Calls Tryz.prog 82 #[ha.v, hb.v] W fun e w' => e = .returned (.tuple #[.slice none 0 0, .int .i64 0]) ∧ Below W.heap.size W w') := fun W hW => (HCM.out W hW).mono fun e w' ⟨aa, tl, cap, he, hB, hc⟩ => by
                  rcases hc with ⟨_, rfl, rfl, rfl⟩ | ⟨g, h, e1, _⟩
                  · exact ⟨he, hB⟩
                  · cases e1
                clear HCM hl2
                go_wp2_with (first
                  | (go_at_call 82; refine (HC0.out _ (bl_alloc (Below.refl _ _))).mono ?_; rintro e w5 ⟨rfl, hB5⟩; have HB5 := Lib.hid (bl_step (bl_alloc (Below.refl _ _)) hB5); clear hB5)
                  | (at_builtin; refine wpList_append_own_none rfl _ _ 22 rfl X.heap.size 31 i0 8 Tryz.underlying22 hi _ _ _ rfl (hI2.out.own.below HB5.out) rfl ?_))
                go_roundw
                case rel => exact ⟨j + 1, L2, by omega, by go_num, (by
                  rw [HTK.out, ← List.append_assoc]
                  exact (hI2.out.below HB5.out).skip HQ.out), hT.out.below HB5.out⟩
                case measure => simp [intOf]; omega
              · have HC1 : Hid (∀ W, Below wi.heap.size wi W → Calls Tryz.prog 82 #[ha.v, hb.v] W fun e w' => ∃ (g cap : Nat) (h : Hr), e = .returned (.tuple #[.slice (some ⟨g, 0, none⟩) 1 cap, .int .i64 0]) ∧ Below W.heap.size W w' ∧ qL = [h.x] ∧ g < w'.heap.size ∧ T8 w' g 0 h ∧ h.okP (fun b => P b ∨ W.heap.size ≤ b) n w') := fun W hW => (HCM.out W hW).mono fun e w' ⟨aa, tl, cap, he, hB, hc⟩ => by
                  rcases hc with ⟨e1, _⟩ | ⟨g, h, e1, rfl, rfl, h4, h5, h6⟩
                  · exact (hqL e1).elim
                  · exact ⟨g, cap, h, he, hB, e1, h4, h5, h6⟩
                have hlb := HLB.out
                have hXw : X.heap.size ≤ wi.heap.size := hI2.out.old.size
                clear HCM hl2 hqL
                go_wp2_with (first
                  | (go_at_call 82; refine (HC1.out _ (bl_alloc (Below.refl _ _))).mono ?_; rintro e w5 ⟨g5, cap5, h5, rfl, hB5, hq5, hg5, ht5, ho5⟩; have HB5 := Lib.hid (bl_step (bl_alloc (Below.refl _ _)) hB5); have HH5 := Lib.hid (And.intro hq5 (And.intro ht5 ho5)); clear hB5 hq5 hg5 ht5 ho5)
                  | (at_builtin; refine wpList_append_lies _ rfl _ _ 22 rfl X.heap.size 31 i0 _ 8 72 Tryz.underlying22 hi hz0 hz1 hz2 rfl (by decide) _ L2.length (L2.map Hr.enc).flatten rfl (hI2.out.own.below HB5.out) ⟨g5, 0, none⟩ 1 cap5 h5.enc rfl rfl (news_t8 HH5.out.2.1) (encH_one h5) (by decide) (by unfold maxLen; omega) (by omega) (Nat.le_trans hXw HB5.out.size) _ rfl ?_; intro gg cap w6 hown hgrow hat hltg; have HO6 := Lib.hid hown; have HG6 := Lib.hid hgrow; have HAT := Lib.hid hat; clear hown hgrow hat hltg))
                go_roundw
                case rel =>
                  refine ⟨j + 1, L2 ++ [h5], by omega, by go_num, ?_, (hT.out.below HB5.out).grown HG6.out rfl HAT.out⟩
                  rw [HTK.out, ← List.append_assoc]
                  refine MInv.add HXB.out.old HP.out (hI2.out.below HB5.out) (by rw [HQ.out, HH5.out.1]) (HH5.out.2.2.to (Nat.le_refl _) fun b hb _ => ⟨hb.imp id fun hb => ?_, rfl⟩) rfl HO6.out HG6.out HAT.out
                  rw [new_size] at hb
                  exact ⟨by omega, fun e => by have := (hI2.out.own.lt _ e).2; omega⟩
                case measure => simp [intOf]; omega
          · have ej : j = B.length := by omega
            subst ej
            have HTE : Hid (prs (A.take k) B ++ ((B.take B.length).map fun b => (A[k], b)) = prs (A.take (k + 1)) B) := by
              rw [List.take_length, prs_succ hlt]; rfl
            go_wp2_with fail
            go_roundw
            case rel => exact ⟨k + 1, L2, by omega, by go_num, by rw [← HTE.out]; exact hI2⟩
            case measure => simp [intOf]; omega
      · have ek : k = A.length := by omega
        subst ek
        have hD : (prs (A.take A.length) B) = prs A B := by rw [List.take_length]
        rw [hD] at hI
        obtain ⟨ua, uc, rfl, hrow⟩ := hI.out.own.row
        have hGt : ∀ x ∈ (L.map fun h : Hr => h.x), Gt n l x ∧ wF n x.fs ≤ 16384 := fun x hx => by
          rw [hI.out.res] at hx
          obtain ⟨p, hp, hx⟩ := List.mem_flatMap.1 hx
          obtain ⟨h1, h2⟩ := mem_prs.1 hp
          have ga := HGA.out.1 _ h1
          have gb := HGB.out.1 _ h2
          exact ⟨((comT_ok HG.out ga gb).2 (hI.out.fine p hp)).1 x hx, comT_w ga gb (by have h3 := wN_mem (n := n) h1; have := HGA.out.2; omega) (by have h3 := wN_mem (n := n) h2; have := HGB.out.2; omega) x hx⟩
        have hlen : L.length ≤ 512 := by
          have h1 := hI.out.len
          have h2 : (prs A B).length = A.length * B.length := by
            have : ∀ T : List Tm, (prs T B).length = T.length * B.length := fun T => by
              induction T with
              | nil => simp [prs]
              | cons a T ih => unfold prs at *; rw [List.flatMap_cons, List.length_append, ih, List.length_map, List.length_cons, Nat.add_mul]; omega
            exact this A
          have h3 := HBG.out
          omega
        have hokL : ∀ h ∈ L, h.ok n wr := fun h hh => (hI.out.ok h hh).ok
        have HOKL := Lib.hid hI.out.ok
        have HLF : Hid (Calls Tryz.prog 55 #[.slice ua L.length uc] wr (LeftH L n (L.map fun h : Hr => h.x) wr)) := left_heads n wr ua L.length uc (L.map fun h : Hr => h.x) ((OwnH.inV hI.out.own (by omega) hokL).1) (by omega) (fun x hx => ⟨l, (hGt x hx).1⟩) (fun x hx => Nat.le_trans (hGt x hx).2 (by omega)) L rfl hokL (fun b off e j hj => ⟨(hrow b off e j hj).2.2.1, (hrow b off e j hj).2.2.2⟩)
        have HMN : Hid (mv = nrm n (L.map fun h : Hr => h.x)) := by
          rw [← HMV.out, meetV_fine HBG.out hI.out.fine, hI.out.res]; rfl
        have HBW : Hid (Below w.heap.size w wr) := bl_step HXB.out.old hI.out.old
        have HBX : Hid (Below X.heap.size X wr) := hI.out.old
        clear hD hrow hGt hlen hokL y1 hI
        by_cases hnw : wN (n + 1) (normV n (L.map fun h : Hr => h.x)) ≤ 512
        · have hv : mv = (0, normV n (L.map fun h : Hr => h.x)) := by rw [HMN.out]; unfold nrm; rw [if_neg (by omega)]
          subst hv
          have HL2 : Hid (Calls Tryz.prog 55 #[.slice ua L.length uc] wr fun e w' => ∃ (t3 : Option Addr) (tl3 tc3 : Nat) (L3 : List Hr), e = .returned (.tuple #[.agg #[.slice t3 tl3 tc3], .int .i64 0]) ∧ Below wr.heap.size wr w' ∧ (∀ h ∈ L3, h ∈ L) ∧ L3.map (·.x) = normV n (L.map fun h : Hr => h.x) ∧ (L3.length : Int) ≤ 9223372036854775807 ∧ OwnH w' wr.heap.size (.slice t3 tl3 tc3) L3) := HLF.out.mono fun e w' ⟨t3, tl3, tc3, er, he, hB, hc⟩ => by
            rcases hc with ⟨_, rfl, L3, h1, h2, h3, h4⟩ | ⟨c1, _⟩
            · exact ⟨t3, tl3, tc3, L3, he, hB, h1, h2, h3, h4⟩
            · omega
          clear hnw HLF
          go_wp2_with (go_at_call 55; refine HL2.out.mono ?_; rintro e w7 ⟨t3, tl3, tc3, L3, rfl, hB7, h1, h2, h3, h4⟩; obtain ⟨rz, rc, rf⟩ := HXB.out.br.later (bl_step HBX.out hB7); have HB7 := Lib.hid hB7; have HL7 := Lib.hid (And.intro h1 (And.intro h2 (And.intro h3 h4))); clear hB7 h1 h2 h3 h4)
          refine bodyPost_ret (v := .tuple #[.agg #[.slice t3 tl3 tc3], .int .i64 0]) (by simp [results, Tryz.results52, go_sem, set_here rc]) rfl ⟨t3, tl3, tc3, rfl, bl_set (bl_step HBW.out HB7.out) (by show w.heap.size ≤ w.heap.size + 1 + 1; omega), ?_⟩
          obtain ⟨h1, h2, h3, h4⟩ := HL7.out
          show InVP _ _ _ _ _ _ (normV n (L.map fun h : Hr => h.x))
          rw [← h2]
          have hNb : w.heap.size + 1 + 1 < wr.heap.size := by have := HXB.out.size; have := HBX.out.size; omega
          refine OwnH.inVP (OwnH.set h4 hNb) h3 (fun b hb => .inr (Nat.le_trans HBW.out.size hb)) fun h hh => ?_
          have ho := (HOKL.out h (h1 h hh)).below HB7.out
          have hXs := HXB.out.size
          refine ho.to (Nat.le_of_eq set_size.symm) fun b hb lt => ⟨hb.imp id fun hb => by have := HXB.out.old.size; omega, set_heap ?_⟩
          rcases hb with hb | hb
          · have := HP.out b hb; omega
          · omega
        · have hv : mv = (30, []) := by rw [HMN.out]; unfold nrm; rw [if_pos (by omega)]
          subst hv
          have HL2 : Hid (Calls Tryz.prog 55 #[.slice ua L.length uc] wr fun e w' => e = .returned (.tuple #[.agg #[.slice none 0 0], .int .i64 30]) ∧ Below wr.heap.size wr w') := HLF.out.mono fun e w' ⟨t3, tl3, tc3, er, he, hB, hc⟩ => by
            rcases hc with ⟨c1, _⟩ | ⟨_, rfl, rfl, rfl, rfl⟩
            · omega
            · exact ⟨he, hB⟩
          clear hnw HLF
          go_wp2_with (go_at_call 55; refine HL2.out.mono ?_; rintro e w7 ⟨rfl, hB7⟩; obtain ⟨rz, rc, rf⟩ := HXB.out.br.later (bl_step HBX.out hB7); have HB7 := Lib.hid hB7; clear hB7)
          exact bodyPost_ret (v := .tuple #[.agg #[.slice none 0 0], .int .i64 30]) (by simp [results, Tryz.results52, go_sem, set_here rc]) rfl ⟨none, 0, 0, rfl, bl_set (bl_step HBW.out HB7.out) (by show w.heap.size ≤ w.heap.size + 1 + 1; omega), inVP_nil⟩
/-- meet, whole. -/
theorem meet_in : ∀ n : Nat, MeH n
  | 0 => fun _ _ _ _ _ _ _ _ _ _ _ h _ _ _ => h.elim
  | n + 1 => meet_step n (meet_in n)
end Go.Proofs.YtddleeenlpigfaaGreatDoor
/- WALKS of Meet, Below, Any, None. -/
namespace Go.Proofs.YtddleeenlpigfaaGreatDoor
open Go.RowKit
theorem right_size {s : ByteArray} (h : Nm.rightL s.toList = true) : s.size ≤ 16 := by
  unfold Nm.rightL at h
  simp only [Bool.and_eq_true, decide_eq_true_eq] at h
  rw [Nm.size_list]; exact h.1.1.1.2
theorem nm_of : ∀ {n l : Nat} {A : List Tm}, RV n l A → NmV n A
  | 0, _, _, _ => trivial
  | n + 1, 0, _, h => by unfold RV at h; exact h.elim
  | n + 1, l + 1, A, h => fun x hx f hf => by
    obtain ⟨x4, rf, _⟩ := gt_f (h.1 x hx) hf
    have := right_size (ris_names (gt_four (h.1 x hx) x4).2.1.2.1 f hf)
    exact ⟨by omega, nm_of rf⟩
theorem slim_of : ∀ {n l : Nat} {A : List Tm}, RV n l A → wN n A ≤ 512 → SlimV n A
  | 0, _, _, _, _ => trivial
  | n + 1, 0, _, h, _ => by unfold RV at h; exact h.elim
  | n + 1, l + 1, A, h, hw => by
    have hl : A.length ≤ 512 := by rw [wN_U] at hw; omega
    refine ⟨by omega, fun i hi => ⟨?_, fun j hj => ?_⟩⟩
    · by_cases x4 : A[i].k = 4
      · have := (gt_four (h.1 _ (List.getElem_mem hi)) x4).2.1.1
        omega
      · rw [gt_flat (h.1 _ (List.getElem_mem hi)) x4]; simp
    · obtain ⟨x4, rf, _⟩ := gt_f (h.1 _ (List.getElem_mem hi)) (List.getElem_mem hj)
      refine slim_of rf ?_
      have h1 := wN_mem (n := n) (List.getElem_mem hi)
      have h2 := wF_mem (n := n) (List.getElem_mem hj)
      omega
theorem RG.slim {n : Nat} {A : List Tm} (h : RG n A) : SlimV n A := slim_of h.1 h.2
theorem RG.nm {n : Nat} {A : List Tm} (h : RG n A) : NmV n A := nm_of h.1
theorem RG.rw {n : Nat} {A : List Tm} (h : RG n A) : Rw n A := ⟨⟨16, h.1⟩, h.2⟩
/-- What Meet, Join, Of and Struct answer. -/
def LmP (n : Nat) (r : Int × List Tm) (w : World) (e : Ending) (w' : World) : Prop :=
  ∃ (t : Option Addr) (tl tc : Nat), e = .returned (.tuple #[.agg #[.slice t tl tc], .int .i64 r.1]) ∧ Below w.heap.size w w' ∧ InV w' n t tl tc r.2
/-- lat.Meet. -/
noncomputable def meetR (n : Nat) (A B : List Tm) : Int × List Tm := if (rgV n A && rgV n B) = true then meetV n A B else (1, [])
/-- What comes of a meet of right values. -/
theorem meet_rg {n : Nat} {A B : List Tm} (hA : RG n A) (hB : RG n B) : meetV n A B = (30, []) ∨ ∃ M, meetV n A B = (0, M) ∧ RG n M := by
  obtain ⟨vA, wA⟩ := hA
  obtain ⟨vB, wB⟩ := hB
  match n, vA, vB with
  | 0, vA, _ => unfold RV at vA; exact vA.elim
  | n + 1, vA, vB =>
    rcases meet_rv vA vB with h | ⟨M, e, r, hw, _⟩
    · exact .inl h
    · exact .inr ⟨M, e, r, hw⟩
theorem inV_nil {w : World} {n : Nat} {t : Option Addr} {tc : Nat} : InV w (n + 1) t 0 tc [] := ⟨rfl, by decide, fun i hi => absurd hi (Nat.not_lt_zero _)⟩
theorem inV_pos {w : World} {n : Nat} {t : Option Addr} {tl tc : Nat} {A : List Tm} (h : InV w n t tl tc A) : ∃ m, n = m + 1 := by
  cases n with
  | zero => exact h.elim
  | succ m => exact ⟨m, rfl⟩
theorem Vin.inVP {w : World} {n : Nat} {t : Option Addr} {tl tc : Nat} {A : List Tm} (h : Vin w n t tl tc A) : InVP (· < w.heap.size) w n t tl tc A := h.v.inVP
set_option maxRecDepth 100000 in
set_option maxHeartbeats 8000000 in
theorem lmeet_in (n : Nat) (w : World) (t : Option Addr) (tl tc : Nat) (A : List Tm) (t2 : Option Addr) (tl2 tc2 : Nat) (B : List Tm) (hA : Vin w n t tl tc A) (hB : Vin w n t2 tl2 tc2 B) :
    Calls Tryz.prog 26 #[.agg #[.slice t tl tc], .agg #[.slice t2 tl2 tc2]] w (LmP n (meetR n A B) w) := by
  obtain ⟨m, rfl⟩ := inV_pos hA.v
  obtain ⟨qa, hqa⟩ : ∃ q, rgV (m + 1) A = q := ⟨_, rfl⟩
  obtain ⟨qb, hqb⟩ : ∃ q, rgV (m + 1) B = q := ⟨_, rfl⟩
  have HRA := Lib.hid (fun (W : World) (hW : Below w.heap.size w W) => lright_in (m + 1) W t tl tc A (hA.below hW))
  have HRB := Lib.hid (fun (W : World) (hW : Below w.heap.size w W) => lright_in (m + 1) W t2 tl2 tc2 B (hB.below hW))
  rw [hqa] at HRA
  rw [hqb] at HRB
  have HM : Hid (qa = true → qb = true → ∀ W, Below w.heap.size w W → Calls Tryz.prog 52 #[.agg #[.slice t tl tc], .agg #[.slice t2 tl2 tc2]] W (MeP (· < w.heap.size) (m + 1) (meetV (m + 1) A B) W)) := fun ea eb W hW =>
    meet_in (m + 1) (· < w.heap.size) W t tl tc A t2 tl2 tc2 B (fun b hb => Nat.lt_of_lt_of_le hb hW.size) (hA.inVP.below hW) (hB.inVP.below hW) (rgV_yes.1 (hqa.trans ea)).rw (rgV_yes.1 (hqb.trans eb)).rw
  have HQ := Lib.hid (And.intro hqa hqb)
  have HR : Hid (meetR (m + 1) A B = if (qa && qb) = true then meetV (m + 1) A B else (1, [])) := by unfold meetR; rw [hqa, hqb]; rfl
  obtain ⟨rr, hrr⟩ : ∃ rr, meetR (m + 1) A B = rr := ⟨_, rfl⟩
  rw [hrr] at HR ⊢
  clear hA hB hqa hqb hrr
  go_enter Tryz.func26, Tryz.ntmps26
  go_upto_region 1 with fail
  have HXE : ∃ X, ((w.alloc (.cells #[.slice t tl tc] 24)).alloc (.cells #[.slice t2 tl2 tc2] 24)).alloc (.cells #[.slice none 0 0] 24) = X := ⟨_, rfl⟩
  obtain ⟨X, hX⟩ := HXE
  have HXB : Hid (MBox t tl tc t2 tl2 tc2 w X) := by rw [← hX]; exact MBox.new w t tl tc t2 tl2 tc2
  rw [hX]
  clear hX
  obtain ⟨-, x0, -⟩ := HXB.out.ba
  cases qa
  · have hv : rr = (1, []) := HR.out
    subst hv
    clear HR HRB HM
    go_wp2_with (first
      | (go_at_call 18; refine (HRA.out _ HXB.out.old).mono ?_; rintro e w1 ⟨rfl, hB1⟩; have HB1 := Lib.hid hB1; clear hB1)
      | (go_at_call 15; refine (none_any _).mono ?_; rintro e w4 ⟨rfl, hB4⟩; obtain ⟨rz, rc, rf⟩ := HXB.out.br.later (bl_step HB1.out hB4); have HB4 := Lib.hid (bl_step HXB.out.old (bl_step HB1.out hB4)); clear hB4))
    exact bodyPost_ret (v := .tuple #[.agg #[.slice none 0 0], .int .i64 1]) (by simp [results, Tryz.results26, go_sem, set_here rc]) rfl ⟨none, 0, 0, rfl, bl_set HB4.out (by show w.heap.size ≤ w.heap.size + 1 + 1; omega), inV_nil⟩
  · cases qb
    · have hv : rr = (1, []) := HR.out
      subst hv
      clear HR HM
      go_wp2_with (first
        | (go_at_call 18; (with_reducible refine (HRA.out _ HXB.out.old).mono ?_); rintro e w1 ⟨rfl, hB1⟩; obtain ⟨-, y1, -⟩ := HXB.out.bb.later hB1; have HB1 := Lib.hid hB1; clear hB1)
        | (go_at_call 18; (with_reducible refine (HRB.out _ (bl_step HXB.out.old HB1.out)).mono ?_); rintro e w2 ⟨rfl, hB2⟩; have HB2 := Lib.hid (bl_step HB1.out hB2); clear hB2)
        | (go_at_call 15; refine (none_any _).mono ?_; rintro e w4 ⟨rfl, hB4⟩; obtain ⟨rz, rc, rf⟩ := HXB.out.br.later (bl_step HB2.out hB4); have HB4 := Lib.hid (bl_step HXB.out.old (bl_step HB2.out hB4)); clear hB4))
      exact bodyPost_ret (v := .tuple #[.agg #[.slice none 0 0], .int .i64 1]) (by simp [results, Tryz.results26, go_sem, set_here rc]) rfl ⟨none, 0, 0, rfl, bl_set HB4.out (by show w.heap.size ≤ w.heap.size + 1 + 1; omega), inV_nil⟩
    · have hv : rr = meetV (m + 1) A B := HR.out
      have hrg := meet_rg (rgV_yes.1 HQ.out.1) (rgV_yes.1 HQ.out.2)
      have HM2 := Lib.hid (HM.out rfl rfl)
      rw [← hv] at HM2 hrg
      have HSL : Hid (SlimV (m + 1) rr.2) := by
        rcases hrg with h | ⟨M, h, hr⟩
        · rw [h]; exact ⟨by decide, fun i hi => absurd hi (Nat.not_lt_zero _)⟩
        · rw [h]; exact hr.slim
      obtain ⟨re, M⟩ := rr
      clear HR hv hrg HM
      go_wp2_with (first
        | (go_at_call 18; (with_reducible refine (HRA.out _ HXB.out.old).mono ?_); rintro e w1 ⟨rfl, hB1⟩; obtain ⟨-, y1, -⟩ := HXB.out.bb.later hB1; have HB1 := Lib.hid hB1; clear hB1)
        | (go_at_call 18; (with_reducible refine (HRB.out _ (bl_step HXB.out.old HB1.out)).mono ?_); rintro e w2 ⟨rfl, hB2⟩; obtain ⟨-, z0, -⟩ := HXB.out.ba.later (bl_step HB1.out hB2); obtain ⟨-, z1, -⟩ := HXB.out.bb.later (bl_step HB1.out hB2); have HB2 := Lib.hid (bl_step HB1.out hB2); clear hB2)
        | (go_at_call 52; refine (HM2.out _ (bl_step HXB.out.old HB2.out)).mono ?_; rintro e w3 ⟨t3, tl3, tc3, rfl, hB3, hv3⟩; have HB3 := Lib.hid (bl_step HB2.out hB3); have HV3 := Lib.hid hv3.inV; clear hB3 hv3)
        | (go_at_call 53; refine (copy_in (m + 1) _ _ _ _ M (HV3.out.below (bl_alloc (Below.refl _ _))) HSL.out).mono ?_; rintro e w4 ⟨t4, tc4, rfl, hB4, ho4⟩; obtain ⟨rz, rc, rf⟩ := HXB.out.br.later (bl_step (bl_alloc HB3.out) hB4); have HB4 := Lib.hid (bl_step HXB.out.old (bl_step (bl_alloc HB3.out) hB4)); have HO4 := Lib.hid (And.intro ho4 (bl_step (bl_alloc HB3.out) hB4).size); clear hB4 ho4))
      refine bodyPost_ret (v := .tuple #[.agg #[.slice t4 tl3 tc4], .int .i64 re]) (by simp [results, Tryz.results26, go_sem, set_here rc]) rfl ⟨t4, tl3, tc4, rfl, bl_set HB4.out (by show w.heap.size ≤ w.heap.size + 1 + 1; omega), ?_⟩
      have hs := HXB.out.size
      refine OwV.inV (P := fun _ => True) (HO4.out.1.to (Nat.le_of_eq set_size.symm) fun b hb _ => ⟨trivial, set_heap ?_⟩)
      have h1 := HB3.out.size
      rw [new_size] at hb
      omega
/-- A value of whatever make that is right, once more in memory. -/
theorem Vin.of {w w' : World} {n : Nat} {t : Option Addr} {tl tc : Nat} {A : List Tm} (hE : Nm.Env w) (hb : Below w.heap.size w w') (h : InV w' n t tl tc A) (hr : NmV n A) : Vin w' n t tl tc A := ⟨h, hr, hE.below hb⟩
set_option maxRecDepth 100000 in
set_option maxHeartbeats 8000000 in
/-- lat.Below. -/
theorem lbelow_in (n : Nat) (w : World) (t : Option Addr) (tl tc : Nat) (A : List Tm) (t2 : Option Addr) (tl2 tc2 : Nat) (B : List Tm) (hA : Vin w n t tl tc A) (hB : Vin w n t2 tl2 tc2 B) :
    Calls Tryz.prog 19 #[.agg #[.slice t tl tc], .agg #[.slice t2 tl2 tc2]] w (LackP (rgV n A && rgV n B && undV n A B) w) := by
  obtain ⟨qa, hqa⟩ : ∃ q, rgV n A = q := ⟨_, rfl⟩
  obtain ⟨qb, hqb⟩ : ∃ q, rgV n B = q := ⟨_, rfl⟩
  have HRA := Lib.hid (fun (W : World) (hW : Below w.heap.size w W) => lright_in n W t tl tc A (hA.below hW))
  have HRB := Lib.hid (fun (W : World) (hW : Below w.heap.size w W) => lright_in n W t2 tl2 tc2 B (hB.below hW))
  rw [hqa] at HRA ⊢
  rw [hqb] at HRB ⊢
  obtain ⟨u, hu⟩ : ∃ q, undV n A B = q := ⟨_, rfl⟩
  have HM : Hid (qa = true → qb = true → ∀ W, Below w.heap.size w W → Calls Tryz.prog 44 #[.agg #[.slice t tl tc], .agg #[.slice t2 tl2 tc2]] W (LackP u W)) := fun ea eb W hW =>
    hu ▸ under_in n W t tl tc A t2 tl2 tc2 B (hA.v.below hW) (hB.v.below hW) ⟨16, (rgV_yes.1 (hqa.trans ea)).1⟩ ⟨16, (rgV_yes.1 (hqb.trans eb)).1⟩
  rw [hu]
  clear hA hB hqa hqb hu
  go_enter Tryz.func19, Tryz.ntmps19
  go_upto_region 1 with fail
  have HXE : ∃ X, (w.alloc (.cells #[.slice t tl tc] 24)).alloc (.cells #[.slice t2 tl2 tc2] 24) = X := ⟨_, rfl⟩
  obtain ⟨X, hX⟩ := HXE
  have HXA : Hid (Below w.heap.size w X ∧ Cx X w.heap.size 0 (.slice t tl tc) ∧ Cx X (w.heap.size + 1) 0 (.slice t2 tl2 tc2)) := by
    rw [← hX]; exact ⟨bl_alloc (bl_alloc (Below.refl _ _)), ⟨by simp; omega, by simp [go_sem], by simp [go_sem]⟩, ⟨by simp, by simp [go_sem], by simp [go_sem]⟩⟩
  rw [hX]
  clear hX
  obtain ⟨-, x0, -⟩ := HXA.out.2.1
  cases qa
  · clear HRB HM
    go_wp2_with (go_at_call 18; refine (HRA.out _ HXA.out.1).mono ?_; rintro e w1 ⟨rfl, hB1⟩; have HB1 := Lib.hid hB1; clear hB1)
    go_ret
    exact ⟨rfl, bl_step HXA.out.1 HB1.out⟩
  · cases qb
    · clear HM
      go_wp2_with (first
        | (go_at_call 18; (with_reducible refine (HRA.out _ HXA.out.1).mono ?_); rintro e w1 ⟨rfl, hB1⟩; obtain ⟨-, y1, -⟩ := HXA.out.2.2.later hB1; have HB1 := Lib.hid hB1; clear hB1)
        | (go_at_call 18; (with_reducible refine (HRB.out _ (bl_step HXA.out.1 HB1.out)).mono ?_); rintro e w2 ⟨rfl, hB2⟩; have HB2 := Lib.hid (bl_step HB1.out hB2); clear hB2))
      go_ret
      exact ⟨rfl, bl_step HXA.out.1 HB2.out⟩
    · have HM2 := Lib.hid (HM.out rfl rfl)
      clear HM
      go_wp2_with (first
        | (go_at_call 18; (with_reducible refine (HRA.out _ HXA.out.1).mono ?_); rintro e w1 ⟨rfl, hB1⟩; obtain ⟨-, y1, -⟩ := HXA.out.2.2.later hB1; have HB1 := Lib.hid hB1; clear hB1)
        | (go_at_call 18; (with_reducible refine (HRB.out _ (bl_step HXA.out.1 HB1.out)).mono ?_); rintro e w2 ⟨rfl, hB2⟩; obtain ⟨-, z0, -⟩ := HXA.out.2.1.later (bl_step HB1.out hB2); obtain ⟨-, z1, -⟩ := HXA.out.2.2.later (bl_step HB1.out hB2); have HB2 := Lib.hid (bl_step HB1.out hB2); clear hB2)
        | (go_at_call 44; refine (HM2.out _ (bl_step HXA.out.1 HB2.out)).mono ?_; rintro e w3 ⟨rfl, hB3⟩; have HB3 := Lib.hid (bl_step HB2.out hB3); clear hB3))
      go_ret
      exact ⟨rfl, bl_step HXA.out.1 HB3.out⟩
end Go.Proofs.YtddleeenlpigfaaGreatDoor
/- WALKS of Grow and Concat at terms. -/
namespace Go.Proofs.YtddleeenlpigfaaGreatDoor
open Go.RowKit
/-- A slice without elements, appended to a row of the call's own. -/
theorem run_append_zero {P : Program} {w : World} (base : Nat) (t ty e : TypeId) (i : TypeInfo) (size : Nat) (ht : P.underlying t = some (.slice e)) (hi : P.info? e = some i)
    (v : Value) (n : Nat) (xs : List Value) (hown : w.ownsRow base e size v n xs) (a : Option Addr) (c : Nat) :
    (Builtin.append_ #[t, t] ty #[v, .slice a 0 c]).run P w = .ok v w := by
  cases a
  · rcases hown.2 with ⟨rfl, rfl⟩ | ⟨g, cap, cur, rfl, _, _, hnc, _⟩
    · simp [Builtin.append_, run_underlying ht, sizeOf, typeInfo, hi, Builtin.lenOf, Builtin.firstCells]
    · simp [Builtin.append_, run_underlying ht, sizeOf, typeInfo, hi, Builtin.lenOf, Builtin.firstCells, hnc, storeCells]
  · rcases hown.2 with ⟨rfl, rfl⟩ | ⟨g, cap, cur, rfl, _, _, hnc, _⟩
    · simp [Builtin.append_, run_underlying ht, sizeOf, typeInfo, hi, Builtin.lenOf, Builtin.firstCells, loadCells, loadCellsFrom]
    · simp [Builtin.append_, run_underlying ht, sizeOf, typeInfo, hi, Builtin.lenOf, Builtin.firstCells, hnc, storeCells, loadCells, loadCellsFrom]
set_option maxHeartbeats 1000000 in
theorem growT_pos (n : Nat) (w : World) (h0 : 0 < n) (h : n ≤ 100000) : Calls Tryz.prog 92 #[.slice none 0 0, .int .i64 n] w fun e w' => ∃ v, e = .returned v ∧ w'.ownsRow w.heap.size 31 8 v 0 [] ∧ Below w.heap.size w w' := by
  obtain ⟨i0, hi, hz0, hz1, hz2⟩ := info_parts info24
  have hrun := fun ty => Lib.run_append_nil_zeros (P := Tryz.prog) w 22 3 ty 31 i0 _ .i64 .i64 Tryz.underlying22 Tryz.underlying3 hi hz0 n h0 (by omega) (by omega) (by rw [hz2]; omega)
  have hcap := grownCap_le_maxLen w n 0 31 (by unfold maxLen; omega)
  have hge := grownCap_ge w n 0 31
  generalize grownCap w n 0 31 = G at *
  have hS : (Builtin.zeroCells (Value.agg #[.int .i64 0, .int .i64 0, .int .i64 0, .string ByteArray.empty, .bool false, .bool false, .bool false, .slice none 0 0]).cells n ++ Builtin.zeroCells (Value.agg #[.int .i64 0, .int .i64 0, .int .i64 0, .string ByteArray.empty, .bool false, .bool false, .bool false, .slice none 0 0]).cells (G - n)).size = G * 8 := by
    rw [Array.size_append, size_zeroCells, size_zeroCells]
    show n * 8 + (G - n) * 8 = G * 8
    omega
  generalize Builtin.zeroCells (Value.agg #[.int .i64 0, .int .i64 0, .int .i64 0, .string ByteArray.empty, .bool false, .bool false, .bool false, .slice none 0 0]).cells n ++ Builtin.zeroCells (Value.agg #[.int .i64 0, .int .i64 0, .int .i64 0, .string ByteArray.empty, .bool false, .bool false, .bool false, .slice none 0 0]).cells (G - n) = C at *
  have HS := Lib.hid hS
  have HC := Lib.hid hcap
  unfold maxLen at hcap
  clear hS hz0 hz1 hz2 hi
  go_enter Tryz.func92, Tryz.ntmps92
  go_wp2_with (at_builtin; refine Lib.wpList_append_run _ rfl _ _ _ _ rfl _ _ rfl rfl _ _ (hrun _) ?_)
  go_ret
  exact ⟨_, rfl, ⟨rfl, .inr ⟨w.heap.size, G, C, rfl, Nat.le_refl _, heap_new w _, Nat.zero_le _, HC.out, HS.out, by simp⟩⟩, ((Below.refl _ w).alloc (Nat.le_refl _) _).drew⟩
theorem growT_zero (w : World) : Calls Tryz.prog 92 #[.slice none 0 0, .int .i64 0] w fun e w' => e = .returned (.slice none 0 0) ∧ w = w' := by
  go_enter Tryz.func92, Tryz.ntmps92
  go_wp2_with fail
  go_ret
  exact ⟨rfl, rfl⟩
theorem growT_any (n : Nat) (w : World) (h : n ≤ 100000) : Calls Tryz.prog 92 #[.slice none 0 0, .int .i64 n] w fun e w' => ∃ v, e = .returned v ∧ w'.ownsRow w.heap.size 31 8 v 0 [] ∧ Below w.heap.size w w' := by
  by_cases h0 : n = 0
  · subst h0
    exact (growT_zero w).mono fun e w' ⟨a, b⟩ => ⟨_, a, World.ownsRow_nil _ _ _ _, by rw [← b]; exact Below.refl _ _⟩
  · exact growT_pos n w (by omega) h
/-- A slice of terms, by headers. -/
structure SegH (w : World) (t : Option Addr) (l : Nat) (L : List Hr) : Prop where
  len : L.length = l
  at_ : 0 < l → ∃ b off, t = some ⟨b, off, none⟩ ∧ b < w.heap.size ∧ ∀ j (hj : j < L.length), T8 w b (off + j * 8) L[j]
theorem SegH.below {w w' : World} {t : Option Addr} {l : Nat} {L : List Hr} (h : SegH w t l L) (hb : Below w.heap.size w w') : SegH w' t l L :=
  ⟨h.len, fun h0 => by
    obtain ⟨b, off, e, lt, hr⟩ := h.at_ h0
    exact ⟨b, off, e, Nat.lt_of_lt_of_le lt hb.size, fun j hj => (hr j hj).to fun r _ => hb.cell (p := ⟨b, off + j * 8 + r, none⟩) lt⟩⟩
theorem encs8_len (L : List Hr) : (L.map Hr.enc).flatten.length = L.length * 8 := by
  induction L with
  | nil => rfl
  | cons x L ih => rw [List.map_cons, List.flatten_cons, List.length_append, ih, enc_len, List.length_cons]; omega
theorem news_rows {w : World} {b off : Nat} {L : List Hr} (hr : ∀ j (hj : j < L.length), T8 w b (off + j * 8) L[j]) : ∀ j u, (L.map Hr.enc).flatten[j]? = some u → w.cell? ((⟨b, off, none⟩ : Addr).add j) = some u := fun j u hu => by
  have hj := (List.getElem?_eq_some_iff.1 hu).1
  rw [encs8_len] at hj
  rw [Addr.add_lit]
  have h1 := enc_at (hr (j / 8) (by omega)) (j % 8) (Nat.mod_lt _ (by decide))
  have e3 : off + j / 8 * 8 + j % 8 = off + j := by have := Nat.div_add_mod' j 8; omega
  rw [e3] at h1
  have h4 := flat_get (s := 8) (L.map Hr.enc) (j / 8) (j % 8) (fun x hx => by obtain ⟨h, _, rfl⟩ := List.mem_map.1 hx; rfl) (Nat.mod_lt _ (by decide)) (by simp; omega)
  rw [Nat.div_add_mod', hu, List.getElem_map] at h4
  rw [h1, getElem!_pos _ _ (by rw [enc_len]; exact Nat.mod_lt _ (by decide)), h4, List.getElem?_eq_getElem (by rw [enc_len]; exact Nat.mod_lt _ (by decide))]
theorem encs8_one {L : List Hr} : ∀ u ∈ (L.map Hr.enc).flatten, u.oneCell' = true := fun u hu => by
  obtain ⟨l, hl, hu⟩ := List.mem_flatten.1 hu
  obtain ⟨h, _, rfl⟩ := List.mem_map.1 hl
  exact encH_one h u hu
/-- One slice more, appended to a row of the call's own. -/
theorem append_seg {w : World} {base : Nat} {v : Value} {L0 : List Hr} (ho : OwnH w base v L0) {t : Option Addr} {l : Nat} (c : Nat) {L : List Hr} (hs : SegH w t l L) (hb : L0.length + l ≤ 100000) (hbase : base ≤ w.heap.size) :
    ∃ v' w', (Builtin.append_ #[22, 22] 22 #[v, .slice t l c]).run Tryz.prog w = .ok v' w' ∧ OwnH w' base v' (L0 ++ L) ∧ Below base w w' := by
  obtain ⟨i0, hi, hz0, hz1, hz2⟩ := info_parts info24
  by_cases h0 : l = 0
  · subst h0
    obtain rfl : L = [] := List.eq_nil_of_length_eq_zero hs.len
    refine ⟨v, w, run_append_zero base 22 22 31 i0 8 Tryz.underlying22 hi v L0.length _ ho t c, by rw [List.append_nil]; exact ho, Below.refl _ _⟩
  · obtain ⟨b, off, rfl, lt, hr⟩ := hs.at_ (by omega)
    obtain ⟨v', w', hrun, h2, h3, -⟩ := run_append_own (P := Tryz.prog) w base 22 22 31 i0 _ 8 72 Tryz.underlying22 hi hz0 hz1 hz2 rfl (by decide) v L0.length (L0.map Hr.enc).flatten ho ⟨b, off, none⟩ l c (L.map Hr.enc).flatten (by rw [encs8_len, hs.len]) (news_rows hr) encs8_one (by unfold maxLen; omega) (by omega) hbase
    refine ⟨v', w', hrun, ?_, (Below.refl _ _).grown h3 hbase (fun k hk => (ho.lt k hk).1)⟩
    unfold OwnH
    rw [List.map_append, List.flatten_append, List.length_append, hs.len]
    exact h2
end Go.Proofs.YtddleeenlpigfaaGreatDoor
