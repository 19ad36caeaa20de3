/- Qh, Qi, Qj -/
import Derived.Test.YtdlcpnpmmmpccaaT0
import Derived.Test.YtdlcpnpmmmpccaaT1
/- THE ORDER: plain mathematics. (at int) -/
namespace Go.Proofs.Ytdlcpnpmmmpccaa.Gn
open Go
open Go.Proofs.Ytdlcpnpmmmpccaa.Gr (nodup_le it)
/-- Does every line from p go into out? -/
def rdyB (ls : List Ln2) (out : List Int) (p : Int) : Bool := ls.all fun l => !(decide (l.1 = p)) || inB l.2 out
theorem rdyB_iff {ls : List Ln2} {out : List Int} {p : Int} : rdyB ls out p = true ↔ ∀ t, inL ls p t = true → t ∈ out := by
  unfold rdyB
  rw [List.all_eq_true]
  constructor
  · intro h t ht
    have h1 := h _ (inL_iff.1 ht)
    simp at h1
    exact inB_iff.1 h1
  · intro h l hl
    by_cases e : l.1 = p
    · have h1 := h l.2 (inL_iff.2 (by rw [← e]; exact hl))
      simp [inB_iff.2 h1]
    · simp [e]
/-- Which one comes next. -/
def nextP (pts : List Int) (ls : List Ln2) (out : List Int) : Option Int := pts.find? fun p => !inB p out && rdyB ls out p
def ordS (pts : List Int) (ls : List Ln2) (out : List Int) : List Int :=
  match nextP pts ls out with
  | some p => out ++ [p]
  | none => out
def ordL (pts : List Int) (ls : List Ln2) : List Int := it (ordS pts ls) pts.length []
theorem nextP_least {ls : List Ln2} {out : List Int} {k : Int} (h1 : k ∉ out) (h2 : rdyB ls out k = true) : ∀ {pts : List Int}, Rise pts → k ∈ pts → (∀ q ∈ pts, q ∉ out → rdyB ls out q = true → leT k q) → nextP pts ls out = some k
  | [], _, h, _ => absurd h (by simp)
  | x :: pts, hr, hk, hl => by
    have hh : inB k out = false := by rw [← Bool.not_eq_true, inB_iff]; exact h1
    unfold nextP
    rw [List.find?_cons]
    by_cases e : x = k
    · subst e
      simp [hh, h2]
    · have hr' := List.pairwise_cons.1 hr
      have hx : (!inB x out && rdyB ls out x) = false := by
        rw [← Bool.not_eq_true]
        intro h
        simp only [Bool.and_eq_true, Bool.not_eq_true', ← Bool.not_eq_true, inB_iff] at h
        have h3 := hl x (by simp) h.1 (by simpa using h.2)
        have h4 := hr'.1 k (by
          rcases List.mem_cons.1 hk with h5 | h5
          · exact absurd h5.symm e
          · exact h5)
        exact absurd h4 (Int.not_lt.2 (leT_iff.1 h3))
      rw [hx]
      exact nextP_least h1 h2 hr'.2 (by
        rcases List.mem_cons.1 hk with h5 | h5
        · exact absurd h5.symm e
        · exact h5) (fun q hq => hl q (by simp [hq]))
theorem nextP_some {pts : List Int} {ls : List Ln2} {out : List Int} {k : Int} (h : nextP pts ls out = some k) : k ∈ pts ∧ k ∉ out ∧ rdyB ls out k = true := by
  have h1 := List.find?_some h
  have h2 := List.mem_of_find?_eq_some h
  simp only [Bool.and_eq_true, Bool.not_eq_true', ← Bool.not_eq_true, inB_iff] at h1
  exact ⟨h2, h1.1, by simpa using h1.2⟩
theorem nextP_none {pts : List Int} {ls : List Ln2} {out : List Int} (h : ∀ q ∈ pts, q ∉ out → rdyB ls out q = true → False) : nextP pts ls out = none := by
  refine List.find?_eq_none.2 fun q hq h1 => ?_
  simp only [Bool.and_eq_true, Bool.not_eq_true', ← Bool.not_eq_true, inB_iff] at h1
  exact h q hq h1.1 (by simpa using h1.2)
theorem it_fix {α : Type} {f : α → α} {a : α} (h : f a = a) : ∀ n, it f n a = a
  | 0 => rfl
  | n + 1 => by
    show f (it f n a) = a
    rw [it_fix h n, h]
theorem it_add {α : Type} {f : α → α} {a : α} : ∀ m n, it f (m + n) a = it f m (it f n a)
  | 0, n => by rw [Nat.zero_add]; rfl
  | m + 1, n => by
    rw [show m + 1 + n = (m + n) + 1 by omega]
    show f (it f (m + n) a) = f (it f m (it f n a))
    rw [it_add m n]
theorem ord_done {pts l : List Int} {ls : List Ln2} (h : l = it (ordS pts ls) l.length []) (hn : nextP pts ls l = none) (hl : l.length ≤ pts.length) : l = ordL pts ls := by
  unfold ordL
  have hs : ordS pts ls l = l := by unfold ordS; rw [hn]
  rw [show pts.length = (pts.length - l.length) + l.length by omega, it_add, ← h, it_fix hs]
/-- What holds between two steps of Order. -/
structure OI (pts : List Int) (ls : List Ln2) (T : Int → List Int) (l hs op : List Int) (AH WT : Int → List Int) : Prop where
  out : l = it (ordS pts ls) l.length []
  sub : ∀ p ∈ l ++ (hs ++ op), p ∈ pts
  nd : (l ++ (hs ++ op)).Nodup
  rdy : ∀ p ∈ hs, ∀ t, inL ls p t = true → t ∈ l
  wt : ∀ q p, q ∉ l → p ∈ WT q → p ∈ pts ∧ p ∉ l ++ (hs ++ op) ∧ inL ls p q = true
  wtn : ∀ q, q ∉ l → (WT q).Nodup
  wtu : ∀ p q q', q ∉ l → q' ∉ l → p ∈ WT q → p ∈ WT q' → q = q'
  cov : ∀ p ∈ pts, p ∈ l ++ (hs ++ op) ∨ ∃ q, q ∉ l ∧ p ∈ WT q
  ahd : ∀ p ∈ pts, ∃ d, T p = d ++ AH p ∧ ∀ t ∈ d, t ∈ l
variable {pts : List Int} {ls : List Ln2} {T : Int → List Int} {l hs op : List Int} {AH WT : Int → List Int} {p t k : Int}
theorem OI.begin (hn : pts.Nodup) : OI pts ls T [] [] pts T (fun _ => []) :=
  ⟨rfl, fun p h => by simpa using h, by simpa using hn, (fun p h => by simp at h), (fun q p _ h => by simp at h), (fun q _ => by simp), (fun p q q' _ _ h => by simp at h), (fun p h => .inl (by simpa using h)), fun p _ => ⟨[], rfl, fun t h => by simp at h⟩⟩
theorem OI.few (h : OI pts ls T l hs op AH WT) : l.length + hs.length + op.length ≤ pts.length := by
  have := nodup_le _ _ h.nd h.sub
  simp at this
  omega
theorem OI.fewW (h : OI pts ls T l hs op AH WT) {q : Int} (hq : q ∉ l) : (WT q).length ≤ pts.length := nodup_le _ _ (h.wtn q hq) fun p hp => (h.wt q p hq hp).1
theorem OI.drop (h : OI pts ls T l hs op AH WT) {r : List Int} (ha : AH p = t :: r) (ht : t ∈ l) : OI pts ls T l hs op (fun s => if s = p then r else AH s) WT := by
  refine ⟨h.out, h.sub, h.nd, h.rdy, h.wt, h.wtn, h.wtu, h.cov, fun s hs => ?_⟩
  by_cases e : s = p
  · subst e
    obtain ⟨d, h1, h2⟩ := h.ahd s hs
    refine ⟨d ++ [t], by simp [h1, ha], fun x hx => ?_⟩
    rcases List.mem_append.1 hx with hx | hx
    · exact h2 x hx
    · simp at hx; subst hx; exact ht
  · simpa [e] using h.ahd s hs
theorem OI.wait (h : OI pts ls T l hs (p :: op) AH WT) (hT : ∀ p t, t ∈ T p → inL ls p t = true) {r : List Int} (ha : AH p = t :: r) (ht : t ∉ l) : OI pts ls T l hs op AH (fun s => if s = t then WT t ++ [p] else WT s) := by
  have hp : p ∈ pts := h.sub p (by simp)
  have hpn : p ∉ l ++ (hs ++ op) := by
    have := h.nd
    rw [← List.append_assoc, List.nodup_append] at this
    obtain ⟨-, h2, h3⟩ := this
    rw [List.nodup_cons] at h2
    intro hm
    rw [← List.append_assoc] at hm
    rcases List.mem_append.1 hm with hm | hm
    · exact h3 p hm p (by simp) rfl
    · exact h2.1 hm
  have hsub : ∀ x, x ∈ l ++ (hs ++ op) → x ∈ l ++ (hs ++ p :: op) := fun x hx => by
    simp only [List.mem_append, List.mem_cons] at hx ⊢
    rcases hx with hx | hx | hx <;> simp [hx]
  have hpw : ∀ q, q ∉ l → p ∉ WT q := fun q hq hm => (h.wt q p hq hm).2.1 (by simp)
  have hLt : inL ls p t = true := by
    obtain ⟨d, h1, -⟩ := h.ahd p hp
    exact hT p t (by rw [h1, ha]; simp)
  refine ⟨h.out, fun x hx => h.sub x (hsub x hx), ?_, h.rdy, fun q x hq hx => ?_, fun q hq => ?_, fun x q q' hq hq' hx hx' => ?_, fun x hx => ?_, h.ahd⟩
  · refine h.nd.sublist (List.Sublist.append (List.Sublist.refl l) (List.Sublist.append (List.Sublist.refl hs) (List.sublist_cons_self p op)))
  · by_cases e : q = t
    · subst e
      simp at hx
      rcases hx with hx | rfl
      · obtain ⟨a, b, c⟩ := h.wt q x hq hx
        exact ⟨a, fun hm => b (hsub x hm), c⟩
      · exact ⟨hp, hpn, hLt⟩
    · simp [e] at hx
      obtain ⟨a, b, c⟩ := h.wt q x hq hx
      exact ⟨a, fun hm => b (hsub x hm), c⟩
  · by_cases e : q = t
    · subst e
      simp only [if_true]
      rw [List.nodup_append]
      exact ⟨h.wtn q hq, by simp, fun a ha0 b hb e => by simp at hb; subst hb; subst e; exact hpw q hq ha0⟩
    · simpa [e] using h.wtn q hq
  · have e1 : ∀ q, q ∉ l → x ∈ (if q = t then WT t ++ [p] else WT q) → x ∈ WT q ∨ (q = t ∧ x = p) := fun q hq hx => by
      by_cases e : q = t
      · subst e
        simp at hx
        rcases hx with hx | hx
        · exact .inl hx
        · exact .inr ⟨rfl, hx⟩
      · rw [if_neg e] at hx
        exact .inl hx
    rcases e1 q hq hx with a | ⟨a, b⟩ <;> rcases e1 q' hq' hx' with a' | ⟨a', b'⟩
    · exact h.wtu x q q' hq hq' a a'
    · subst b'; exact absurd a (hpw q hq)
    · subst b; exact absurd a' (hpw q' hq')
    · exact a.trans a'.symm
  · rcases h.cov x hx with hm | ⟨q, hq, hm⟩
    · simp only [List.mem_append, List.mem_cons] at hm
      rcases hm with hm | hm | rfl | hm
      · exact .inl (by simp [hm])
      · exact .inl (by simp [hm])
      · exact .inr ⟨t, ht, by simp⟩
      · exact .inl (by simp [hm])
    · refine .inr ⟨q, hq, ?_⟩
      by_cases e : q = t
      · subst e; simp [hm]
      · simp [e, hm]
theorem OI.push (h : OI pts ls T l hs (p :: op) AH WT) (hT : ∀ p t, inL ls p t = true → t ∈ T p) (ha : AH p = []) {hs' : List Int} (hp : hs'.Perm (hs ++ [p])) : OI pts ls T l hs' op AH WT := by
  have hpp : (l ++ (hs' ++ op)).Perm (l ++ (hs ++ p :: op)) := by
    refine List.Perm.append_left l ?_
    have := hp.append_right op
    simpa using this
  refine ⟨h.out, fun x hx => h.sub x (hpp.mem_iff.1 hx), hpp.nodup_iff.2 h.nd, fun x hx t ht => ?_, fun q x hq hx => ?_, h.wtn, h.wtu, fun x hx => ?_, h.ahd⟩
  · have := hp.mem_iff.1 hx
    simp at this
    rcases this with hx | rfl
    · exact h.rdy x hx t ht
    · obtain ⟨d, h1, h2⟩ := h.ahd x (h.sub x (by simp))
      rw [ha, List.append_nil] at h1
      exact h2 t (by rw [← h1]; exact hT x t ht)
  · obtain ⟨a, b, c⟩ := h.wt q x hq hx
    exact ⟨a, fun hm => b (hpp.mem_iff.1 hm), c⟩
  · rcases h.cov x hx with hm | hm
    · exact .inl (hpp.mem_iff.2 hm)
    · exact .inr hm
theorem OI.all (h : OI pts ls T l hs [] AH WT) {q : Int} (hq : q ∈ pts) (hl : q ∉ l) (hr : rdyB ls l q = true) : q ∈ hs := by
  rcases h.cov q hq with hm | ⟨x, hx, hm⟩
  · simp at hm
    rcases hm with hm | hm
    · exact absurd hm hl
    · exact hm
  · exact absurd (rdyB_iff.1 hr x (h.wt x q hx hm).2.2) hx
theorem OI.pop (h : OI pts ls T l hs [] AH WT) (hr : Rise pts) {hs' : List Int} (hp : (k :: hs').Perm hs) (hk : ∀ q ∈ hs, leT k q) : OI pts ls T (l ++ [k]) hs' (WT k) AH WT := by
  have hkh : k ∈ hs := hp.mem_iff.1 (by simp)
  have hnd := h.nd
  rw [List.append_nil, List.nodup_append] at hnd
  obtain ⟨n1, n2, n3⟩ := hnd
  have hkl : k ∉ l := fun hm => n3 k hm k hkh rfl
  have n4 := hp.nodup_iff.2 n2
  rw [List.nodup_cons] at n4
  have hwt : ∀ q x, q ∉ l → x ∈ WT q → x ∈ pts ∧ x ∉ l ∧ x ∉ hs ∧ inL ls x q = true := fun q x hq hx => by
    obtain ⟨a, b, c⟩ := h.wt q x hq hx
    simp at b
    exact ⟨a, b.1, b.2, c⟩
  have hsub : ∀ x ∈ hs', x ∈ hs := fun x hx => hp.mem_iff.1 (by simp [hx])
  have hnx : nextP pts ls l = some k := nextP_least hkl (rdyB_iff.2 fun t ht => h.rdy k hkh t ht) hr (h.sub k (by simp [hkh])) fun q hq hql hqr => hk q (h.all hq hql hqr)
  refine ⟨?_, fun x hx => ?_, ?_, fun x hx t ht => ?_, fun q x hq hx => ?_, fun q hq => h.wtn q (fun hm => hq (by simp [hm])), fun x q q' hq hq' => h.wtu x q q' (fun hm => hq (by simp [hm])) (fun hm => hq' (by simp [hm])), fun x hx => ?_, fun x hx => ?_⟩
  · rw [List.length_append, List.length_singleton]
    show _ = ordS pts ls (it (ordS pts ls) l.length [])
    rw [← h.out]
    unfold ordS
    rw [hnx]
  · simp only [List.mem_append, List.mem_singleton] at hx
    rcases hx with (hx | rfl) | hx | hx
    · exact h.sub x (by simp [hx])
    · exact h.sub x (by simp [hkh])
    · exact h.sub x (by simp [hsub x hx])
    · exact (hwt k x hkl hx).1
  · rw [List.nodup_append, List.nodup_append, List.nodup_append]
    refine ⟨⟨n1, by simp, fun a ha b hb e => by simp at hb; subst hb; subst e; exact hkl ha⟩, ⟨n4.2, h.wtn k hkl, fun a ha b hb e => by subst e; exact (hwt k a hkl hb).2.2.1 (hsub a ha)⟩, fun a ha b hb e => ?_⟩
    subst e
    simp only [List.mem_append, List.mem_singleton] at ha hb
    rcases ha with ha | rfl <;> rcases hb with hb | hb
    · exact n3 a ha a (hsub a hb) rfl
    · exact (hwt k a hkl hb).2.1 ha
    · exact n4.1 hb
    · exact (hwt a a hkl hb).2.2.1 hkh
  · exact List.mem_append_left _ (h.rdy x (hsub x hx) t ht)
  · have hql : q ∉ l := fun hm => hq (by simp [hm])
    have hqk : q ≠ k := fun e => hq (by simp [e])
    obtain ⟨a, b, c, d⟩ := hwt q x hql hx
    refine ⟨a, fun hm => ?_, d⟩
    simp only [List.mem_append, List.mem_singleton] at hm
    rcases hm with (hm | rfl) | hm | hm
    · exact b hm
    · exact c hkh
    · exact c (hsub x hm)
    · exact hqk (h.wtu x q k hql hkl hx hm)
  · rcases h.cov x hx with hm | ⟨q, hq, hm⟩
    · simp at hm
      rcases hm with hm | hm
      · exact .inl (by simp [hm])
      · have := hp.mem_iff.2 hm
        simp at this
        rcases this with rfl | this
        · exact .inl (by simp)
        · exact .inl (by simp [this])
    · by_cases e : q = k
      · subst e; exact .inl (by simp [hm])
      · exact .inr ⟨q, by simp [hq, e], hm⟩
  · obtain ⟨d, a, b⟩ := h.ahd x hx
    exact ⟨d, a, fun t ht => List.mem_append_left _ (b t ht)⟩
theorem OI.done (h : OI pts ls T l [] [] AH WT) : l = ordL pts ls :=
  ord_done h.out (nextP_none fun q hq hql hqr => by have := h.all hq hql hqr; simp at this) (by have := h.few; simp at this; exact this)
end Go.Proofs.Ytdlcpnpmmmpccaa.Gn
/- ORDER IN MEMORY: what changed, what stays. (at int) -/
namespace Go.Proofs.Ytdlcpnpmmmpccaa.Gn
open Go.RowKit Go.Maps Go.Sort
open Go.Proofs.Ytdlcpnpmmmpccaa.Gr (grown_none grown_row below_none Qrow qrow_of nodup_le grown_trans Qrow.slice Qrow.shape hp_alloc it step_append_run)
/-- Of the elder blocks none but X has changed. -/
structure Chg (w w2 : World) (X : List Nat) : Prop where
  os : w2.os = w.os
  tape : w2.tape = w.tape
  output : w2.output = w.output
  size : w.heap.size ≤ w2.heap.size
  block : ∀ k, k < w.heap.size → k ∉ X → w2.heap[k]? = w.heap[k]?
theorem chg_of {w w2 : World} {r : Option Nat} (h : w.grownBy w2 r) : Chg w w2 r.toList :=
  ⟨h.os, h.tape, h.output, h.size, fun k hk hn => h.block k hk (fun e => hn (by rw [← e]; simp))⟩
theorem Chg.trans {w w1 w2 : World} {X Y : List Nat} (h : Chg w w1 X) (k : Chg w1 w2 Y) : Chg w w2 (X ++ Y) :=
  ⟨k.os.trans h.os, k.tape.trans h.tape, k.output.trans h.output, Nat.le_trans h.size k.size, fun i hi hn => by
    simp at hn
    rw [k.block i (Nat.lt_of_lt_of_le hi h.size) hn.2, h.block i hi hn.1]⟩
theorem chg_heap {w w2 : World} {hB : Nat} {v v' : Value} (h : HStep w w2 hB v v') : Chg w w2 (hB :: v.ownBlock.toList) :=
  ⟨h.1, h.2.1, h.2.2.1, h.2.2.2.1, fun k hk hn => by
    simp at hn
    exact h.2.2.2.2.1 k hk hn.1 (fun e => hn.2 e.symm)⟩
theorem chg_kept {P : World → Prop} {b : Nat} (hP : ∀ w w' r, P w → w.grownBy w' r → r ≠ some b → P w') : ∀ {X : List Nat} {w w2 : World}, Chg w w2 X → b ∉ X → P w → P w2
  | [], w, w2, h, _, hp => hP w w2 none hp ⟨h.os, h.tape, h.output, h.size, fun k hk _ => h.block k hk (by simp)⟩ (by simp)
  | x :: X, w, w2, h, hb, hp => by
    simp at hb
    by_cases hx : x < w.heap.size
    · have hx2 : x < w2.heap.size := Nat.lt_of_lt_of_le hx h.size
      have e : ∀ k, (w2.heap.set x w.heap[x] hx2)[k]? = if x = k then some w.heap[x] else w2.heap[k]? := fun k => by
        rw [Array.getElem?_set]
      refine hP { w2 with heap := w2.heap.set x w.heap[x] hx2 } w2 (some x) (chg_kept hP (X := X) (w := w) ⟨h.os, h.tape, h.output, by simpa using h.size, fun k hk hn => ?_⟩ hb.2 hp) ⟨rfl, rfl, rfl, by simp, fun k hk hn => ?_⟩ (by simpa using fun e => hb.1 e.symm)
      · show (w2.heap.set x w.heap[x] hx2)[k]? = _
        rw [e k]
        by_cases e2 : x = k
        · subst e2
          simp
        · rw [if_neg e2]
          exact h.block k hk (by simp; exact ⟨fun e3 => e2 e3.symm, hn⟩)
      · show _ = (w2.heap.set x w.heap[x] hx2)[k]?
        rw [e k, if_neg (fun e2 => hn (by rw [e2]))]
    · exact chg_kept hP (X := X) ⟨h.os, h.tape, h.output, h.size, fun k hk hn => h.block k hk (by simp; exact ⟨fun e => by omega, hn⟩)⟩ hb.2 hp
theorem Chg.row {w w2 : World} {X : List Nat} (h : Chg w w2 X) {base n : Nat} {e : TypeId} {v : Value} {xs : List Value} (hr : w.ownsRow base e 1 v n xs) (hX : ∀ g, v.ownBlock = some g → g ∉ X) : w2.ownsRow base e 1 v n xs := by
  cases hb : v.ownBlock with
  | some g => exact chg_kept (P := fun w => w.ownsRow base e 1 v n xs) (b := g) (fun w w' r hp hg hn => hp.kept hg (.inr (by rw [hb]; exact fun e => hn e.symm))) h (hX g hb) hr
  | none =>
    rcases hr.2 with ⟨rfl, h0⟩ | ⟨g, cap, cur, rfl, -⟩
    · obtain rfl : xs = [] := List.eq_nil_of_length_eq_zero (by
        have := hr.1
        omega)
      exact ⟨by have := hr.1; simpa using this, .inl ⟨rfl, h0⟩⟩
    · simp [Value.ownBlock] at hb
theorem Chg.texts {w w2 : World} {X : List Nat} (h : Chg w w2 X) {a : Option Addr} {n c : Nat} {xs : List Int} (hr : StrRow w a n xs) (hX : ∀ g, (Value.slice a n c).ownBlock = some g → g ∉ X) : StrRow w2 a n xs := by
  obtain ⟨h1, h2, h3, h4⟩ := hr
  refine ⟨h1, h2, h3, fun h0 => ?_⟩
  obtain ⟨b, off, rfl, hlt, hc⟩ := h4 h0
  refine ⟨b, off, rfl, Nat.lt_of_lt_of_le hlt h.size, fun i x hx => ?_⟩
  have := h.block b hlt (hX b rfl)
  rw [World.cell?_of_block (w := w) (a := ⟨b, off + i, none⟩) this]
  exact hc i x hx
theorem Chg.sm {w w2 : World} {X : List Nat} (h : Chg w w2 X) {b n : Nat} {Q : Int → Bool} (hr : SM w b n Q) (hX : b ∉ X) : SM w2 b n Q := chg_kept (P := fun w => SM w b n Q) (fun _ _ _ hp hg hn => hp.kept hg hn) h hX hr
theorem Chg.ms {w w2 : World} {X : List Nat} (h : Chg w w2 X) {b : Nat} {K : List Int} {F : Int → Value} (hr : MS w b K F) (hX : b ∉ X) : MS w2 b K F := chg_kept (P := fun w => MS w b K F) (fun _ _ _ hp hg hn => hp.kept hg hn) h hX hr
theorem Chg.clm {w w2 : World} {X : List Nat} (h : Chg w w2 X) {B b n : Nat} {Q : Int → Bool} (hr : ClM w B b n Q) (hX : b ∉ X) (hX2 : B ∉ X) : ClM w2 B b n Q := by
  refine ⟨?_, h.sm hr.2 hX⟩
  have hlt : B < w.heap.size := World.block_lt_of_cell? _ _ hr.1
  rw [World.cell?_of_block (w := w) (a := ⟨B, 0, none⟩) (h.block B hlt hX2)]
  exact hr.1
theorem Chg.hpr {w w2 : World} {X : List Nat} (h : Chg w w2 X) {base hB : Nat} {v : Value} {hs : List Int} (hr : HPr w base hB v hs) (hX : hB ∉ X) (hX2 : ∀ g, v.ownBlock = some g → g ∉ X) : HPr w2 base hB v hs :=
  ⟨(h.block hB hr.lt hX).trans hr.box, h.row hr.row hX2, hr.off⟩
/-- Who holds a row of texts. -/
inductive Tg where
  | hp | ls | op | wt (q : Int)
  deriving DecidableEq
def bkT (vh vl vo : Value) (FW : Int → Value) : Tg → Option Nat
  | .hp => vh.ownBlock
  | .ls => vl.ownBlock
  | .op => vo.ownBlock
  | .wt q => (FW q).ownBlock
def lvT (pts l : List Int) : Tg → Prop
  | .wt q => q ∈ pts ∧ q ∉ l
  | _ => True
/-- The rows lie apart, and apart from the blocks Z. -/
def Sep (Z : List Nat) (lv : Tg → Prop) (bk : Tg → Option Nat) : Prop := ∀ t, lv t → ∀ g, bk t = some g → g ∉ Z ∧ ∀ t', lv t' → t' ≠ t → bk t' ≠ some g
theorem Sep.upd {Z : List Nat} {lv lv' : Tg → Prop} {bk bk' : Tg → Option Nat} (h : Sep Z lv bk) {n : Nat} (hn : ∀ t g, lv t → bk t = some g → g < n) (hz : ∀ z ∈ Z, z < n) (t0 : Tg) (h1 : ∀ t, t ≠ t0 → bk' t = bk t) (h2 : bk' t0 = bk t0 ∨ ∃ g, bk' t0 = some g ∧ n ≤ g) (hlv : ∀ t, lv' t → lv t) : Sep Z lv' bk' := by
  have hh : ∀ t g, lv' t → bk' t = some g → bk t = some g ∨ (t = t0 ∧ n ≤ g) := fun t g hl hb => by
    by_cases e : t = t0
    · subst e
      rcases h2 with h2 | ⟨g2, h2, h3⟩
      · exact .inl (by rw [← h2]; exact hb)
      · rw [h2] at hb; injection hb with hb; exact .inr ⟨rfl, by omega⟩
    · exact .inl (by rw [← h1 t e]; exact hb)
  intro t ht g hg
  rcases hh t g ht hg with a | ⟨a, b⟩
  · refine ⟨(h t (hlv t ht) g a).1, fun t' ht' hne hg' => ?_⟩
    rcases hh t' g ht' hg' with a' | ⟨a', b'⟩
    · exact (h t (hlv t ht) g a).2 t' (hlv t' ht') hne a'
    · have := hn t g (hlv t ht) a; omega
  · refine ⟨fun hm => by have := hz g hm; omega, fun t' ht' hne hg' => ?_⟩
    rcases hh t' g ht' hg' with a' | ⟨a', b'⟩
    · have := hn t' g (hlv t' ht') a'; omega
    · exact hne (a'.trans a.symm)
theorem Sep.pop {Z : List Nat} {lv lv' : Tg → Prop} {bk bk' : Tg → Option Nat} (h : Sep Z lv bk) {k : Int} (hk : lv (.wt k)) (h1 : ∀ t, t ≠ .op → bk' t = bk t) (h2 : bk' .op = bk (.wt k)) (hlv : ∀ t, lv' t → t = .op ∨ (lv t ∧ t ≠ .wt k)) : Sep Z lv' bk' := by
  have hh : ∀ t g, lv' t → bk' t = some g → ∃ s, lv s ∧ bk s = some g ∧ (t = .op → s = .wt k) ∧ (t ≠ .op → s = t ∧ t ≠ .wt k) := fun t g hl hb => by
    by_cases e : t = .op
    · subst e
      exact ⟨_, hk, by rw [← h2]; exact hb, fun _ => rfl, fun e => absurd rfl e⟩
    · rcases hlv t hl with e2 | ⟨a, b⟩
      · exact absurd e2 e
      · exact ⟨t, a, by rw [← h1 t e]; exact hb, fun e2 => absurd e2 e, fun _ => ⟨rfl, b⟩⟩
  intro t ht g hg
  obtain ⟨s, a, b, c, d⟩ := hh t g ht hg
  refine ⟨(h s a g b).1, fun t' ht' hne hg' => ?_⟩
  obtain ⟨s', a', b', c', d'⟩ := hh t' g ht' hg'
  refine (h s a g b).2 s' a' (fun e => ?_) b'
  by_cases e1 : t = .op <;> by_cases e2 : t' = .op
  · exact hne (e2.trans e1.symm)
  · have h3 := (d' e2)
    rw [c e1] at e
    exact h3.2 (h3.1.symm.trans e)
  · have h3 := (d e1)
    rw [c' e2] at e
    exact h3.2 (h3.1.symm.trans e.symm)
  · rw [(d e1).1, (d' e2).1] at e
    exact hne e
end Go.Proofs.Ytdlcpnpmmmpccaa.Gn
/- ORDER IN MEMORY: the invariant and its steps. (at int) -/
namespace Go.Proofs.Ytdlcpnpmmmpccaa.Gn
open Go.RowKit Go.Maps Go.Sort
open Go.Proofs.Ytdlcpnpmmmpccaa.Gr (grown_none grown_row below_none Qrow qrow_of nodup_le grown_trans Qrow.slice Qrow.shape hp_alloc it step_append_run)
/-- A slice, as it was read, of the world once ahead was built. -/
def AhP (w1 : World) (bA : Nat) (v : Value) (xs : List Int) : Prop := ∃ a c, v = .slice a xs.length c ∧ xs.length ≤ c ∧ StrRow w1 a xs.length xs ∧ ∀ g, v.ownBlock = some g → g ≠ bA
structure OM (w1 : World) (bA bI iB bW hB : Nat) (pts : List Int) (wr : World) (l hs opx : List Int) (FA FW : Int → Value) (AH WT : Int → List Int) (vh vl vo : Value) : Prop where
  base : w1.grownBy wr (some bA)
  ltA : bA < w1.heap.size
  far : ∀ b ∈ [bI, iB, bW, hB], w1.heap.size ≤ b ∧ b < wr.heap.size
  ne : [bI, iB, bW, hB].Nodup
  ahead : MS wr bA pts FA
  rowsA : ∀ k ∈ pts, AhP w1 bA (FA k) (AH k)
  ins : ClM wr iB bI l.length (fun s => inB s l)
  wait : MS wr bW pts FW
  rowsW : ∀ q ∈ pts, q ∉ l → wr.ownsRow w1.heap.size 3 1 (FW q) (WT q).length ((WT q).map (Value.int .i64))
  heap : HPr wr w1.heap.size hB vh hs
  isH : IsH hs hs.length
  row : wr.ownsRow w1.heap.size 3 1 vl l.length (l.map (Value.int .i64))
  opened : ∃ a c, vo = .slice a opx.length c ∧ StrRow wr a opx.length opx
  opb : ∀ g, vo.ownBlock = some g → g < wr.heap.size
  sep : Sep [bA, bI, iB, bW, hB] (lvT pts l) (bkT vh vl vo FW)
variable {w1 wr : World} {bA bI iB bW hB : Nat} {pts l hs opx : List Int} {FA FW : Int → Value} {AH WT : Int → List Int} {vh vl vo : Value}
theorem OM.lts (h : OM w1 bA bI iB bW hB pts wr l hs opx FA FW AH WT vh vl vo) : ∀ t g, lvT pts l t → bkT vh vl vo FW t = some g → g < wr.heap.size := by
  intro t g hl hb
  cases t with
  | hp => exact (h.heap.row.lt g hb).2
  | ls => exact (h.row.lt g hb).2
  | op => exact h.opb g hb
  | wt q => exact ((h.rowsW q hl.1 hl.2).lt g hb).2
theorem OM.zs (h : OM w1 bA bI iB bW hB pts wr l hs opx FA FW AH WT vh vl vo) : ∀ z ∈ [bA, bI, iB, bW, hB], z < wr.heap.size := by
  intro z hz
  rcases List.mem_cons.1 hz with rfl | hz
  · exact Nat.lt_of_lt_of_le h.ltA h.base.size
  · exact (h.far z hz).2
theorem chg_base {w1 wr w2 : World} {bA : Nat} (h : w1.grownBy wr (some bA)) {X : List Nat} (c : Chg wr w2 X) (hX : ∀ x ∈ X, x < w1.heap.size → x = bA) : w1.grownBy w2 (some bA) :=
  ⟨c.os.trans h.os, c.tape.trans h.tape, c.output.trans h.output, Nat.le_trans h.size c.size, fun k hk hn => by
    rw [c.block k (Nat.lt_of_lt_of_le hk h.size) (fun hm => hn (by rw [hX k hm hk])), h.block k hk hn]⟩
theorem OM.farX (h : OM w1 bA bI iB bW hB pts wr l hs opx FA FW AH WT vh vl vo) {w2 : World} (hs : wr.heap.size ≤ w2.heap.size) : ∀ b ∈ [bI, iB, bW, hB], w1.heap.size ≤ b ∧ b < w2.heap.size := fun b hb => ⟨(h.far b hb).1, Nat.lt_of_lt_of_le (h.far b hb).2 hs⟩
theorem OM.nes (h : OM w1 bA bI iB bW hB pts wr l hs opx FA FW AH WT vh vl vo) : bI ≠ iB ∧ bI ≠ bW ∧ bI ≠ hB ∧ iB ≠ bW ∧ iB ≠ hB ∧ bW ≠ hB ∧ bA ≠ bI ∧ bA ≠ iB ∧ bA ≠ bW ∧ bA ≠ hB := by
  have h1 := h.ne
  simp at h1
  obtain ⟨⟨a, b, c⟩, ⟨d, e⟩, f⟩ := h1
  have := h.ltA
  have g1 := (h.far bI (by simp)).1
  have g2 := (h.far iB (by simp)).1
  have g3 := (h.far bW (by simp)).1
  have g4 := (h.far hB (by simp)).1
  exact ⟨a, b, c, d, e, f, by omega, by omega, by omega, by omega⟩
/-- ahead[k] = ahead[k][1:]. -/
theorem OM.drop (h : OM w1 bA bI iB bW hB pts wr l hs opx FA FW AH WT vh vl vo) {k : Int} {v' : Value} {r : List Int} {w2 : World} (hM : MS w2 bA pts (fun s => if s = k then v' else FA s)) (hg : wr.grownBy w2 (some bA)) (hv : AhP w1 bA v' r) : OM w1 bA bI iB bW hB pts w2 l hs opx (fun s => if s = k then v' else FA s) FW (fun s => if s = k then r else AH s) WT vh vl vo := by
  have hc : Chg wr w2 [bA] := chg_of hg
  obtain ⟨n1, n2, n3, n4, n5, n6, n7, n8, n9, n10⟩ := h.nes
  have hz : ∀ t, lvT pts l t → ∀ g, bkT vh vl vo FW t = some g → g ∉ [bA] := fun t ht g hg hm => (h.sep t ht g hg).1 (by simp at hm; simp [hm])
  obtain ⟨ao, co, e, ho⟩ := h.opened
  refine ⟨chg_base h.base hc (fun x hx _ => by simpa using hx), h.ltA, h.farX hc.size, h.ne, hM, fun s hs => ?_, hc.clm h.ins (by simp; exact fun e => n7 e.symm) (by simp; exact fun e => n8 e.symm), hc.ms h.wait (by simp; exact fun e => n9 e.symm), fun q hq hl => hc.row (h.rowsW q hq hl) (hz (.wt q) ⟨hq, hl⟩), hc.hpr h.heap (by simp; exact fun e => n10 e.symm) (hz .hp trivial), h.isH, hc.row h.row (hz .ls trivial), ⟨ao, co, e, hc.texts (c := co) ho (by rw [← e]; exact hz .op trivial)⟩, fun g hg => Nat.lt_of_lt_of_le (h.opb g hg) hc.size, h.sep⟩
  by_cases e2 : s = k
  · simpa [e2] using hv
  · simpa [e2] using h.rowsA s hs
/-- waiting[t] = append(waiting[t], p). -/
theorem OM.waitS (h : OM w1 bA bI iB bW hB pts wr l hs opx FA FW AH WT vh vl vo) {t p : Int} (ht : t ∈ pts) (htl : t ∉ l) {v' : Value} {w2 : World} (hc : Chg wr w2 (bW :: (FW t).ownBlock.toList)) (hR : w2.ownsRow w1.heap.size 3 1 v' (WT t ++ [p]).length ((WT t ++ [p]).map (Value.int .i64))) (hat : v'.ownBlock = (FW t).ownBlock ∨ ∃ g, v'.ownBlock = some g ∧ wr.heap.size ≤ g) (hM : MS w2 bW pts (fun s => if s = t then v' else FW s)) : OM w1 bA bI iB bW hB pts w2 l hs opx FA (fun s => if s = t then v' else FW s) AH (fun s => if s = t then WT t ++ [p] else WT s) vh vl vo := by
  obtain ⟨n1, n2, n3, n4, n5, n6, n7, n8, n9, n10⟩ := h.nes
  have hl : lvT pts l (.wt t) := ⟨ht, htl⟩
  have hX : ∀ x ∈ (bW :: (FW t).ownBlock.toList), x = bW ∨ bkT vh vl vo FW (.wt t) = some x := fun x hx => by
    simp at hx
    exact hx
  have hz : ∀ s, lvT pts l s → s ≠ .wt t → ∀ g, bkT vh vl vo FW s = some g → g ∉ (bW :: (FW t).ownBlock.toList) := fun s hs hne g hg hm => by
    rcases hX g hm with e | e
    · exact (h.sep s hs g hg).1 (by simp [e])
    · exact (h.sep s hs g hg).2 (.wt t) hl (fun e => hne e.symm) e
  have hzz : ∀ z ∈ [bA, bI, iB, bW, hB], z ≠ bW → z ∉ (bW :: (FW t).ownBlock.toList) := fun z hz hne hm => by
    rcases hX z hm with e | e
    · exact hne e
    · exact (h.sep (.wt t) hl z e).1 hz
  obtain ⟨ao, co, e, ho⟩ := h.opened
  refine ⟨chg_base h.base hc (fun x hx hlt => ?_), h.ltA, h.farX hc.size, h.ne, hc.ms h.ahead (hzz _ (by simp) n9), h.rowsA, hc.clm h.ins (hzz _ (by simp) n2) (hzz _ (by simp) n4), hM, fun q hq hql => ?_, hc.hpr h.heap (hzz _ (by simp) (fun e => n6 e.symm)) (hz .hp trivial (by simp)), h.isH, hc.row h.row (hz .ls trivial (by simp)), ⟨ao, co, e, hc.texts (c := co) ho (by rw [← e]; exact hz .op trivial (by simp))⟩, fun g hg => Nat.lt_of_lt_of_le (h.opb g hg) hc.size, ?_⟩
  · rcases hX x hx with e | e
    · have := (h.far bW (by simp)).1; omega
    · have := own_base (h.rowsW t ht htl) x e; omega
  · by_cases e2 : q = t
    · subst e2
      simpa using hR
    · simp only [e2, if_false]
      exact hc.row (h.rowsW q hq hql) (hz (.wt q) ⟨hq, hql⟩ (by simpa using e2))
  · refine h.sep.upd h.lts h.zs (.wt t) (fun s hs => ?_) ?_ (fun _ h => h)
    · cases s <;> simp_all [bkT]
    · simpa [bkT] using hat
/-- heap.Push, heap.Pop. -/
theorem OM.heapS (h : OM w1 bA bI iB bW hB pts wr l hs opx FA FW AH WT vh vl vo) {vh' : Value} {hs' : List Int} {w2 : World} (hst : HStep wr w2 hB vh vh') (hH : HPr w2 w1.heap.size hB vh' hs') (hi : IsH hs' hs'.length) : OM w1 bA bI iB bW hB pts w2 l hs' opx FA FW AH WT vh' vl vo := by
  have hc := chg_heap hst
  obtain ⟨n1, n2, n3, n4, n5, n6, n7, n8, n9, n10⟩ := h.nes
  have hX : ∀ x ∈ (hB :: vh.ownBlock.toList), x = hB ∨ bkT vh vl vo FW .hp = some x := fun x hx => by
    simp at hx
    exact hx
  have hz : ∀ s, lvT pts l s → s ≠ .hp → ∀ g, bkT vh vl vo FW s = some g → g ∉ (hB :: vh.ownBlock.toList) := fun s hs hne g hg hm => by
    rcases hX g hm with e | e
    · exact (h.sep s hs g hg).1 (by simp [e])
    · exact (h.sep s hs g hg).2 .hp trivial (fun e => hne e.symm) e
  have hzz : ∀ z ∈ [bA, bI, iB, bW, hB], z ≠ hB → z ∉ (hB :: vh.ownBlock.toList) := fun z hz hne hm => by
    rcases hX z hm with e | e
    · exact hne e
    · exact (h.sep .hp trivial z e).1 hz
  obtain ⟨ao, co, e, ho⟩ := h.opened
  refine ⟨chg_base h.base hc (fun x hx hlt => ?_), h.ltA, h.farX hc.size, h.ne, hc.ms h.ahead (hzz _ (by simp) n10), h.rowsA, hc.clm h.ins (hzz _ (by simp) n3) (hzz _ (by simp) n5), hc.ms h.wait (hzz _ (by simp) n6), fun q hq hql => hc.row (h.rowsW q hq hql) (hz (.wt q) ⟨hq, hql⟩ (by simp)), hH, hi, hc.row h.row (hz .ls trivial (by simp)), ⟨ao, co, e, hc.texts (c := co) ho (by rw [← e]; exact hz .op trivial (by simp))⟩, fun g hg => Nat.lt_of_lt_of_le (h.opb g hg) hc.size, ?_⟩
  · rcases hX x hx with e | e
    · have := (h.far hB (by simp)).1; omega
    · have := own_base h.heap.row x e; omega
  · refine h.sep.upd h.lts h.zs .hp (fun s hs => ?_) hst.2.2.2.2.2 (fun _ h => h)
    cases s <;> simp_all [bkT]
/-- l, in[k] = append(l, k), true; open = waiting[k]. -/
theorem OM.next (h : OM w1 bA bI iB bW hB pts wr l hs opx FA FW AH WT vh vl vo) {k : Int} (hk : k ∈ pts) (hkl : k ∉ l) (hWT : ∀ x ∈ WT k, okS x) (hWl : (WT k).length ≤ 1000000) {vl' : Value} {w2 : World} (hc : Chg wr w2 (bI :: vl.ownBlock.toList)) (hR : w2.ownsRow w1.heap.size 3 1 vl' (l ++ [k]).length ((l ++ [k]).map (Value.int .i64))) (hat : vl'.ownBlock = vl.ownBlock ∨ ∃ g, vl'.ownBlock = some g ∧ wr.heap.size ≤ g) (hM : ClM w2 iB bI (l ++ [k]).length (fun s => inB s (l ++ [k]))) : OM w1 bA bI iB bW hB pts w2 (l ++ [k]) hs (WT k) FA FW AH WT vh vl' (FW k) := by
  obtain ⟨n1, n2, n3, n4, n5, n6, n7, n8, n9, n10⟩ := h.nes
  have hX : ∀ x ∈ (bI :: vl.ownBlock.toList), x = bI ∨ bkT vh vl vo FW .ls = some x := fun x hx => by
    simp at hx
    exact hx
  have hz : ∀ s, lvT pts l s → s ≠ .ls → ∀ g, bkT vh vl vo FW s = some g → g ∉ (bI :: vl.ownBlock.toList) := fun s hs hne g hg hm => by
    rcases hX g hm with e | e
    · exact (h.sep s hs g hg).1 (by simp [e])
    · exact (h.sep s hs g hg).2 .ls trivial (fun e => hne e.symm) e
  have hzz : ∀ z ∈ [bA, bI, iB, bW, hB], z ≠ bI → z ∉ (bI :: vl.ownBlock.toList) := fun z hz hne hm => by
    rcases hX z hm with e | e
    · exact hne e
    · exact (h.sep .ls trivial z e).1 hz
  have hrk := hc.row (h.rowsW k hk hkl) (hz (.wt k) ⟨hk, hkl⟩ (by simp))
  have hql : ∀ q, q ∉ l ++ [k] → q ∉ l ∧ q ≠ k := fun q hq => ⟨fun hm => hq (by simp [hm]), fun e => hq (by simp [e])⟩
  obtain ⟨ak, ck, ek, hok⟩ := str_row hrk (by omega) hWT
  refine ⟨chg_base h.base hc (fun x hx hlt => ?_), h.ltA, h.farX hc.size, h.ne, hc.ms h.ahead (hzz _ (by simp) n7), h.rowsA, hM, hc.ms h.wait (hzz _ (by simp) (fun e => n2 e.symm)), fun q hq hqn => hc.row (h.rowsW q hq (hql q hqn).1) (hz (.wt q) ⟨hq, (hql q hqn).1⟩ (by simp)), hc.hpr h.heap (hzz _ (by simp) (fun e => n3 e.symm)) (hz .hp trivial (by simp)), h.isH, hR, ⟨ak, ck, ek, hok⟩, fun g hg => (hrk.lt g hg).2, ?_⟩
  · rcases hX x hx with e | e
    · have := (h.far bI (by simp)).1; omega
    · have := own_base h.row x e; omega
  · have h1 : Sep [bA, bI, iB, bW, hB] (lvT pts l) (bkT vh vl' vo FW) := h.sep.upd h.lts h.zs .ls (fun s hs => by cases s <;> simp_all [bkT]) hat (fun _ h => h)
    refine h1.pop (k := k) ⟨hk, hkl⟩ (fun s hs => by cases s <;> simp_all [bkT]) rfl (fun s hs => ?_)
    cases s with
    | op => exact .inl rfl
    | hp => exact .inr ⟨trivial, by simp⟩
    | ls => exact .inr ⟨trivial, by simp⟩
    | wt q => exact .inr ⟨⟨hs.1, (hql q hs.2).1⟩, by simpa using (hql q hs.2).2⟩
end Go.Proofs.Ytdlcpnpmmmpccaa.Gn
