/- What the reference's put, Norm stand on; like. -/
import Derived.Test.YtddleeenlpigfaaGreatDoorUa
import Derived.Lib.AppendZeros
namespace Go.Proofs.YtddleeenlpigfaaGreatDoor
open Go.RowKit
/-- Between two rounds of put. -/
def PutI (f : Tm → Tm → Int) (t : Tm) (A : List Tm) (k : Nat) (b : Bool) (O : List Tm) : Prop :=
  (b = true → putL f t A = O ++ A.drop k ∧ ∀ x ∈ A.drop k, f t x < 0) ∧ (b = false → O = A.take k ∧ putL f t A = O ++ putL f t (A.drop k))
theorem putI_zero {f : Tm → Tm → Int} {t : Tm} {A : List Tm} : PutI f t A 0 false [] := ⟨fun h => absurd h (by decide), fun _ => ⟨rfl, rfl⟩⟩
theorem putI_same {f : Tm → Tm → Int} {t : Tm} {A : List Tm} {k : Nat} {b : Bool} {O : List Tm} (h : PutI f t A k b O) (hk : k < A.length) (h0 : f t A[k] = 0) : putL f t A = A := by
  have hd : A.drop k = A[k] :: A.drop (k + 1) := List.drop_eq_getElem_cons hk
  cases b with
  | true => have := (h.1 rfl).2 A[k] (by rw [hd]; exact List.mem_cons_self); omega
  | false =>
    obtain ⟨e, h2⟩ := h.2 rfl
    rw [h2, hd, putL, if_pos h0, ← hd, e, List.take_append_drop]
theorem putI_first {f : Tm → Tm → Int} (hf : Cmp f) {t : Tm} {A : List Tm} {k : Nat} {O : List Tm} (hU : Ups f A) (h : PutI f t A k false O) (hk : k < A.length) (h0 : f t A[k] < 0) : PutI f t A (k + 1) true (O ++ [t] ++ [A[k]]) := by
  have hd : A.drop k = A[k] :: A.drop (k + 1) := List.drop_eq_getElem_cons hk
  obtain ⟨e, h2⟩ := h.2 rfl
  have hu : Ups f (A.drop k) := List.Pairwise.sublist (List.drop_sublist k A) hU
  rw [hd] at hu
  have hu' := (List.pairwise_cons.1 hu).1
  refine ⟨fun _ => ⟨?_, fun x hx => ?_⟩, fun h => absurd h (by decide)⟩
  · rw [h2, hd, putL, if_neg (by omega), if_pos h0]; simp
  · have h1 := hu' x hx
    have tr := hf.trans t A[k] x (by omega) (by omega)
    have h3 := tr.1
    by_cases e0 : f t x = 0
    · have := (tr.2 e0).1; omega
    · omega
theorem putI_in {f : Tm → Tm → Int} {t : Tm} {A : List Tm} {k : Nat} {O : List Tm} (h : PutI f t A k true O) (hk : k < A.length) : PutI f t A (k + 1) true (O ++ [A[k]]) := by
  have hd : A.drop k = A[k] :: A.drop (k + 1) := List.drop_eq_getElem_cons hk
  obtain ⟨e, h2⟩ := h.1 rfl
  exact ⟨fun _ => ⟨by rw [e, hd]; simp, fun x hx => h2 x (by rw [hd]; exact List.mem_cons_of_mem _ hx)⟩, fun h => absurd h (by decide)⟩
theorem putI_out {f : Tm → Tm → Int} {t : Tm} {A : List Tm} {k : Nat} {O : List Tm} (h : PutI f t A k false O) (hk : k < A.length) (h0 : 0 < f t A[k]) : PutI f t A (k + 1) false (O ++ [A[k]]) := by
  have hd : A.drop k = A[k] :: A.drop (k + 1) := List.drop_eq_getElem_cons hk
  obtain ⟨e, h2⟩ := h.2 rfl
  exact ⟨fun h => absurd h (by decide), fun _ => ⟨by rw [e, List.take_succ_eq_append_getElem hk], by rw [h2, hd, putL, if_neg (by omega), if_neg (by omega)]; simp⟩⟩
theorem putI_end {f : Tm → Tm → Int} {t : Tm} {A : List Tm} {k : Nat} {b : Bool} {O : List Tm} (h : PutI f t A k b O) (hk : k = A.length) : putL f t A = if b then O else O ++ [t] := by
  subst hk
  cases b with
  | true => have := (h.1 rfl).1; rw [List.drop_length, List.append_nil] at this; exact this
  | false => have := (h.2 rfl).2; rw [List.drop_length] at this; exact this
def PutP (n : Nat) (B : List Tm) (w : World) (e : Ending) (w' : World) : Prop :=
  ∃ (t : Option Addr) (tl tc : Nat), e = .returned (.slice t tl tc) ∧ Below w.heap.size w w' ∧ InV w' (n + 1) t tl tc B
theorem tm_eta (x : Tm) : Tm.mk x.k x.lo x.hi x.s x.y x.m x.o x.fs = x := by cases x; rfl
theorem tms_call (n : Nat) (h1 h2 : Hr) (W : World) (k1 : h1.ok n W) (k2 : h2.ok n W) : Calls Tryz.prog 40 #[h1.v, h2.v] W (CmpPost (cmpT (cmpV n) h1.x h2.x) W) := by
  have h := rterms_in n (rcompare_in n) W h1.x.k h1.x.lo h1.x.hi h1.x.s h1.x.y h1.x.m h1.x.o h1.f h1.fl h1.fc h1.x.fs h2.x.k h2.x.lo h2.x.hi h2.x.s h2.x.y h2.x.m h2.x.o h2.f h2.fl h2.fc h2.x.fs k1 k2
  rw [tm_eta, tm_eta] at h
  exact h
theorem len_snoc (O : List Hr) (h : Hr) : (O ++ [h]).length = O.length + 1 := List.length_append ..
theorem T8.box0 (w : World) (h : Hr) (t : TypeId) : T8 (w.alloc (.cells #[.int .i64 h.x.k, .int .i64 h.x.lo, .int .i64 h.x.hi, .string h.x.s, .bool h.x.y, .bool h.x.m, .bool h.x.o, .slice h.f h.fl h.fc] t)) w.heap.size 0 h :=
  ⟨by simp [go_sem], by simp [go_sem], by simp [go_sem], by simp [go_sem], by simp [go_sem], by simp [go_sem], by simp [go_sem], by simp [go_sem]⟩
theorem putL_len {f : Tm → Tm → Int} {t : Tm} : ∀ {l : List Tm}, (putL f t l).length ≤ l.length + 1
  | [] => by simp [putL]
  | x :: l => by
    unfold putL
    split
    · simp
    · split
      · simp
      · have := putL_len (f := f) (t := t) (l := l); simp only [List.length_cons]; omega
theorem foldP_len {f : Tm → Tm → Int} : ∀ {l acc : List Tm}, (l.foldl (fun acc t => putL f t acc) acc).length ≤ acc.length + l.length
  | [], acc => by simp
  | x :: l, acc => by
    rw [List.foldl_cons]
    have h1 := foldP_len (f := f) (l := l) (acc := putL f x acc)
    have h2 := putL_len (f := f) (t := x) (l := acc)
    simp only [List.length_cons]; omega
theorem someL_len {f : Tm → Tm → Int} {l : List Tm} : (someL f l).length ≤ l.length := by
  have h := foldP_len (f := f) (l := l) (acc := []); rw [List.length_nil, Nat.zero_add] at h; exact h
theorem someL_snoc {f : Tm → Tm → Int} {l : List Tm} {k : Nat} (hk : k < l.length) : someL f (l.take (k + 1)) = putL f l[k] (someL f (l.take k)) := by
  unfold someL
  rw [List.take_succ_eq_append_getElem hk, List.foldl_append]; rfl
/-- A slice's box, its block told. -/
def Bb' (w : World) (N : Nat) (t : Option Addr) (tl tc : Nat) : Prop := w.heap[N]? = some (.cells #[.slice t tl tc] 24)
theorem Bb'.later {w w' : World} {N : Nat} {t : Option Addr} {tl tc : Nat} (h : Bb' w N t tl tc) (hb : Below w.heap.size w w') : Bb' w' N t tl tc := (hb.block N (Array.getElem?_eq_some_iff.1 h).1).trans h
theorem Bb'.new (w : World) (t : Option Addr) (tl tc : Nat) : Bb' (w.alloc (.cells #[.slice t tl tc] 24)) w.heap.size t tl tc := by show (w.heap.push _)[w.heap.size]? = _; simp
theorem InV.set {w : World} {N : Nat} {a : Option Addr} {l c : Nat} (h : Bb' w N a l c) (v : Value) {n : Nat} {t : Option Addr} {tl tc : Nat} {V : List Tm} (hV : InV w n t tl tc V) : InV (w.setCell ⟨N, 0, none⟩ v) n t tl tc V :=
  InV.but (w' := w.setCell ⟨N, 0, none⟩ v) (by rw [set_size]; exact Nat.le_refl _) (fun b hb => Below.heap_setCell _ _ _ _ hb) h hV
/-- Is the k-th below one of the first j others? -/
def OvI (n : Nat) (d : List Hr) (k j : Nat) (b : Bool) : Prop :=
  if h : k < d.length then (b = true → ∃ q, ∃ hq : q < d.length, q ≠ k ∧ undT (undV n) d[k].x d[q].x = true) ∧ (b = false → ∀ q (hq : q < d.length), q < j → q ≠ k → undT (undV n) d[k].x d[q].x = false) else False
set_option maxRecDepth 100000 in
set_option maxHeartbeats 4000000 in
theorem like_same (n : Nat) (w : World) (t : Option Addr) (tl tc : Nat) (t2 : Option Addr) (tl2 tc2 : Nat) (A : List Tm) (er : Int) (h1 : InV w n t tl tc A) (h2 : InV w n t2 tl2 tc2 A) : Calls Tryz.prog 25 #[.agg #[.slice t tl tc], .int .i64 er, .agg #[.slice t2 tl2 tc2], .int .i64 er] w (LackP true w) := by
  have HS : Hid (∀ W, Below w.heap.size w W → Calls Tryz.prog 17 #[.agg #[.slice t tl tc], .agg #[.slice t2 tl2 tc2]] W (LackP true W)) := Lib.hid fun W hW => by
    have h := rsame_in n W t tl tc A t2 tl2 tc2 A (InV.below hW h1) (InV.below hW h2)
    rw [show (cmpV n A A == 0) = true by rw [(cmpV_cmp n).refl]; rfl] at h
    exact h
  clear h1 h2
  go_enter Tryz.func25, Tryz.ntmps25
  go_wp2_with (go_at_call 17; refine (HS.out _ (bl_alloc (bl_alloc (Below.refl _ _)))).mono ?_; rintro e w1 ⟨rfl, hb⟩; have HB := Lib.hid (bl_step (bl_alloc (bl_alloc (Below.refl w.heap.size w))) hb); clear hb)
  go_ret
  exact ⟨rfl, HB.out⟩
end Go.Proofs.YtddleeenlpigfaaGreatDoor
