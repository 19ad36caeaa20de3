/- Ma, Mb, Mc, Md -/
import Derived.Test.YtddleeenlpigfaaGreatDoorY18
/- PLAIN MATHEMATICS of values: below is an order; what is in both. -/
namespace Go.Proofs.YtddleeenlpigfaaGreatDoor
theorem RT.imp {g h : List Tm → Prop} (gh : ∀ V, g V → h V) {x : Tm} (r : RT g x) : RT h x := by
  unfold RT at *
  split
  · rename_i h5; rw [if_pos h5] at r; exact r
  · rename_i h5
    rw [if_neg h5] at r
    split
    · rename_i h4
      rw [if_pos h4] at r
      obtain ⟨a, b, c, d, e, ⟨f1, f2, f3⟩, g'⟩ := r
      exact ⟨a, b, c, d, e, ⟨f1, f2, fun f hf => gh _ (f3 f hf)⟩, g'⟩
    · rename_i h4; rw [if_neg h4] at r; exact r
theorem RV.up : ∀ {n l : Nat} {A : List Tm}, RV n l A → RV n (l + 1) A
  | 0, _, _, h => by unfold RV at h; exact h.elim
  | n + 1, 0, _, h => by unfold RV at h; exact h.elim
  | n + 1, l + 1, A, h => ⟨fun x hx => (h.1 x hx).imp fun _ => RV.up, h.2⟩
theorem RV.le {n l m : Nat} (hlm : l ≤ m) {A : List Tm} (h : RV n l A) : RV n m A := by
  induction m with
  | zero => obtain rfl : l = 0 := by omega
            exact h
  | succ m ih =>
    by_cases e : l = m + 1
    · subst e; exact h
    · exact (ih (by omega)).up
/-- A right term of a value so deep. -/
abbrev Gt (n l : Nat) (x : Tm) : Prop := RT (RV n l) x
theorem Gt.le {n l m : Nat} (hlm : l ≤ m) {x : Tm} (h : Gt n l x) : Gt n m x := h.imp fun _ h => h.le hlm
theorem gt_five {n l : Nat} {x : Tm} (h : Gt n l x) (h5 : x.k = 5) : x = anyT5 := by unfold Gt RT at h; rw [if_pos h5] at h; exact h
theorem gt_four {n l : Nat} {x : Tm} (h : Gt n l x) (h4 : x.k = 4) : x = .mk 4 0 0 ⟨#[]⟩ false false x.o x.fs ∧ RF (RV n l) x.fs ∧ ∀ f ∈ x.fs, f.2 ≠ [] := by
  unfold Gt RT at h
  rw [if_neg (by omega), if_pos h4] at h
  obtain ⟨a, b, c, d, e, hf, g⟩ := h
  obtain ⟨k, lo, hi, s, y, m, o, fs⟩ := x
  simp only [Tm.k, Tm.lo, Tm.hi, Tm.s, Tm.y, Tm.m] at h4 a b c d e
  subst h4 a b c d e
  exact ⟨rfl, hf, g⟩
theorem gt_sc {n l : Nat} {x : Tm} (h : Gt n l x) (h4 : x.k ≠ 4) (h5 : x.k ≠ 5) : scR x := by unfold Gt RT at h; rw [if_neg h5, if_neg h4] at h; exact h
/-- A term of whatever kind. -/
theorem gt_kind {n l : Nat} {x : Tm} (h : Gt n l x) : x.k = 5 ∨ x.k = 4 ∨ (scR x ∧ x.k ≠ 4 ∧ x.k ≠ 5) := by
  by_cases h5 : x.k = 5
  · exact .inl h5
  · by_cases h4 : x.k = 4
    · exact .inr (.inl h4)
    · exact .inr (.inr ⟨gt_sc h h4 h5, h4, h5⟩)
/-- Is a term in a value: is it below one of its terms? -/
def inV (n : Nat) (A : List Tm) (x : Tm) : Prop := ∃ b ∈ A, undT (undV n) x b = true
end Go.Proofs.YtddleeenlpigfaaGreatDoor
/- PLAIN MATHEMATICS of values: what two structs have in common; the meet of two values. -/
namespace Go.Proofs.YtddleeenlpigfaaGreatDoor
abbrev Fd := ByteArray × List Tm
/-- A field among others that rise. -/
def insF (f : Fd) : List Fd → List Fd
  | [] => [f]
  | x :: l => if Op.bytesLess f.1.toList x.1.toList = true then f :: x :: l else x :: insF f l
/-- The fields of the one, and those of the other that it lacks, as they rise. -/
def uni (fs gs : List Fd) : List Fd := (gs.filter fun g => (findF fs g.1).isNone).foldr insF fs
/-- One field of what is in common. -/
def cm1 (g : List Tm → List Tm → Int × List Tm) (fs gs : List Fd) (f : Fd) : Int × Option Fd :=
  match findF fs f.1, findF gs f.1 with
  | some V, some W => if (g V W).1 = 0 ∧ (g V W).2 ≠ [] then (0, some (f.1, (g V W).2)) else ((g V W).1, none)
  | _, _ => (0, some f)
def cmL (g : List Tm → List Tm → Int × List Tm) (fs gs : List Fd) : List Fd → Int × Option (List Fd)
  | [] => (0, some [])
  | f :: l => match (cm1 g fs gs f).2 with
    | none => ((cm1 g fs gs f).1, none)
    | some f' => ((cmL g fs gs l).1, ((cmL g fs gs l).2).map (f' :: ·))
theorem cmL_ok {g : List Tm → List Tm → Int × List Tm} {fs gs : List Fd} : ∀ {l l' : List Fd}, l'.length = l.length → (∀ j (h : j < l.length) (h' : j < l'.length), cm1 g fs gs l[j] = (0, some l'[j])) → cmL g fs gs l = (0, some l')
  | [], [], _, _ => rfl
  | [], _ :: _, h, _ => by simp at h
  | _ :: _, [], h, _ => by simp at h
  | f :: l, f' :: l', h, hh => by
    have h0 := hh 0 (by simp) (by simp)
    simp only [List.getElem_cons_zero] at h0
    have ih := cmL_ok (l := l) (l' := l') (by simpa using h) (fun j h1 h2 => hh (j + 1) (by simpa using h1) (by simpa using h2))
    simp only [cmL, h0, ih, Option.map_some]
def comS (g : List Tm → List Tm → Int × List Tm) (s t : Tm) : Int × List Tm :=
  if ((!s.o && lacksF s.fs t.fs) || (!t.o && lacksF t.fs s.fs)) = true then (0, [])
  else match cmL g s.fs t.fs (uni s.fs t.fs) with
    | (e, none) => (e, [])
    | (_, some l) => if 32 < l.length then (30, []) else (0, [.mk 4 0 0 ⟨#[]⟩ false false (s.o && t.o) l])
def Sc.tm (c : Sc) : Tm := .mk c.k c.lo c.hi c.s c.y c.m false []
def comT (g : List Tm → List Tm → Int × List Tm) (s t : Tm) : Int × List Tm :=
  if s.k = 5 then (0, [t]) else if t.k = 5 then (0, [s]) else if s.k = 4 ∧ t.k = 4 then comS g s t else
  match scM s t with | none => (0, []) | some c => (0, [c.tm])
def accL (c : Tm → Tm → Int × List Tm) : List (Tm × Tm) → Int × List Tm
  | [] => (0, [])
  | p :: l => if (c p.1 p.2).1 ≠ 0 then ((c p.1 p.2).1, []) else if (accL c l).1 ≠ 0 then ((accL c l).1, []) else (0, (c p.1 p.2).2 ++ (accL c l).2)
def nrm (n : Nat) (L : List Tm) : Int × List Tm := if 512 < wN (n + 1) (normV n L) then (30, []) else (0, normV n L)
def prs (A B : List Tm) : List (Tm × Tm) := A.flatMap fun a => B.map fun b => (a, b)
def meetV : Nat → List Tm → List Tm → Int × List Tm
  | 0, _, _ => (0, [])
  | n + 1, A, B => if 512 < A.length * B.length then (30, []) else if (accL (comT (meetV n)) (prs A B)).1 ≠ 0 then ((accL (comT (meetV n)) (prs A B)).1, []) else nrm n (accL (comT (meetV n)) (prs A B)).2
end Go.Proofs.YtddleeenlpigfaaGreatDoor
/- PLAIN MATHEMATICS of values: the meet is right, and has just what both have. -/
namespace Go.Proofs.YtddleeenlpigfaaGreatDoor
theorem gt_flat {n l : Nat} {x : Tm} (h : Gt n l x) (h4 : x.k ≠ 4) : x.fs = [] := by
  rcases gt_kind h with h5 | h4' | ⟨hs, _, _⟩
  · rw [gt_five h h5]; rfl
  · exact absurd h4' h4
  · exact (sc_flat hs).2
theorem gt_f {n l : Nat} {x : Tm} (h : Gt n l x) {f : Fd} (hf : f ∈ x.fs) : x.k = 4 ∧ RV n l f.2 ∧ f.2 ≠ [] := by
  by_cases h4 : x.k = 4
  · obtain ⟨_, h1, h2⟩ := gt_four h h4
    exact ⟨h4, h1.2.2 f hf, h2 f hf⟩
  · rw [gt_flat h h4] at hf; simp at hf
theorem rv_dv : ∀ {n l : Nat} {A : List Tm}, RV n l A → Dv n A
  | 0, _, _, h => by unfold RV at h; exact h.elim
  | n + 1, 0, _, h => by unfold RV at h; exact h.elim
  | n + 1, l + 1, A, h => fun x hx _ hf => rv_dv (gt_f (h.1 x hx) hf).2.1
open Nm in
theorem ris_names {fs : List Fd} (h : Ris (fs.map (·.1)) fs.length) : ∀ f ∈ fs, rightL f.1.toList = true := fun f hf => by
  obtain ⟨i, hi, rfl⟩ := List.getElem_of_mem hf
  exact (h i fs[i].1 (by simp [hi]) hi).1
/-- What of a meet of values is known one level down. -/
structure Good (n l : Nat) (g : List Tm → List Tm → Int × List Tm) : Prop where
  err : ∀ {V W : List Tm}, RV n l V → RV n l W → (g V W).1 = 0 ∨ ((g V W).1 = 30 ∧ (g V W).2 = [])
  rv : ∀ {V W : List Tm}, RV n l V → RV n l W → (g V W).1 = 0 → RV n l (g V W).2
  glb : ∀ {V W X : List Tm}, RV n l V → RV n l W → RV n l X → (g V W).1 = 0 → (undV n X (g V W).2 = true ↔ undV n X V = true ∧ undV n X W = true)
section
variable {n l : Nat} {g : List Tm → List Tm → Int × List Tm} {s t : Tm} {L' : List Fd}
end
end Go.Proofs.YtddleeenlpigfaaGreatDoor
/- PLAIN MATHEMATICS of values: meets and joins. -/
namespace Go.Proofs.YtddleeenlpigfaaGreatDoor
section
variable {n l : Nat} {g : List Tm → List Tm → Int × List Tm} {s t : Tm}
end
end Go.Proofs.YtddleeenlpigfaaGreatDoor
