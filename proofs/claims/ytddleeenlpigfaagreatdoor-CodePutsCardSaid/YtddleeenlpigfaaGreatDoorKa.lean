/- PLAIN MATHEMATICS: a value's bytes, and how many they are. -/
import Derived.Test.YtddleeenlpigfaaGreatDoorY12
import Derived.Test.YtddleeenlpigfaaGreatDoorVe
namespace Go.Proofs.YtddleeenlpigfaaGreatDoor.Ec
open Go.RowKit
def b01 (b : Bool) : Nat := if b then 1 else 0
theorem b01_le (b : Bool) : b01 b ≤ 1 := by cases b <;> simp [b01]
/-- The number of a term's kind, and what stands beside it. -/
def hdN (x : Tm) : Nat := 8 * x.k.toNat + b01 x.m + 2 * b01 x.y + 4 * b01 x.o
def bF1 (g : List Tm → List UInt8) (f : ByteArray × List Tm) : List UInt8 := Vn.txt f.1 ++ g f.2
def bF (g : List Tm → List UInt8) (fs : List (ByteArray × List Tm)) : List UInt8 := Vn.nb fs.length ++ fs.flatMap (bF1 g)
def bB (g : List Tm → List UInt8) (x : Tm) : List UInt8 := if x.k = 1 ∨ x.k = 2 then Vn.nb (Vn.sgn x.lo) ++ Vn.nb (Vn.sgn x.hi) else if x.k = 3 then Vn.txt x.s else if x.k = 4 then bF g x.fs else []
def bT (g : List Tm → List UInt8) (x : Tm) : List UInt8 := Vn.nb (hdN x) ++ bB g x
/-- A value's bytes. -/
def bV : Nat → List Tm → List UInt8
  | 0, _ => []
  | n + 1, A => Vn.nb A.length ++ A.flatMap (bT (bV n))
def in64 (z : Int) : Prop := -9223372036854775808 ≤ z ∧ z ≤ 9223372036854775807
def FitF (g : List Tm → Prop) (fs : List (ByteArray × List Tm)) : Prop := fs.length ≤ 1000 ∧ ∀ f ∈ fs, f.1.size ≤ 1000 ∧ g f.2
def FitT (g : List Tm → Prop) (x : Tm) : Prop := 0 ≤ x.k ∧ x.k ≤ 5 ∧ (x.k = 1 ∨ x.k = 2 → in64 x.lo ∧ in64 x.hi) ∧ x.s.size ≤ 1000 ∧ (x.k = 4 → FitF g x.fs)
/-- What the writer asks of a value. -/
def FitV : Nat → List Tm → Prop
  | 0, _ => False
  | n + 1, A => A.length ≤ 1000 ∧ ∀ x ∈ A, FitT (FitV n) x
theorem wF_le {n : Nat} {fs : List (ByteArray × List Tm)} {f : ByteArray × List Tm} (h : f ∈ fs) : wN n f.2 ≤ wF n fs := by
  unfold wF
  induction fs with
  | nil => cases h
  | cons a l ih =>
    rcases List.mem_cons.1 h with rfl | h
    · simp
    · have := ih h; simp only [List.map_cons, List.sum_cons]; omega
theorem wN_in {n : Nat} {A : List Tm} {x : Tm} (h : x ∈ A) : 1 + wF n x.fs ≤ wN (n + 1) A := by
  induction A with
  | nil => cases h
  | cons a l ih =>
    rw [wN_cons]
    rcases List.mem_cons.1 h with rfl | h
    · omega
    · have := ih h; omega
theorem name_size {fs : List (ByteArray × List Tm)} (h : Nm.Ris (fs.map (·.1)) fs.length) {f : ByteArray × List Tm} (hf : f ∈ fs) : f.1.size ≤ 16 := by
  obtain ⟨i, hi, rfl⟩ := List.getElem_of_mem hf
  have h1 := (h i fs[i].1 (by rw [List.getElem?_map, List.getElem?_eq_getElem hi]; rfl) hi).1
  have h2 : fs[i].1.toList.length ≤ 16 := by
    unfold Nm.rightL at h1
    simp only [Bool.and_eq_true, decide_eq_true_eq] at h1
    omega
  rw [Nm.size_list]
  exact h2
theorem fit_rv : ∀ (n l : Nat) (A : List Tm), RV n l A → wN n A ≤ 512 → FitV n A
  | 0, _, _, h, _ => h.elim
  | n + 1, 0, _, h, _ => h.elim
  | n + 1, l + 1, A, h, hw => by
    refine ⟨?_, fun x hx => ?_⟩
    · have : A.length ≤ wN (n + 1) A := by simp only [wN]; omega
      omega
    · have h1 := h.1 x hx
      have hw2 := wN_in (n := n) hx
      unfold RT at h1
      split at h1
      · rename_i h5
        subst h1
        exact ⟨by decide, by decide, fun h => by rcases h with h | h <;> exact absurd h (by decide), by decide, fun h => absurd h (by decide)⟩
      · split at h1
        · rename_i h4
          obtain ⟨e1, e2, e3, _, _, hf, _⟩ := h1
          refine ⟨by omega, by omega, fun h => by omega, by rw [e3]; decide, fun _ => ⟨by have := hf.1; omega, fun f hf2 => ⟨by have := name_size hf.2.1 hf2; omega, ?_⟩⟩⟩
          exact fit_rv n l f.2 (hf.2.2 f hf2) (by have := wF_le (n := n) hf2; omega)
        · obtain ⟨_, _, _, h2⟩ := h1
          show FitT (FitV n) x
          unfold FitT in64
          rcases h2 with ⟨hk, hl, hh, hs, _⟩ | ⟨hk, hs, _, hl, hh, h6⟩ | ⟨hk, hs, _, hl, hh, h6⟩
          · exact ⟨by omega, by omega, fun h => by omega, by omega, fun h => by omega⟩
          · have : x.s.size = 0 := by rw [Nm.size_list, hs]; rfl
            exact ⟨by omega, by omega, fun _ => ⟨⟨by omega, by omega⟩, by omega, by omega⟩, by omega, fun h => by omega⟩
          · have : x.s.size = 0 := by rw [Nm.size_list, hs]; rfl
            exact ⟨by omega, by omega, fun _ => ⟨⟨by omega, by omega⟩, by omega, by omega⟩, by omega, fun h => by omega⟩
theorem nb_ten (m : Nat) (h : m < 18446744073709551616) : (Vn.nb m).length ≤ 10 := (Vn.nb_len m h).1
theorem nb_pos (m : Nat) : 0 < (Vn.nb m).length := by unfold Vn.nb; simp
theorem nb_ne (m : Nat) : Vn.nb m ≠ [] := fun h => by have := nb_pos m; rw [h] at this; simp at this
theorem txt_len (s : ByteArray) (h : s.size ≤ 1000) : (Vn.txt s).length ≤ 10 + s.size := by
  unfold Vn.txt
  rw [List.length_append]
  have := nb_ten s.size (by omega)
  have : s.data.toList.length = s.size := rfl
  omega
theorem txt_ne (s : ByteArray) : Vn.txt s ≠ [] := fun h => nb_ne s.size (List.append_eq_nil_iff.1 h).1
/-- A right value has no more bytes than so many. -/
theorem bV_len : ∀ (n l : Nat) (A : List Tm), RV n l A → wN n A ≤ 512 → (bV n A).length ≤ 10 + 1300 * wN n A
  | 0, _, _, h, _ => h.elim
  | n + 1, 0, _, h, _ => h.elim
  | n + 1, l + 1, A, h, hw => by
    have hA : A.length ≤ wN (n + 1) A := by simp only [wN]; omega
    have h0 := nb_ten A.length (by omega)
    show (Vn.nb A.length ++ A.flatMap (bT (bV n))).length ≤ _
    rw [List.length_append]
    suffices hs : ∀ (B : List Tm), (∀ x ∈ B, x ∈ A) → wN (n + 1) B ≤ 512 → (B.flatMap (bT (bV n))).length ≤ 1300 * wN (n + 1) B by
      have := hs A (fun _ h => h) hw
      omega
    intro B hB hwB
    induction B with
    | nil => simp
    | cons x B ih =>
      rw [wN_cons] at hwB ⊢
      have h3 := ih (fun y hy => hB y (by simp [hy])) (by omega)
      rw [List.flatMap_cons, List.length_append]
      have h1 := h.1 x (hB x (by simp))
      have hfit := (fit_rv (n + 1) (l + 1) A h hw).2 x (hB x (by simp))
      have hhd : hdN x < 18446744073709551616 := by
        unfold hdN
        have := b01_le x.m; have := b01_le x.y; have := b01_le x.o
        have := hfit.1; have := hfit.2.1
        omega
      have h4 := nb_ten _ hhd
      have h5 : (bB (bV n) x).length ≤ 1270 + 1300 * wF n x.fs := by
        unfold bB
        split
        · rename_i hk
          have := hfit.2.2.1 hk
          have e1 := nb_ten _ (Vn.sgn_lt this.1.1 this.1.2)
          have e2 := nb_ten _ (Vn.sgn_lt this.2.1 this.2.2)
          rw [List.length_append]
          omega
        · split
          · have := txt_len x.s hfit.2.2.2.1
            have := hfit.2.2.2.1
            omega
          · split
            · rename_i hk
              have hff := hfit.2.2.2.2 hk
              unfold RT at h1
              rw [if_neg (by omega), if_pos hk] at h1
              obtain ⟨_, _, _, _, _, hf, _⟩ := h1
              unfold bF
              rw [List.length_append]
              have e0 := nb_ten x.fs.length (by have := hff.1; omega)
              have key : ∀ (fs : List (ByteArray × List Tm)), (∀ f ∈ fs, f ∈ x.fs) → wF n fs ≤ 512 → (fs.flatMap (bF1 (bV n))).length ≤ 36 * fs.length + 1300 * wF n fs := by
                intro fs
                induction fs with
                | nil => intro _ _; simp [wF]
                | cons f fs ih2 =>
                  intro hm hw3
                  have ew : wF n (f :: fs) = wN n f.2 + wF n fs := by simp [wF]
                  rw [ew] at hw3 ⊢
                  have a1 := ih2 (fun g hg => hm g (by simp [hg])) (by omega)
                  have a2 := bV_len n l f.2 (hf.2.2 f (hm f (by simp))) (by omega)
                  have a3 := name_size hf.2.1 (hm f (by simp))
                  have a4 := txt_len f.1 (by omega)
                  rw [List.flatMap_cons, List.length_append]
                  unfold bF1 at a1 ⊢
                  rw [List.length_append, List.length_cons]
                  omega
              have hwf : wF n x.fs ≤ 512 := by omega
              have := key x.fs (fun _ h => h) hwf
              have := hf.1
              omega
            · simp
      have h6 : (bT (bV n) x).length = (Vn.nb (hdN x)).length + (bB (bV n) x).length := by unfold bT; rw [List.length_append]
      omega
theorem rg_fit {n : Nat} {A : List Tm} (h : RV n 16 A ∧ wN n A ≤ 512) : FitV n A ∧ (bV n A).length ≤ 700000 :=
  ⟨fit_rv n 16 A h.1 h.2, by have := bV_len n 16 A h.1 h.2; omega⟩
theorem flat_take {α β : Type} (g : α → List β) (A : List α) (k : Nat) (h : k < A.length) : (A.take (k + 1)).flatMap g = (A.take k).flatMap g ++ g A[k] := by
  rw [List.take_succ_eq_append_getElem h, List.flatMap_append]; simp
theorem flat_le {α β : Type} (g : α → List β) (A : List α) (k : Nat) : ((A.take k).flatMap g).length ≤ (A.flatMap g).length := by
  conv => rhs; rw [← List.take_append_drop k A]
  rw [List.flatMap_append, List.length_append]
  omega
end Go.Proofs.YtddleeenlpigfaaGreatDoor.Ec
