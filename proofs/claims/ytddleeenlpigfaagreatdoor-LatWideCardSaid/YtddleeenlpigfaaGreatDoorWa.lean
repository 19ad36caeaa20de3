/- PLAIN MATHEMATICS for LatWide: ranges that lie apart. -/
import Derived.Test.YtddleeenlpigfaaGreatDoorUa
namespace Go.Proofs.YtddleeenlpigfaaGreatDoor.Lw
open Go.RowKit
/-- A range. -/
def rg1 (a b : Int) : Tm := .mk 2 a b ⟨#[]⟩ false false false []
theorem k2 (a b : Int) : (rg1 a b).k = 2 := rfl
/-- k ranges from s to s, each d wide. -/
def iv (s d k : Nat) : List Tm := (List.range k).map fun (i : Nat) => rg1 ((s : Int) * (i : Int)) ((s : Int) * (i : Int) + (d : Int))
theorem iv_len (s d k : Nat) : (iv s d k).length = k := by simp [iv]
theorem iv_succ (s d k : Nat) : iv s d (k + 1) = iv s d k ++ [rg1 ((s : Int) * k) ((s : Int) * k + d)] := by simp [iv, List.range_succ]
theorem iv_mem {s d k : Nat} {x : Tm} (h : x ∈ iv s d k) : ∃ i, i < k ∧ x = rg1 ((s : Int) * i) ((s : Int) * i + d) := by
  obtain ⟨i, hi, rfl⟩ := List.mem_map.1 h
  exact ⟨i, by simpa using hi, rfl⟩
theorem sc_rg1 {a b : Int} (h0 : 0 ≤ a) (h1 : a ≤ b) (h2 : b ≤ 9007199254740992) : scR (rg1 a b) := by
  unfold scR RightP rg1
  refine ⟨rfl, rfl, (fun h => by cases h), .inr (.inr ⟨rfl, toList_nil, rfl, ?_, h1, h2⟩)⟩
  show (-9007199254740992 : Int) ≤ a
  omega
theorem cmp_rg1 (g : List Tm → List Tm → Int) {a b c d : Int} (h : a < c) : cmpT g (rg1 a b) (rg1 c d) < 0 := by
  have h1 : cmpI a c = -1 := by unfold cmpI; rw [if_pos h]
  have h2 : cmpI 2 2 = 0 := by decide
  show two (firstL [cmpI 2 2, cmpI a c, cmpI b d, cmpS ⟨#[]⟩ ⟨#[]⟩, cmpI (bitI false) (bitI false), cmpI (bitI false) (bitI false), cmpI (bitI false) (bitI false)]) _ < 0
  rw [h1, h2]
  simp [firstL, two]
theorem und_rg1 (g : List Tm → List Tm → Bool) {a b c d : Int} (h : b < c ∨ d < a) : undT g (rg1 a b) (rg1 c d) = false := by
  unfold undT
  rw [if_neg (show ¬ (rg1 c d).k = 5 by rw [k2]; decide), if_neg (show ¬ ((rg1 a b).k = 4 ∧ (rg1 c d).k = 4) by rw [k2]; rintro ⟨h, _⟩; exact absurd h (by decide))]
  unfold scB scM
  split
  · rfl
  · rename_i x hx
    split at hx
    · exfalso
      have : (rg1 a b).sc.meet (rg1 c d).sc = none := by
        unfold Sc.meet Tm.sc rg1 commonF
        show (if (2 : Int) = 2 then Option.map _ (if (2 : Int) = 3 then _ else if max a c ≤ min b d then _ else none) else none) = none
        rw [if_pos rfl, if_neg (by decide), if_neg (by omega)]
        rfl
      rw [this] at hx
      cases hx
    · cases hx
theorem iv_pair {R : Tm → Tm → Prop} {s d : Nat} (h : ∀ i j : Nat, i < j → R (rg1 ((s : Int) * i) ((s : Int) * i + d)) (rg1 ((s : Int) * j) ((s : Int) * j + d))) : ∀ k, (iv s d k).Pairwise R
  | 0 => by simp [iv]
  | k + 1 => by
    rw [iv_succ, List.pairwise_append]
    refine ⟨iv_pair h k, List.pairwise_singleton _ _, fun x hx y hy => ?_⟩
    obtain ⟨i, hi, rfl⟩ := iv_mem hx
    rw [List.mem_singleton.1 hy]
    exact h i k hi
theorem step_lt {s d i j : Nat} (hsd : d < s) (h : i < j) : (s : Int) * i + d < (s : Int) * j := by
  have h1 : (s : Int) * ((i : Int) + 1) ≤ (s : Int) * j := Int.mul_le_mul_of_nonneg_left (by omega) (by omega)
  rw [Int.mul_add] at h1
  omega
theorem top_le {s d i k : Nat} (hs : s ≤ 10) (hd : d ≤ 10) (hi : i < k) (hk : k ≤ 1000) : 0 ≤ (s : Int) * i ∧ (s : Int) * i + d ≤ 100000 := by
  have h1 : s * i ≤ 10 * 1000 := Nat.mul_le_mul hs (by omega)
  have h2 : ((s * i : Nat) : Int) = (s : Int) * i := by simp
  omega
theorem iv_rt {s d k : Nat} (hs : s ≤ 10) (hd : d ≤ 10) (hk : k ≤ 1000) (g : List Tm → Prop) : ∀ x ∈ iv s d k, RT g x := fun x hx => by
  obtain ⟨i, hi, rfl⟩ := iv_mem hx
  have := top_le hs hd hi hk
  unfold RT
  rw [if_neg (by rw [k2]; decide), if_neg (by rw [k2]; decide)]
  exact sc_rg1 (by omega) (by omega) (by omega)
theorem wN_flat : ∀ A : List Tm, (∀ x ∈ A, x.fs = []) → wN 1 A = A.length
  | [], _ => rfl
  | x :: A, h => by
    have e : wF 0 x.fs = 0 := by rw [h x (by simp)]; rfl
    have := wN_flat A (fun y hy => h y (by simp [hy]))
    have e2 : wN 1 (x :: A) = 1 + wF 0 x.fs + wN 1 A := wN_cons 0 x A
    rw [List.length_cons]
    omega
theorem iv_fs {s d k : Nat} : ∀ x ∈ iv s d k, x.fs = [] := fun x hx => by
  obtain ⟨i, _, rfl⟩ := iv_mem hx
  rfl
theorem iv_rv {s d k : Nat} (hsd : d < s) (hs : s ≤ 10) (hk : k ≤ 1000) : RV 1 16 (iv s d k) := by
  refine ⟨iv_rt hs (by omega) hk _, iv_pair (fun i j h => cmp_rg1 _ ?_) k, iv_pair (fun i j h => ⟨und_rg1 _ (.inl (step_lt hsd h)), und_rg1 _ (.inr (step_lt hsd h))⟩) k⟩
  have := step_lt hsd h
  omega
theorem iv_rg {s d k : Nat} (hsd : d < s) (hs : s ≤ 10) (hk : k ≤ 512) : RG 1 (iv s d k) := ⟨iv_rv hsd hs (by omega), by rw [wN_flat _ iv_fs, iv_len]; exact hk⟩
theorem iv_gr {s d k : Nat} (hs : s ≤ 10) (hd : d ≤ 10) (hk : k ≤ 1000) : ∀ x ∈ iv s d k, Gr1 0 x := iv_rt hs hd hk (RG 0)
theorem iv_nm {s d k : Nat} : NmV 1 (iv s d k) := fun x hx f hf => by rw [iv_fs x hx] at hf; cases hf
theorem iv_ln {s d k : Nat} (hk : k ≤ 1000) : LnV 1 (iv s d k) := ⟨by rw [iv_len]; omega, fun x hx f hf => by rw [iv_fs x hx] at hf; cases hf⟩
theorem flat_dt {n : Nat} {x : Tm} (h : x.fs = []) : Dt n x := fun f hf => by rw [h] at hf; cases hf
/-- What comes of them: they themselves. -/
theorem iv_made {s d k : Nat} (hsd : d < s) (hs : s ≤ 10) (hk : k ≤ 512) : madeV 0 (iv s d k) = (0, iv s d k) := by
  have h := iv_rg hsd hs hk
  unfold madeV
  have hd : (iv s d k).any (tooDeep 0) = false := by
    rw [List.any_eq_false]
    intro x hx
    obtain ⟨i, _, rfl⟩ := iv_mem hx
    have : tooDeep 0 (rg1 ((s : Int) * i) ((s : Int) * i + d)) = false := by
      unfold tooDeep
      have e : depV 1 [rg1 ((s : Int) * i) ((s : Int) * i + d)] = 1 := by
        show wrap64 (1 + 0) = 1
        unfold wrap64
        omega
      rw [e]; decide
    rw [this]; decide
  have hn : normV 0 (iv s d k) = iv s d k := ((rv_iff (n := 0) (l := 15) (fun x hx => flat_dt (iv_fs x hx))).1 h.1).2
  rw [if_neg (by rw [hd]; decide)]
  unfold nrm
  rw [hn, if_neg (show ¬ 512 < wN 1 (iv s d k) by have := h.2; omega)]
theorem acc_flat {A : List (Tm × Tm)} (h : ∀ p ∈ A, p.1.k = 2 ∧ p.2.k = 2) : (accL (comT (meetV 0)) A).1 = 0 ∧ (accL (comT (meetV 0)) A).2.length ≤ A.length ∧ ∀ x ∈ (accL (comT (meetV 0)) A).2, x.fs = [] := by
  induction A with
  | nil => exact ⟨rfl, Nat.le_refl _, fun x hx => by cases hx⟩
  | cons p A ih =>
    obtain ⟨h1, h2, h3⟩ := ih fun q hq => h q (by simp [hq])
    obtain ⟨k1, k2⟩ := h p (by simp)
    have hc : (comT (meetV 0) p.1 p.2).1 = 0 ∧ (comT (meetV 0) p.1 p.2).2.length ≤ 1 ∧ ∀ x ∈ (comT (meetV 0) p.1 p.2).2, x.fs = [] := by
      unfold comT
      rw [if_neg (by omega), if_neg (by omega), if_neg (by omega)]
      split
      · exact ⟨rfl, by simp, fun x hx => by cases hx⟩
      · exact ⟨rfl, by simp, fun x hx => by rw [List.mem_singleton.1 hx]; rfl⟩
    unfold accL
    rw [if_neg (by rw [hc.1]; decide), if_neg (by rw [h1]; decide)]
    refine ⟨rfl, ?_, fun x hx => ?_⟩
    · show ((comT (meetV 0) p.1 p.2).2 ++ (accL (comT (meetV 0)) A).2).length ≤ _
      rw [List.length_append, List.length_cons]
      have := hc.2.1
      omega
    · rcases List.mem_append.1 hx with hx | hx
      · exact hc.2.2 x hx
      · exact h3 x hx
theorem prs_len (A B : List Tm) : (prs A B).length = A.length * B.length := by
  unfold prs
  induction A with
  | nil => simp
  | cons a A ih => rw [List.flatMap_cons, List.length_append, ih, List.length_map, List.length_cons, Nat.succ_mul]; omega
/-- Too wide just if there are too many pairs. -/
theorem meet_wide {A B : List Tm} (hA : ∀ x ∈ A, x.k = 2) (hB : ∀ x ∈ B, x.k = 2) : (meetV 1 A B).1 = if 512 < A.length * B.length then 30 else 0 := by
  rw [meetV]
  split
  · rfl
  · rename_i hl
    have hp : ∀ p ∈ prs A B, p.1.k = 2 ∧ p.2.k = 2 := fun p hp => by
      unfold prs at hp
      obtain ⟨a, ha, hb⟩ := List.mem_flatMap.1 hp
      obtain ⟨b, hb2, rfl⟩ := List.mem_map.1 hb
      exact ⟨hA a ha, hB b hb2⟩
    obtain ⟨h1, h2, h3⟩ := acc_flat hp
    rw [if_neg (by rw [h1]; decide)]
    rw [prs_len] at h2
    unfold nrm
    have hw := norm_w (n := 0) (L := (accL (comT (meetV 0)) (prs A B)).2) (fun x hx => flat_dt (h3 x hx))
    rw [wN_flat _ h3] at hw
    rw [if_neg (by omega)]
theorem iv_k {s d k : Nat} : ∀ x ∈ iv s d k, x.k = 2 := fun x hx => by
  obtain ⟨i, _, rfl⟩ := iv_mem hx
  rfl
theorem meetR_wide {n m : Nat} (hn : n ≤ 512) (hm : m ≤ 512) : (meetR 1 (iv 3 1 n) (iv 5 3 m)).1 = if 512 < n * m then 30 else 0 := by
  unfold meetR
  rw [if_pos (by rw [rgV_yes.2 (iv_rg (by omega) (by omega) hn), rgV_yes.2 (iv_rg (by omega) (by omega) hm)]; rfl)]
  have := meet_wide (iv_k (s := 3) (d := 1) (k := n)) (iv_k (s := 5) (d := 3) (k := m))
  rw [iv_len, iv_len] at this
  exact this
end Go.Proofs.YtddleeenlpigfaaGreatDoor.Lw
