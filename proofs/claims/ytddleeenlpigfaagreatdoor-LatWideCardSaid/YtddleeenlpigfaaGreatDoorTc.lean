/- The least name above another one; WALK of the reference's first. -/
import Derived.Test.YtddleeenlpigfaaGreatDoorUa
namespace Go.Proofs.YtddleeenlpigfaaGreatDoor
open Go.RowKit
abbrev lsN (a b : ByteArray) : Bool := Op.bytesLess a.toList b.toList
def stN (last nm out : ByteArray) : ByteArray := if (lsN last nm && (out.toList.isEmpty || lsN nm out)) = true then nm else out
def foN (last : ByteArray) (fs : List Fd) (out : ByteArray) : ByteArray := fs.foldl (fun o f => stN last f.1 o) out
def firstN (fs gs : List Fd) (last : ByteArray) : ByteArray := foN last gs (foN last fs ⟨#[]⟩)
/-- The least of some names above another one; an empty one, if there is none. -/
def LeaN (last : ByteArray) (P : List ByteArray) (r : ByteArray) : Prop :=
  (r = ⟨#[]⟩ ∧ ∀ x ∈ P, lsN last x = false) ∨ (r ∈ P ∧ r.toList ≠ [] ∧ lsN last r = true ∧ ∀ x ∈ P, lsN last x = true → lsN x r = false)
theorem emp_list : ByteArray.toList ⟨#[]⟩ = [] := by rw [Lib.toList_data]
theorem less_some {a b : List UInt8} (h : Op.bytesLess a b = true) : b ≠ [] := by
  rintro rfl
  cases a <;> simp [Op.bytesLess] at h
theorem lea_step {last : ByteArray} {P : List ByteArray} {r nm : ByteArray} (h : LeaN last P r) : LeaN last (P ++ [nm]) (stN last nm r) := by
  unfold stN
  by_cases h1 : lsN last nm = true
  · rcases h with ⟨rfl, h2⟩ | ⟨h2, h3, h4, h5⟩
    · rw [h1, if_pos (by rw [show ByteArray.toList ⟨#[]⟩ = [] from emp_list]; rfl)]
      refine .inr ⟨by simp, less_some h1, h1, fun x hx hl => ?_⟩
      rcases List.mem_append.1 hx with hx | hx
      · rw [h2 x hx] at hl; exact absurd hl (by decide)
      · rw [List.mem_singleton.1 hx]; exact less_irrefl _
    · have he : r.toList.isEmpty = false := by simpa using h3
      rw [h1, he]
      by_cases h6 : lsN nm r = true
      · rw [h6, if_pos (by rfl)]
        refine .inr ⟨by simp, less_some h1, h1, fun x hx hl => ?_⟩
        rcases List.mem_append.1 hx with hx | hx
        · by_cases h7 : lsN x nm = true
          · have h8 := lt_trans3 h7 h6
            have h9 := h5 x hx hl
            exact absurd (h8.symm.trans h9) (by decide)
          · simpa using h7
        · rw [List.mem_singleton.1 hx]; exact less_irrefl _
      · have h6' : lsN nm r = false := by simpa using h6
        rw [h6', if_neg (by decide)]
        refine .inr ⟨by simp [h2], h3, h4, fun x hx hl => ?_⟩
        rcases List.mem_append.1 hx with hx | hx
        · exact h5 x hx hl
        · rw [List.mem_singleton.1 hx]; exact h6'
  · have h1' : lsN last nm = false := by simpa using h1
    rw [h1', if_neg (by simp)]
    rcases h with ⟨rfl, h2⟩ | ⟨h2, h3, h4, h5⟩
    · refine .inl ⟨rfl, fun x hx => ?_⟩
      rcases List.mem_append.1 hx with hx | hx
      · exact h2 x hx
      · rw [List.mem_singleton.1 hx]; exact h1'
    · refine .inr ⟨by simp [h2], h3, h4, fun x hx hl => ?_⟩
      rcases List.mem_append.1 hx with hx | hx
      · exact h5 x hx hl
      · rw [List.mem_singleton.1 hx, h1'] at hl; exact absurd hl (by decide)
theorem lea_fold {last : ByteArray} : ∀ {fs : List Fd} {P : List ByteArray} {r : ByteArray}, LeaN last P r → LeaN last (P ++ fs.map (·.1)) (foN last fs r)
  | [], P, r, h => by simpa [foN] using h
  | f :: fs, P, r, h => by
    have := lea_fold (fs := fs) (lea_step (nm := f.1) h)
    rw [List.append_assoc] at this
    exact this
theorem lea_first (fs gs : List Fd) (last : ByteArray) : LeaN last (fs.map (·.1) ++ gs.map (·.1)) (firstN fs gs last) := by
  have h0 : LeaN last [] ⟨#[]⟩ := .inl ⟨rfl, fun _ h => absurd h (by simp)⟩
  have := lea_fold (fs := gs) (lea_fold (fs := fs) h0)
  simpa [firstN] using this
def nmAt (U : List Fd) (j : Nat) : ByteArray := if h : j < U.length then U[j].1 else ⟨#[]⟩
theorem up_at {U : List Fd} (h : Up U) {i j : Nat} (hi : i < U.length) (hj : j < U.length) (hij : i < j) : lsN U[i].1 U[j].1 = true := List.pairwise_iff_getElem.1 h i j hi hj hij
theorem lea_zero {U : List Fd} (hU : Up U) (hn : ∀ f ∈ U, f.1.toList ≠ []) {P : List ByteArray} (hP : ∀ x, x ∈ P ↔ ∃ f ∈ U, f.1 = x) {r : ByteArray} (h : LeaN ⟨#[]⟩ P r) : r = nmAt U 0 := by
  have hless : ∀ f ∈ U, lsN ⟨#[]⟩ f.1 = true := fun f hf => by
    have h0 := hn f hf
    show Op.bytesLess (ByteArray.toList ⟨#[]⟩) f.1.toList = true
    rw [show ByteArray.toList ⟨#[]⟩ = [] from emp_list]
    cases e : f.1.toList with
    | nil => exact absurd e h0
    | cons a l => rfl
  unfold nmAt
  split
  · rename_i h0
    rcases h with ⟨rfl, h2⟩ | ⟨h2, h3, h4, h5⟩
    · have := h2 _ ((hP _).2 ⟨_, List.getElem_mem h0, rfl⟩)
      rw [hless _ (List.getElem_mem h0)] at this; exact absurd this (by decide)
    · obtain ⟨f, hf, rfl⟩ := (hP _).1 h2
      obtain ⟨i, hi, rfl⟩ := List.getElem_of_mem hf
      by_cases e : i = 0
      · subst e; rfl
      · have h6 := up_at hU h0 hi (by omega)
        have h7 := h5 _ ((hP _).2 ⟨_, List.getElem_mem h0, rfl⟩) (hless _ (List.getElem_mem h0))
        rw [h6] at h7; exact absurd h7 (by decide)
  · rename_i h0
    rcases h with ⟨rfl, h2⟩ | ⟨h2, h3, h4, h5⟩
    · rfl
    · obtain ⟨f, hf, rfl⟩ := (hP _).1 h2
      obtain ⟨i, hi, rfl⟩ := List.getElem_of_mem hf
      omega
theorem lea_next {U : List Fd} (hU : Up U) {P : List ByteArray} (hP : ∀ x, x ∈ P ↔ ∃ f ∈ U, f.1 = x) {r : ByteArray} {j : Nat} (hj : j < U.length) (h : LeaN (nmAt U j) P r) : r = nmAt U (j + 1) := by
  rw [show nmAt U j = U[j].1 from dif_pos hj] at h
  unfold nmAt
  split
  · rename_i h0
    have hl := up_at hU hj h0 (by omega)
    rcases h with ⟨rfl, h2⟩ | ⟨h2, h3, h4, h5⟩
    · have := h2 _ ((hP _).2 ⟨_, List.getElem_mem h0, rfl⟩)
      rw [hl] at this; exact absurd this (by decide)
    · obtain ⟨f, hf, rfl⟩ := (hP _).1 h2
      obtain ⟨i, hi, rfl⟩ := List.getElem_of_mem hf
      by_cases e : i = j + 1
      · subst e; rfl
      · exfalso
        by_cases e1 : i ≤ j
        · by_cases e2 : i = j
          · subst e2; rw [show lsN _ _ = false from less_irrefl _] at h4; exact absurd h4 (by decide)
          · exact absurd (h4.symm.trans (lt_asym (up_at hU hi hj (by omega)))) (by decide)
        · have h7 := h5 _ ((hP _).2 ⟨_, List.getElem_mem h0, rfl⟩) hl
          rw [up_at hU h0 hi (by omega)] at h7; exact absurd h7 (by decide)
  · rename_i h0
    rcases h with ⟨rfl, h2⟩ | ⟨h2, h3, h4, h5⟩
    · rfl
    · exfalso
      obtain ⟨f, hf, rfl⟩ := (hP _).1 h2
      obtain ⟨i, hi, rfl⟩ := List.getElem_of_mem hf
      by_cases e2 : i = j
      · subst e2; rw [show lsN _ _ = false from less_irrefl _] at h4; exact absurd h4 (by decide)
      · exact absurd (h4.symm.trans (lt_asym (up_at hU hi hj (by omega)))) (by decide)
theorem uni_all {fs gs : List Fd} (x : ByteArray) : x ∈ fs.map (·.1) ++ gs.map (·.1) ↔ ∃ f ∈ uni fs gs, f.1 = x := by
  rw [List.mem_append, List.mem_map, List.mem_map]
  constructor
  · rintro (⟨f, hf, rfl⟩ | ⟨f, hf, rfl⟩)
    · exact ⟨f, uni_left hf, rfl⟩
    · exact uni_name hf
  · rintro ⟨f, hf, rfl⟩
    rcases uni_mem.1 hf with h | h
    · exact .inl ⟨f, h, rfl⟩
    · exact .inr ⟨f, h.1, rfl⟩
theorem first_zero {fs gs : List Fd} (hf : Up fs) (hg : Up gs) (hn : ∀ f ∈ uni fs gs, f.1.toList ≠ []) : firstN fs gs ⟨#[]⟩ = nmAt (uni fs gs) 0 := lea_zero (uni_up hf hg) hn uni_all (lea_first fs gs _)
theorem first_next {fs gs : List Fd} (hf : Up fs) (hg : Up gs) {j : Nat} (hj : j < (uni fs gs).length) : firstN fs gs (nmAt (uni fs gs) j) = nmAt (uni fs gs) (j + 1) := lea_next (uni_up hf hg) uni_all hj (lea_first fs gs _)
end Go.Proofs.YtddleeenlpigfaaGreatDoor
