/- The contract of the reference's Meet. -/
import Derived.Test.YtkmbhjcedkojjaaO
import Derived.Test.YtkmbhjcedkojjaaP
import Derived.Test.YtkmbhjcedkojjaaQ
import Derived.Test.YtkmbhjcedkojjaaR
import Derived.Test.YtkmbhjcedkojjaaS
import Derived.Test.YtkmbhjcedkojjaaT
namespace Go.Proofs.Ytkmbhjcedkojjaa
open Go.RowKit
theorem bytes_empty {s : ByteArray} (h : s.toList = []) : s = ⟨#[]⟩ := bytes_ext (h.trans toList_nil.symm)
theorem right_numF {k lo hi : Int} {s : ByteArray} {y m o : Bool} {fl : Nat} (h : RightP k lo hi s y m o fl) (hk : k ≠ 3) : s = ⟨#[]⟩ ∧ y = false := by
  rcases h.2.2.2 with a | a | a
  · exact absurd a.1 hk
  · exact ⟨bytes_empty a.2.1, a.2.2.1⟩
  · exact ⟨bytes_empty a.2.1, a.2.2.1⟩
theorem right_textF {lo hi : Int} {s : ByteArray} {y m o : Bool} {fl : Nat} (h : RightP 3 lo hi s y m o fl) : lo = 0 ∧ hi = 0 ∧ (y = true → s = ⟨#[]⟩) := by
  rcases h.2.2.2 with a | a | a
  · exact ⟨a.2.1, a.2.2.1, fun e => bytes_empty (a.2.2.2.2 e)⟩
  · omega
  · omega
theorem rmeet_some (k lo1 hi1 : Int) (s1 : ByteArray) (y1 m1 : Bool) (f1 : Option Addr) (fc1 : Nat) (lo2 hi2 : Int) (s2 : ByteArray) (y2 m2 : Bool) (f2 : Option Addr) (fc2 : Nat) (w : World) (h1 : RightP k lo1 hi1 s1 y1 m1 false 0) (h2 : RightP k lo2 hi2 s2 y2 m2 false 0) {lo hi : Int} {s : ByteArray} {y : Bool}
    (h : commonF k lo1 hi1 s1 y1 lo2 hi2 s2 y2 = some (lo, hi, s, y)) : Calls Try.prog 25 #[tv k lo1 hi1 s1 y1 m1 false f1 0 fc1, tv k lo2 hi2 s2 y2 m2 false f2 0 fc2] w fun e w' => e = .returned (.tuple #[tv k lo hi s y ((m1 || m2) && !singleB k lo hi y) false f1 0 fc1, .bool true]) ∧ Below w.heap.size w w' := by
  have r1 := rightB_iff.2 h1
  have r2 := rightB_iff.2 h2
  unfold commonF at h
  by_cases hk : k = 3
  · subst hk
    rw [if_pos rfl] at h
    obtain ⟨rfl, rfl, e1⟩ := right_textF h1
    obtain ⟨rfl, rfl, e2⟩ := right_textF h2
    cases y1
    · rw [if_neg (by decide)] at h
      split at h
      · rename_i hy
        cases h
        rw [show singleB 3 0 0 false = true from rfl, Bool.not_true, Bool.and_false]
        cases y2
        · exact rmeet_ff _ _ _ _ _ _ _ _ _ r1 r2 (hy.resolve_left (by decide))
        · exact rmeet_ft _ _ _ _ _ _ _ _ _ r1 r2
      · cases h
    · rw [if_pos rfl] at h
      cases y2
      · rw [if_neg (by decide)] at h
        cases h
        rw [show singleB 3 0 0 false = true from rfl, Bool.not_true, Bool.and_false]
        exact rmeet_tf _ _ _ _ _ _ _ _ _ r1 r2
      · rw [if_pos rfl] at h
        cases h
        rw [show singleB 3 0 0 true = false from rfl, Bool.not_false, Bool.and_true]
        have e3 := e2 rfl
        subst e3
        exact rmeet_tt _ _ _ _ _ _ _ _ _ r1 r2
  · rw [if_neg hk] at h
    obtain ⟨rfl, rfl⟩ := right_numF h1 hk
    split at h
    · rename_i hm
      cases h
      by_cases g1 : lo1 < lo2 <;> by_cases g2 : hi2 < hi1
      · rw [show max lo1 lo2 = lo2 by omega, show min hi1 hi2 = hi2 by omega] at *
        exact rmeet_num_a _ _ _ _ _ _ _ _ _ _ _ _ _ _ _ _ r1 r2 hk g1 g2 hm
      · rw [show max lo1 lo2 = lo2 by omega, show min hi1 hi2 = hi1 by omega] at *
        exact rmeet_num_b _ _ _ _ _ _ _ _ _ _ _ _ _ _ _ _ r1 r2 hk g1 (by omega) hm
      · rw [show max lo1 lo2 = lo1 by omega, show min hi1 hi2 = hi2 by omega] at *
        exact rmeet_num_c _ _ _ _ _ _ _ _ _ _ _ _ _ _ _ _ r1 r2 hk (by omega) g2 hm
      · rw [show max lo1 lo2 = lo1 by omega, show min hi1 hi2 = hi1 by omega] at *
        exact rmeet_num_d _ _ _ _ _ _ _ _ _ _ _ _ _ _ _ _ r1 r2 hk (by omega) (by omega) hm
    · cases h
theorem rmeet_none (k lo1 hi1 : Int) (s1 : ByteArray) (y1 m1 : Bool) (f1 : Option Addr) (fc1 : Nat) (lo2 hi2 : Int) (s2 : ByteArray) (y2 m2 : Bool) (f2 : Option Addr) (fc2 : Nat) (w : World) (h1 : RightP k lo1 hi1 s1 y1 m1 false 0) (h2 : RightP k lo2 hi2 s2 y2 m2 false 0)
    (h : commonF k lo1 hi1 s1 y1 lo2 hi2 s2 y2 = none) : Calls Try.prog 25 #[tv k lo1 hi1 s1 y1 m1 false f1 0 fc1, tv k lo2 hi2 s2 y2 m2 false f2 0 fc2] w fun e w' => e = .returned (.tuple #[zv, .bool false]) ∧ Below w.heap.size w w' := by
  have r1 := rightB_iff.2 h1
  have r2 := rightB_iff.2 h2
  unfold commonF at h
  by_cases hk : k = 3
  · subst hk
    rw [if_pos rfl] at h
    obtain ⟨rfl, rfl, e1⟩ := right_textF h1
    obtain ⟨rfl, rfl, e2⟩ := right_textF h2
    cases y1
    · rw [if_neg (by decide)] at h
      split at h
      · cases h
      · rename_i hy
        cases y2
        · exact rmeet_ne _ _ _ _ _ _ _ _ _ r1 r2 (fun e => hy (.inr e))
        · exact absurd (.inl rfl) hy
    · rw [if_pos rfl] at h
      cases y2 <;> cases h
  · rw [if_neg hk] at h
    split at h
    · cases h
    · rename_i hm
      exact rmeet_gap _ _ _ _ _ _ _ _ _ _ _ _ _ _ _ _ r1 r2 hk (by omega)

end Go.Proofs.Ytkmbhjcedkojjaa
