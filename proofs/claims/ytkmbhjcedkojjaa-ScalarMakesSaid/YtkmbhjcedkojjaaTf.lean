/- WALK of the law ScalarMakes, whole. -/
import Derived.Test.YtkmbhjcedkojjaaTeone
import Derived.Test.YtkmbhjcedkojjaaTetwo
import Derived.Test.YtkmbhjcedkojjaaTethree
import Derived.Test.YtkmbhjcedkojjaaTelow
import Derived.Test.YtkmbhjcedkojjaaTehigh
namespace Go.Proofs.Ytkmbhjcedkojjaa
open Go.RowKit
theorem like_same {k lo hi : Int} {s : ByteArray} {y : Bool} (h : RightP k lo hi s y false false 0) (W : World) : Calls Try.prog 21 #[tv k lo hi s y false false none 0 0, .bool true, tv k lo hi s y false false none 0 0, .bool true] W fun e w' => e = .returned (.bool true) ∧ Below W.heap.size W w' := by
  have := like_any k lo hi s y false false none 0 0 true k lo hi s y false false none 0 0 true W
  rw [same_of h] at this
  exact this
theorem like_zero (k lo hi : Int) (s : ByteArray) (y : Bool) (W : World) : Calls Try.prog 21 #[zv, .bool false, tv k lo hi s y false false none 0 0, .bool false] W fun e w' => e = .returned (.bool true) ∧ Below W.heap.size W w' := by
  have := like_any 0 0 0 ⟨#[]⟩ false false false none 0 0 false k lo hi s y false false none 0 0 false W
  have e : likeB false false (zeroB 0 0 0 ⟨#[]⟩ false false false 0) (decide (SameP 0 0 0 ⟨#[]⟩ false false false 0 k lo hi s y false false 0)) = true := by simp [likeB, zeroB]
  rw [e] at this
  exact this
theorem right_one : RightP 1 0 1 ⟨#[]⟩ false false false 0 := by unfold RightP; rw [toList_nil]; simp
theorem right_two : RightP 2 (-9007199254740992) 9007199254740992 ⟨#[]⟩ false false false 0 := by unfold RightP; rw [toList_nil]; simp
theorem pair_between (lo hi : Int) : ∃ (k' lo' hi' : Int) (ok : Bool), (∀ W, Calls Try.prog 19 #[.int .i64 lo, .int .i64 hi] W fun e w' => e = .returned (.tuple #[tv k' lo' hi' ⟨#[]⟩ false false false none 0 0, .bool ok]) ∧ Below W.heap.size W w') ∧
    (∀ W, Calls Try.prog 12 #[tv 2 lo hi ⟨#[]⟩ false false false none 0 0] W fun e w' => e = .returned (.bool ok) ∧ Below W.heap.size W w') ∧
    (∀ W, Calls Try.prog 21 #[tv k' lo' hi' ⟨#[]⟩ false false false none 0 0, .bool ok, tv 2 lo hi ⟨#[]⟩ false false false none 0 0, .bool ok] W fun e w' => e = .returned (.bool true) ∧ Below W.heap.size W w') := by
  have hr := fun W => rright_any 2 lo hi ⟨#[]⟩ false false false none 0 0 W
  cases h : rightB 2 lo hi ⟨#[]⟩ false false false 0
  · rw [h] at hr
    exact ⟨0, 0, 0, false, fun W => between_no lo hi W h, hr, fun W => like_zero _ _ _ _ _ W⟩
  · rw [h] at hr
    exact ⟨2, lo, hi, true, fun W => between_yes lo hi W h, hr, fun W => like_same (rightB_iff.1 h) W⟩
theorem pair_text (z : ByteArray) : ∃ (k' : Int) (s' : ByteArray) (ok : Bool), (∀ W, Calls Try.prog 20 #[.string z] W fun e w' => e = .returned (.tuple #[tv k' 0 0 s' false false false none 0 0, .bool ok]) ∧ Below W.heap.size W w') ∧
    (∀ W, Calls Try.prog 12 #[tv 3 0 0 z false false false none 0 0] W fun e w' => e = .returned (.bool ok) ∧ Below W.heap.size W w') ∧
    (∀ W, Calls Try.prog 21 #[tv k' 0 0 s' false false false none 0 0, .bool ok, tv 3 0 0 z false false false none 0 0, .bool ok] W fun e w' => e = .returned (.bool true) ∧ Below W.heap.size W w') := by
  have hr := fun W => rright_any 3 0 0 z false false false none 0 0 W
  cases h : rightB 3 0 0 z false false false 0
  · rw [h] at hr
    exact ⟨0, ⟨#[]⟩, false, fun W => text_no z W h, hr, fun W => like_zero _ _ _ _ _ W⟩
  · rw [h] at hr
    exact ⟨3, z, true, fun W => text_yes z W h, hr, fun W => like_same (rightB_iff.1 h) W⟩
theorem smakes_walk (n0 n1 n2 : Int) (z : ByteArray) (k lo hi : Int) (s : ByteArray) (y m o : Bool) (f : Option Addr) (fl fc : Nat) (w : World) (hz : z.size ≤ maxLen)
    (n : Nat) (fs : List (ByteArray × List Tm)) (hF : InF (fun t tl tc V => InV w n t tl tc V) w f fl fs) (hS : SlimF n fs) :
    Calls Try.prog 4 #[nv n0 n1 n2, .string z, tv k lo hi s y m o f fl fc] w fun e w' => e = .returned (.bool true) ∧ Below w.heap.size w w' := by
  by_cases hsh : z.size ≤ 400 ∧ shortB s fl = true
  · obtain ⟨h1, h2⟩ := hsh
    obtain ⟨kb, lob, hib, okb, a1, a2, a3⟩ := pair_between n1 n2
    obtain ⟨kx, sx, okx, b1, b2, b3⟩ := pair_text z
    have KL : ∀ W, Below w.heap.size w W → Calls Try.prog 22 #[tv k lo hi s y m o f fl fc] W (LaterPost W k lo hi s y (m || (rightB k lo hi s y m o fl && !singleB k lo hi y)) o fl) := fun W hW =>
      later_any k lo hi s y m o f fl fc W (fun W2 hW2 => own_in n W2 f fl fc fs (InF.below (fun _ _ _ _ h => InV.below (bl_step hW hW2) h) (bl_step hW hW2) hF) hS)
    by_cases e1 : n0 = 1
    · subst e1
      exact smakes_one n1 n2 z k lo hi s y m o f fl fc 1 0 1 false true kb lob hib okb kx sx okx w h1 h2 whole_bool a1 b1 (like_same right_one) a2 a3 b2 b3 KL
    · by_cases e2 : n0 = 2
      · subst e2
        exact smakes_two n1 n2 z k lo hi s y m o f fl fc 2 _ _ false true kb lob hib okb kx sx okx w h1 h2 whole_int a1 b1 (like_same right_two) a2 a3 b2 b3 KL
      · by_cases e3 : n0 = 3
        · subst e3
          exact smakes_three n1 n2 z k lo hi s y m o f fl fc 3 0 0 true true kb lob hib okb kx sx okx w h1 h2 whole_text a1 b1 (like_same rany') a2 a3 b2 b3 KL
        · by_cases hl : n0 < 1
          · exact smakes_low n0 n1 n2 z k lo hi s y m o f fl fc 0 0 0 false false kb lob hib okb kx sx okx w h1 h2 hl (fun W => whole_no n0 W e1 e2 e3) a1 b1 (like_zero _ _ _ _ _) a2 a3 b2 b3 KL
          · exact smakes_high n0 n1 n2 z k lo hi s y m o f fl fc 0 0 0 false false kb lob hib okb kx sx okx w h1 h2 (by omega) (fun W => whole_no n0 W e1 e2 e3) a1 b1 (like_zero _ _ _ _ _) a2 a3 b2 b3 KL
  · exact smakes_long n0 n1 n2 z k lo hi s y m o f fl fc w hz hsh

end Go.Proofs.Ytkmbhjcedkojjaa
