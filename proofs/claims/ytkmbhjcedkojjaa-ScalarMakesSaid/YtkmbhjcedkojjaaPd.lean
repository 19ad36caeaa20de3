/- WALK of Terms. -/
import Derived.Test.YtkmbhjcedkojjaaPc
import Derived.StillTailTactics
namespace Go.Proofs.Ytkmbhjcedkojjaa
open Go.RowKit
theorem first7 (c0 c1 c2 c3 c4 c5 c6 : Int) (t : TypeId) (Y : World) : Calls Try.prog 50 #[.slice (some ⟨Y.heap.size, 0, none⟩) 7 7] (Y.alloc (.cells #[.int .i64 c0, .int .i64 c1, .int .i64 c2, .int .i64 c3, .int .i64 c4, .int .i64 c5, .int .i64 c6] t))
    fun e w' => e = .returned (.int .i64 (firstL [c0, c1, c2, c3, c4, c5, c6])) ∧ (Y.alloc (.cells #[.int .i64 c0, .int .i64 c1, .int .i64 c2, .int .i64 c3, .int .i64 c4, .int .i64 c5, .int .i64 c6] t)) = w' :=
  (first_any [c0, c1, c2, c3, c4, c5, c6] Y.heap.size 7 _ (by simp) (fun i h => by
    match i, h with
    | 0, _ => simp
    | 1, _ => simp
    | 2, _ => simp
    | 3, _ => simp
    | 4, _ => simp
    | 5, _ => simp
    | 6, _ => simp
    | n + 7, h => exact absurd h (by simp))).mono fun _ _ ⟨a, b⟩ => ⟨a, b.symm⟩
/-- Three ends, hidden. -/
def CmpPost (r : Int) (w : World) (e : Ending) (w' : World) : Prop := e = .returned (.int .i64 r) ∧ Below w.heap.size w w'
set_option maxRecDepth 100000 in
set_option maxHeartbeats 4000000 in
theorem terms_any (g : List Tm → List Tm → Int) (k lo hi : Int) (s : ByteArray) (y m o : Bool) (f : Option Addr) (fl fc : Nat) (fs : List (ByteArray × List Tm)) (k2 lo2 hi2 : Int) (s2 : ByteArray) (y2 m2 o2 : Bool) (f2 : Option Addr) (fl2 fc2 : Nat) (fs2 : List (ByteArray × List Tm)) (w : World)
    (HF : ∀ W, Below w.heap.size w W → Calls Try.prog 54 #[.slice f fl fc, .slice f2 fl2 fc2, .func (.func 55) #[] #[]] W (CmpPost (lexL (cmpF g) fs fs2) W)) :
    Calls Try.prog 31 #[tv k lo hi s y m o f fl fc, tv k2 lo2 hi2 s2 y2 m2 o2 f2 fl2 fc2] w (CmpPost (cmpT g (.mk k lo hi s y m o fs) (.mk k2 lo2 hi2 s2 y2 m2 o2 fs2)) w) := by
  have HF' := Lib.hid HF
  clear HF
  go_enter Try.func31, Try.ntmps31
  go_wp2_with fail
  obtain ⟨⟨TA, hA⟩, ⟨TB, hB⟩, hW⟩ := Tc.box2 w k lo hi s y m o f fl fc k2 lo2 hi2 s2 y2 m2 o2 f2 fl2 fc2 (Below.refl _ _)
  generalize (w.alloc (.cells #[.int .i64 k, .int .i64 lo, .int .i64 hi, .string s, .bool y, .bool m, .bool o, .slice f fl fc] 24)).alloc (.cells #[.int .i64 k2, .int .i64 lo2, .int .i64 hi2, .string s2, .bool y2, .bool m2, .bool o2, .slice f2 fl2 fc2] 24) = X at *
  refine wp_region_still_tail 41 (by kernel_rfl) (by kernel_rfl) ?_
  simp only [List.take_succ_cons, List.take_zero, List.drop_succ_cons, List.drop_zero]
  have hW := hW.drew
  replace TA : Tc X.drew _ _ _ _ _ _ _ _ _ _ _ := TA
  replace TB : Tc X.drew _ _ _ _ _ _ _ _ _ _ _ := TB
  replace hA : w.heap.size < X.drew.heap.size := hA
  replace hB : w.heap.size + 1 < X.drew.heap.size := hB
  change wpStill _ _ X.drew (fun a' => wpList _ _ _ _ a' X.drew) _ _
  generalize X.drew = Y at *
  have HW := Lib.hid hW
  clear hW
  obtain ⟨x0, x1, x2, x3, x4, x5, x6, x7⟩ := TA
  obtain ⟨y0, y1', y2', y3', y4', y5', y6', y7'⟩ := TB
  repeat (first | still_step | (refine wpStill_step (fun K hK => ?_); go_simp; (first | refine ⟨_, cmpI_any _ _ _, hK _ ?_⟩ | refine ⟨_, cmpS_any _ _ _, hK _ ?_⟩ | refine ⟨_, bit_any _ _, hK _ ?_⟩); clear hK K))
  refine wpStill_nil ?_
  change wpList _ _ _ _ _ Y
  go_wp2_with (first
    | (go_at_call 50; (with_reducible refine (first7 _ _ _ _ _ _ _ _ _).mono ?_); rintro e w1 ⟨rfl, rfl⟩)
    | (go_at_call 54; refine (HF'.out _ ?_).mono ?_; rotate_left; rintro e w2 ⟨rfl, hB2⟩; have HB2 := Lib.hid hB2; clear hB2))
  · rename_i hx
    go_ret
    exact ⟨ret_int (show firstL (plainL (.mk k lo hi s y m o fs) (.mk k2 lo2 hi2 s2 y2 m2 o2 fs2)) = two (firstL _) _ by unfold two; rw [if_pos (by simpa [plainL] using hx)]), bl_alloc HW.out⟩
  · rename_i hx
    go_ret
    exact ⟨ret_int (show lexL _ _ _ = two (firstL _) _ by unfold two; rw [if_neg (by simpa [plainL] using hx)]; rfl), bl_step (bl_alloc HW.out) HB2.out⟩
  · exact bl_alloc HW.out

end Go.Proofs.Ytkmbhjcedkojjaa
