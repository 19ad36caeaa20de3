/- WALK of the law ScalarMakes. -/
import Derived.Test.YtkmbhjcedkojjaaTb
import Derived.Test.YtkmbhjcedkojjaaW
import Derived.Test.YtkmbhjcedkojjaaYb
namespace Go.Proofs.Ytkmbhjcedkojjaa
open Go.RowKit
abbrev nv (a b c : Int) : Value := .agg #[.int .i64 a, .int .i64 b, .int .i64 c]
set_option maxRecDepth 100000 in
set_option maxHeartbeats 8000000 in
theorem smakes_long (n0 n1 n2 : Int) (z : ByteArray) (k lo hi : Int) (s : ByteArray) (y m o : Bool) (f : Option Addr) (fl fc : Nat) (w : World) (hz : z.size ≤ maxLen) (h : ¬ (z.size ≤ 400 ∧ shortB s fl = true)) :
    Calls Try.prog 4 #[nv n0 n1 n2, .string z, tv k lo hi s y m o f fl fc] w fun e w' => e = .returned (.bool true) ∧ Below w.heap.size w w' := by
  have HS := fun W => Lib.hid (short_any k lo hi s y m o f fl fc W)
  have HA := fun W => Lib.hid (sawake_any W)
  unfold maxLen at hz
  by_cases h1 : 400 < z.size
  · clear h
    have h1' : (400 : Int) < (z.size : Int) := by omega
    go_enter Try.func4, Try.ntmps4
    go_wp2_with (go_at_call 11; (with_reducible refine (HA _).out.mono ?_); rintro e w1 ⟨rfl, hB⟩; have HB := Lib.hid hB; clear hB)
    go_ret
    exact ⟨rfl, bl_step (bl_alloc (bl_alloc (Below.refl _ _))) HB.out⟩
  · have h1' : (z.size : Int) ≤ 400 := by omega
    have h2 : shortB s fl = false := by
      cases e : shortB s fl
      · rfl
      · exact absurd ⟨by omega, e⟩ h
    generalize shortB s fl = sb at *
    subst h2
    clear h
    go_enter Try.func4, Try.ntmps4
    go_wp2_with (first
      | (go_at_call 11; (with_reducible refine (HA _).out.mono ?_); rintro e w1 ⟨rfl, hB⟩; have HB := Lib.hid hB; clear hB)
      | (go_at_call 10; (with_reducible refine (HS _).out.mono ?_); rintro e w2 ⟨rfl, hB⟩; have HB2 := Lib.hid (bl_step (bl_alloc (bl_alloc (Below.refl w.heap.size w))) hB); clear hB))
    go_ret
    exact ⟨rfl, bl_step HB2.out HB.out⟩

end Go.Proofs.Ytkmbhjcedkojjaa
