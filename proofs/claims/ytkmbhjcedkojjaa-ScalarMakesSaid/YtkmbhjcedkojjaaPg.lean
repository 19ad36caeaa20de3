/- WALKS of Compare and of the function that Terms hands over. -/
import Derived.Test.YtkmbhjcedkojjaaPd
namespace Go.Proofs.Ytkmbhjcedkojjaa
open Go.RowKit
set_option maxRecDepth 100000 in
set_option maxHeartbeats 2000000 in
theorem closure_any (nm : ByteArray) (t : Option Addr) (tl tc : Nat) (nm2 : ByteArray) (t2 : Option Addr) (tl2 tc2 : Nat) (r : Int) (w : World)
    (HG : ∀ W, Below w.heap.size w W → Calls Try.prog 33 #[.agg #[.slice t tl tc], .agg #[.slice t2 tl2 tc2]] W (CmpPost r W)) :
    Calls Try.prog 55 #[.agg #[.string nm, .slice t tl tc], .agg #[.string nm2, .slice t2 tl2 tc2]] w (CmpPost (two (cmpS nm nm2) r) w) := by
  have HG' := Lib.hid HG
  clear HG
  have HS := fun W => Lib.hid (cmpS_any nm nm2 W)
  generalize cmpS nm nm2 = c at *
  have HB : Hid (Below w.heap.size w w) := Below.refl _ _
  by_cases h0 : c = 0
  · subst h0
    go_enter Try.func55, Try.ntmps55
    go_wp2_with (first
      | (go_at_call 52; (with_reducible refine (HS _).out.mono ?_); rintro e w1 ⟨rfl, rfl⟩)
      | (go_at_call 33; refine (HG'.out _ ?_).mono ?_; rotate_left; rintro e w2 ⟨rfl, hB2⟩; have HB2 := Lib.hid hB2; clear hB2))
    · go_ret
      exact ⟨rfl, bl_step (bl_alloc (bl_alloc HB.out)) HB2.out⟩
    · exact bl_alloc (bl_alloc HB.out)
  · have hb : (c != 0) = true := by simpa using h0
    have HN := Lib.hid h0
    clear h0
    go_enter Try.func55, Try.ntmps55
    go_wp2_with (first
      | (go_at_call 52; (with_reducible refine (HS _).out.mono ?_); rintro e w1 ⟨rfl, h1⟩; subst h1))
    go_ret
    exact ⟨ret_int (by unfold two; rw [if_pos HN.out]), bl_alloc (bl_alloc HB.out)⟩
set_option maxRecDepth 100000 in
set_option maxHeartbeats 2000000 in
theorem compare_any (t : Option Addr) (tl tc : Nat) (t2 : Option Addr) (tl2 tc2 : Nat) (r : Int) (w : World)
    (HG : ∀ W, Below w.heap.size w W → Calls Try.prog 59 #[.slice t tl tc, .slice t2 tl2 tc2, .func (.func 31) #[] #[]] W (CmpPost r W)) :
    Calls Try.prog 33 #[.agg #[.slice t tl tc], .agg #[.slice t2 tl2 tc2]] w (CmpPost r w) := by
  have HG' := Lib.hid HG
  clear HG
  have HB : Hid (Below w.heap.size w w) := Below.refl _ _
  go_enter Try.func33, Try.ntmps33
  go_wp2_with (go_at_call 59; refine (HG'.out _ ?_).mono ?_; rotate_left; rintro e w2 ⟨rfl, hB2⟩; have HB2 := Lib.hid hB2; clear hB2)
  · go_ret
    exact ⟨rfl, bl_step (bl_alloc (bl_alloc HB.out)) HB2.out⟩
  · exact bl_alloc (bl_alloc HB.out)

end Go.Proofs.Ytkmbhjcedkojjaa
