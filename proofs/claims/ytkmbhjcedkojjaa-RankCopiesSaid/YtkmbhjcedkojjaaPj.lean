/- WALKS for the page example of rank. -/
import Derived.Test.YtkmbhjcedkojjaaPh
namespace Go.Proofs.Ytkmbhjcedkojjaa
open Go.RowKit
abbrev noT : Tm := .mk 1 0 0 ⟨#[]⟩ false false false []
abbrev yesT : Tm := .mk 1 1 1 ⟨#[]⟩ false false false []
set_option maxRecDepth 100000 in
set_option maxHeartbeats 1000000 in
theorem depth_nil (w : World) : Calls Try.prog 39 #[.agg #[.slice none 0 0]] w fun e w' => e = .returned (.int .i64 1) ∧ Below w.heap.size w w' := by
  go_enter Try.func39, Try.ntmps39
  go_wp2_with fail
  go_loop [3, 11] (fun a i => a = .int .i64 0 ∧ i = .int .i64 0) (fun _ _ => 0)
  case atStart => exact ⟨rfl, rfl⟩
  case round =>
    obtain ⟨rfl, rfl⟩ := hrel
    go_wp2_with fail
    go_ret
    exact ⟨rfl, bl_alloc (Below.refl _ _)⟩
theorem no_yes : cmpT (cmpV 0) noT yesT = -1 := by simp [cmpT, plainL, firstL, cmpI, two]
theorem terms_noyes (w : World) : Calls Try.prog 31 #[tv 1 0 0 ⟨#[]⟩ false false false none 0 0, tv 1 1 1 ⟨#[]⟩ false false false none 0 0] w fun e w' => e = .returned (.int .i64 (-1)) ∧ Below w.heap.size w w' := by
  have h := terms_in 0 (fun _ _ _ _ _ _ _ _ _ h => h.elim) w 1 0 0 ⟨#[]⟩ false false false none 0 0 [] 1 1 1 ⟨#[]⟩ false false false none 0 0 [] ⟨rfl, by decide, fun i hi => absurd hi (by simp)⟩ ⟨rfl, by decide, fun i hi => absurd hi (by simp)⟩
  rw [show cmpT (cmpV 0) noT yesT = -1 from no_yes] at h
  exact h
theorem compare_no (w : World) (b : Nat) (hb : b < w.heap.size) (h : Tc w b 1 0 0 ⟨#[]⟩ false false false none 0 0) : Calls Try.prog 33 #[.agg #[.slice none 0 0], .agg #[.slice (some ⟨b, 0, none⟩) 1 1]] w fun e w' => e = .returned (.int .i64 (-1)) ∧ Below w.heap.size w w' := by
  refine compare_in 1 w none 0 0 [] (some ⟨b, 0, none⟩) 1 1 [noT] ⟨rfl, by decide, fun i hi => absurd hi (by simp)⟩ ⟨rfl, by decide, fun i hi => ?_⟩
  obtain rfl : i = 0 := by simpa using hi
  obtain ⟨h0, h1, h2, h3, h4, h5, h6, h7⟩ := h
  exact ⟨b, 0, rfl, hb, none, 0, 0, h0, h1, h2, h3, h4, h5, h6, h7, rfl, by decide, fun i hi => absurd hi (by simp)⟩
set_option maxRecDepth 100000 in
set_option maxHeartbeats 2000000 in
theorem rawake_any (w : World) : Calls Try.prog 30 #[] w fun e w' => e = .returned (.bool true) ∧ Below w.heap.size w w' := by
  have HT := fun W => Lib.hid (terms_noyes W)
  have HC := fun (W : World) (b : Nat) (hb : b < W.heap.size) (h : Tc W b 1 0 0 ⟨#[]⟩ false false false none 0 0) => Lib.hid (compare_no W b hb h)
  have HD := fun W => Lib.hid (depth_nil W)
  go_enter Try.func30, Try.ntmps30
  go_wp2_with (first
    | (go_at_call 31; (with_reducible refine (HT _).out.mono ?_); rintro e w1 ⟨rfl, hB⟩; obtain ⟨hc, hf⟩ := bcell hB; have z0 : w.heap.size < w1.heap.size := (by have := hB.size; simp at this; omega); have HB := Lib.hid hB; clear hB)
    | (go_at_call 33; refine (HC _ _ new_lt (Tc.new _ _ _ _ _ _ _ _ _ _ _)).out.mono ?_; rintro e w2 ⟨rfl, hB⟩; have HB2 := Lib.hid hB; clear hB)
    | (go_at_call 39; (with_reducible refine (HD _).out.mono ?_); rintro e w3 ⟨rfl, hB⟩; have HB3 := Lib.hid hB; clear hB))
  go_ret
  exact ⟨rfl, bl_step (bl_step (bl_alloc (bl_step (bl_alloc (bl_alloc (Below.refl _ _))) HB.out)) HB2.out) HB3.out⟩

end Go.Proofs.Ytkmbhjcedkojjaa
