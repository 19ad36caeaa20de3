/- WALKS of sign, number, word. -/
import Derived.Test.YtfhknnldkfngdaaDoorWg
import Derived.Test.YtfhknnldkfngdaaDoorUf
import Derived.Test.YtfhknnldkfngdaaDoorNd
namespace Go.Proofs.YtfhknnldkfngdaaDoor
open Go.RowKit
def signAt (r : Nat) : ByteArray := ⟨(signsL.getD r []).toArray⟩
/-- What a program has from its start on: the words' table and the signs'. -/
structure Ent (w : World) : Prop where
  nm : Nm.Env w
  signs : ∀ r, r < 15 → w.cell? ⟨0, r, none⟩ = some (.string (signAt r))
theorem Ent.below {w w' : World} (h : Ent w) (hb : Below w.heap.size w w') : Ent w' := by
  refine ⟨h.nm.below hb, fun r hr => ?_⟩
  have h2 := h.nm.one
  rw [hb.cell (p := ⟨0, r, none⟩) (by simp; omega)]; exact h.signs r hr
theorem index_sign (r : Nat) (hr : r < 15) (w : World) : (Instr.index 58 (.agg #[.string (signAt 0), .string (signAt 1), .string (signAt 2), .string (signAt 3), .string (signAt 4), .string (signAt 5), .string (signAt 6), .string (signAt 7), .string (signAt 8), .string (signAt 9), .string (signAt 10), .string (signAt 11), .string (signAt 12), .string (signAt 13), .string (signAt 14)]) (.int .i64 (r : Int))).run Tryd.prog w = .ok (.string (signAt r)) w := by
  obtain rfl | rfl | rfl | rfl | rfl | rfl | rfl | rfl | rfl | rfl | rfl | rfl | rfl | rfl | rfl : r = 0 ∨ r = 1 ∨ r = 2 ∨ r = 3 ∨ r = 4 ∨ r = 5 ∨ r = 6 ∨ r = 7 ∨ r = 8 ∨ r = 9 ∨ r = 10 ∨ r = 11 ∨ r = 12 ∨ r = 13 ∨ r = 14 := by omega
  all_goals kernel_rfl
theorem signAt_list (r : Nat) : (signAt r).toList = signsL.getD r [] := bs_list _
theorem signAt_size (r : Nat) : (signAt r).size = (signsL.getD r []).length := bs_size _
theorem find_getD {p : List UInt8 → Bool} : ∀ {l : List (List UInt8)} {k : Nat}, k < l.length → (∀ j, j < k → p (l.getD j []) = false) → p (l.getD k []) = true → l.find? p = some (l.getD k [])
  | [], k, hk, _, _ => absurd hk (Nat.not_lt_zero _)
  | x :: l, 0, _, _, h => by
    have h' : p x = true := h
    rw [List.find?_cons_of_pos h']; rfl
  | x :: l, k + 1, hk, hN, h => by
    have h0 : p x = false := hN 0 (Nat.succ_pos _)
    rw [List.find?_cons_of_neg (by rw [h0]; decide), find_getD (l := l) (k := k) (by simpa using hk) (fun j hj => hN (j + 1) (Nat.succ_lt_succ hj)) h]; rfl
theorem sign_at {L : List UInt8} {k : Nat} (hk : k < 15) (hN : ∀ j, j < k → (signsL.getD j []).isPrefixOf L = false) (h : (signsL.getD k []).isPrefixOf L = true) : signL L = signsL.getD k [] := by
  unfold signL; rw [find_getD (p := fun w => w.isPrefixOf L) (l := signsL) hk hN h]; rfl
theorem sign_none {L : List UInt8} (hN : ∀ j, j < 15 → (signsL.getD j []).isPrefixOf L = false) : signL L = [] := by
  unfold signL
  rw [List.find?_eq_none.2]; rfl
  intro x hx h
  obtain ⟨k, hk, rfl⟩ := List.getElem_of_mem hx
  have h2 := hN k hk
  rw [List.getD, List.getElem?_eq_getElem hk, Option.getD_some] at h2
  rw [h2] at h; exact absurd h (by decide)
theorem signs_ne : ∀ k, k < 15 → signsL.getD k [] ≠ [] := by decide
theorem hasp_as (s p : ByteArray) (b : Bool) (w : World) (hb : Hid (p.toList.isPrefixOf s.toList = b)) : Calls Tryd.prog 40 #[.string s, .string p] w fun e w' => e = .returned (.bool b) ∧ w = w' := by
  refine (Tryd.strings_HasPrefix _ _ w).mono ?_
  rintro e w' ⟨rfl, rfl⟩
  refine ⟨ret_bool ?_, rfl⟩
  rw [← hb.out, Lib.toList_data, Lib.toList_data]; rfl
set_option maxRecDepth 100000 in
set_option maxHeartbeats 2000000 in
theorem sign_any (s : ByteArray) (w : World) (hE : Ent w) : Calls Tryd.prog 32 #[.string s] w (TkP (signR s.toList) w) := by
  have c0 : (w.alloc (.cells #[.int .i64 0, .int .i64 0, .string { data := #[] }, .int .i64 0] 24)).cell? ⟨0, 0, none⟩ = some (.string (signAt 0)) := Lib.cell?_alloc_some _ (hE.signs 0 (by decide))
  have c1 : (w.alloc (.cells #[.int .i64 0, .int .i64 0, .string { data := #[] }, .int .i64 0] 24)).cell? ⟨0, 1, none⟩ = some (.string (signAt 1)) := Lib.cell?_alloc_some _ (hE.signs 1 (by decide))
  have c2 : (w.alloc (.cells #[.int .i64 0, .int .i64 0, .string { data := #[] }, .int .i64 0] 24)).cell? ⟨0, 2, none⟩ = some (.string (signAt 2)) := Lib.cell?_alloc_some _ (hE.signs 2 (by decide))
  have c3 : (w.alloc (.cells #[.int .i64 0, .int .i64 0, .string { data := #[] }, .int .i64 0] 24)).cell? ⟨0, 3, none⟩ = some (.string (signAt 3)) := Lib.cell?_alloc_some _ (hE.signs 3 (by decide))
  have c4 : (w.alloc (.cells #[.int .i64 0, .int .i64 0, .string { data := #[] }, .int .i64 0] 24)).cell? ⟨0, 4, none⟩ = some (.string (signAt 4)) := Lib.cell?_alloc_some _ (hE.signs 4 (by decide))
  have c5 : (w.alloc (.cells #[.int .i64 0, .int .i64 0, .string { data := #[] }, .int .i64 0] 24)).cell? ⟨0, 5, none⟩ = some (.string (signAt 5)) := Lib.cell?_alloc_some _ (hE.signs 5 (by decide))
  have c6 : (w.alloc (.cells #[.int .i64 0, .int .i64 0, .string { data := #[] }, .int .i64 0] 24)).cell? ⟨0, 6, none⟩ = some (.string (signAt 6)) := Lib.cell?_alloc_some _ (hE.signs 6 (by decide))
  have c7 : (w.alloc (.cells #[.int .i64 0, .int .i64 0, .string { data := #[] }, .int .i64 0] 24)).cell? ⟨0, 7, none⟩ = some (.string (signAt 7)) := Lib.cell?_alloc_some _ (hE.signs 7 (by decide))
  have c8 : (w.alloc (.cells #[.int .i64 0, .int .i64 0, .string { data := #[] }, .int .i64 0] 24)).cell? ⟨0, 8, none⟩ = some (.string (signAt 8)) := Lib.cell?_alloc_some _ (hE.signs 8 (by decide))
  have c9 : (w.alloc (.cells #[.int .i64 0, .int .i64 0, .string { data := #[] }, .int .i64 0] 24)).cell? ⟨0, 9, none⟩ = some (.string (signAt 9)) := Lib.cell?_alloc_some _ (hE.signs 9 (by decide))
  have c10 : (w.alloc (.cells #[.int .i64 0, .int .i64 0, .string { data := #[] }, .int .i64 0] 24)).cell? ⟨0, 10, none⟩ = some (.string (signAt 10)) := Lib.cell?_alloc_some _ (hE.signs 10 (by decide))
  have c11 : (w.alloc (.cells #[.int .i64 0, .int .i64 0, .string { data := #[] }, .int .i64 0] 24)).cell? ⟨0, 11, none⟩ = some (.string (signAt 11)) := Lib.cell?_alloc_some _ (hE.signs 11 (by decide))
  have c12 : (w.alloc (.cells #[.int .i64 0, .int .i64 0, .string { data := #[] }, .int .i64 0] 24)).cell? ⟨0, 12, none⟩ = some (.string (signAt 12)) := Lib.cell?_alloc_some _ (hE.signs 12 (by decide))
  have c13 : (w.alloc (.cells #[.int .i64 0, .int .i64 0, .string { data := #[] }, .int .i64 0] 24)).cell? ⟨0, 13, none⟩ = some (.string (signAt 13)) := Lib.cell?_alloc_some _ (hE.signs 13 (by decide))
  have c14 : (w.alloc (.cells #[.int .i64 0, .int .i64 0, .string { data := #[] }, .int .i64 0] 24)).cell? ⟨0, 14, none⟩ = some (.string (signAt 14)) := Lib.cell?_alloc_some _ (hE.signs 14 (by decide))
  have hh : 2 ≤ w.heap.size := hE.nm.one
  clear hE
  go_enter Tryd.func32, Tryd.ntmps32
  go_wp2_with fail
  clear c0 c1 c2 c3 c4 c5 c6 c7 c8 c9 c10 c11 c12 c13 c14
  go_loop [8] (fun i => ∃ k : Nat, k ≤ 15 ∧ i = .int .i64 k ∧ Hid (∀ j, j < k → (signsL.getD j []).isPrefixOf s.toList = false)) (fun i => 15 - (intOf i).toNat)
  case atStart => exact ⟨0, by omega, rfl, Lib.hid (fun j hj => absurd hj (Nat.not_lt_zero _))⟩
  case round =>
    obtain ⟨k, hk, rfl, hN⟩ := hrel
    by_cases hlt : k < 15
    · have hx := fun w => index_sign k hlt w
      cases hb : (signsL.getD k []).isPrefixOf s.toList
      · have HB : Hid ((signAt k).toList.isPrefixOf s.toList = false) := Lib.hid (by rw [signAt_list]; exact hb)
        have HN := Lib.hid (show ∀ j, j < k + 1 → (signsL.getD j []).isPrefixOf s.toList = false from fun j hj => by
          by_cases e : j = k
          · subst e; exact hb
          · exact hN.out j (by omega))
        clear hb
        go_wp2_with (go_at_call 40; ((with_reducible refine (hasp_as s (signAt k) false _ HB).mono ?_); rintro e w' ⟨rfl, rfl⟩))
        go_round
        case rel => exact ⟨k + 1, by omega, by go_num, HN⟩
        case measure => simp [intOf]; omega
      · have HB : Hid ((signAt k).toList.isPrefixOf s.toList = true) := Lib.hid (by rw [signAt_list]; exact hb)
        have HV : Hid (signR s.toList = (0, ⟨4, 0, signsL.getD k []⟩, (signAt k).size)) := Lib.hid (by
          unfold signR; rw [sign_at hlt hN.out hb, if_neg (signs_ne k hlt), signAt_size])
        clear hb
        go_wp2_with (go_at_call 40; ((with_reducible refine (hasp_as s (signAt k) true _ HB).mono ?_); rintro e w' ⟨rfl, rfl⟩))
        refine bodyPost_ret (v := .tuple #[.agg #[.int .i64 4, .int .i64 0, .string (signAt k), .int .i64 0], .int .i64 ((signAt k).size : Int), .int .i64 0]) (by simp [results, Tryd.results32, go_sem]) rfl ⟨by rw [HV.out]; rfl, ?_⟩
        exact bl_alloc (Below.refl _ _)
    · obtain rfl : k = 15 := by omega
      have HV : Hid (signR s.toList = (20, ⟨0, 0, []⟩, 0)) := Lib.hid (by unfold signR; rw [sign_none hN.out, if_pos rfl])
      go_wp2_with fail
      refine bodyPost_ret (v := .tuple #[.agg #[.int .i64 0, .int .i64 0, .string ⟨#[]⟩, .int .i64 0], .int .i64 0, .int .i64 20]) (by simp [results, Tryd.results32, go_sem]) rfl ⟨by rw [HV.out]; rfl, ?_⟩
      exact bl_alloc (Below.refl _ _)
end Go.Proofs.YtfhknnldkfngdaaDoor
