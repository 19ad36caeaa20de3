/- WALKS of like, awake, TokenNext. -/
import Derived.Test.YtfhknnldkfngdaaDoorXh
namespace Go.Proofs.YtfhknnldkfngdaaDoor
open Go.RowKit
set_option maxRecDepth 100000 in
set_option maxHeartbeats 1000000 in
theorem like_same (k n a : Int) (t : ByteArray) (w : World) : Calls Tryd.prog 9 #[.agg #[.int .i64 k, .int .i64 n, .string t, .int .i64 a], .agg #[.int .i64 k, .int .i64 n, .string t, .int .i64 a]] w fun e w' => e = .returned (.bool true) ∧ Below w.heap.size w w' := by
  go_enter Tryd.func9, Tryd.ntmps9
  go_wp2_with fail
  go_ret
  exact ⟨rfl, bl_alloc (bl_alloc (Below.refl _ _))⟩
def ex1 : List UInt8 := [97, 58, 32, 62, 61, 51, 59, 32, 35, 32, 120]
theorem lex_ex : lexL ex1 = ([⟨⟨2, 0, [97]⟩, 0⟩, ⟨⟨4, 0, [58]⟩, 1⟩, ⟨⟨4, 0, [62, 61]⟩, 3⟩, ⟨⟨1, 3, []⟩, 5⟩, ⟨⟨4, 0, [59]⟩, 6⟩], 0, 0) := by kernel_rfl
/-- What the page's example answers, cell by cell. -/
def ExP (w : World) (e : Ending) (w' : World) : Prop := ∃ b off cap, e = .returned (.tuple #[.slice (some ⟨b, off, none⟩) 5 cap, .int .i64 0, .int .i64 0]) ∧ Below w.heap.size w w' ∧
  (w'.cell? ⟨b, off, none⟩ = some (.int .i64 2) ∧ w'.cell? ⟨b, off + 1, none⟩ = some (.int .i64 0) ∧ w'.cell? ⟨b, off + 2, none⟩ = some (.string ⟨#[97]⟩) ∧ w'.cell? ⟨b, off + 3, none⟩ = some (.int .i64 0)) ∧
  (w'.cell? ⟨b, off + 8, none⟩ = some (.int .i64 4) ∧ w'.cell? ⟨b, off + 8 + 1, none⟩ = some (.int .i64 0) ∧ w'.cell? ⟨b, off + 8 + 2, none⟩ = some (.string ⟨#[62, 61]⟩) ∧ w'.cell? ⟨b, off + 8 + 3, none⟩ = some (.int .i64 3)) ∧
  (w'.cell? ⟨b, off + 12, none⟩ = some (.int .i64 1) ∧ w'.cell? ⟨b, off + 12 + 1, none⟩ = some (.int .i64 3) ∧ w'.cell? ⟨b, off + 12 + 2, none⟩ = some (.string ⟨#[]⟩) ∧ w'.cell? ⟨b, off + 12 + 3, none⟩ = some (.int .i64 5))
theorem lex_awake (w : World) (hE : Ent w) : Calls Tryd.prog 10 #[.string { data := #[97, 58, 32, 62, 61, 51, 59, 32, 35, 32, 120] }] w (ExP w) := by
  refine (lex_any _ w hE (by decide)).mono ?_
  rintro e w' ⟨a, n, cap, hn, rfl, hT, hB⟩
  rw [show (ByteArray.toList { data := #[97, 58, 32, 62, 61, 51, 59, 32, 35, 32, 120] }) = ex1 from bs_list ex1, lex_ex] at hn hT ⊢
  obtain ⟨b, off, rfl, -, x0, x1, x2, x3⟩ := hT 0 (by decide)
  obtain ⟨b', off', e1, -, y0, y1, y2, y3⟩ := hT 2 (by decide)
  cases e1
  obtain ⟨b', off', e1, -, z0, z1, z2, z3⟩ := hT 3 (by decide)
  cases e1
  subst hn
  exact ⟨b, off, cap, rfl, hB, ⟨x0, x1, x2, x3⟩, ⟨y0, y1, y2, y3⟩, ⟨z0, z1, z2, z3⟩⟩
set_option maxRecDepth 100000 in
set_option maxHeartbeats 2000000 in
theorem awake_any (w : World) (hE : Ent w) : Calls Tryd.prog 6 #[] w fun e w' => e = .returned (.bool true) ∧ Below w.heap.size w w' := by
  have HL := Lib.hid (lex_awake w hE)
  clear hE
  go_enter Tryd.func6, Tryd.ntmps6
  go_wp2_with (go_at_call 10; refine HL.out.mono ?_; rintro e w1 ⟨b, off, cap, rfl, hB, ⟨x0, x1, x2, x3⟩, ⟨y0, y1, y2, y3⟩, ⟨z0, z1, z2, z3⟩⟩; have HB := Lib.hid hB; clear hB)
  go_ret
  exact ⟨rfl, HB.out⟩
end Go.Proofs.YtfhknnldkfngdaaDoor
