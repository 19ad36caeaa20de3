/- WALKS of name.Word and of the reference's Word. -/
import Derived.Test.YtngikbimlhoigaaDoorChecked
import Derived.Test.YtngikbimlhoigaaDoorNa
import Derived.WalkKit
import Derived.WalkSpells
import Derived.WalkLawsBesides
import Derived.Lib.Hide
namespace Go.Proofs.YtngikbimlhoigaaDoor.Nm
open Go.RowKit

theorem ret_bool {a b : Bool} (h : a = b) : Ending.returned (.bool a) = .returned (.bool b) := by rw [h]
theorem ret_str {a b : ByteArray} (h : a = b) : Ending.returned (.string a) = .returned (.string b) := by rw [h]
theorem ret_int {k : IntKind} {a b : Int} (h : a = b) : Ending.returned (.int k a) = .returned (.int k b) := by rw [h]

set_option maxHeartbeats 1000000 in
theorem rword_any (s : ByteArray) (w : World) : Calls Tryd.prog 56 #[.string s] w fun e w' => e = .returned (.int .i64 (wordN s.toList)) ∧ w = w' := by
  go_enter Tryd.func56, Tryd.ntmps56
  go_wp2
  all_goals
    go_ret
    exact ⟨ret_int (by simp only [wordN, *]; rfl), rfl⟩

/-- None of the first k words. -/
def NotYet (L : List UInt8) (k : Nat) : Prop := ∀ j, j < k → (L == wordsL.getD j []) = false
theorem NotYet.first (L : List UInt8) : NotYet L 0 := fun _ h => absurd h (by omega)
theorem NotYet.succ {L : List UInt8} {k : Nat} (h : NotYet L k) (hk : (L == wordsL.getD k []) = false) : NotYet L (k + 1) := fun j hj => by
  by_cases e : j = k
  · subst e; exact hk
  · exact h j (by omega)
theorem NotYet.word {L : List UInt8} {k : Nat} (h : NotYet L k) (hk : k < 9) (he : (L == wordsL.getD k []) = true) : (k : Int) + 1 = wordN L := by
  match k, hk with
  | 0, _ =>
    have e : (L == [97, 110, 121]) = true := he
    simp only [wordN, e]; rfl
  | 1, _ =>
    have f0 : (L == [97, 110, 121]) = false := h 0 (by decide)
    have e : (L == [98, 111, 111, 108]) = true := he
    simp only [wordN, e, f0]; rfl
  | 2, _ =>
    have f0 : (L == [97, 110, 121]) = false := h 0 (by decide)
    have f1 : (L == [98, 111, 111, 108]) = false := h 1 (by decide)
    have e : (L == [99, 111, 109, 112, 117, 116, 101, 100]) = true := he
    simp only [wordN, e, f0, f1]; rfl
  | 3, _ =>
    have f0 : (L == [97, 110, 121]) = false := h 0 (by decide)
    have f1 : (L == [98, 111, 111, 108]) = false := h 1 (by decide)
    have f2 : (L == [99, 111, 109, 112, 117, 116, 101, 100]) = false := h 2 (by decide)
    have e : (L == [102, 97, 108, 115, 101]) = true := he
    simp only [wordN, e, f0, f1, f2]; rfl
  | 4, _ =>
    have f0 : (L == [97, 110, 121]) = false := h 0 (by decide)
    have f1 : (L == [98, 111, 111, 108]) = false := h 1 (by decide)
    have f2 : (L == [99, 111, 109, 112, 117, 116, 101, 100]) = false := h 2 (by decide)
    have f3 : (L == [102, 97, 108, 115, 101]) = false := h 3 (by decide)
    have e : (L == [105, 110, 116]) = true := he
    simp only [wordN, e, f0, f1, f2, f3]; rfl
  | 5, _ =>
    have f0 : (L == [97, 110, 121]) = false := h 0 (by decide)
    have f1 : (L == [98, 111, 111, 108]) = false := h 1 (by decide)
    have f2 : (L == [99, 111, 109, 112, 117, 116, 101, 100]) = false := h 2 (by decide)
    have f3 : (L == [102, 97, 108, 115, 101]) = false := h 3 (by decide)
    have f4 : (L == [105, 110, 116]) = false := h 4 (by decide)
    have e : (L == [110, 111, 110, 101]) = true := he
    simp only [wordN, e, f0, f1, f2, f3, f4]; rfl
  | 6, _ =>
    have f0 : (L == [97, 110, 121]) = false := h 0 (by decide)
    have f1 : (L == [98, 111, 111, 108]) = false := h 1 (by decide)
    have f2 : (L == [99, 111, 109, 112, 117, 116, 101, 100]) = false := h 2 (by decide)
    have f3 : (L == [102, 97, 108, 115, 101]) = false := h 3 (by decide)
    have f4 : (L == [105, 110, 116]) = false := h 4 (by decide)
    have f5 : (L == [110, 111, 110, 101]) = false := h 5 (by decide)
    have e : (L == [114, 101, 115, 111, 117, 114, 99, 101]) = true := he
    simp only [wordN, e, f0, f1, f2, f3, f4, f5]; rfl
  | 7, _ =>
    have f0 : (L == [97, 110, 121]) = false := h 0 (by decide)
    have f1 : (L == [98, 111, 111, 108]) = false := h 1 (by decide)
    have f2 : (L == [99, 111, 109, 112, 117, 116, 101, 100]) = false := h 2 (by decide)
    have f3 : (L == [102, 97, 108, 115, 101]) = false := h 3 (by decide)
    have f4 : (L == [105, 110, 116]) = false := h 4 (by decide)
    have f5 : (L == [110, 111, 110, 101]) = false := h 5 (by decide)
    have f6 : (L == [114, 101, 115, 111, 117, 114, 99, 101]) = false := h 6 (by decide)
    have e : (L == [115, 116, 114, 105, 110, 103]) = true := he
    simp only [wordN, e, f0, f1, f2, f3, f4, f5, f6]; rfl
  | 8, _ =>
    have f0 : (L == [97, 110, 121]) = false := h 0 (by decide)
    have f1 : (L == [98, 111, 111, 108]) = false := h 1 (by decide)
    have f2 : (L == [99, 111, 109, 112, 117, 116, 101, 100]) = false := h 2 (by decide)
    have f3 : (L == [102, 97, 108, 115, 101]) = false := h 3 (by decide)
    have f4 : (L == [105, 110, 116]) = false := h 4 (by decide)
    have f5 : (L == [110, 111, 110, 101]) = false := h 5 (by decide)
    have f6 : (L == [114, 101, 115, 111, 117, 114, 99, 101]) = false := h 6 (by decide)
    have f7 : (L == [115, 116, 114, 105, 110, 103]) = false := h 7 (by decide)
    have e : (L == [116, 114, 117, 101]) = true := he
    simp only [wordN, e, f0, f1, f2, f3, f4, f5, f6, f7]; rfl
theorem NotYet.none {L : List UInt8} (h : NotYet L 9) : 0 = wordN L := by
  have f0 : (L == [97, 110, 121]) = false := h 0 (by decide)
  have f1 : (L == [98, 111, 111, 108]) = false := h 1 (by decide)
  have f2 : (L == [99, 111, 109, 112, 117, 116, 101, 100]) = false := h 2 (by decide)
  have f3 : (L == [102, 97, 108, 115, 101]) = false := h 3 (by decide)
  have f4 : (L == [105, 110, 116]) = false := h 4 (by decide)
  have f5 : (L == [110, 111, 110, 101]) = false := h 5 (by decide)
  have f6 : (L == [114, 101, 115, 111, 117, 114, 99, 101]) = false := h 6 (by decide)
  have f7 : (L == [115, 116, 114, 105, 110, 103]) = false := h 7 (by decide)
  have f8 : (L == [116, 114, 117, 101]) = false := h 8 (by decide)
  simp only [wordN, f0, f1, f2, f3, f4, f5, f6, f7, f8]; rfl

theorem index_0 (w : World) : (Instr.index 64 (.agg #[.string { data := #[97, 110, 121] }, .string { data := #[98, 111, 111, 108] }, .string { data := #[99, 111, 109, 112, 117, 116, 101, 100] }, .string { data := #[102, 97, 108, 115, 101] }, .string { data := #[105, 110, 116] }, .string { data := #[110, 111, 110, 101] }, .string { data := #[114, 101, 115, 111, 117, 114, 99, 101] }, .string { data := #[115, 116, 114, 105, 110, 103] }, .string { data := #[116, 114, 117, 101] }]) (.int .i64 0)).run Tryd.prog w = .ok (.string { data := #[97, 110, 121] }) w := by kernel_rfl
theorem index_1 (w : World) : (Instr.index 64 (.agg #[.string { data := #[97, 110, 121] }, .string { data := #[98, 111, 111, 108] }, .string { data := #[99, 111, 109, 112, 117, 116, 101, 100] }, .string { data := #[102, 97, 108, 115, 101] }, .string { data := #[105, 110, 116] }, .string { data := #[110, 111, 110, 101] }, .string { data := #[114, 101, 115, 111, 117, 114, 99, 101] }, .string { data := #[115, 116, 114, 105, 110, 103] }, .string { data := #[116, 114, 117, 101] }]) (.int .i64 1)).run Tryd.prog w = .ok (.string { data := #[98, 111, 111, 108] }) w := by kernel_rfl
theorem index_2 (w : World) : (Instr.index 64 (.agg #[.string { data := #[97, 110, 121] }, .string { data := #[98, 111, 111, 108] }, .string { data := #[99, 111, 109, 112, 117, 116, 101, 100] }, .string { data := #[102, 97, 108, 115, 101] }, .string { data := #[105, 110, 116] }, .string { data := #[110, 111, 110, 101] }, .string { data := #[114, 101, 115, 111, 117, 114, 99, 101] }, .string { data := #[115, 116, 114, 105, 110, 103] }, .string { data := #[116, 114, 117, 101] }]) (.int .i64 2)).run Tryd.prog w = .ok (.string { data := #[99, 111, 109, 112, 117, 116, 101, 100] }) w := by kernel_rfl
theorem index_3 (w : World) : (Instr.index 64 (.agg #[.string { data := #[97, 110, 121] }, .string { data := #[98, 111, 111, 108] }, .string { data := #[99, 111, 109, 112, 117, 116, 101, 100] }, .string { data := #[102, 97, 108, 115, 101] }, .string { data := #[105, 110, 116] }, .string { data := #[110, 111, 110, 101] }, .string { data := #[114, 101, 115, 111, 117, 114, 99, 101] }, .string { data := #[115, 116, 114, 105, 110, 103] }, .string { data := #[116, 114, 117, 101] }]) (.int .i64 3)).run Tryd.prog w = .ok (.string { data := #[102, 97, 108, 115, 101] }) w := by kernel_rfl
theorem index_4 (w : World) : (Instr.index 64 (.agg #[.string { data := #[97, 110, 121] }, .string { data := #[98, 111, 111, 108] }, .string { data := #[99, 111, 109, 112, 117, 116, 101, 100] }, .string { data := #[102, 97, 108, 115, 101] }, .string { data := #[105, 110, 116] }, .string { data := #[110, 111, 110, 101] }, .string { data := #[114, 101, 115, 111, 117, 114, 99, 101] }, .string { data := #[115, 116, 114, 105, 110, 103] }, .string { data := #[116, 114, 117, 101] }]) (.int .i64 4)).run Tryd.prog w = .ok (.string { data := #[105, 110, 116] }) w := by kernel_rfl
theorem index_5 (w : World) : (Instr.index 64 (.agg #[.string { data := #[97, 110, 121] }, .string { data := #[98, 111, 111, 108] }, .string { data := #[99, 111, 109, 112, 117, 116, 101, 100] }, .string { data := #[102, 97, 108, 115, 101] }, .string { data := #[105, 110, 116] }, .string { data := #[110, 111, 110, 101] }, .string { data := #[114, 101, 115, 111, 117, 114, 99, 101] }, .string { data := #[115, 116, 114, 105, 110, 103] }, .string { data := #[116, 114, 117, 101] }]) (.int .i64 5)).run Tryd.prog w = .ok (.string { data := #[110, 111, 110, 101] }) w := by kernel_rfl
theorem index_6 (w : World) : (Instr.index 64 (.agg #[.string { data := #[97, 110, 121] }, .string { data := #[98, 111, 111, 108] }, .string { data := #[99, 111, 109, 112, 117, 116, 101, 100] }, .string { data := #[102, 97, 108, 115, 101] }, .string { data := #[105, 110, 116] }, .string { data := #[110, 111, 110, 101] }, .string { data := #[114, 101, 115, 111, 117, 114, 99, 101] }, .string { data := #[115, 116, 114, 105, 110, 103] }, .string { data := #[116, 114, 117, 101] }]) (.int .i64 6)).run Tryd.prog w = .ok (.string { data := #[114, 101, 115, 111, 117, 114, 99, 101] }) w := by kernel_rfl
theorem index_7 (w : World) : (Instr.index 64 (.agg #[.string { data := #[97, 110, 121] }, .string { data := #[98, 111, 111, 108] }, .string { data := #[99, 111, 109, 112, 117, 116, 101, 100] }, .string { data := #[102, 97, 108, 115, 101] }, .string { data := #[105, 110, 116] }, .string { data := #[110, 111, 110, 101] }, .string { data := #[114, 101, 115, 111, 117, 114, 99, 101] }, .string { data := #[115, 116, 114, 105, 110, 103] }, .string { data := #[116, 114, 117, 101] }]) (.int .i64 7)).run Tryd.prog w = .ok (.string { data := #[115, 116, 114, 105, 110, 103] }) w := by kernel_rfl
theorem index_8 (w : World) : (Instr.index 64 (.agg #[.string { data := #[97, 110, 121] }, .string { data := #[98, 111, 111, 108] }, .string { data := #[99, 111, 109, 112, 117, 116, 101, 100] }, .string { data := #[102, 97, 108, 115, 101] }, .string { data := #[105, 110, 116] }, .string { data := #[110, 111, 110, 101] }, .string { data := #[114, 101, 115, 111, 117, 114, 99, 101] }, .string { data := #[115, 116, 114, 105, 110, 103] }, .string { data := #[116, 114, 117, 101] }]) (.int .i64 8)).run Tryd.prog w = .ok (.string { data := #[116, 114, 117, 101] }) w := by kernel_rfl

set_option maxHeartbeats 2000000 in
theorem word_any (s : ByteArray) (w : World) (hE : Env w) : Calls Tryd.prog 60 #[.string s] w fun e w' => e = .returned (.int .i64 (wordN s.toList)) ∧ w = w' := by
  have c0 : w.cell? ⟨0, 0, none⟩ = some (.string { data := #[97, 110, 121] }) := hE.words 0 (by decide)
  have c1 : w.cell? ⟨0, 1, none⟩ = some (.string { data := #[98, 111, 111, 108] }) := hE.words 1 (by decide)
  have c2 : w.cell? ⟨0, 2, none⟩ = some (.string { data := #[99, 111, 109, 112, 117, 116, 101, 100] }) := hE.words 2 (by decide)
  have c3 : w.cell? ⟨0, 3, none⟩ = some (.string { data := #[102, 97, 108, 115, 101] }) := hE.words 3 (by decide)
  have c4 : w.cell? ⟨0, 4, none⟩ = some (.string { data := #[105, 110, 116] }) := hE.words 4 (by decide)
  have c5 : w.cell? ⟨0, 5, none⟩ = some (.string { data := #[110, 111, 110, 101] }) := hE.words 5 (by decide)
  have c6 : w.cell? ⟨0, 6, none⟩ = some (.string { data := #[114, 101, 115, 111, 117, 114, 99, 101] }) := hE.words 6 (by decide)
  have c7 : w.cell? ⟨0, 7, none⟩ = some (.string { data := #[115, 116, 114, 105, 110, 103] }) := hE.words 7 (by decide)
  have c8 : w.cell? ⟨0, 8, none⟩ = some (.string { data := #[116, 114, 117, 101] }) := hE.words 8 (by decide)
  clear hE
  go_enter Tryd.func60, Tryd.ntmps60
  go_wp2
  clear c0 c1 c2 c3 c4 c5 c6 c7 c8
  go_loop [6] (fun i => ∃ k : Nat, k ≤ 9 ∧ i = .int .i64 k ∧ NotYet s.toList k) (fun i => 9 - (intOf i).toNat)
  case atStart => exact ⟨0, by omega, rfl, NotYet.first _⟩
  case round =>
    obtain ⟨k, hk, rfl, hN⟩ := hrel
    have H := Lib.hid hN
    clear hN
    have x0 := fun w => index_0 w
    have x1 := fun w => index_1 w
    have x2 := fun w => index_2 w
    have x3 := fun w => index_3 w
    have x4 := fun w => index_4 w
    have x5 := fun w => index_5 w
    have x6 := fun w => index_6 w
    have x7 := fun w => index_7 w
    have x8 := fun w => index_8 w
    obtain rfl | rfl | rfl | rfl | rfl | rfl | rfl | rfl | rfl | rfl : k = 0 ∨ k = 1 ∨ k = 2 ∨ k = 3 ∨ k = 4 ∨ k = 5 ∨ k = 6 ∨ k = 7 ∨ k = 8 ∨ k = 9 := by omega
    all_goals
      go_wp2
      all_goals first
        | (go_round
           case rel => exact ⟨_, by decide, by rfl, H.out.succ ‹_›⟩
           case measure => simp [intOf])
        | (go_ret
           exact ⟨ret_int (H.out.word (by decide) ‹_›), rfl⟩)
        | (go_ret
           exact ⟨ret_int H.out.none, rfl⟩)
end Go.Proofs.YtngikbimlhoigaaDoor.Nm
