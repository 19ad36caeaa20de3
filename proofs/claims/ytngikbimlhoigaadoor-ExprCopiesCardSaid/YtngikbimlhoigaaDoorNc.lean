/- WALKS of name.letter, inner, Right and of the reference's Right. -/
import Derived.Test.YtngikbimlhoigaaDoorNb
namespace Go.Proofs.YtngikbimlhoigaaDoor.Nm
open Go.RowKit

set_option maxHeartbeats 400000 in
theorem letter_any (r : Int) (w : World) : Calls Tryd.prog 58 #[.int .i32 r] w fun e w' => e = .returned (.bool (letB r)) ∧ w = w' := by
  by_cases h1 : 97 ≤ r <;> by_cases h2 : r ≤ 122
  all_goals
    go_enter Tryd.func58, Tryd.ntmps58
    go_wp2
    go_ret
    exact ⟨ret_bool (by simp [letB]; omega), rfl⟩
set_option maxHeartbeats 400000 in
theorem inner_any (r : Int) (w : World) : Calls Tryd.prog 59 #[.int .i32 r] w fun e w' => e = .returned (.bool (innB r)) ∧ w = w' := by
  by_cases h1 : 48 ≤ r <;> by_cases h2 : r ≤ 57 <;> cases h3 : (r == 95)
  all_goals
    have h4 := Lib.hid h3
    go_enter Tryd.func59, Tryd.ntmps59
    go_wp2
    go_ret
    refine ⟨ret_bool ?_, rfl⟩
    have h5 := h4.out
    simp at h5
    unfold innB
    first
      | exact (decide_eq_true (by omega)).symm
      | exact (decide_eq_false (by omega)).symm

theorem letter_as (r : Int) (b : Bool) (w : World) (h : Hid (letB r = b)) : Calls Tryd.prog 58 #[.int .i32 r] w fun e w' => e = .returned (.bool b) ∧ w = w' := by
  rw [← h.out]; exact letter_any r w
theorem inner_as (r : Int) (b : Bool) (w : World) (h : Hid (innB r = b)) : Calls Tryd.prog 59 #[.int .i32 r] w fun e w' => e = .returned (.bool b) ∧ w = w' := by
  rw [← h.out]; exact inner_any r w
theorem word_in (s : ByteArray) (pos : Nat) (w : World) (hE : Hid (Env w)) (t : ByteArray) : Calls Tryd.prog 60 #[.string t] (w.iter s pos) fun e w' => e = .returned (.int .i64 (wordN t.toList)) ∧ w.iter s pos = w' :=
  word_any t _ (hE.out.below ((Below.refl _ _).alloc (Nat.le_refl _) _))
/-- What the range hands over at a byte, and whether it may stand there. -/
theorem rune_at (s : ByteArray) (pos : Nat) (hp : pos < s.size) : ∃ (r : Int) (d : Nat), (Utf8.decode s pos).1 = r ∧ (Utf8.decode s pos).2 = d ∧ 0 ≤ r ∧ r ≤ 2147483647 ∧ 1 ≤ d ∧
    ((letB r = false ∧ innB r = false ∧ letB (s[pos].toNat : Int) = false ∧ innB (s[pos].toNat : Int) = false) ∨
     (letB r = false ∧ innB r = true ∧ d = 1 ∧ letB (s[pos].toNat : Int) = false ∧ innB (s[pos].toNat : Int) = true) ∨
     (letB r = true ∧ d = 1 ∧ letB (s[pos].toNat : Int) = true)) := by
  by_cases ha : s[pos].toNat < 128
  · rw [decode_ascii s pos hp ha]
    refine ⟨(s[pos].toNat : Int), 1, rfl, rfl, by omega, by omega, by omega, ?_⟩
    cases e1 : letB (s[pos].toNat : Int)
    · cases e2 : innB (s[pos].toNat : Int)
      · exact .inl ⟨rfl, rfl, rfl, rfl⟩
      · exact .inr (.inl ⟨rfl, rfl, rfl, rfl, rfl⟩)
    · exact .inr (.inr ⟨rfl, rfl, rfl⟩)
  · have hh := decode_high s pos hp (by omega)
    have n1 : ∀ r : Int, 128 ≤ r → letB r = false ∧ innB r = false := fun r hr => ⟨decide_eq_false (by omega), decide_eq_false (by omega)⟩
    refine ⟨_, _, rfl, rfl, by omega, by have := decode_le s pos; omega, hh.2, .inl ⟨(n1 _ (by omega)).1, (n1 _ (by omega)).2, (n1 _ (by omega)).1, (n1 _ (by omega)).2⟩⟩

set_option maxHeartbeats 1000000 in
theorem right_any (s : ByteArray) (w : World) (hE : Env w) (hs : s.size ≤ maxLen) : Calls Tryd.prog 54 #[.string s] w fun e w' => e = .returned (.bool (rightL s.toList)) ∧ Below w.heap.size w w' := by
  have HE := Lib.hid hE
  clear hE
  unfold maxLen at hs
  by_cases h0 : 0 < s.size
  · have hn := list_ne s h0
    have hi := list_isE s h0
    by_cases h16 : 16 < s.size
    · go_enter Tryd.func54, Tryd.ntmps54
      go_wp2
      go_ret
      exact ⟨ret_bool (right_empty (.inr (by rw [← size_list]; exact h16))).symm, Below.refl _ _⟩
    · go_enter Tryd.func54, Tryd.ntmps54
      go_wp2
      go_loopw [] (fun wr => ∃ pos : Nat, pos ≤ s.size ∧ wr = w.iter s pos ∧ Good s pos) (fun wr => s.size - wr.iterPos w.heap.size)
      case atStart => exact ⟨0, by omega, rfl, Good.first s⟩
      case round =>
        obtain ⟨pos, hle, rfl, hG⟩ := hrel
        have G := Lib.hid hG
        clear hG
        by_cases hp : pos < s.size
        · obtain ⟨r, d, er, ed, r0, r1, d1, hc⟩ := rune_at s pos hp
          have hnx : ∀ ty, (Instr.next (.pointer (some ⟨w.heap.size, 0, none⟩)) true ty).run Tryd.prog (w.iter s pos) = .ok (.tuple #[.bool true, .int .i64 pos, .int .i32 r]) (w.iter s (pos + d)) := fun ty => by
            rw [run_next_any w s pos ty hp, ← er, ← ed]
          clear er ed
          rcases hc with ⟨l1, l2, l3, l4⟩ | ⟨l1, l2, rfl, l3, l4⟩ | ⟨l1, rfl, l3⟩
          · have L1 := Lib.hid l1
            have L2 := Lib.hid l2
            have HB := Lib.hid (right_bad hp l3 (.inr l4))
            clear l1 l2 l3 l4
            go_wp2_with (first
              | (go_at_call 58; refine (letter_as _ _ _ L1).mono ?_; rintro e w' ⟨rfl, rfl⟩)
              | (go_at_call 59; refine (inner_as _ _ _ L2).mono ?_; rintro e w' ⟨rfl, rfl⟩))
            all_goals
              go_ret
              exact ⟨ret_bool HB.out.symm, (Below.refl _ _).alloc (Nat.le_refl _) _⟩
          · have L1 := Lib.hid l1
            have L2 := Lib.hid l2
            have L3 := Lib.hid l3
            have L4 := Lib.hid l4
            clear l1 l2 l3 l4
            go_wp2_with (first
              | (go_at_call 58; refine (letter_as _ _ _ L1).mono ?_; rintro e w' ⟨rfl, rfl⟩)
              | (go_at_call 59; refine (inner_as _ _ _ L2).mono ?_; rintro e w' ⟨rfl, rfl⟩))
            all_goals first
              | (go_roundw
                 case rel => exact ⟨pos + 1, by omega, rfl, G.out.succ hp (.inr ⟨‹¬ pos = 0›, L4.out⟩)⟩
                 case measure => simp; omega)
              | (go_ret
                 exact ⟨ret_bool (right_bad hp L3.out (.inl ‹pos = 0›)).symm, (Below.refl _ _).alloc (Nat.le_refl _) _⟩)
          · have L1 := Lib.hid l1
            have L2 := Lib.hid (rfl : innB r = innB r)
            have HG := Lib.hid (G.out.succ hp (.inl l3))
            clear l1 l3
            go_wp2_with (first
              | (go_at_call 58; refine (letter_as _ _ _ L1).mono ?_; rintro e w' ⟨rfl, rfl⟩)
              | (go_at_call 59; refine (inner_as _ _ _ L2).mono ?_; rintro e w' ⟨rfl, rfl⟩))
            go_roundw
            case rel => exact ⟨pos + 1, by omega, rfl, HG.out⟩
            case measure => simp; omega
        · have hnx : ∀ ty, (Instr.next (.pointer (some ⟨w.heap.size, 0, none⟩)) true ty).run Tryd.prog (w.iter s pos) = _ := fun ty => run_next_end w s pos ty hp
          obtain rfl : pos = s.size := by omega
          have HR := Lib.hid (right_end h0 (by omega) G.out)
          go_wp2_with (go_at_call 60; refine (word_in _ _ _ HE _).mono ?_; rintro e w' ⟨rfl, rfl⟩)
          go_ret
          exact ⟨ret_bool HR.out.symm, (Below.refl _ _).alloc (Nat.le_refl _) _⟩
  · have hn := list_nil s h0
    go_enter Tryd.func54, Tryd.ntmps54
    go_wp2
    go_ret
    exact ⟨ret_bool (right_empty (.inl (by rw [← size_list]; omega))).symm, Below.refl _ _⟩
end Go.Proofs.YtngikbimlhoigaaDoor.Nm
