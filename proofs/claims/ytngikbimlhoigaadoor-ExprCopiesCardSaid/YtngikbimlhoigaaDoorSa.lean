/- WALKS of num.In, the reference's In, expr's number and empty. -/
import Derived.Test.YtngikbimlhoigaaDoorRb
import Derived.Deep.QuietTactic
import Derived.BigQuiet
namespace Go.Proofs.YtngikbimlhoigaaDoor
open Go.RowKit
def inB (n : Int) : Bool := decide (-9007199254740992 ≤ n) && decide (n ≤ 9007199254740992)
theorem ret_bool {a b : Bool} (h : a = b) : Ending.returned (.bool a) = .returned (.bool b) := by rw [h]
theorem ret_int {a b : Int} (h : a = b) : Ending.returned (.int .i64 a) = .returned (.int .i64 b) := by rw [h]
set_option maxHeartbeats 400000 in
theorem in_any (n : Int) (w : World) : Calls Tryd.prog 55 #[.int .i64 n] w fun e w' => e = .returned (.bool (inB n)) ∧ w = w' := by
  by_cases h1 : -9007199254740992 ≤ n <;> by_cases h2 : n ≤ 9007199254740992
  all_goals
    go_enter Tryd.func55, Tryd.ntmps55
    go_wp2
    go_ret
    exact ⟨ret_bool (by simp [inB, h1, h2]), rfl⟩
set_option maxHeartbeats 400000 in
theorem rin_any (n : Int) (w : World) : Calls Tryd.prog 30 #[.int .i64 n] w fun e w' => e = .returned (.bool (inB n)) ∧ w = w' := by
  by_cases h1 : -9007199254740992 ≤ n <;> by_cases h2 : n ≤ 9007199254740992
  all_goals
    go_enter Tryd.func30, Tryd.ntmps30
    go_wp2
    go_ret
    exact ⟨ret_bool (by simp [inB, h1, h2]), rfl⟩
def numB (op n : Int) : Bool := if op = 1 ∨ op = 7 ∨ op = 8 then inB n else if op = 3 then decide (n = 0) || decide (n = 1) else if op = 4 then decide (n = 1) || decide (n = 2) || decide (n = 3) || decide (n = 5) else decide (n = 0)
theorem eq_no {a b : Int} (h : ¬ a = b) : (a == b) = false := by simpa using h
set_option maxHeartbeats 1000000 in
theorem number_any (op n : Int) (w : World) : Calls Tryd.prog 47 #[.int .i64 op, .int .i64 n] w fun e w' => e = .returned (.bool (numB op n)) ∧ w = w' := by
  have hI := fun n W => Lib.hid (in_any n W)
  by_cases h : op = 1 ∨ op = 7 ∨ op = 8
  · rcases h with rfl | rfl | rfl
    all_goals
      go_enter Tryd.func47, Tryd.ntmps47
      go_wp2_with (go_at_call 55; refine (hI _ _).out.mono ?_; rintro e w' ⟨rfl, rfl⟩)
      go_ret
      exact ⟨ret_bool (by simp [numB]), rfl⟩
  · by_cases h3 : op = 3
    · subst h3
      by_cases n0 : n = 0
      · subst n0
        go_enter Tryd.func47, Tryd.ntmps47
        go_wp2
        go_ret
        exact ⟨rfl, rfl⟩
      · have e0 := eq_no n0
        go_enter Tryd.func47, Tryd.ntmps47
        go_wp2
        go_ret
        exact ⟨ret_bool (by simp [numB, n0]; rfl), rfl⟩
    · by_cases h4 : op = 4
      · subst h4
        by_cases n1 : n = 1
        · subst n1
          go_enter Tryd.func47, Tryd.ntmps47
          go_wp2
          go_ret
          exact ⟨rfl, rfl⟩
        · by_cases n2 : n = 2
          · subst n2
            go_enter Tryd.func47, Tryd.ntmps47
            go_wp2
            go_ret
            exact ⟨rfl, rfl⟩
          · by_cases n3 : n = 3
            · subst n3
              go_enter Tryd.func47, Tryd.ntmps47
              go_wp2
              go_ret
              exact ⟨rfl, rfl⟩
            · have e1 := eq_no n1
              have e2 := eq_no n2
              have e3 := eq_no n3
              go_enter Tryd.func47, Tryd.ntmps47
              go_wp2
              go_ret
              exact ⟨ret_bool (by simp [numB, n1, n2, n3]; rfl), rfl⟩
      · have e1 := eq_no (show ¬ op = 1 from fun e => h (.inl e))
        have e7 := eq_no (show ¬ op = 7 from fun e => h (.inr (.inl e)))
        have e8 := eq_no (show ¬ op = 8 from fun e => h (.inr (.inr e)))
        have e3 := eq_no h3
        have e4 := eq_no h4
        have HB := Lib.hid (show numB op n = decide (n = 0) by unfold numB; rw [if_neg h, if_neg h3, if_neg h4])
        clear h h3 h4
        go_enter Tryd.func47, Tryd.ntmps47
        go_wp2
        go_ret
        exact ⟨ret_bool (by rw [HB.out]; rfl), rfl⟩
/-- Nothing but the operation. -/
def emB (n : Int) (sz : Nat) (o : Bool) (pl ql kl : Nat) : Bool := decide (n = 0) && decide (sz = 0) && !o && decide (pl = 0) && decide (ql = 0) && decide (kl = 0)
theorem size_nil {s : ByteArray} (h : s.size = 0) : s = ⟨#[]⟩ := by
  cases s with
  | mk d => congr 1; exact Array.eq_empty_of_size_eq_zero h
set_option maxHeartbeats 4000000 in
theorem empty_any (h : Hd) (w : World) (h1 : h.pl ≤ 140737488355328) (h2 : h.ql ≤ 140737488355328) (h3 : h.kl ≤ 140737488355328) : Calls Tryd.prog 48 #[h.agg] w fun e w' => e = .returned (.bool (emB h.n h.s.size h.o h.pl h.ql h.kl)) ∧ Below w.heap.size w w' := by
  obtain ⟨op, nn, s, p, pl, pc, q, ql, qc, o, k, kl, kc⟩ := h
  unfold Hd.agg
  dsimp only at h1 h2 h3 ⊢
  by_cases n0 : nn = 0
  · subst n0
    by_cases s0 : s.size = 0
    · obtain rfl := size_nil s0
      cases o
      · by_cases p0 : pl = 0
        · subst p0
          by_cases q0 : ql = 0
          · subst q0
            by_cases k0 : kl = 0
            · subst k0
              go_enter Tryd.func48, Tryd.ntmps48
              go_wp2
              go_ret
              exact ⟨rfl, (Below.refl _ w).alloc (Nat.le_refl _) _⟩
            · have hk : 0 < kl := by omega
              have HB := Lib.hid (show emB 0 (ByteArray.size ⟨#[]⟩) false 0 0 kl = false by simp [emB, k0])
              have e0 : ((kl : Int) == 0) = false := by simpa using k0
              clear k0
              go_enter Tryd.func48, Tryd.ntmps48
              go_wp2
              go_ret
              exact ⟨ret_bool (by rw [HB.out]), (Below.refl _ w).alloc (Nat.le_refl _) _⟩
          · have hk : 0 < ql := by omega
            have HB := Lib.hid (show emB 0 (ByteArray.size ⟨#[]⟩) false 0 ql kl = false by simp [emB, q0])
            clear q0
            go_enter Tryd.func48, Tryd.ntmps48
            go_wp2
            go_ret
            exact ⟨ret_bool (by rw [HB.out]), (Below.refl _ w).alloc (Nat.le_refl _) _⟩
        · have hk : 0 < pl := by omega
          have HB := Lib.hid (show emB 0 (ByteArray.size ⟨#[]⟩) false pl ql kl = false by simp [emB, p0])
          clear p0
          go_enter Tryd.func48, Tryd.ntmps48
          go_wp2
          go_ret
          exact ⟨ret_bool (by rw [HB.out]), (Below.refl _ w).alloc (Nat.le_refl _) _⟩
      · have HB := Lib.hid (show emB 0 (ByteArray.size ⟨#[]⟩) true pl ql kl = false by simp [emB])
        go_enter Tryd.func48, Tryd.ntmps48
        go_wp2
        go_ret
        exact ⟨ret_bool (by rw [HB.out]), (Below.refl _ w).alloc (Nat.le_refl _) _⟩
    · have HB := Lib.hid (show emB 0 s.size o pl ql kl = false by simp [emB, s0])
      have ne : ¬ s.toList = [] := Nm.list_ne s (by omega)
      have ne2 : (!s.toList.isEmpty) = true := by rw [Nm.list_isE s (by omega)]; rfl
      clear s0
      go_enter Tryd.func48, Tryd.ntmps48
      go_wp2
      go_ret
      exact ⟨ret_bool (by rw [HB.out]), (Below.refl _ w).alloc (Nat.le_refl _) _⟩
  · have HB := Lib.hid (show emB nn s.size o pl ql kl = false by simp [emB, n0])
    have e0 := eq_no n0
    clear n0
    go_enter Tryd.func48, Tryd.ntmps48
    go_wp2
    go_ret
    exact ⟨ret_bool (by rw [HB.out]), (Below.refl _ w).alloc (Nat.le_refl _) _⟩
end Go.Proofs.YtngikbimlhoigaaDoor
