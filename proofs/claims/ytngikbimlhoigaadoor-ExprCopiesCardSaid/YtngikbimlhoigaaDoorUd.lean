/- WALK of the reference's empty. -/
import Derived.Test.YtngikbimlhoigaaDoorSa
namespace Go.Proofs.YtngikbimlhoigaaDoor
open Go.RowKit
/-- A bool, and nothing that was there has changed. -/
def BoolQ (b : Bool) (w : World) (e : Ending) (w' : World) : Prop := e = .returned (.bool b) ∧ Below w.heap.size w w'
def rEm (f : Nat) (n : Int) (sz : Nat) (o : Bool) (pl ql kl : Nat) : Bool :=
  (decide (f % 2 = 1) || decide (n = 0)) && (decide (f / 2 % 2 = 1) || decide (sz = 0)) && (decide (f / 4 % 2 = 1) || decide (pl = 0)) && (decide (f / 8 % 2 = 1) || (decide (ql = 0) && !o)) && (decide (f / 16 % 2 = 1) || decide (kl = 0))
set_option maxHeartbeats 4000000 in
theorem rempty_0 (op nn : Int) (s : ByteArray) (p : Option Addr) (pl pc : Nat) (q : Option Addr) (ql qc : Nat) (o : Bool) (k : Option Addr) (kl kc : Nat) (w : World) (h1 : pl ≤ 140737488355328) (h2 : ql ≤ 140737488355328) (h3 : kl ≤ 140737488355328) :
    Calls Tryd.prog 29 #[.agg #[.int .i64 op, .int .i64 nn, .string s, .slice p pl pc, .slice q ql qc, .bool o, .slice k kl kc], .int .i64 0] w (BoolQ (rEm 0 nn s.size o pl ql kl) w) := by
  by_cases n0 : nn = 0
  rotate_left
  · have HB := Lib.hid (show rEm 0 nn s.size o pl ql kl = false by simp [rEm, n0])
    have e0 := eq_no n0
    have e1 : (nn != 0) = true := by simpa using n0
    clear n0
    go_enter Tryd.func29, Tryd.ntmps29
    go_wp2
    go_ret
    exact ⟨ret_bool (by rw [HB.out]), (Below.refl _ w).alloc (Nat.le_refl _) _⟩
  subst n0
  by_cases s0 : s.size = 0
  rotate_left
  · have HB := Lib.hid (show rEm 0 0 s.size o pl ql kl = false by simp [rEm, s0])
    have ne : ¬ s.toList = [] := Nm.list_ne s (by omega)
    have ne2 : (!s.toList.isEmpty) = true := by rw [Nm.list_isE s (by omega)]; rfl
    clear s0
    go_enter Tryd.func29, Tryd.ntmps29
    go_wp2
    go_ret
    exact ⟨ret_bool (by rw [HB.out]), (Below.refl _ w).alloc (Nat.le_refl _) _⟩
  obtain rfl := size_nil s0
  clear s0
  by_cases p0 : pl = 0
  rotate_left
  · have HB := Lib.hid (show rEm 0 0 (ByteArray.size ⟨#[]⟩) o pl ql kl = false by simp [rEm, p0])
    have hp : 0 < pl := by omega
    clear p0
    go_enter Tryd.func29, Tryd.ntmps29
    go_wp2
    go_ret
    exact ⟨ret_bool (by rw [HB.out]), (Below.refl _ w).alloc (Nat.le_refl _) _⟩
  subst p0
  by_cases q0 : ql = 0
  rotate_left
  · have HB := Lib.hid (show rEm 0 0 (ByteArray.size ⟨#[]⟩) o 0 ql kl = false by simp [rEm, q0])
    have e5 : ((ql : Int) == 0) = false := by simpa using q0
    clear q0
    go_enter Tryd.func29, Tryd.ntmps29
    go_wp2
    go_ret
    exact ⟨ret_bool (by rw [HB.out]), (Below.refl _ w).alloc (Nat.le_refl _) _⟩
  subst q0
  cases o
  rotate_left
  · have HB := Lib.hid (show rEm 0 0 (ByteArray.size ⟨#[]⟩) true 0 0 kl = false by simp [rEm])
    go_enter Tryd.func29, Tryd.ntmps29
    go_wp2
    go_ret
    exact ⟨ret_bool (by rw [HB.out]), (Below.refl _ w).alloc (Nat.le_refl _) _⟩
  by_cases k0 : kl = 0
  rotate_left
  · have HB := Lib.hid (show rEm 0 0 (ByteArray.size ⟨#[]⟩) false 0 0 kl = false by simp [rEm, k0])
    have e6 : ((kl : Int) == 0) = false := by simpa using k0
    clear k0
    go_enter Tryd.func29, Tryd.ntmps29
    go_wp2
    go_ret
    exact ⟨ret_bool (by rw [HB.out]), (Below.refl _ w).alloc (Nat.le_refl _) _⟩
  subst k0
  have HB := Lib.hid (show rEm 0 0 (ByteArray.size ⟨#[]⟩) false 0 0 0 = true by simp [rEm]; try rfl)
  go_enter Tryd.func29, Tryd.ntmps29
  go_wp2
  go_ret
  exact ⟨ret_bool (by rw [HB.out]), (Below.refl _ w).alloc (Nat.le_refl _) _⟩
set_option maxHeartbeats 4000000 in
theorem rempty_1 (op nn : Int) (s : ByteArray) (p : Option Addr) (pl pc : Nat) (q : Option Addr) (ql qc : Nat) (o : Bool) (k : Option Addr) (kl kc : Nat) (w : World) (h1 : pl ≤ 140737488355328) (h2 : ql ≤ 140737488355328) (h3 : kl ≤ 140737488355328) :
    Calls Tryd.prog 29 #[.agg #[.int .i64 op, .int .i64 nn, .string s, .slice p pl pc, .slice q ql qc, .bool o, .slice k kl kc], .int .i64 1] w (BoolQ (rEm 1 nn s.size o pl ql kl) w) := by
  by_cases s0 : s.size = 0
  rotate_left
  · have HB := Lib.hid (show rEm 1 nn s.size o pl ql kl = false by simp [rEm, s0])
    have ne : ¬ s.toList = [] := Nm.list_ne s (by omega)
    have ne2 : (!s.toList.isEmpty) = true := by rw [Nm.list_isE s (by omega)]; rfl
    clear s0
    go_enter Tryd.func29, Tryd.ntmps29
    go_wp2
    go_ret
    exact ⟨ret_bool (by rw [HB.out]), (Below.refl _ w).alloc (Nat.le_refl _) _⟩
  obtain rfl := size_nil s0
  clear s0
  by_cases p0 : pl = 0
  rotate_left
  · have HB := Lib.hid (show rEm 1 nn (ByteArray.size ⟨#[]⟩) o pl ql kl = false by simp [rEm, p0])
    have hp : 0 < pl := by omega
    clear p0
    go_enter Tryd.func29, Tryd.ntmps29
    go_wp2
    go_ret
    exact ⟨ret_bool (by rw [HB.out]), (Below.refl _ w).alloc (Nat.le_refl _) _⟩
  subst p0
  by_cases q0 : ql = 0
  rotate_left
  · have HB := Lib.hid (show rEm 1 nn (ByteArray.size ⟨#[]⟩) o 0 ql kl = false by simp [rEm, q0])
    have e5 : ((ql : Int) == 0) = false := by simpa using q0
    clear q0
    go_enter Tryd.func29, Tryd.ntmps29
    go_wp2
    go_ret
    exact ⟨ret_bool (by rw [HB.out]), (Below.refl _ w).alloc (Nat.le_refl _) _⟩
  subst q0
  cases o
  rotate_left
  · have HB := Lib.hid (show rEm 1 nn (ByteArray.size ⟨#[]⟩) true 0 0 kl = false by simp [rEm])
    go_enter Tryd.func29, Tryd.ntmps29
    go_wp2
    go_ret
    exact ⟨ret_bool (by rw [HB.out]), (Below.refl _ w).alloc (Nat.le_refl _) _⟩
  by_cases k0 : kl = 0
  rotate_left
  · have HB := Lib.hid (show rEm 1 nn (ByteArray.size ⟨#[]⟩) false 0 0 kl = false by simp [rEm, k0])
    have e6 : ((kl : Int) == 0) = false := by simpa using k0
    clear k0
    go_enter Tryd.func29, Tryd.ntmps29
    go_wp2
    go_ret
    exact ⟨ret_bool (by rw [HB.out]), (Below.refl _ w).alloc (Nat.le_refl _) _⟩
  subst k0
  have HB := Lib.hid (show rEm 1 nn (ByteArray.size ⟨#[]⟩) false 0 0 0 = true by simp [rEm]; try rfl)
  go_enter Tryd.func29, Tryd.ntmps29
  go_wp2
  go_ret
  exact ⟨ret_bool (by rw [HB.out]), (Below.refl _ w).alloc (Nat.le_refl _) _⟩
set_option maxHeartbeats 4000000 in
theorem rempty_2 (op nn : Int) (s : ByteArray) (p : Option Addr) (pl pc : Nat) (q : Option Addr) (ql qc : Nat) (o : Bool) (k : Option Addr) (kl kc : Nat) (w : World) (h1 : pl ≤ 140737488355328) (h2 : ql ≤ 140737488355328) (h3 : kl ≤ 140737488355328) :
    Calls Tryd.prog 29 #[.agg #[.int .i64 op, .int .i64 nn, .string s, .slice p pl pc, .slice q ql qc, .bool o, .slice k kl kc], .int .i64 2] w (BoolQ (rEm 2 nn s.size o pl ql kl) w) := by
  by_cases n0 : nn = 0
  rotate_left
  · have HB := Lib.hid (show rEm 2 nn s.size o pl ql kl = false by simp [rEm, n0])
    have e0 := eq_no n0
    have e1 : (nn != 0) = true := by simpa using n0
    clear n0
    go_enter Tryd.func29, Tryd.ntmps29
    go_wp2
    go_ret
    exact ⟨ret_bool (by rw [HB.out]), (Below.refl _ w).alloc (Nat.le_refl _) _⟩
  subst n0
  by_cases p0 : pl = 0
  rotate_left
  · have HB := Lib.hid (show rEm 2 0 s.size o pl ql kl = false by simp [rEm, p0])
    have hp : 0 < pl := by omega
    clear p0
    go_enter Tryd.func29, Tryd.ntmps29
    go_wp2
    go_ret
    exact ⟨ret_bool (by rw [HB.out]), (Below.refl _ w).alloc (Nat.le_refl _) _⟩
  subst p0
  by_cases q0 : ql = 0
  rotate_left
  · have HB := Lib.hid (show rEm 2 0 s.size o 0 ql kl = false by simp [rEm, q0])
    have e5 : ((ql : Int) == 0) = false := by simpa using q0
    clear q0
    go_enter Tryd.func29, Tryd.ntmps29
    go_wp2
    go_ret
    exact ⟨ret_bool (by rw [HB.out]), (Below.refl _ w).alloc (Nat.le_refl _) _⟩
  subst q0
  cases o
  rotate_left
  · have HB := Lib.hid (show rEm 2 0 s.size true 0 0 kl = false by simp [rEm])
    go_enter Tryd.func29, Tryd.ntmps29
    go_wp2
    go_ret
    exact ⟨ret_bool (by rw [HB.out]), (Below.refl _ w).alloc (Nat.le_refl _) _⟩
  by_cases k0 : kl = 0
  rotate_left
  · have HB := Lib.hid (show rEm 2 0 s.size false 0 0 kl = false by simp [rEm, k0])
    have e6 : ((kl : Int) == 0) = false := by simpa using k0
    clear k0
    go_enter Tryd.func29, Tryd.ntmps29
    go_wp2
    go_ret
    exact ⟨ret_bool (by rw [HB.out]), (Below.refl _ w).alloc (Nat.le_refl _) _⟩
  subst k0
  have HB := Lib.hid (show rEm 2 0 s.size false 0 0 0 = true by simp [rEm]; try rfl)
  go_enter Tryd.func29, Tryd.ntmps29
  go_wp2
  go_ret
  exact ⟨ret_bool (by rw [HB.out]), (Below.refl _ w).alloc (Nat.le_refl _) _⟩
set_option maxHeartbeats 4000000 in
theorem rempty_4 (op nn : Int) (s : ByteArray) (p : Option Addr) (pl pc : Nat) (q : Option Addr) (ql qc : Nat) (o : Bool) (k : Option Addr) (kl kc : Nat) (w : World) (_h1 : pl ≤ 140737488355328) (h2 : ql ≤ 140737488355328) (h3 : kl ≤ 140737488355328) :
    Calls Tryd.prog 29 #[.agg #[.int .i64 op, .int .i64 nn, .string s, .slice p pl pc, .slice q ql qc, .bool o, .slice k kl kc], .int .i64 4] w (BoolQ (rEm 4 nn s.size o pl ql kl) w) := by
  by_cases n0 : nn = 0
  rotate_left
  · have HB := Lib.hid (show rEm 4 nn s.size o pl ql kl = false by simp [rEm, n0])
    have e0 := eq_no n0
    have e1 : (nn != 0) = true := by simpa using n0
    clear n0
    go_enter Tryd.func29, Tryd.ntmps29
    go_wp2
    go_ret
    exact ⟨ret_bool (by rw [HB.out]), (Below.refl _ w).alloc (Nat.le_refl _) _⟩
  subst n0
  by_cases s0 : s.size = 0
  rotate_left
  · have HB := Lib.hid (show rEm 4 0 s.size o pl ql kl = false by simp [rEm, s0])
    have ne : ¬ s.toList = [] := Nm.list_ne s (by omega)
    have ne2 : (!s.toList.isEmpty) = true := by rw [Nm.list_isE s (by omega)]; rfl
    clear s0
    go_enter Tryd.func29, Tryd.ntmps29
    go_wp2
    go_ret
    exact ⟨ret_bool (by rw [HB.out]), (Below.refl _ w).alloc (Nat.le_refl _) _⟩
  obtain rfl := size_nil s0
  clear s0
  by_cases q0 : ql = 0
  rotate_left
  · have HB := Lib.hid (show rEm 4 0 (ByteArray.size ⟨#[]⟩) o pl ql kl = false by simp [rEm, q0])
    have e5 : ((ql : Int) == 0) = false := by simpa using q0
    clear q0
    go_enter Tryd.func29, Tryd.ntmps29
    go_wp2
    go_ret
    exact ⟨ret_bool (by rw [HB.out]), (Below.refl _ w).alloc (Nat.le_refl _) _⟩
  subst q0
  cases o
  rotate_left
  · have HB := Lib.hid (show rEm 4 0 (ByteArray.size ⟨#[]⟩) true pl 0 kl = false by simp [rEm])
    go_enter Tryd.func29, Tryd.ntmps29
    go_wp2
    go_ret
    exact ⟨ret_bool (by rw [HB.out]), (Below.refl _ w).alloc (Nat.le_refl _) _⟩
  by_cases k0 : kl = 0
  rotate_left
  · have HB := Lib.hid (show rEm 4 0 (ByteArray.size ⟨#[]⟩) false pl 0 kl = false by simp [rEm, k0])
    have e6 : ((kl : Int) == 0) = false := by simpa using k0
    clear k0
    go_enter Tryd.func29, Tryd.ntmps29
    go_wp2
    go_ret
    exact ⟨ret_bool (by rw [HB.out]), (Below.refl _ w).alloc (Nat.le_refl _) _⟩
  subst k0
  have HB := Lib.hid (show rEm 4 0 (ByteArray.size ⟨#[]⟩) false pl 0 0 = true by simp [rEm]; try rfl)
  go_enter Tryd.func29, Tryd.ntmps29
  go_wp2
  go_ret
  exact ⟨ret_bool (by rw [HB.out]), (Below.refl _ w).alloc (Nat.le_refl _) _⟩
set_option maxHeartbeats 4000000 in
theorem rempty_8 (op nn : Int) (s : ByteArray) (p : Option Addr) (pl pc : Nat) (q : Option Addr) (ql qc : Nat) (o : Bool) (k : Option Addr) (kl kc : Nat) (w : World) (h1 : pl ≤ 140737488355328) (_h2 : ql ≤ 140737488355328) (h3 : kl ≤ 140737488355328) :
    Calls Tryd.prog 29 #[.agg #[.int .i64 op, .int .i64 nn, .string s, .slice p pl pc, .slice q ql qc, .bool o, .slice k kl kc], .int .i64 8] w (BoolQ (rEm 8 nn s.size o pl ql kl) w) := by
  by_cases n0 : nn = 0
  rotate_left
  · have HB := Lib.hid (show rEm 8 nn s.size o pl ql kl = false by simp [rEm, n0])
    have e0 := eq_no n0
    have e1 : (nn != 0) = true := by simpa using n0
    clear n0
    go_enter Tryd.func29, Tryd.ntmps29
    go_wp2
    go_ret
    exact ⟨ret_bool (by rw [HB.out]), (Below.refl _ w).alloc (Nat.le_refl _) _⟩
  subst n0
  by_cases s0 : s.size = 0
  rotate_left
  · have HB := Lib.hid (show rEm 8 0 s.size o pl ql kl = false by simp [rEm, s0])
    have ne : ¬ s.toList = [] := Nm.list_ne s (by omega)
    have ne2 : (!s.toList.isEmpty) = true := by rw [Nm.list_isE s (by omega)]; rfl
    clear s0
    go_enter Tryd.func29, Tryd.ntmps29
    go_wp2
    go_ret
    exact ⟨ret_bool (by rw [HB.out]), (Below.refl _ w).alloc (Nat.le_refl _) _⟩
  obtain rfl := size_nil s0
  clear s0
  by_cases p0 : pl = 0
  rotate_left
  · have HB := Lib.hid (show rEm 8 0 (ByteArray.size ⟨#[]⟩) o pl ql kl = false by simp [rEm, p0])
    have hp : 0 < pl := by omega
    clear p0
    go_enter Tryd.func29, Tryd.ntmps29
    go_wp2
    go_ret
    exact ⟨ret_bool (by rw [HB.out]), (Below.refl _ w).alloc (Nat.le_refl _) _⟩
  subst p0
  by_cases k0 : kl = 0
  rotate_left
  · have HB := Lib.hid (show rEm 8 0 (ByteArray.size ⟨#[]⟩) o 0 ql kl = false by simp [rEm, k0])
    have e6 : ((kl : Int) == 0) = false := by simpa using k0
    clear k0
    go_enter Tryd.func29, Tryd.ntmps29
    go_wp2
    go_ret
    exact ⟨ret_bool (by rw [HB.out]), (Below.refl _ w).alloc (Nat.le_refl _) _⟩
  subst k0
  have HB := Lib.hid (show rEm 8 0 (ByteArray.size ⟨#[]⟩) o 0 ql 0 = true by simp [rEm]; try rfl)
  go_enter Tryd.func29, Tryd.ntmps29
  go_wp2
  go_ret
  exact ⟨ret_bool (by rw [HB.out]), (Below.refl _ w).alloc (Nat.le_refl _) _⟩
set_option maxHeartbeats 4000000 in
theorem rempty_16 (op nn : Int) (s : ByteArray) (p : Option Addr) (pl pc : Nat) (q : Option Addr) (ql qc : Nat) (o : Bool) (k : Option Addr) (kl kc : Nat) (w : World) (h1 : pl ≤ 140737488355328) (h2 : ql ≤ 140737488355328) (_h3 : kl ≤ 140737488355328) :
    Calls Tryd.prog 29 #[.agg #[.int .i64 op, .int .i64 nn, .string s, .slice p pl pc, .slice q ql qc, .bool o, .slice k kl kc], .int .i64 16] w (BoolQ (rEm 16 nn s.size o pl ql kl) w) := by
  by_cases n0 : nn = 0
  rotate_left
  · have HB := Lib.hid (show rEm 16 nn s.size o pl ql kl = false by simp [rEm, n0])
    have e0 := eq_no n0
    have e1 : (nn != 0) = true := by simpa using n0
    clear n0
    go_enter Tryd.func29, Tryd.ntmps29
    go_wp2
    go_ret
    exact ⟨ret_bool (by rw [HB.out]), (Below.refl _ w).alloc (Nat.le_refl _) _⟩
  subst n0
  by_cases s0 : s.size = 0
  rotate_left
  · have HB := Lib.hid (show rEm 16 0 s.size o pl ql kl = false by simp [rEm, s0])
    have ne : ¬ s.toList = [] := Nm.list_ne s (by omega)
    have ne2 : (!s.toList.isEmpty) = true := by rw [Nm.list_isE s (by omega)]; rfl
    clear s0
    go_enter Tryd.func29, Tryd.ntmps29
    go_wp2
    go_ret
    exact ⟨ret_bool (by rw [HB.out]), (Below.refl _ w).alloc (Nat.le_refl _) _⟩
  obtain rfl := size_nil s0
  clear s0
  by_cases p0 : pl = 0
  rotate_left
  · have HB := Lib.hid (show rEm 16 0 (ByteArray.size ⟨#[]⟩) o pl ql kl = false by simp [rEm, p0])
    have hp : 0 < pl := by omega
    clear p0
    go_enter Tryd.func29, Tryd.ntmps29
    go_wp2
    go_ret
    exact ⟨ret_bool (by rw [HB.out]), (Below.refl _ w).alloc (Nat.le_refl _) _⟩
  subst p0
  by_cases q0 : ql = 0
  rotate_left
  · have HB := Lib.hid (show rEm 16 0 (ByteArray.size ⟨#[]⟩) o 0 ql kl = false by simp [rEm, q0])
    have e5 : ((ql : Int) == 0) = false := by simpa using q0
    clear q0
    go_enter Tryd.func29, Tryd.ntmps29
    go_wp2
    go_ret
    exact ⟨ret_bool (by rw [HB.out]), (Below.refl _ w).alloc (Nat.le_refl _) _⟩
  subst q0
  cases o
  rotate_left
  · have HB := Lib.hid (show rEm 16 0 (ByteArray.size ⟨#[]⟩) true 0 0 kl = false by simp [rEm])
    go_enter Tryd.func29, Tryd.ntmps29
    go_wp2
    go_ret
    exact ⟨ret_bool (by rw [HB.out]), (Below.refl _ w).alloc (Nat.le_refl _) _⟩
  have HB := Lib.hid (show rEm 16 0 (ByteArray.size ⟨#[]⟩) false 0 0 kl = true by simp [rEm]; try rfl)
  go_enter Tryd.func29, Tryd.ntmps29
  go_wp2
  go_ret
  exact ⟨ret_bool (by rw [HB.out]), (Below.refl _ w).alloc (Nat.le_refl _) _⟩
end Go.Proofs.YtngikbimlhoigaaDoor
