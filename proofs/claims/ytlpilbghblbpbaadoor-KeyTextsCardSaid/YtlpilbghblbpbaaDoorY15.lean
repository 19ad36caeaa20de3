/- Ud, Ue -/
import Derived.Test.YtlpilbghblbpbaaDoorY2
import Derived.Test.YtlpilbghblbpbaaDoorY14
/- WALK of the reference's empty. -/
namespace Go.Proofs.YtlpilbghblbpbaaDoor
open Go.RowKit
/-- A bool, and nothing that was there has changed. -/
def BoolQ (b : Bool) (w : World) (e : Ending) (w' : World) : Prop := e = .returned (.bool b) ∧ Below w.heap.size w w'
def rEm (f : Nat) (n : Int) (sz : Nat) (o : Bool) (pl ql kl : Nat) : Bool :=
  (decide (f % 2 = 1) || decide (n = 0)) && (decide (f / 2 % 2 = 1) || decide (sz = 0)) && (decide (f / 4 % 2 = 1) || decide (pl = 0)) && (decide (f / 8 % 2 = 1) || (decide (ql = 0) && !o)) && (decide (f / 16 % 2 = 1) || decide (kl = 0))
set_option maxHeartbeats 4000000 in
theorem rempty_0 (op nn : Int) (s : ByteArray) (p : Option Addr) (pl pc : Nat) (q : Option Addr) (ql qc : Nat) (o : Bool) (k : Option Addr) (kl kc : Nat) (w : World) (h1 : pl ≤ 140737488355328) (h2 : ql ≤ 140737488355328) (h3 : kl ≤ 140737488355328) :
    Calls Tryd.prog 52 #[.agg #[.int .i64 op, .int .i64 nn, .string s, .slice p pl pc, .slice q ql qc, .bool o, .slice k kl kc], .int .i64 0] w (BoolQ (rEm 0 nn s.size o pl ql kl) w) := by
  by_cases n0 : nn = 0
  rotate_left
  · have HB := Lib.hid (show rEm 0 nn s.size o pl ql kl = false by simp [rEm, n0])
    have e0 := eq_no n0
    have e1 : (nn != 0) = true := by simpa using n0
    clear n0
    go_enter Tryd.func52, Tryd.ntmps52
    go_wp2
    go_ret
    exact ⟨ret_bool (by rw [HB.out]), (Below.refl _ w).alloc (Nat.le_refl _) _⟩
  subst n0
  by_cases s0 : s.size = 0
  rotate_left
  · have HB := Lib.hid (show rEm 0 0 s.size o pl ql kl = false by simp [rEm, s0])
    have ne : ¬ s.toList = [] := Nm.list_ne s (by omega)
    have ne2 : (!s.toList.isEmpty) = true := by rw [Nm.list_isE s (by omega)]; rfl
    clear s0
    go_enter Tryd.func52, Tryd.ntmps52
    go_wp2
    go_ret
    exact ⟨ret_bool (by rw [HB.out]), (Below.refl _ w).alloc (Nat.le_refl _) _⟩
  obtain rfl := size_nil s0
  clear s0
  by_cases p0 : pl = 0
  rotate_left
  · have HB := Lib.hid (show rEm 0 0 (ByteArray.size ⟨#[]⟩) o pl ql kl = false by simp [rEm, p0])
    have hp : 0 < pl := by omega
    clear p0
    go_enter Tryd.func52, Tryd.ntmps52
    go_wp2
    go_ret
    exact ⟨ret_bool (by rw [HB.out]), (Below.refl _ w).alloc (Nat.le_refl _) _⟩
  subst p0
  by_cases q0 : ql = 0
  rotate_left
  · have HB := Lib.hid (show rEm 0 0 (ByteArray.size ⟨#[]⟩) o 0 ql kl = false by simp [rEm, q0])
    have e5 : ((ql : Int) == 0) = false := by simpa using q0
    clear q0
    go_enter Tryd.func52, Tryd.ntmps52
    go_wp2
    go_ret
    exact ⟨ret_bool (by rw [HB.out]), (Below.refl _ w).alloc (Nat.le_refl _) _⟩
  subst q0
  cases o
  rotate_left
  · have HB := Lib.hid (show rEm 0 0 (ByteArray.size ⟨#[]⟩) true 0 0 kl = false by simp [rEm])
    go_enter Tryd.func52, Tryd.ntmps52
    go_wp2
    go_ret
    exact ⟨ret_bool (by rw [HB.out]), (Below.refl _ w).alloc (Nat.le_refl _) _⟩
  by_cases k0 : kl = 0
  rotate_left
  · have HB := Lib.hid (show rEm 0 0 (ByteArray.size ⟨#[]⟩) false 0 0 kl = false by simp [rEm, k0])
    have e6 : ((kl : Int) == 0) = false := by simpa using k0
    clear k0
    go_enter Tryd.func52, Tryd.ntmps52
    go_wp2
    go_ret
    exact ⟨ret_bool (by rw [HB.out]), (Below.refl _ w).alloc (Nat.le_refl _) _⟩
  subst k0
  have HB := Lib.hid (show rEm 0 0 (ByteArray.size ⟨#[]⟩) false 0 0 0 = true by simp [rEm]; try rfl)
  go_enter Tryd.func52, Tryd.ntmps52
  go_wp2
  go_ret
  exact ⟨ret_bool (by rw [HB.out]), (Below.refl _ w).alloc (Nat.le_refl _) _⟩
set_option maxHeartbeats 4000000 in
theorem rempty_1 (op nn : Int) (s : ByteArray) (p : Option Addr) (pl pc : Nat) (q : Option Addr) (ql qc : Nat) (o : Bool) (k : Option Addr) (kl kc : Nat) (w : World) (h1 : pl ≤ 140737488355328) (h2 : ql ≤ 140737488355328) (h3 : kl ≤ 140737488355328) :
    Calls Tryd.prog 52 #[.agg #[.int .i64 op, .int .i64 nn, .string s, .slice p pl pc, .slice q ql qc, .bool o, .slice k kl kc], .int .i64 1] w (BoolQ (rEm 1 nn s.size o pl ql kl) w) := by
  by_cases s0 : s.size = 0
  rotate_left
  · have HB := Lib.hid (show rEm 1 nn s.size o pl ql kl = false by simp [rEm, s0])
    have ne : ¬ s.toList = [] := Nm.list_ne s (by omega)
    have ne2 : (!s.toList.isEmpty) = true := by rw [Nm.list_isE s (by omega)]; rfl
    clear s0
    go_enter Tryd.func52, Tryd.ntmps52
    go_wp2
    go_ret
    exact ⟨ret_bool (by rw [HB.out]), (Below.refl _ w).alloc (Nat.le_refl _) _⟩
  obtain rfl := size_nil s0
  clear s0
  by_cases p0 : pl = 0
  rotate_left
  · have HB := Lib.hid (show rEm 1 nn (ByteArray.size ⟨#[]⟩) o pl ql kl = false by simp [rEm, p0])
    have hp : 0 < pl := by omega
    clear p0
    go_enter Tryd.func52, Tryd.ntmps52
    go_wp2
    go_ret
    exact ⟨ret_bool (by rw [HB.out]), (Below.refl _ w).alloc (Nat.le_refl _) _⟩
  subst p0
  by_cases q0 : ql = 0
  rotate_left
  · have HB := Lib.hid (show rEm 1 nn (ByteArray.size ⟨#[]⟩) o 0 ql kl = false by simp [rEm, q0])
    have e5 : ((ql : Int) == 0) = false := by simpa using q0
    clear q0
    go_enter Tryd.func52, Tryd.ntmps52
    go_wp2
    go_ret
    exact ⟨ret_bool (by rw [HB.out]), (Below.refl _ w).alloc (Nat.le_refl _) _⟩
  subst q0
  cases o
  rotate_left
  · have HB := Lib.hid (show rEm 1 nn (ByteArray.size ⟨#[]⟩) true 0 0 kl = false by simp [rEm])
    go_enter Tryd.func52, Tryd.ntmps52
    go_wp2
    go_ret
    exact ⟨ret_bool (by rw [HB.out]), (Below.refl _ w).alloc (Nat.le_refl _) _⟩
  by_cases k0 : kl = 0
  rotate_left
  · have HB := Lib.hid (show rEm 1 nn (ByteArray.size ⟨#[]⟩) false 0 0 kl = false by simp [rEm, k0])
    have e6 : ((kl : Int) == 0) = false := by simpa using k0
    clear k0
    go_enter Tryd.func52, Tryd.ntmps52
    go_wp2
    go_ret
    exact ⟨ret_bool (by rw [HB.out]), (Below.refl _ w).alloc (Nat.le_refl _) _⟩
  subst k0
  have HB := Lib.hid (show rEm 1 nn (ByteArray.size ⟨#[]⟩) false 0 0 0 = true by simp [rEm]; try rfl)
  go_enter Tryd.func52, Tryd.ntmps52
  go_wp2
  go_ret
  exact ⟨ret_bool (by rw [HB.out]), (Below.refl _ w).alloc (Nat.le_refl _) _⟩
set_option maxHeartbeats 4000000 in
theorem rempty_2 (op nn : Int) (s : ByteArray) (p : Option Addr) (pl pc : Nat) (q : Option Addr) (ql qc : Nat) (o : Bool) (k : Option Addr) (kl kc : Nat) (w : World) (h1 : pl ≤ 140737488355328) (h2 : ql ≤ 140737488355328) (h3 : kl ≤ 140737488355328) :
    Calls Tryd.prog 52 #[.agg #[.int .i64 op, .int .i64 nn, .string s, .slice p pl pc, .slice q ql qc, .bool o, .slice k kl kc], .int .i64 2] w (BoolQ (rEm 2 nn s.size o pl ql kl) w) := by
  by_cases n0 : nn = 0
  rotate_left
  · have HB := Lib.hid (show rEm 2 nn s.size o pl ql kl = false by simp [rEm, n0])
    have e0 := eq_no n0
    have e1 : (nn != 0) = true := by simpa using n0
    clear n0
    go_enter Tryd.func52, Tryd.ntmps52
    go_wp2
    go_ret
    exact ⟨ret_bool (by rw [HB.out]), (Below.refl _ w).alloc (Nat.le_refl _) _⟩
  subst n0
  by_cases p0 : pl = 0
  rotate_left
  · have HB := Lib.hid (show rEm 2 0 s.size o pl ql kl = false by simp [rEm, p0])
    have hp : 0 < pl := by omega
    clear p0
    go_enter Tryd.func52, Tryd.ntmps52
    go_wp2
    go_ret
    exact ⟨ret_bool (by rw [HB.out]), (Below.refl _ w).alloc (Nat.le_refl _) _⟩
  subst p0
  by_cases q0 : ql = 0
  rotate_left
  · have HB := Lib.hid (show rEm 2 0 s.size o 0 ql kl = false by simp [rEm, q0])
    have e5 : ((ql : Int) == 0) = false := by simpa using q0
    clear q0
    go_enter Tryd.func52, Tryd.ntmps52
    go_wp2
    go_ret
    exact ⟨ret_bool (by rw [HB.out]), (Below.refl _ w).alloc (Nat.le_refl _) _⟩
  subst q0
  cases o
  rotate_left
  · have HB := Lib.hid (show rEm 2 0 s.size true 0 0 kl = false by simp [rEm])
    go_enter Tryd.func52, Tryd.ntmps52
    go_wp2
    go_ret
    exact ⟨ret_bool (by rw [HB.out]), (Below.refl _ w).alloc (Nat.le_refl _) _⟩
  by_cases k0 : kl = 0
  rotate_left
  · have HB := Lib.hid (show rEm 2 0 s.size false 0 0 kl = false by simp [rEm, k0])
    have e6 : ((kl : Int) == 0) = false := by simpa using k0
    clear k0
    go_enter Tryd.func52, Tryd.ntmps52
    go_wp2
    go_ret
    exact ⟨ret_bool (by rw [HB.out]), (Below.refl _ w).alloc (Nat.le_refl _) _⟩
  subst k0
  have HB := Lib.hid (show rEm 2 0 s.size false 0 0 0 = true by simp [rEm]; try rfl)
  go_enter Tryd.func52, Tryd.ntmps52
  go_wp2
  go_ret
  exact ⟨ret_bool (by rw [HB.out]), (Below.refl _ w).alloc (Nat.le_refl _) _⟩
set_option maxHeartbeats 4000000 in
theorem rempty_4 (op nn : Int) (s : ByteArray) (p : Option Addr) (pl pc : Nat) (q : Option Addr) (ql qc : Nat) (o : Bool) (k : Option Addr) (kl kc : Nat) (w : World) (_h1 : pl ≤ 140737488355328) (h2 : ql ≤ 140737488355328) (h3 : kl ≤ 140737488355328) :
    Calls Tryd.prog 52 #[.agg #[.int .i64 op, .int .i64 nn, .string s, .slice p pl pc, .slice q ql qc, .bool o, .slice k kl kc], .int .i64 4] w (BoolQ (rEm 4 nn s.size o pl ql kl) w) := by
  by_cases n0 : nn = 0
  rotate_left
  · have HB := Lib.hid (show rEm 4 nn s.size o pl ql kl = false by simp [rEm, n0])
    have e0 := eq_no n0
    have e1 : (nn != 0) = true := by simpa using n0
    clear n0
    go_enter Tryd.func52, Tryd.ntmps52
    go_wp2
    go_ret
    exact ⟨ret_bool (by rw [HB.out]), (Below.refl _ w).alloc (Nat.le_refl _) _⟩
  subst n0
  by_cases s0 : s.size = 0
  rotate_left
  · have HB := Lib.hid (show rEm 4 0 s.size o pl ql kl = false by simp [rEm, s0])
    have ne : ¬ s.toList = [] := Nm.list_ne s (by omega)
    have ne2 : (!s.toList.isEmpty) = true := by rw [Nm.list_isE s (by omega)]; rfl
    clear s0
    go_enter Tryd.func52, Tryd.ntmps52
    go_wp2
    go_ret
    exact ⟨ret_bool (by rw [HB.out]), (Below.refl _ w).alloc (Nat.le_refl _) _⟩
  obtain rfl := size_nil s0
  clear s0
  by_cases q0 : ql = 0
  rotate_left
  · have HB := Lib.hid (show rEm 4 0 (ByteArray.size ⟨#[]⟩) o pl ql kl = false by simp [rEm, q0])
    have e5 : ((ql : Int) == 0) = false := by simpa using q0
    clear q0
    go_enter Tryd.func52, Tryd.ntmps52
    go_wp2
    go_ret
    exact ⟨ret_bool (by rw [HB.out]), (Below.refl _ w).alloc (Nat.le_refl _) _⟩
  subst q0
  cases o
  rotate_left
  · have HB := Lib.hid (show rEm 4 0 (ByteArray.size ⟨#[]⟩) true pl 0 kl = false by simp [rEm])
    go_enter Tryd.func52, Tryd.ntmps52
    go_wp2
    go_ret
    exact ⟨ret_bool (by rw [HB.out]), (Below.refl _ w).alloc (Nat.le_refl _) _⟩
  by_cases k0 : kl = 0
  rotate_left
  · have HB := Lib.hid (show rEm 4 0 (ByteArray.size ⟨#[]⟩) false pl 0 kl = false by simp [rEm, k0])
    have e6 : ((kl : Int) == 0) = false := by simpa using k0
    clear k0
    go_enter Tryd.func52, Tryd.ntmps52
    go_wp2
    go_ret
    exact ⟨ret_bool (by rw [HB.out]), (Below.refl _ w).alloc (Nat.le_refl _) _⟩
  subst k0
  have HB := Lib.hid (show rEm 4 0 (ByteArray.size ⟨#[]⟩) false pl 0 0 = true by simp [rEm]; try rfl)
  go_enter Tryd.func52, Tryd.ntmps52
  go_wp2
  go_ret
  exact ⟨ret_bool (by rw [HB.out]), (Below.refl _ w).alloc (Nat.le_refl _) _⟩
set_option maxHeartbeats 4000000 in
theorem rempty_8 (op nn : Int) (s : ByteArray) (p : Option Addr) (pl pc : Nat) (q : Option Addr) (ql qc : Nat) (o : Bool) (k : Option Addr) (kl kc : Nat) (w : World) (h1 : pl ≤ 140737488355328) (_h2 : ql ≤ 140737488355328) (h3 : kl ≤ 140737488355328) :
    Calls Tryd.prog 52 #[.agg #[.int .i64 op, .int .i64 nn, .string s, .slice p pl pc, .slice q ql qc, .bool o, .slice k kl kc], .int .i64 8] w (BoolQ (rEm 8 nn s.size o pl ql kl) w) := by
  by_cases n0 : nn = 0
  rotate_left
  · have HB := Lib.hid (show rEm 8 nn s.size o pl ql kl = false by simp [rEm, n0])
    have e0 := eq_no n0
    have e1 : (nn != 0) = true := by simpa using n0
    clear n0
    go_enter Tryd.func52, Tryd.ntmps52
    go_wp2
    go_ret
    exact ⟨ret_bool (by rw [HB.out]), (Below.refl _ w).alloc (Nat.le_refl _) _⟩
  subst n0
  by_cases s0 : s.size = 0
  rotate_left
  · have HB := Lib.hid (show rEm 8 0 s.size o pl ql kl = false by simp [rEm, s0])
    have ne : ¬ s.toList = [] := Nm.list_ne s (by omega)
    have ne2 : (!s.toList.isEmpty) = true := by rw [Nm.list_isE s (by omega)]; rfl
    clear s0
    go_enter Tryd.func52, Tryd.ntmps52
    go_wp2
    go_ret
    exact ⟨ret_bool (by rw [HB.out]), (Below.refl _ w).alloc (Nat.le_refl _) _⟩
  obtain rfl := size_nil s0
  clear s0
  by_cases p0 : pl = 0
  rotate_left
  · have HB := Lib.hid (show rEm 8 0 (ByteArray.size ⟨#[]⟩) o pl ql kl = false by simp [rEm, p0])
    have hp : 0 < pl := by omega
    clear p0
    go_enter Tryd.func52, Tryd.ntmps52
    go_wp2
    go_ret
    exact ⟨ret_bool (by rw [HB.out]), (Below.refl _ w).alloc (Nat.le_refl _) _⟩
  subst p0
  by_cases k0 : kl = 0
  rotate_left
  · have HB := Lib.hid (show rEm 8 0 (ByteArray.size ⟨#[]⟩) o 0 ql kl = false by simp [rEm, k0])
    have e6 : ((kl : Int) == 0) = false := by simpa using k0
    clear k0
    go_enter Tryd.func52, Tryd.ntmps52
    go_wp2
    go_ret
    exact ⟨ret_bool (by rw [HB.out]), (Below.refl _ w).alloc (Nat.le_refl _) _⟩
  subst k0
  have HB := Lib.hid (show rEm 8 0 (ByteArray.size ⟨#[]⟩) o 0 ql 0 = true by simp [rEm]; try rfl)
  go_enter Tryd.func52, Tryd.ntmps52
  go_wp2
  go_ret
  exact ⟨ret_bool (by rw [HB.out]), (Below.refl _ w).alloc (Nat.le_refl _) _⟩
set_option maxHeartbeats 4000000 in
theorem rempty_16 (op nn : Int) (s : ByteArray) (p : Option Addr) (pl pc : Nat) (q : Option Addr) (ql qc : Nat) (o : Bool) (k : Option Addr) (kl kc : Nat) (w : World) (h1 : pl ≤ 140737488355328) (h2 : ql ≤ 140737488355328) (_h3 : kl ≤ 140737488355328) :
    Calls Tryd.prog 52 #[.agg #[.int .i64 op, .int .i64 nn, .string s, .slice p pl pc, .slice q ql qc, .bool o, .slice k kl kc], .int .i64 16] w (BoolQ (rEm 16 nn s.size o pl ql kl) w) := by
  by_cases n0 : nn = 0
  rotate_left
  · have HB := Lib.hid (show rEm 16 nn s.size o pl ql kl = false by simp [rEm, n0])
    have e0 := eq_no n0
    have e1 : (nn != 0) = true := by simpa using n0
    clear n0
    go_enter Tryd.func52, Tryd.ntmps52
    go_wp2
    go_ret
    exact ⟨ret_bool (by rw [HB.out]), (Below.refl _ w).alloc (Nat.le_refl _) _⟩
  subst n0
  by_cases s0 : s.size = 0
  rotate_left
  · have HB := Lib.hid (show rEm 16 0 s.size o pl ql kl = false by simp [rEm, s0])
    have ne : ¬ s.toList = [] := Nm.list_ne s (by omega)
    have ne2 : (!s.toList.isEmpty) = true := by rw [Nm.list_isE s (by omega)]; rfl
    clear s0
    go_enter Tryd.func52, Tryd.ntmps52
    go_wp2
    go_ret
    exact ⟨ret_bool (by rw [HB.out]), (Below.refl _ w).alloc (Nat.le_refl _) _⟩
  obtain rfl := size_nil s0
  clear s0
  by_cases p0 : pl = 0
  rotate_left
  · have HB := Lib.hid (show rEm 16 0 (ByteArray.size ⟨#[]⟩) o pl ql kl = false by simp [rEm, p0])
    have hp : 0 < pl := by omega
    clear p0
    go_enter Tryd.func52, Tryd.ntmps52
    go_wp2
    go_ret
    exact ⟨ret_bool (by rw [HB.out]), (Below.refl _ w).alloc (Nat.le_refl _) _⟩
  subst p0
  by_cases q0 : ql = 0
  rotate_left
  · have HB := Lib.hid (show rEm 16 0 (ByteArray.size ⟨#[]⟩) o 0 ql kl = false by simp [rEm, q0])
    have e5 : ((ql : Int) == 0) = false := by simpa using q0
    clear q0
    go_enter Tryd.func52, Tryd.ntmps52
    go_wp2
    go_ret
    exact ⟨ret_bool (by rw [HB.out]), (Below.refl _ w).alloc (Nat.le_refl _) _⟩
  subst q0
  cases o
  rotate_left
  · have HB := Lib.hid (show rEm 16 0 (ByteArray.size ⟨#[]⟩) true 0 0 kl = false by simp [rEm])
    go_enter Tryd.func52, Tryd.ntmps52
    go_wp2
    go_ret
    exact ⟨ret_bool (by rw [HB.out]), (Below.refl _ w).alloc (Nat.le_refl _) _⟩
  have HB := Lib.hid (show rEm 16 0 (ByteArray.size ⟨#[]⟩) false 0 0 kl = true by simp [rEm]; try rfl)
  go_enter Tryd.func52, Tryd.ntmps52
  go_wp2
  go_ret
  exact ⟨ret_bool (by rw [HB.out]), (Below.refl _ w).alloc (Nat.le_refl _) _⟩
end Go.Proofs.YtlpilbghblbpbaaDoor
/- WALKS of the reference's kids and pairs. -/
namespace Go.Proofs.YtlpilbghblbpbaaDoor
open Go.RowKit
theorem all_take {α : Type} {f : α → Bool} {l : List α} {k : Nat} (hk : k < l.length) (h : (l.take k).all f = true) (e : f l[k] = true) : (l.take (k + 1)).all f = true := by
  rw [List.take_succ_eq_append_getElem hk, List.all_append, h]; simp [e]
theorem all_bad {α : Type} {f : α → Bool} {l : List α} {k : Nat} (hk : k < l.length) (e : f l[k] = false) : l.all f = false :=
  List.all_eq_false.2 ⟨_, List.getElem_mem hk, by rw [e]; decide⟩
set_option maxRecDepth 100000 in
set_option maxHeartbeats 4000000 in
theorem rkids_any (w0 : World) (n : Nat) (ks : List Ex) (ih : ∀ (h : Hd) (x : Ex) (w : World), x ∈ ks → InX w0 n h x → Below w0.heap.size w0 w → Calls Tryd.prog 40 #[h.agg] w (BoolP (rightB n x) w))
    (a : Option Addr) (l c : Nat) (w : World) (hk : InKs (InX w0 n) w0 a l ks) (hb0 : Below w0.heap.size w0 w) (m1 m2 : Int) :
    Calls Tryd.prog 55 #[.slice a l c, .int .i64 m1, .int .i64 m2] w (BoolP (ks.all (rightB n) && (decide (m1 ≤ ks.length) && decide ((ks.length : Int) ≤ m2))) w) := by
  have hmax := hk.max
  obtain rfl := hk.count
  have HK := Lib.hid hk.at_
  have HB0 := Lib.hid hb0
  have IH := Lib.hid ih
  clear hk hb0 ih
  go_enter Tryd.func55, Tryd.ntmps55
  go_wp2_with fail
  go_loopw [7] (fun i wr => ∃ j : Nat, j ≤ ks.length ∧ i = .int .i64 j ∧ Hid ((ks.take j).all (rightB n) = true) ∧ Hid (Below w.heap.size w wr)) (fun i _ => ks.length - (intOf i).toNat)
  case atStart => exact ⟨0, Nat.zero_le _, rfl, rfl, Below.refl _ _⟩
  case round =>
    obtain ⟨j, hj, rfl, hA, hB⟩ := hrel
    rename World => wr
    by_cases hlt : j < ks.length
    · have hki : (j : Int) < (ks.length : Int) := by omega
      have hk0 : (0 : Int) ≤ (j : Int) := by omega
      obtain ⟨b, off, y, rfl, lt, hy, hI⟩ := HK.out j hlt
      have hbw := below_step HB0.out hB.out
      have hy2 := HdAt.below hy hbw lt
      have hlz := Nat.lt_of_lt_of_le lt hbw.size
      have KD := Lib.hid (IH.out y ks[j] wr (List.getElem_mem hlt) hI hbw)
      obtain ⟨r, hr⟩ : ∃ r, rightB n ks[j] = r := ⟨_, rfl⟩
      rw [hr] at KD
      have HR := Lib.hid hr
      obtain ⟨op2, nn2, s2, p2, pl2, pc2, q2, ql2, qc2, o2, k2, kl2, kc2⟩ := y
      obtain ⟨c0, c1, c2, c3, c4, c5, c6⟩ := hy2
      dsimp only at c0 c1 c2 c3 c4 c5 c6
      unfold Hd.agg at KD
      dsimp only at KD
      clear hy hI lt hr hbw
      cases r
      · have HE := Lib.hid (all_bad hlt HR.out)
        go_wp2_with (go_at_call 40; refine KD.out.mono ?_; rintro e w5 ⟨rfl, hb5⟩; have HB5 := Lib.hid hb5; clear hb5)
        go_ret
        exact ⟨ret_bool (by rw [HE.out]; rfl), below_step hB.out HB5.out⟩
      · go_wp2_with (go_at_call 40; refine KD.out.mono ?_; rintro e w5 ⟨rfl, hb5⟩; have HB5 := Lib.hid hb5; clear hb5)
        go_roundw
        case rel => exact ⟨j + 1, by omega, by go_num, all_take hlt hA.out HR.out, below_step hB.out HB5.out⟩
        case measure => simp [intOf]; omega
    · obtain rfl : j = ks.length := by omega
      have HE := Lib.hid (show ks.all (rightB n) = true by have := hA.out; rwa [List.take_length] at this)
      clear hA
      by_cases g1 : m1 ≤ (ks.length : Int)
      · by_cases g2 : (ks.length : Int) ≤ m2
        · go_wp2_with fail
          go_ret
          exact ⟨ret_bool (by rw [HE.out]; simp [g1, g2]), hB.out⟩
        · go_wp2_with fail
          go_ret
          exact ⟨ret_bool (by rw [HE.out]; simp; omega), hB.out⟩
      · go_wp2_with fail
        go_ret
        exact ⟨ret_bool (by rw [HE.out]; simp; omega), hB.out⟩
set_option maxRecDepth 100000 in
set_option maxHeartbeats 4000000 in
theorem rpairs_any (w0 : World) (n : Nat) (ps : List (ByteArray × Ex)) (ih : ∀ (h : Hd) (x : Ex) (w : World), x ∈ ps.map (·.2) → InX w0 n h x → Below w0.heap.size w0 w → Calls Tryd.prog 40 #[h.agg] w (BoolP (rightB n x) w))
    (a : Option Addr) (l c : Nat) (w : World) (hp : InPs (InX w0 n) w0 a l ps) (hb0 : Below w0.heap.size w0 w) (hsm : ps.length ≤ 1000000) :
    Calls Tryd.prog 54 #[.slice a l c] w (BoolP (ps.all (fun p => rightB n p.2) && risP ps) w) := by
  obtain rfl := hp.count
  have hnm : ∀ x ∈ ps, x.1.size ≤ 140737488355328 := fun x hx => by
    obtain ⟨i, hi, rfl⟩ := List.mem_iff_getElem.1 hx
    obtain ⟨b, off, y, _, _, h3, _⟩ := hp.at_ i hi
    exact h3
  obtain ⟨i0, hi, hz0, hz1, hz2⟩ := info_parts info9
  have HNM := Lib.hid hnm
  have HK := Lib.hid hp.at_
  have HB0 := Lib.hid hb0
  have IH := Lib.hid ih
  obtain ⟨rs, hrs⟩ : ∃ r, Nm.risB (ps.map (·.1)) = r := ⟨_, rfl⟩
  have HRS := Lib.hid (show risP ps = (decide (ps.length ≤ 32) && rs) by unfold risP; rw [hrs])
  have HR2 := Lib.hid hrs
  clear hp hb0 ih hnm hrs
  go_enter Tryd.func54, Tryd.ntmps54
  go_wp2_with fail
  go_loopw [3, 4] (fun v i wr => ∃ j : Nat, j ≤ ps.length ∧ i = .int .i64 j ∧ Hid ((ps.take j).all (fun p => rightB n p.2) = true) ∧ Hid (wr.ownsRow w.heap.size 9 1 v j (((ps.take j).map (·.1)).map Value.string)) ∧ Hid (Below w.heap.size w wr)) (fun _ i _ => ps.length - (intOf i).toNat)
  case atStart => exact ⟨0, Nat.zero_le _, rfl, rfl, World.ownsRow_nil _ _ _ _, Below.refl _ _⟩
  case round =>
    obtain ⟨j, hj, rfl, hA, hO, hB⟩ := hrel
    rename World => wr
    by_cases hlt : j < ps.length
    · have hki : (j : Int) < (ps.length : Int) := by omega
      have hk0 : (0 : Int) ≤ (j : Int) := by omega
      obtain ⟨b, off, y, rfl, lt, -, hc, hy, hI⟩ := HK.out j hlt
      have hbw := below_step HB0.out hB.out
      have hc2 := (hbw.cell (p := ⟨b, off + j * 8, none⟩) lt).trans hc
      have hlz := Nat.lt_of_lt_of_le lt hbw.size
      have hsz : w.heap.size ≤ wr.heap.size := hB.out.size
      have KD := fun W (hW : Below w0.heap.size w0 W) => Lib.hid (IH.out y ps[j].2 W (List.mem_map.2 ⟨_, List.getElem_mem hlt, rfl⟩) hI hW)
      obtain ⟨r, hr⟩ : ∃ r, rightB n ps[j].2 = r := ⟨_, rfl⟩
      rw [hr] at KD
      have HR := Lib.hid hr
      have hT : Hid (((ps.take (j + 1)).map (·.1)).map Value.string = ((ps.take j).map (·.1)).map Value.string ++ [.string ps[j].1]) := by
        rw [List.take_succ_eq_append_getElem hlt, List.map_append, List.map_append]; rfl
      obtain ⟨nm, hnm⟩ : ∃ nm, ps[j].1 = nm := ⟨_, rfl⟩
      rw [hnm] at hc2 hT
      have HY := Lib.hid hy
      have HLT := Lib.hid lt
      have HBW := Lib.hid hbw
      obtain ⟨op2, nn2, s2, p2, pl2, pc2, q2, ql2, qc2, o2, k2, kl2, kc2⟩ := y
      have HCL : Hid (∀ W, Below w0.heap.size w0 W → HdAt W b (off + j * 8 + 1) ⟨op2, nn2, s2, p2, pl2, pc2, q2, ql2, qc2, o2, k2, kl2, kc2⟩) := fun W hW => HdAt.below HY.out hW HLT.out
      unfold Hd.agg at KD
      dsimp only at KD
      clear hy hI lt hr hbw hc hnm HY
      have HCN : Hid (∀ r u, [Value.string nm][r]? = some u → (wr.alloc (.cells #[.string nm] 9)).cell? ((⟨wr.heap.size, 0, none⟩ : Addr).add r) = some u) := cell_one_new wr (.string nm) 9
      cases r
      all_goals
        go_wp2_with (first
          | (at_builtin; refine wpList_append_own _ rfl _ _ 35 rfl w.heap.size 9 i0 (.string ByteArray.empty) 1 16 Tryd.underlying35 hi hz0 hz1 hz2 rfl (by decide) _ _ _ rfl (hO.out.alloc _) ⟨wr.heap.size, 0, none⟩ 1 1 [.string nm] rfl rfl HCN.out (fun x hx => by simp at hx; subst hx; rfl) (by unfold maxLen; omega) (by omega) (by simp; omega) ?_; intro v' w3 hown' hgrow3 hnil3
             have OW3 := Lib.hid hown'
             have HB3 := Lib.hid ((hB.out.alloc hsz _).grown hgrow3 (by simp; omega) (own_base hO.out))
             have hz3 : wr.heap.size < w3.heap.size := by { have := hgrow3.size; simp at this; omega }
             obtain ⟨c0, c1, c2, c3, c4, c5, c6⟩ := HCL.out w3 (below_step HB0.out (below_step (Below.refl _ _) (show Below w.heap.size w w3 from HB3.out)))
             dsimp only at c0 c1 c2 c3 c4 c5 c6
             clear hown' hgrow3 hnil3)
          | (go_at_call 40; refine (KD _ (below_step HB0.out HB3.out)).out.mono ?_; rintro e w5 ⟨rfl, hb5⟩; have HB5 := Lib.hid hb5; clear hb5))
      · go_ret
        exact ⟨ret_bool (by rw [all_bad (f := fun p => rightB n p.2) hlt HR.out]; rfl), below_step HB3.out HB5.out⟩
      · go_roundw
        case rel => exact ⟨j + 1, by omega, by go_num, all_take hlt hA.out HR.out, (by rw [hT.out]; exact OW3.out.kept (grown_below HB5.out) (by cases Value.ownBlock _ <;> simp)), below_step HB3.out HB5.out⟩
        case measure => simp [intOf]; omega
    · obtain rfl : j = ps.length := by omega
      have HE := Lib.hid (show ps.all (fun p => rightB n p.2) = true by have := hA.out; rwa [List.take_length] at this)
      have hT : Hid (((ps.take ps.length).map (·.1)).map Value.string = (ps.map (·.1)).map Value.string) := by rw [List.take_length]; rfl
      rw [hT.out] at hO
      obtain ⟨a1, cap1, rfl, hS1⟩ := row_own (xs := ps.map (·.1)) hO.out (by omega) (fun x hx => by obtain ⟨y, hy, rfl⟩ := List.mem_map.1 hx; exact HNM.out y hy)
      have HRC : Hid (Calls Tryd.prog 67 #[.slice a1 ps.length cap1] wr (BoolP rs wr)) := by rw [← HR2.out]; exact Nm.rrising_any _ _ _ _ _ hS1
      clear hA hS1 hT
      by_cases g1 : ps.length ≤ 32
      · have g2 : (ps.length : Int) ≤ 32 := by omega
        have HE2 := Lib.hid (show (ps.all (fun p => rightB n p.2) && risP ps) = rs by rw [HE.out, HRS.out, decide_eq_true g1]; simp)
        clear g1
        go_wp2_with (go_at_call 67; refine HRC.out.mono ?_; rintro e w4 ⟨rfl, hB4⟩; have HB4 := Lib.hid hB4; clear hB4)
        go_ret
        exact ⟨ret_bool (by rw [HE2.out]), below_step hB.out HB4.out⟩
      · have g2 : ¬ (ps.length : Int) ≤ 32 := by omega
        have HE2 := Lib.hid (show (ps.all (fun p => rightB n p.2) && risP ps) = false by rw [HE.out, HRS.out, decide_eq_false g1]; simp)
        clear g1
        go_wp2_with fail
        go_ret
        exact ⟨ret_bool (by rw [HE2.out]), hB.out⟩
end Go.Proofs.YtlpilbghblbpbaaDoor
