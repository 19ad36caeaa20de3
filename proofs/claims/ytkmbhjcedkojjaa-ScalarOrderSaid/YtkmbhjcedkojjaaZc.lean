/- Three boxes. -/
import Derived.Test.YtkmbhjcedkojjaaZ
namespace Go.Proofs.Ytkmbhjcedkojjaa
open Go.RowKit
theorem Tc.step {W w1 : World} {N : Nat} {k lo hi : Int} {s : ByteArray} {y m o : Bool} {f : Option Addr} {fl fc : Nat} (h : Tc W N k lo hi s y m o f fl fc ∧ N < W.heap.size) (hb : Below W.heap.size W w1) (O : Obj) :
    Tc (w1.alloc O) N k lo hi s y m o f fl fc ∧ N < (w1.alloc O).heap.size :=
  ⟨(h.1.later hb h.2).alloc (Nat.lt_of_lt_of_le h.2 hb.size) O, lt_alloc (Nat.lt_of_lt_of_le h.2 hb.size)⟩
theorem Tc.here (w : World) (k lo hi : Int) (s : ByteArray) (y m o : Bool) (f : Option Addr) (fl fc : Nat) :
    Tc (w.alloc (.cells #[.int .i64 k, .int .i64 lo, .int .i64 hi, .string s, .bool y, .bool m, .bool o, .slice f fl fc] 24)) w.heap.size k lo hi s y m o f fl fc ∧ w.heap.size < (w.alloc (.cells #[.int .i64 k, .int .i64 lo, .int .i64 hi, .string s, .bool y, .bool m, .bool o, .slice f fl fc] 24)).heap.size :=
  ⟨Tc.new _ _ _ _ _ _ _ _ _ _ _, new_lt⟩
theorem Tc.box3 (w : World) (k1 lo1 hi1 : Int) (s1 : ByteArray) (y1 m1 o1 : Bool) (f1 : Option Addr) (fl1 fc1 : Nat) (k2 lo2 hi2 : Int) (s2 : ByteArray) (y2 m2 o2 : Bool) (f2 : Option Addr) (fl2 fc2 : Nat) (k3 lo3 hi3 : Int) (s3 : ByteArray) (y3 m3 o3 : Bool) (f3 : Option Addr) (fl3 fc3 : Nat) {w1 : World}
    (h : Below (((w.alloc (.cells #[.int .i64 k1, .int .i64 lo1, .int .i64 hi1, .string s1, .bool y1, .bool m1, .bool o1, .slice f1 fl1 fc1] 24)).alloc (.cells #[.int .i64 k2, .int .i64 lo2, .int .i64 hi2, .string s2, .bool y2, .bool m2, .bool o2, .slice f2 fl2 fc2] 24)).alloc (.cells #[.int .i64 k3, .int .i64 lo3, .int .i64 hi3, .string s3, .bool y3, .bool m3, .bool o3, .slice f3 fl3 fc3] 24)).heap.size
      (((w.alloc (.cells #[.int .i64 k1, .int .i64 lo1, .int .i64 hi1, .string s1, .bool y1, .bool m1, .bool o1, .slice f1 fl1 fc1] 24)).alloc (.cells #[.int .i64 k2, .int .i64 lo2, .int .i64 hi2, .string s2, .bool y2, .bool m2, .bool o2, .slice f2 fl2 fc2] 24)).alloc (.cells #[.int .i64 k3, .int .i64 lo3, .int .i64 hi3, .string s3, .bool y3, .bool m3, .bool o3, .slice f3 fl3 fc3] 24)) w1) :
    (Tc w1 w.heap.size k1 lo1 hi1 s1 y1 m1 o1 f1 fl1 fc1 ∧ w.heap.size < w1.heap.size) ∧ (Tc w1 (w.heap.size + 1) k2 lo2 hi2 s2 y2 m2 o2 f2 fl2 fc2 ∧ w.heap.size + 1 < w1.heap.size) ∧ (Tc w1 (w.heap.size + 1 + 1) k3 lo3 hi3 s3 y3 m3 o3 f3 fl3 fc3 ∧ w.heap.size + 1 + 1 < w1.heap.size) ∧ Below w.heap.size w w1 := by
  obtain ⟨h1, h2, hb⟩ := Tc.box2 w k1 lo1 hi1 s1 y1 m1 o1 f1 fl1 fc1 k2 lo2 hi2 s2 y2 m2 o2 f2 fl2 fc2 (Below.refl _ _)
  have e : ((w.alloc (.cells #[.int .i64 k1, .int .i64 lo1, .int .i64 hi1, .string s1, .bool y1, .bool m1, .bool o1, .slice f1 fl1 fc1] 24)).alloc (.cells #[.int .i64 k2, .int .i64 lo2, .int .i64 hi2, .string s2, .bool y2, .bool m2, .bool o2, .slice f2 fl2 fc2] 24)).heap.size = w.heap.size + 1 + 1 := by simp
  have h3 := Tc.here ((w.alloc (.cells #[.int .i64 k1, .int .i64 lo1, .int .i64 hi1, .string s1, .bool y1, .bool m1, .bool o1, .slice f1 fl1 fc1] 24)).alloc (.cells #[.int .i64 k2, .int .i64 lo2, .int .i64 hi2, .string s2, .bool y2, .bool m2, .bool o2, .slice f2 fl2 fc2] 24)) k3 lo3 hi3 s3 y3 m3 o3 f3 fl3 fc3
  rw [e] at h3
  have up : ∀ {N : Nat} {k lo hi : Int} {s : ByteArray} {y m o : Bool} {f : Option Addr} {fl fc : Nat}, Tc (((w.alloc (.cells #[.int .i64 k1, .int .i64 lo1, .int .i64 hi1, .string s1, .bool y1, .bool m1, .bool o1, .slice f1 fl1 fc1] 24)).alloc (.cells #[.int .i64 k2, .int .i64 lo2, .int .i64 hi2, .string s2, .bool y2, .bool m2, .bool o2, .slice f2 fl2 fc2] 24)).alloc (.cells #[.int .i64 k3, .int .i64 lo3, .int .i64 hi3, .string s3, .bool y3, .bool m3, .bool o3, .slice f3 fl3 fc3] 24)) N k lo hi s y m o f fl fc ∧ N < (((w.alloc (.cells #[.int .i64 k1, .int .i64 lo1, .int .i64 hi1, .string s1, .bool y1, .bool m1, .bool o1, .slice f1 fl1 fc1] 24)).alloc (.cells #[.int .i64 k2, .int .i64 lo2, .int .i64 hi2, .string s2, .bool y2, .bool m2, .bool o2, .slice f2 fl2 fc2] 24)).alloc (.cells #[.int .i64 k3, .int .i64 lo3, .int .i64 hi3, .string s3, .bool y3, .bool m3, .bool o3, .slice f3 fl3 fc3] 24)).heap.size → Tc w1 N k lo hi s y m o f fl fc ∧ N < w1.heap.size :=
    fun hh => ⟨hh.1.later h hh.2, Nat.lt_of_lt_of_le hh.2 h.size⟩
  exact ⟨up (Tc.step h1 (Below.refl _ _) _), up (Tc.step h2 (Below.refl _ _) _), up h3, bl_step (bl_alloc hb) h⟩

end Go.Proofs.Ytkmbhjcedkojjaa
