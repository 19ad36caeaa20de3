/- A, C, Z, Pa, Pb, Pc, Pd, Pe -/
import Derived.Test.YtddleeenlpigfaaGreatDoorChecked
import Derived.WalkKit
import Derived.Lib.Hide
import Derived.RowKit3
import Derived.Below
import Derived.Deep.QuietTactic
import Derived.BigQuiet
import Derived.Laws.Cover1
import Derived.StillTailTactics
import Derived.Deep.DeepCutAuto
import Derived.Deep.CutBlock
/- WALKS of single, Single: one thing? -/
namespace Go.Proofs.YtddleeenlpigfaaGreatDoor
open Go.RowKit
/-- A term's value. -/
abbrev tv (k lo hi : Int) (s : ByteArray) (y m o : Bool) (f : Option Addr) (fl fc : Nat) : Value :=
  .agg #[.int .i64 k, .int .i64 lo, .int .i64 hi, .string s, .bool y, .bool m, .bool o, .slice f fl fc]
def singleB (k lo hi : Int) (y : Bool) : Bool := if k = 3 then !y else (lo == hi)
set_option maxHeartbeats 400000 in
theorem single_any (k lo hi : Int) (s : ByteArray) (y m o : Bool) (f : Option Addr) (fl fc : Nat) (w : World) :
    Calls Tryz.prog 114 #[tv k lo hi s y m o f fl fc] w fun e w' => e = .returned (.bool (singleB k lo hi y)) ∧ Below w.heap.size w w' := by
  unfold singleB
  by_cases hk : k = 3
  · subst hk
    go_enter Tryz.func114, Tryz.ntmps114
    go_wp2_with fail
    go_ret
    exact ⟨by simp, (Below.refl _ _).alloc (Nat.le_refl _) _⟩
  · have hk' : (k == 3) = false := by simpa using hk
    go_enter Tryz.func114, Tryz.ntmps114
    go_wp2_with fail
    go_ret
    exact ⟨by simp, (Below.refl _ _).alloc (Nat.le_refl _) _⟩
set_option maxHeartbeats 400000 in
theorem rsingle_any (k lo hi : Int) (s : ByteArray) (y m o : Bool) (f : Option Addr) (fl fc : Nat) (w : World) :
    Calls Tryz.prog 108 #[tv k lo hi s y m o f fl fc] w fun e w' => e = .returned (.bool (singleB k lo hi y)) ∧ Below w.heap.size w w' := by
  unfold singleB
  by_cases hk : k = 3
  · subst hk
    go_enter Tryz.func108, Tryz.ntmps108
    go_wp2_with fail
    go_ret
    exact ⟨by simp, (Below.refl _ _).alloc (Nat.le_refl _) _⟩
  · have hk' : (k == 3) = false := by simpa using hk
    go_enter Tryz.func108, Tryz.ntmps108
    go_wp2_with fail
    go_ret
    exact ⟨by simp, (Below.refl _ _).alloc (Nat.le_refl _) _⟩
def RightP (k lo hi : Int) (s : ByteArray) (y m o : Bool) (fl : Nat) : Prop :=
  o = false ∧ fl = 0 ∧ (m = true → singleB k lo hi y = false) ∧
  ((k = 3 ∧ lo = 0 ∧ hi = 0 ∧ (s.size : Int) ≤ 256 ∧ (y = true → s.toList = [])) ∨ (k = 1 ∧ s.toList = [] ∧ y = false ∧ 0 ≤ lo ∧ lo ≤ hi ∧ hi ≤ 1) ∨
    (k = 2 ∧ s.toList = [] ∧ y = false ∧ -9007199254740992 ≤ lo ∧ lo ≤ hi ∧ hi ≤ 9007199254740992))
instance (k lo hi : Int) (s : ByteArray) (y m o : Bool) (fl : Nat) : Decidable (RightP k lo hi s y m o fl) := by unfold RightP; infer_instance
def rightB (k lo hi : Int) (s : ByteArray) (y m o : Bool) (fl : Nat) : Bool := decide (RightP k lo hi s y m o fl)
theorem ret_dec {b : Bool} {P : Prop} [Decidable P] (h : b = true ↔ P) : Ending.returned (.bool b) = .returned (.bool (decide P)) := by
  rw [show decide P = b by cases b <;> simp_all]
theorem bcell {W w1 : World} (hb : Below W.heap.size W w1) : (∀ b o, b < W.heap.size → w1.cell? ⟨b, o, none⟩ = W.cell? ⟨b, o, none⟩) ∧ (∀ b o, b < W.heap.size → w1.frozen? ⟨b, o, none⟩ = W.frozen? ⟨b, o, none⟩) :=
  ⟨fun b o h => hb.cell (p := ⟨b, o, none⟩) h, fun b o h => hb.frozen (p := ⟨b, o, none⟩) h⟩
set_option maxRecDepth 100000 in
set_option maxHeartbeats 1000000 in
theorem right_any (k lo hi : Int) (s : ByteArray) (y m o : Bool) (f : Option Addr) (fl fc : Nat) (w : World) :
    Calls Tryz.prog 74 #[tv k lo hi s y m o f fl fc] w fun e w' => e = .returned (.bool (rightB k lo hi s y m o fl)) ∧ Below w.heap.size w w' := by
  go_enter Tryz.func74, Tryz.ntmps74
  go_wp2_with (go_at_call 114; (with_reducible refine (single_any _ _ _ _ _ _ _ _ _ _ _).mono ?_); rintro e w1 ⟨rfl, hB⟩; obtain ⟨hc, hf⟩ := bcell hB; have HB := Lib.hid hB; clear hB)
  all_goals
    go_ret
    refine ⟨ret_dec ?_, by first | exact ((Below.refl _ _).alloc (Nat.le_refl _) _).trans (HB.out.mono (by simp)) | exact (Below.refl _ _).alloc (Nat.le_refl _) _⟩
    unfold RightP
    try clear HB hc hf
    simp_all <;> omega
end Go.Proofs.YtddleeenlpigfaaGreatDoor
/- WALKS of Atom, Same. -/
namespace Go.Proofs.YtddleeenlpigfaaGreatDoor
open Go.RowKit
theorem bl_alloc {w a : World} {o : Obj} (h : Below w.heap.size w a) : Below w.heap.size w (a.alloc o) := h.alloc h.size o
theorem bl_set {w a : World} {p : Addr} {v : Value} (h : Below w.heap.size w a) (hp : w.heap.size ≤ p.block) : Below w.heap.size w (a.setCell p v) := h.setCell hp v
theorem bl_step {w a b : World} (h : Below w.heap.size w a) (k : Below a.heap.size a b) : Below w.heap.size w b := h.trans (k.mono h.size)
def SameP (k1 lo1 hi1 : Int) (s1 : ByteArray) (y1 m1 o1 : Bool) (fl1 : Nat) (k2 lo2 hi2 : Int) (s2 : ByteArray) (y2 m2 o2 : Bool) (fl2 : Nat) : Prop :=
  rightB k1 lo1 hi1 s1 y1 m1 o1 fl1 = true ∧ rightB k2 lo2 hi2 s2 y2 m2 o2 fl2 = true ∧ k1 = k2 ∧ lo1 = lo2 ∧ hi1 = hi2 ∧ s1.toList = s2.toList ∧ y1 = y2 ∧ m1 = m2
instance (k1 lo1 hi1 : Int) (s1 : ByteArray) (y1 m1 o1 : Bool) (fl1 : Nat) (k2 lo2 hi2 : Int) (s2 : ByteArray) (y2 m2 o2 : Bool) (fl2 : Nat) : Decidable (SameP k1 lo1 hi1 s1 y1 m1 o1 fl1 k2 lo2 hi2 s2 y2 m2 o2 fl2) := by unfold SameP; infer_instance
set_option maxRecDepth 100000 in
set_option maxHeartbeats 2000000 in
theorem same_any (k1 lo1 hi1 : Int) (s1 : ByteArray) (y1 m1 o1 : Bool) (f1 : Option Addr) (fl1 fc1 : Nat) (k2 lo2 hi2 : Int) (s2 : ByteArray) (y2 m2 o2 : Bool) (f2 : Option Addr) (fl2 fc2 : Nat) (w : World) :
    Calls Tryz.prog 142 #[tv k1 lo1 hi1 s1 y1 m1 o1 f1 fl1 fc1, tv k2 lo2 hi2 s2 y2 m2 o2 f2 fl2 fc2] w fun e w' => e = .returned (.bool (decide (SameP k1 lo1 hi1 s1 y1 m1 o1 fl1 k2 lo2 hi2 s2 y2 m2 o2 fl2))) ∧ Below w.heap.size w w' := by
  go_enter Tryz.func142, Tryz.ntmps142
  go_wp2_with (first
    | (go_at_call 74; (with_reducible refine (right_any _ _ _ _ _ _ _ _ _ _ _).mono ?_); rintro e _ ⟨rfl, hB⟩; (try clear hc hf); (first | (replace HB := Lib.hid (bl_step (by repeat (first | exact HB.out | refine bl_alloc ?_ | refine bl_set ?_ (by first | exact Nat.le_refl _ | (simp; done) | (simp; omega) | omega))) hB)) | (have HB := Lib.hid hB)); obtain ⟨hc, hf⟩ := bcell HB.out; clear hB))
  all_goals
    go_ret
    refine ⟨ret_dec ?_, (by (repeat (first | exact Below.refl _ _ | refine bl_alloc ?_ | refine bl_set ?_ (by first | exact Nat.le_refl _ | (simp; done) | (simp; omega) | omega) | refine bl_step ?_ HB.out)))⟩
    unfold SameP
    try clear HB hc hf
    simp_all

end Go.Proofs.YtddleeenlpigfaaGreatDoor
/- What a term's box holds; a region whose operations read what a class of worlds tells. -/
namespace Go.Proofs.YtddleeenlpigfaaGreatDoor
open Go.RowKit
/-- A term's cells. -/
def Tc (w : World) (N : Nat) (k lo hi : Int) (s : ByteArray) (y m o : Bool) (f : Option Addr) (fl fc : Nat) : Prop :=
  w.cell? ⟨N, 0, none⟩ = some (.int .i64 k) ∧ w.cell? ⟨N, 1, none⟩ = some (.int .i64 lo) ∧ w.cell? ⟨N, 2, none⟩ = some (.int .i64 hi) ∧ w.cell? ⟨N, 3, none⟩ = some (.string s) ∧
  w.cell? ⟨N, 4, none⟩ = some (.bool y) ∧ w.cell? ⟨N, 5, none⟩ = some (.bool m) ∧ w.cell? ⟨N, 6, none⟩ = some (.bool o) ∧ w.cell? ⟨N, 7, none⟩ = some (.slice f fl fc)
theorem Tc.later {w w1 : World} {N : Nat} {k lo hi : Int} {s : ByteArray} {y m o : Bool} {f : Option Addr} {fl fc : Nat} (h : Tc w N k lo hi s y m o f fl fc) (hb : Below w.heap.size w w1) (hn : N < w.heap.size) : Tc w1 N k lo hi s y m o f fl fc := by
  have e : ∀ i, w1.cell? ⟨N, i, none⟩ = w.cell? ⟨N, i, none⟩ := fun i => hb.cell (p := ⟨N, i, none⟩) hn
  unfold Tc
  rw [e, e, e, e, e, e, e, e]
  exact h
theorem Tc.new (w : World) (k lo hi : Int) (s : ByteArray) (y m o : Bool) (f : Option Addr) (fl fc : Nat) :
    Tc (w.alloc (.cells #[.int .i64 k, .int .i64 lo, .int .i64 hi, .string s, .bool y, .bool m, .bool o, .slice f fl fc] 31)) w.heap.size k lo hi s y m o f fl fc := by simp [Tc]
theorem Tc.alloc {w : World} {N : Nat} {k lo hi : Int} {s : ByteArray} {y m o : Bool} {f : Option Addr} {fl fc : Nat} (h : Tc w N k lo hi s y m o f fl fc) (hn : N < w.heap.size) (O : Obj) : Tc (w.alloc O) N k lo hi s y m o f fl fc :=
  h.later ((Below.refl _ _).alloc (Nat.le_refl _) _) hn
theorem lt_alloc {w : World} {n : Nat} {o : Obj} (h : n < w.heap.size) : n < (w.alloc o).heap.size := by simp; omega
theorem new_lt {w : World} {o : Obj} : w.heap.size < (w.alloc o).heap.size := by simp
/-- Two boxes, one behind the other. -/
theorem Tc.box2 (w : World) (k lo hi : Int) (s : ByteArray) (y m o : Bool) (f : Option Addr) (fl fc : Nat) (k2 lo2 hi2 : Int) (s2 : ByteArray) (y2 m2 o2 : Bool) (f2 : Option Addr) (fl2 fc2 : Nat) {w1 : World}
    (h : Below ((w.alloc (.cells #[.int .i64 k, .int .i64 lo, .int .i64 hi, .string s, .bool y, .bool m, .bool o, .slice f fl fc] 31)).alloc (.cells #[.int .i64 k2, .int .i64 lo2, .int .i64 hi2, .string s2, .bool y2, .bool m2, .bool o2, .slice f2 fl2 fc2] 31)).heap.size
      ((w.alloc (.cells #[.int .i64 k, .int .i64 lo, .int .i64 hi, .string s, .bool y, .bool m, .bool o, .slice f fl fc] 31)).alloc (.cells #[.int .i64 k2, .int .i64 lo2, .int .i64 hi2, .string s2, .bool y2, .bool m2, .bool o2, .slice f2 fl2 fc2] 31)) w1) :
    (Tc w1 w.heap.size k lo hi s y m o f fl fc ∧ w.heap.size < w1.heap.size) ∧ (Tc w1 (w.heap.size + 1) k2 lo2 hi2 s2 y2 m2 o2 f2 fl2 fc2 ∧ w.heap.size + 1 < w1.heap.size) ∧ Below w.heap.size w w1 := by
  have e : (w.alloc (.cells #[.int .i64 k, .int .i64 lo, .int .i64 hi, .string s, .bool y, .bool m, .bool o, .slice f fl fc] 31)).heap.size = w.heap.size + 1 := by simp
  have hz := h.size
  simp at hz
  refine ⟨⟨((Tc.new w k lo hi s y m o f fl fc).alloc new_lt _).later h (lt_alloc new_lt), by omega⟩, ⟨?_, by omega⟩, bl_step (bl_alloc (bl_alloc (Below.refl _ _))) h⟩
  have := (Tc.new (w.alloc (.cells #[.int .i64 k, .int .i64 lo, .int .i64 hi, .string s, .bool y, .bool m, .bool o, .slice f fl fc] 31)) k2 lo2 hi2 s2 y2 m2 o2 f2 fl2 fc2).later h new_lt
  rw [e] at this
  exact this
theorem region_class {P : Program} {C : World → Prop} {id : Nat} {Q : Exit → Act → World → Prop} {a : Act} {w : World} {l : List Oper} (hm : P.follows .mixedOrders = true) (hB : Region.lexB .any l.toArray = true)
    (hC : C { w with drawn := w.drawn + 1 }) (h : wpQuiet P l.toArray C (fun a' => ∀ w', C w' → Q .normal a' w') l a) : (Code.region id l.toArray true).wp P Q a w :=
  wp_region_quiet (C := C) hm hB hC (by simpa using h)

end Go.Proofs.YtddleeenlpigfaaGreatDoor
/- WALKS of cmp.Compare at numbers and texts. -/
namespace Go.Proofs.YtddleeenlpigfaaGreatDoor
open Go.RowKit
def bitI (b : Bool) : Int := if b then 1 else 0
def cmpI (a b : Int) : Int := if a < b then -1 else if b < a then 1 else 0
def cmpS (a b : ByteArray) : Int := if Op.bytesLess a.toList b.toList = true then -1 else if a.toList = b.toList then 0 else 1
set_option maxHeartbeats 400000 in
theorem nanI (a : Int) (w : World) : Calls Tryz.prog 160 #[.int .i64 a] w fun e w' => e = .returned (.bool false) ∧ w' = w := by
  go_enter Tryz.func160, Tryz.ntmps160
  go_wp2_with fail
  go_ret
  exact ⟨by simp, rfl⟩
set_option maxHeartbeats 400000 in
theorem nanS (a : ByteArray) (w : World) : Calls Tryz.prog 161 #[.string a] w fun e w' => e = .returned (.bool false) ∧ w' = w := by
  go_enter Tryz.func161, Tryz.ntmps161
  go_wp2_with fail
  go_ret
  exact ⟨by simp, rfl⟩
set_option maxHeartbeats 400000 in
theorem cmpI_any (a b : Int) (w : World) : Calls Tryz.prog 123 #[.int .i64 a, .int .i64 b] w fun e w' => e = .returned (.int .i64 (cmpI a b)) ∧ w' = w := by
  unfold cmpI
  by_cases h1 : a < b
  · rw [if_pos h1]
    go_enter Tryz.func123, Tryz.ntmps123
    go_wp2_with (go_at_call 160; refine (nanI _ _).mono ?_; rintro e w1 ⟨rfl, rfl⟩)
    go_ret
    exact ⟨rfl, rfl⟩
  · rw [if_neg h1]
    by_cases h2 : b < a
    · rw [if_pos h2]
      go_enter Tryz.func123, Tryz.ntmps123
      go_wp2_with (go_at_call 160; refine (nanI _ _).mono ?_; rintro e w1 ⟨rfl, rfl⟩)
      go_ret
      exact ⟨rfl, rfl⟩
    · rw [if_neg h2]
      go_enter Tryz.func123, Tryz.ntmps123
      go_wp2_with (go_at_call 160; refine (nanI _ _).mono ?_; rintro e w1 ⟨rfl, rfl⟩)
      go_ret
      exact ⟨rfl, rfl⟩
set_option maxHeartbeats 400000 in
theorem bit_any (b : Bool) (w : World) : Calls Tryz.prog 125 #[.bool b] w fun e w' => e = .returned (.int .i64 (bitI b)) ∧ w' = w := by
  unfold bitI
  cases b
  all_goals
    go_enter Tryz.func125, Tryz.ntmps125
    go_wp2_with fail
    go_ret
    exact ⟨rfl, rfl⟩
set_option maxHeartbeats 400000 in
theorem cmpS_any (a b : ByteArray) (w : World) : Calls Tryz.prog 124 #[.string a, .string b] w fun e w' => e = .returned (.int .i64 (cmpS a b)) ∧ w' = w := by
  unfold cmpS
  generalize hu : a.toList = u at *
  generalize hv : b.toList = v at *
  by_cases h1 : Op.bytesLess u v = true
  · rw [if_pos h1]
    go_enter Tryz.func124, Tryz.ntmps124
    go_wp2_with (go_at_call 161; refine (nanS _ _).mono ?_; rintro e w1 ⟨rfl, rfl⟩)
    go_ret
    exact ⟨rfl, rfl⟩
  · rw [if_neg h1]
    have h1' : Op.bytesLess u v = false := by simpa using h1
    by_cases h2 : u = v
    · rw [if_pos h2]
      have h2' : (u == v) = true := by simpa using h2
      clear h2 h1
      go_enter Tryz.func124, Tryz.ntmps124
      go_wp2_with (go_at_call 161; refine (nanS _ _).mono ?_; rintro e w1 ⟨rfl, rfl⟩)
      go_ret
      exact ⟨rfl, rfl⟩
    · rw [if_neg h2]
      have h2' : (u == v) = false := by simpa using h2
      clear h1
      go_enter Tryz.func124, Tryz.ntmps124
      go_wp2_with (go_at_call 161; refine (nanS _ _).mono ?_; rintro e w1 ⟨rfl, rfl⟩)
      go_ret
      exact ⟨rfl, rfl⟩

end Go.Proofs.YtddleeenlpigfaaGreatDoor
/- A VALUE IN MEMORY, told; the order of values. -/
namespace Go.Proofs.YtddleeenlpigfaaGreatDoor
open Go.RowKit
inductive Tm where
  | mk (k lo hi : Int) (s : ByteArray) (y m o : Bool) (fs : List (ByteArray × List Tm)) : Tm
def Tm.fs : Tm → List (ByteArray × List Tm) | .mk _ _ _ _ _ _ _ fs => fs
def firstL : List Int → Int
  | [] => 0
  | c :: l => if c ≠ 0 then c else firstL l
def plainL : Tm → Tm → List Int
  | .mk k lo hi s y m o _, .mk k2 lo2 hi2 s2 y2 m2 o2 _ => [cmpI k k2, cmpI lo lo2, cmpI hi hi2, cmpS s s2, cmpI (bitI y) (bitI y2), cmpI (bitI m) (bitI m2), cmpI (bitI o) (bitI o2)]
def lexL {α : Type} (f : α → α → Int) : List α → List α → Int
  | [], [] => 0
  | [], _ :: _ => -1
  | _ :: _, [] => 1
  | a :: A, b :: B => if f a b ≠ 0 then f a b else lexL f A B
def two (c d : Int) : Int := if c ≠ 0 then c else d
def cmpF (g : List Tm → List Tm → Int) (x y : ByteArray × List Tm) : Int := two (cmpS x.1 y.1) (g x.2 y.2)
def cmpT (g : List Tm → List Tm → Int) (a b : Tm) : Int := two (firstL (plainL a b)) (lexL (cmpF g) a.fs b.fs)
def cmpV : Nat → List Tm → List Tm → Int
  | 0, _, _ => 0
  | n + 1, A, B => lexL (cmpT (cmpV n)) A B
theorem lexL_at {α : Type} (f : α → α → Int) : ∀ (A B : List α) (i : Nat) (hA : i < A.length) (hB : i < B.length), (∀ j (h1 : j < A.length) (h2 : j < B.length), j < i → f A[j] B[j] = 0) → f A[i] B[i] ≠ 0 → lexL f A B = f A[i] B[i]
  | a :: A, b :: B, 0, _, _, _, h => by
    have h' : f a b ≠ 0 := h
    show (if f a b ≠ 0 then f a b else lexL f A B) = f a b
    rw [if_pos h']
  | a :: A, b :: B, i + 1, hA, hB, hz, h => by
    have h0 : f a b = 0 := hz 0 (by simp) (by simp) (by omega)
    show (if f a b ≠ 0 then f a b else lexL f A B) = _
    rw [if_neg (by simpa using h0)]
    exact lexL_at f A B i (by simpa using hA) (by simpa using hB) (fun j h1 h2 hj => hz (j + 1) (by simpa using h1) (by simpa using h2) (by omega)) h
theorem cmpI_succ (a b : Nat) : cmpI ((a + 1 : Nat) : Int) ((b + 1 : Nat) : Int) = cmpI a b := by
  unfold cmpI
  by_cases h1 : (a : Int) < b
  · rw [if_pos h1, if_pos (by omega)]
  · by_cases h2 : (b : Int) < a
    · rw [if_neg h1, if_pos h2, if_neg (by omega), if_pos (by omega)]
    · rw [if_neg h1, if_neg h2, if_neg (by omega), if_neg (by omega)]
theorem lexL_end {α : Type} (f : α → α → Int) : ∀ (A B : List α), (∀ j (h1 : j < A.length) (h2 : j < B.length), f A[j] B[j] = 0) → lexL f A B = cmpI A.length B.length
  | [], [], _ => by simp [lexL, cmpI]
  | [], b :: B, _ => by simp [lexL, cmpI]
  | a :: A, [], _ => by
    simp only [lexL, cmpI, List.length_cons, List.length_nil]
    rw [if_neg (by omega), if_pos (by omega)]
  | a :: A, b :: B, h => by
    have h0 : f a b = 0 := h 0 (by simp) (by simp)
    show (if f a b ≠ 0 then f a b else lexL f A B) = _
    rw [if_neg (by simpa using h0), lexL_end f A B (fun j h1 h2 => h (j + 1) (by simpa using h1) (by simpa using h2))]
    exact (cmpI_succ _ _).symm
/-- The fields of a header lie in a world. -/
def InF (I : Option Addr → Nat → Nat → List Tm → Prop) (w : World) (f : Option Addr) (fl : Nat) (fs : List (ByteArray × List Tm)) : Prop :=
  fs.length = fl ∧ (fl : Int) ≤ 9223372036854775807 ∧ ∀ i (h : i < fs.length), ∃ (b off tl tc : Nat) (t : Option Addr), f = some ⟨b, off, none⟩ ∧ b < w.heap.size ∧ w.cell? ⟨b, off + i * 2, none⟩ = some (.string fs[i].1) ∧ w.cell? ⟨b, off + i * 2 + 1, none⟩ = some (.slice t tl tc) ∧ I t tl tc fs[i].2
/-- A term's cells lie in a world. -/
def InT (I : Option Addr → Nat → Nat → List Tm → Prop) (w : World) (b off : Nat) : Tm → Prop
  | .mk k lo hi s y m o fs => b < w.heap.size ∧ ∃ (f : Option Addr) (fl fc : Nat), w.cell? ⟨b, off, none⟩ = some (.int .i64 k) ∧ w.cell? ⟨b, off + 1, none⟩ = some (.int .i64 lo) ∧ w.cell? ⟨b, off + 2, none⟩ = some (.int .i64 hi) ∧ w.cell? ⟨b, off + 3, none⟩ = some (.string s) ∧
    w.cell? ⟨b, off + 4, none⟩ = some (.bool y) ∧ w.cell? ⟨b, off + 5, none⟩ = some (.bool m) ∧ w.cell? ⟨b, off + 6, none⟩ = some (.bool o) ∧ w.cell? ⟨b, off + 7, none⟩ = some (.slice f fl fc) ∧ InF I w f fl fs
/-- A value lies in a world, so deep at most. -/
def InV (w : World) : Nat → Option Addr → Nat → Nat → List Tm → Prop
  | 0, _, _, _, _ => False
  | n + 1, t, tl, _, V => V.length = tl ∧ (tl : Int) ≤ 9223372036854775807 ∧ ∀ i (h : i < V.length), ∃ b off : Nat, t = some ⟨b, off, none⟩ ∧ InT (fun t tl tc V => InV w n t tl tc V) w b (off + i * 8) V[i]
theorem InF.below {I J : Option Addr → Nat → Nat → List Tm → Prop} (hIJ : ∀ t tl tc V, I t tl tc V → J t tl tc V) {w w' : World} (hb : Below w.heap.size w w') {f : Option Addr} {fl : Nat} {fs : List (ByteArray × List Tm)} (h : InF I w f fl fs) : InF J w' f fl fs := by
  refine ⟨h.1, h.2.1, fun i hi => ?_⟩
  obtain ⟨b, off, tl, tc, t, e, lt, c0, c1, h2⟩ := h.2.2 i hi
  exact ⟨b, off, tl, tc, t, e, Nat.lt_of_lt_of_le lt hb.size, (hb.cell (p := ⟨b, off + i * 2, none⟩) lt).trans c0, (hb.cell (p := ⟨b, off + i * 2 + 1, none⟩) lt).trans c1, hIJ _ _ _ _ h2⟩
theorem InT.below {I J : Option Addr → Nat → Nat → List Tm → Prop} (hIJ : ∀ t tl tc V, I t tl tc V → J t tl tc V) {w w' : World} (hb : Below w.heap.size w w') {b off : Nat} {x : Tm} (h : InT I w b off x) : InT J w' b off x := by
  obtain ⟨k, lo, hi, s, y, m, o, fs⟩ := x
  obtain ⟨lt, f, fl, fc, c0, c1, c2, c3, c4, c5, c6, c7, hf⟩ := h
  have e : ∀ i, w'.cell? ⟨b, i, none⟩ = w.cell? ⟨b, i, none⟩ := fun i => hb.cell (p := ⟨b, i, none⟩) lt
  exact ⟨Nat.lt_of_lt_of_le lt hb.size, f, fl, fc, (e _).trans c0, (e _).trans c1, (e _).trans c2, (e _).trans c3, (e _).trans c4, (e _).trans c5, (e _).trans c6, (e _).trans c7, hf.below hIJ hb⟩
theorem InV.below {w w' : World} (hb : Below w.heap.size w w') : ∀ {n : Nat} {t : Option Addr} {tl tc : Nat} {V : List Tm}, InV w n t tl tc V → InV w' n t tl tc V
  | 0, _, _, _, _, h => h.elim
  | n + 1, t, tl, tc, V, h => ⟨h.1, h.2.1, fun i hi => by
      obtain ⟨b, off, e, h2⟩ := h.2.2 i hi
      exact ⟨b, off, e, InT.below (fun t tl tc V h => InV.below hb h) hb h2⟩⟩

end Go.Proofs.YtddleeenlpigfaaGreatDoor
/- WALK of first. -/
namespace Go.Proofs.YtddleeenlpigfaaGreatDoor
open Go.RowKit
theorem firstL_at : ∀ (l : List Int) (k : Nat) (h : k < l.length), (∀ j (hj : j < k), l[j] = 0) → l[k] ≠ 0 → firstL l = l[k]
  | c :: l, 0, _, _, hc => by
    have hc' : c ≠ 0 := hc
    show (if c ≠ 0 then c else firstL l) = c
    rw [if_pos hc']
  | c :: l, k + 1, h, hz, hc => by
    have h0 : c = 0 := hz 0 (by omega)
    show (if c ≠ 0 then c else firstL l) = _
    rw [if_neg (by simpa using h0)]
    exact firstL_at l k (by simpa using h) (fun j hj => hz (j + 1) (by omega)) hc
theorem firstL_end : ∀ (l : List Int), (∀ j (hj : j < l.length), l[j] = 0) → firstL l = 0
  | [], _ => rfl
  | c :: l, hz => by
    have h0 : c = 0 := hz 0 (by simp)
    show (if c ≠ 0 then c else firstL l) = 0
    rw [if_neg (by simpa using h0)]
    exact firstL_end l (fun j hj => hz (j + 1) (by simpa using hj))
theorem ret_int {a b : Int} (h : a = b) : Ending.returned (.int .i64 a) = .returned (.int .i64 b) := by rw [h]
set_option maxRecDepth 100000 in
set_option maxHeartbeats 1000000 in
theorem first_any (l : List Int) (b cap : Nat) (w : World) (hl : (l.length : Int) ≤ 140737488355328) (hc : ∀ i (h : i < l.length), w.cell? ⟨b, i, none⟩ = some (.int .i64 l[i])) :
    Calls Tryz.prog 122 #[.slice (some ⟨b, 0, none⟩) l.length cap] w fun e w' => e = .returned (.int .i64 (firstL l)) ∧ w' = w := by
  have HC := Lib.hid hc
  clear hc
  go_enter Tryz.func122, Tryz.ntmps122
  go_wp2_with fail
  go_loop [7] (fun i => ∃ k : Nat, k ≤ l.length ∧ i = .int .i64 k ∧ Hid (∀ j (h : j < l.length), j < k → l[j] = 0)) (fun i => l.length - (intOf i).toNat)
  case atStart => exact ⟨0, Nat.zero_le _, rfl, fun j h hj => absurd hj (Nat.not_lt_zero _)⟩
  case round =>
    obtain ⟨k, hk, rfl, hz⟩ := hrel
    by_cases hlt : k < l.length
    · have hcell := HC.out k hlt
      have hki : (k : Int) < (l.length : Int) := by omega
      generalize hx : l[k] = x at *
      have HX := Lib.hid hx
      clear hx
      by_cases h0 : x = 0
      · have hx0 := Lib.hid h0
        subst h0
        go_wp2_with fail
        go_round
        case rel => exact ⟨k + 1, by omega, by go_num, fun j h hj => by
          by_cases e : j = k
          · subst e; exact HX.out
          · exact hz.out j h (by omega)⟩
        case measure => simp [intOf]; omega
      · have hb : (x != 0) = true := by simpa using h0
        have HN := Lib.hid h0
        clear h0
        go_wp2_with fail
        go_ret
        exact ⟨ret_int (by rw [firstL_at l k hlt (fun j hj => hz.out j (by omega) hj) (by rw [HX.out]; exact HN.out), HX.out]), rfl⟩
    · go_wp2_with fail
      go_ret
      exact ⟨ret_int (by rw [firstL_end l (fun j hj => hz.out j hj (by omega))]), rfl⟩

end Go.Proofs.YtddleeenlpigfaaGreatDoor
/- WALK of Terms. -/
namespace Go.Proofs.YtddleeenlpigfaaGreatDoor
open Go.RowKit
theorem first7 (c0 c1 c2 c3 c4 c5 c6 : Int) (t : TypeId) (Y : World) : Calls Tryz.prog 122 #[.slice (some ⟨Y.heap.size, 0, none⟩) 7 7] (Y.alloc (.cells #[.int .i64 c0, .int .i64 c1, .int .i64 c2, .int .i64 c3, .int .i64 c4, .int .i64 c5, .int .i64 c6] t))
    fun e w' => e = .returned (.int .i64 (firstL [c0, c1, c2, c3, c4, c5, c6])) ∧ (Y.alloc (.cells #[.int .i64 c0, .int .i64 c1, .int .i64 c2, .int .i64 c3, .int .i64 c4, .int .i64 c5, .int .i64 c6] t)) = w' :=
  (first_any [c0, c1, c2, c3, c4, c5, c6] Y.heap.size 7 _ (by simp) (fun i h => by
    match i, h with
    | 0, _ => simp
    | 1, _ => simp
    | 2, _ => simp
    | 3, _ => simp
    | 4, _ => simp
    | 5, _ => simp
    | 6, _ => simp
    | n + 7, h => exact absurd h (by simp))).mono fun _ _ ⟨a, b⟩ => ⟨a, b.symm⟩
/-- Three ends, hidden. -/
def CmpPost (r : Int) (w : World) (e : Ending) (w' : World) : Prop := e = .returned (.int .i64 r) ∧ Below w.heap.size w w'
set_option maxRecDepth 100000 in
set_option maxHeartbeats 4000000 in
theorem terms_any (g : List Tm → List Tm → Int) (k lo hi : Int) (s : ByteArray) (y m o : Bool) (f : Option Addr) (fl fc : Nat) (fs : List (ByteArray × List Tm)) (k2 lo2 hi2 : Int) (s2 : ByteArray) (y2 m2 o2 : Bool) (f2 : Option Addr) (fl2 fc2 : Nat) (fs2 : List (ByteArray × List Tm)) (w : World)
    (HF : ∀ W, Below w.heap.size w W → Calls Tryz.prog 126 #[.slice f fl fc, .slice f2 fl2 fc2, .func (.func 127) #[] #[]] W (CmpPost (lexL (cmpF g) fs fs2) W)) :
    Calls Tryz.prog 88 #[tv k lo hi s y m o f fl fc, tv k2 lo2 hi2 s2 y2 m2 o2 f2 fl2 fc2] w (CmpPost (cmpT g (.mk k lo hi s y m o fs) (.mk k2 lo2 hi2 s2 y2 m2 o2 fs2)) w) := by
  have HF' := Lib.hid HF
  clear HF
  go_enter Tryz.func88, Tryz.ntmps88
  go_wp2_with fail
  obtain ⟨⟨TA, hA⟩, ⟨TB, hB⟩, hW⟩ := Tc.box2 w k lo hi s y m o f fl fc k2 lo2 hi2 s2 y2 m2 o2 f2 fl2 fc2 (Below.refl _ _)
  generalize (w.alloc (.cells #[.int .i64 k, .int .i64 lo, .int .i64 hi, .string s, .bool y, .bool m, .bool o, .slice f fl fc] 31)).alloc (.cells #[.int .i64 k2, .int .i64 lo2, .int .i64 hi2, .string s2, .bool y2, .bool m2, .bool o2, .slice f2 fl2 fc2] 31) = X at *
  refine wp_region_still_tail 41 (by kernel_rfl) (by kernel_rfl) ?_
  simp only [List.take_succ_cons, List.take_zero, List.drop_succ_cons, List.drop_zero]
  have hW := hW.drew
  replace TA : Tc X.drew _ _ _ _ _ _ _ _ _ _ _ := TA
  replace TB : Tc X.drew _ _ _ _ _ _ _ _ _ _ _ := TB
  replace hA : w.heap.size < X.drew.heap.size := hA
  replace hB : w.heap.size + 1 < X.drew.heap.size := hB
  change wpStill _ _ X.drew (fun a' => wpList _ _ _ _ a' X.drew) _ _
  generalize X.drew = Y at *
  have HW := Lib.hid hW
  clear hW
  obtain ⟨x0, x1, x2, x3, x4, x5, x6, x7⟩ := TA
  obtain ⟨y0, y1', y2', y3', y4', y5', y6', y7'⟩ := TB
  repeat (first | still_step | (refine wpStill_step (fun K hK => ?_); go_simp; (first | refine ⟨_, cmpI_any _ _ _, hK _ ?_⟩ | refine ⟨_, cmpS_any _ _ _, hK _ ?_⟩ | refine ⟨_, bit_any _ _, hK _ ?_⟩); clear hK K))
  refine wpStill_nil ?_
  change wpList _ _ _ _ _ Y
  go_wp2_with (first
    | (go_at_call 122; (with_reducible refine (first7 _ _ _ _ _ _ _ _ _).mono ?_); rintro e w1 ⟨rfl, rfl⟩)
    | (go_at_call 126; refine (HF'.out _ ?_).mono ?_; rotate_left; rintro e w2 ⟨rfl, hB2⟩; have HB2 := Lib.hid hB2; clear hB2))
  · rename_i hx
    go_ret
    exact ⟨ret_int (show firstL (plainL (.mk k lo hi s y m o fs) (.mk k2 lo2 hi2 s2 y2 m2 o2 fs2)) = two (firstL _) _ by unfold two; rw [if_pos (by simpa [plainL] using hx)]), bl_alloc HW.out⟩
  · rename_i hx
    go_ret
    exact ⟨ret_int (show lexL _ _ _ = two (firstL _) _ by unfold two; rw [if_neg (by simpa [plainL] using hx)]; rfl), bl_step (bl_alloc HW.out) HB2.out⟩
  · exact bl_alloc HW.out

end Go.Proofs.YtddleeenlpigfaaGreatDoor
/- WALK of lists, at fields. -/
namespace Go.Proofs.YtddleeenlpigfaaGreatDoor
open Go.RowKit
set_option maxRecDepth 100000 in
set_option maxHeartbeats 8000000 in
theorem listsF_any (g : List Tm → List Tm → Int) (I1 I2 : World → Option Addr → Nat → Nat → List Tm → Prop) (mono1 : ∀ {w w' : World}, Below w.heap.size w w' → ∀ t tl tc V, I1 w t tl tc V → I1 w' t tl tc V) (mono2 : ∀ {w w' : World}, Below w.heap.size w w' → ∀ t tl tc V, I2 w t tl tc V → I2 w' t tl tc V)
    (HC : ∀ W nm t tl tc V nm2 t2 tl2 tc2 V2, I1 W t tl tc V → I2 W t2 tl2 tc2 V2 → Calls Tryz.prog 127 #[.agg #[.string nm, .slice t tl tc], .agg #[.string nm2, .slice t2 tl2 tc2]] W (CmpPost (cmpF g (nm, V) (nm2, V2)) W))
    (f : Option Addr) (fl fc : Nat) (fs : List (ByteArray × List Tm)) (f2 : Option Addr) (fl2 fc2 : Nat) (fs2 : List (ByteArray × List Tm)) (w : World) (h1 : InF (I1 w) w f fl fs) (h2 : InF (I2 w) w f2 fl2 fs2) :
    Calls Tryz.prog 126 #[.slice f fl fc, .slice f2 fl2 fc2, .func (.func 127) #[] #[]] w (CmpPost (lexL (cmpF g) fs fs2) w) := by
  have HC := Lib.hid HC
  obtain ⟨l1, z1, h1⟩ := h1
  obtain ⟨l2, z2, h2⟩ := h2
  have H1 := Lib.hid h1
  have H2 := Lib.hid h2
  subst l1 l2
  clear h1 h2
  by_cases hm : fs2.length < fs.length
  · have B1 : fs2.length ≤ fs.length := by omega
    go_enter Tryz.func126, Tryz.ntmps126
    go_wp2_with fail
    go_loopw [14] (fun i wr => ∃ k : Nat, k ≤ fs2.length ∧ i = .int .i64 k ∧ Hid (∀ j (a : j < fs.length) (b : j < fs2.length), j < k → cmpF g fs[j] fs2[j] = 0) ∧ Hid (Below w.heap.size w wr)) (fun i _ => fs2.length - (intOf i).toNat)
    case atStart => exact ⟨0, Nat.zero_le _, rfl, fun j _ _ hj => absurd hj (Nat.not_lt_zero _), Below.refl _ _⟩
    case round =>
      obtain ⟨k, hk, rfl, hz, hB⟩ := hrel
      rename World => wr
      by_cases hlt : k < fs2.length
      · have hk1 : (k : Int) < (fs.length : Int) := by omega
        have hk2 : (k : Int) < (fs2.length : Int) := by omega
        have hk0 : (0 : Int) ≤ (k : Int) := by omega
        have L1 : k < fs.length := by omega
        have L2 : k < fs2.length := by omega
        obtain ⟨b1, off1, tl1, tc1, t1, rfl, lt1, c10, c11, i1⟩ := H1.out k L1
        obtain ⟨b2, off2, tl2, tc2, t2, rfl, lt2, c20, c21, i2⟩ := H2.out k L2
        have C1 := Lib.hid (And.intro lt1 (And.intro c10 c11))
        have C2 := Lib.hid (And.intro lt2 (And.intro c20 c21))
        have V1 : ∀ W, Below wr.heap.size wr W → W.cell? ⟨b1, off1 + k * 2, none⟩ = some (.string fs[k].1) ∧ W.cell? ⟨b1, off1 + k * 2 + 1, none⟩ = some (.slice t1 tl1 tc1) := fun W hW => by
          have hw := bl_step hB.out hW
          exact ⟨(hw.cell (p := ⟨b1, off1 + k * 2, none⟩) C1.out.1).trans C1.out.2.1, (hw.cell (p := ⟨b1, off1 + k * 2 + 1, none⟩) C1.out.1).trans C1.out.2.2⟩
        have V2 : ∀ W, Below wr.heap.size wr W → W.cell? ⟨b2, off2 + k * 2, none⟩ = some (.string fs2[k].1) ∧ W.cell? ⟨b2, off2 + k * 2 + 1, none⟩ = some (.slice t2 tl2 tc2) := fun W hW => by
          have hw := bl_step hB.out hW
          exact ⟨(hw.cell (p := ⟨b2, off2 + k * 2, none⟩) C2.out.1).trans C2.out.2.1, (hw.cell (p := ⟨b2, off2 + k * 2 + 1, none⟩) C2.out.1).trans C2.out.2.2⟩
        have V1 := Lib.hid V1
        have V2 := Lib.hid V2
        have KC : Hid (∀ W, Below wr.heap.size wr W → Calls Tryz.prog 127 #[.agg #[.string fs[k].1, .slice t1 tl1 tc1], .agg #[.string fs2[k].1, .slice t2 tl2 tc2]] W fun e w' => e = .returned (.int .i64 (cmpF g fs[k] fs2[k])) ∧ Below wr.heap.size wr w') := fun W hW =>
          (HC.out W _ _ _ _ _ _ _ _ _ _ (mono1 (bl_step hB.out hW) _ _ _ _ i1) (mono2 (bl_step hB.out hW) _ _ _ _ i2)).mono fun _ _ ⟨a, b⟩ => ⟨a, bl_step hW b⟩
        clear c10 c11 c20 c21 lt1 lt2 i1 i2
        generalize hn1 : fs[k].1 = nm1 at *
        generalize hn2 : fs2[k].1 = nm2 at *
        generalize hcc : cmpF g fs[k] fs2[k] = cc at *
        have HCC := Lib.hid hcc
        clear hcc hn1 hn2
        go_upto_region 4 with fail
        refine region_class (C := fun W => Below wr.heap.size wr W) (by kernel_rfl) (by kernel_rfl) ((Below.refl _ _).drew) ?_
        repeat (first | go_big_quiet_skip | (go_big_quiet_want; go_big_quiet_op; first | go_big_quiet_on | (apply Exists.intro; refine ⟨fun W hW => ?_, ?_⟩; (first | rfl | exact (KC.out W hW) | (obtain ⟨q0, q1⟩ := V1.out W hW; go_simp; first | done | rfl | exact ⟨rfl, rfl⟩) | (obtain ⟨q0, q1⟩ := V2.out W hW; go_simp; first | done | rfl | exact ⟨rfl, rfl⟩)); go_big_quiet_on)))
        refine wpQuiet_nil ?_
        intro w9 hW9
        have HB9 := Lib.hid (bl_step hB.out hW9)
        clear hW9
        clear V1 V2 KC
        by_cases h0 : cc = 0
        · have HZ : Hid (cmpF g fs[k] fs2[k] = 0) := HCC.out.trans h0
          subst h0
          go_wp2_with fail
          go_roundw
          case rel => exact ⟨k + 1, by omega, by go_num, Lib.hid (show ∀ j (a : j < fs.length) (b : j < fs2.length), j < k + 1 → cmpF g fs[j] fs2[j] = 0 from fun j a b hj => by
            by_cases e : j = k
            · subst e; exact HZ.out
            · exact hz.out j a b (Nat.lt_of_le_of_ne (Nat.le_of_lt_succ hj) e)), HB9⟩
          case measure => simp [intOf]; omega
        · have hb : (cc != 0) = true := by simpa using h0
          have HN := Lib.hid h0
          clear h0
          go_wp2_with fail
          go_ret
          exact ⟨ret_int (by rw [lexL_at (cmpF g) fs fs2 k L1 L2 (fun j a b hj => hz.out j a b hj) (by rw [HCC.out]; exact HN.out), HCC.out]), HB9.out⟩
      · go_wp2_with (go_at_call 123; (with_reducible refine (cmpI_any _ _ _).mono ?_); rintro e w1 ⟨rfl, rfl⟩)
        go_ret
        exact ⟨ret_int (lexL_end _ _ _ (fun j a b => hz.out j a b (by omega))).symm, hB.out⟩
  · have B1 : fs.length ≤ fs2.length := by omega
    go_enter Tryz.func126, Tryz.ntmps126
    go_wp2_with fail
    go_loopw [14] (fun i wr => ∃ k : Nat, k ≤ fs.length ∧ i = .int .i64 k ∧ Hid (∀ j (a : j < fs.length) (b : j < fs2.length), j < k → cmpF g fs[j] fs2[j] = 0) ∧ Hid (Below w.heap.size w wr)) (fun i _ => fs.length - (intOf i).toNat)
    case atStart => exact ⟨0, Nat.zero_le _, rfl, fun j _ _ hj => absurd hj (Nat.not_lt_zero _), Below.refl _ _⟩
    case round =>
      obtain ⟨k, hk, rfl, hz, hB⟩ := hrel
      rename World => wr
      by_cases hlt : k < fs.length
      · have hk1 : (k : Int) < (fs.length : Int) := by omega
        have hk2 : (k : Int) < (fs2.length : Int) := by omega
        have hk0 : (0 : Int) ≤ (k : Int) := by omega
        have L1 : k < fs.length := by omega
        have L2 : k < fs2.length := by omega
        obtain ⟨b1, off1, tl1, tc1, t1, rfl, lt1, c10, c11, i1⟩ := H1.out k L1
        obtain ⟨b2, off2, tl2, tc2, t2, rfl, lt2, c20, c21, i2⟩ := H2.out k L2
        have C1 := Lib.hid (And.intro lt1 (And.intro c10 c11))
        have C2 := Lib.hid (And.intro lt2 (And.intro c20 c21))
        have V1 : ∀ W, Below wr.heap.size wr W → W.cell? ⟨b1, off1 + k * 2, none⟩ = some (.string fs[k].1) ∧ W.cell? ⟨b1, off1 + k * 2 + 1, none⟩ = some (.slice t1 tl1 tc1) := fun W hW => by
          have hw := bl_step hB.out hW
          exact ⟨(hw.cell (p := ⟨b1, off1 + k * 2, none⟩) C1.out.1).trans C1.out.2.1, (hw.cell (p := ⟨b1, off1 + k * 2 + 1, none⟩) C1.out.1).trans C1.out.2.2⟩
        have V2 : ∀ W, Below wr.heap.size wr W → W.cell? ⟨b2, off2 + k * 2, none⟩ = some (.string fs2[k].1) ∧ W.cell? ⟨b2, off2 + k * 2 + 1, none⟩ = some (.slice t2 tl2 tc2) := fun W hW => by
          have hw := bl_step hB.out hW
          exact ⟨(hw.cell (p := ⟨b2, off2 + k * 2, none⟩) C2.out.1).trans C2.out.2.1, (hw.cell (p := ⟨b2, off2 + k * 2 + 1, none⟩) C2.out.1).trans C2.out.2.2⟩
        have V1 := Lib.hid V1
        have V2 := Lib.hid V2
        have KC : Hid (∀ W, Below wr.heap.size wr W → Calls Tryz.prog 127 #[.agg #[.string fs[k].1, .slice t1 tl1 tc1], .agg #[.string fs2[k].1, .slice t2 tl2 tc2]] W fun e w' => e = .returned (.int .i64 (cmpF g fs[k] fs2[k])) ∧ Below wr.heap.size wr w') := fun W hW =>
          (HC.out W _ _ _ _ _ _ _ _ _ _ (mono1 (bl_step hB.out hW) _ _ _ _ i1) (mono2 (bl_step hB.out hW) _ _ _ _ i2)).mono fun _ _ ⟨a, b⟩ => ⟨a, bl_step hW b⟩
        clear c10 c11 c20 c21 lt1 lt2 i1 i2
        generalize hn1 : fs[k].1 = nm1 at *
        generalize hn2 : fs2[k].1 = nm2 at *
        generalize hcc : cmpF g fs[k] fs2[k] = cc at *
        have HCC := Lib.hid hcc
        clear hcc hn1 hn2
        go_upto_region 4 with fail
        refine region_class (C := fun W => Below wr.heap.size wr W) (by kernel_rfl) (by kernel_rfl) ((Below.refl _ _).drew) ?_
        repeat (first | go_big_quiet_skip | (go_big_quiet_want; go_big_quiet_op; first | go_big_quiet_on | (apply Exists.intro; refine ⟨fun W hW => ?_, ?_⟩; (first | rfl | exact (KC.out W hW) | (obtain ⟨q0, q1⟩ := V1.out W hW; go_simp; first | done | rfl | exact ⟨rfl, rfl⟩) | (obtain ⟨q0, q1⟩ := V2.out W hW; go_simp; first | done | rfl | exact ⟨rfl, rfl⟩)); go_big_quiet_on)))
        refine wpQuiet_nil ?_
        intro w9 hW9
        have HB9 := Lib.hid (bl_step hB.out hW9)
        clear hW9
        clear V1 V2 KC
        by_cases h0 : cc = 0
        · have HZ : Hid (cmpF g fs[k] fs2[k] = 0) := HCC.out.trans h0
          subst h0
          go_wp2_with fail
          go_roundw
          case rel => exact ⟨k + 1, by omega, by go_num, Lib.hid (show ∀ j (a : j < fs.length) (b : j < fs2.length), j < k + 1 → cmpF g fs[j] fs2[j] = 0 from fun j a b hj => by
            by_cases e : j = k
            · subst e; exact HZ.out
            · exact hz.out j a b (Nat.lt_of_le_of_ne (Nat.le_of_lt_succ hj) e)), HB9⟩
          case measure => simp [intOf]; omega
        · have hb : (cc != 0) = true := by simpa using h0
          have HN := Lib.hid h0
          clear h0
          go_wp2_with fail
          go_ret
          exact ⟨ret_int (by rw [lexL_at (cmpF g) fs fs2 k L1 L2 (fun j a b hj => hz.out j a b hj) (by rw [HCC.out]; exact HN.out), HCC.out]), HB9.out⟩
      · go_wp2_with (go_at_call 123; (with_reducible refine (cmpI_any _ _ _).mono ?_); rintro e w1 ⟨rfl, rfl⟩)
        go_ret
        exact ⟨ret_int (lexL_end _ _ _ (fun j a b => hz.out j a b (by omega))).symm, hB.out⟩

end Go.Proofs.YtddleeenlpigfaaGreatDoor
