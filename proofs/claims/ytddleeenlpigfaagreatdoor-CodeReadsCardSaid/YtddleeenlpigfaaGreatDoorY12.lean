/- Na, Nb, Nc, Nd, Ne, Nf, Ab -/
import Derived.Below
import Derived.Lib.Strings
import Derived.Test.YtddleeenlpigfaaGreatDoorChecked
import Derived.WalkKit
import Derived.WalkSpells
import Derived.WalkLawsBesides
import Derived.Lib.Hide
import Derived.Deep.QuietTactic
import Derived.BigQuiet
import Derived.Sort.Walk0
import Derived.Test.YtddleeenlpigfaaGreatDoorY7
/- PLAIN MATHEMATICS of words and names. -/
namespace Go.Proofs.YtddleeenlpigfaaGreatDoor.Nm

def wordsL : List (List UInt8) := [[97, 110, 121], [98, 111, 111, 108], [99, 111, 109, 112, 117, 116, 101, 100], [102, 97, 108, 115, 101], [105, 110, 116], [110, 111, 110, 101], [114, 101, 115, 111, 117, 114, 99, 101], [115, 116, 114, 105, 110, 103], [116, 114, 117, 101]]
def wordAt (r : Nat) : ByteArray := ⟨(wordsL.getD r []).toArray⟩
def wordN (L : List UInt8) : Int := if (L == [97, 110, 121]) = true then 1 else if (L == [98, 111, 111, 108]) = true then 2 else if (L == [99, 111, 109, 112, 117, 116, 101, 100]) = true then 3 else if (L == [102, 97, 108, 115, 101]) = true then 4 else if (L == [105, 110, 116]) = true then 5 else if (L == [110, 111, 110, 101]) = true then 6 else if (L == [114, 101, 115, 111, 117, 114, 99, 101]) = true then 7 else if (L == [115, 116, 114, 105, 110, 103]) = true then 8 else if (L == [116, 114, 117, 101]) = true then 9 else 0
/-- What a program has from its start on: the words' table, and the library's own number. -/
structure Env (w : World) : Prop where
  words : ∀ r, r < 9 → w.cell? ⟨0, r, none⟩ = some (.string (wordAt r))
  one : 1 ≤ w.heap.size
theorem Env.below {w w' : World} (h : Env w) (hb : RowKit.Below w.heap.size w w') : Env w' := by
  obtain ⟨h1, h3⟩ := h
  refine ⟨fun r hr => ?_, Nat.le_trans h3 hb.size⟩
  rw [hb.cell (p := ⟨0, r, none⟩) (by simp; omega)]; exact h1 r hr
def letC (c : UInt8) : Bool := decide (97 ≤ c.toNat) && decide (c.toNat ≤ 122)
def innC (c : UInt8) : Bool := letC c || (decide (48 ≤ c.toNat) && decide (c.toNat ≤ 57)) || decide (c.toNat = 95)
/-- Is it a name? -/
def rightL (L : List UInt8) : Bool := decide (1 ≤ L.length) && decide (L.length ≤ 16) && (L.head?.map letC).getD false && L.all innC && decide (wordN L = 0)

theorem size_list (s : ByteArray) : s.size = s.toList.length := by rw [Lib.toList_data]; simp
theorem get_list (s : ByteArray) (k : Nat) (h : k < s.size) : s[k] = s.toList[k]'(by rw [← size_list]; exact h) := by
  have : ∀ (L : List UInt8) (e : L = s.data.toList) (hk : k < L.length), L[k] = s.data.toList[k]'(by simpa using h) := fun L e hk => by subst e; rfl
  rw [this _ (Lib.toList_data s) _]; rfl
theorem list_ne (s : ByteArray) (h : 0 < s.size) : ¬ s.toList = [] := by
  intro q; rw [size_list, q] at h; simp at h
theorem list_isE (s : ByteArray) (h : 0 < s.size) : s.toList.isEmpty = false := by
  have := list_ne s h
  cases e : s.toList <;> simp_all
theorem list_nil (s : ByteArray) (h : ¬ 0 < s.size) : s.toList = [] := by
  rw [size_list] at h; exact List.eq_nil_of_length_eq_zero (by omega)
theorem head_list (s : ByteArray) (h : 0 < s.size) : s.toList.head? = some s[0] := by
  rw [get_list, List.head?_eq_getElem?, List.getElem?_eq_getElem]
def letB (r : Int) : Bool := decide (97 ≤ r ∧ r ≤ 122)
def innB (r : Int) : Bool := decide ((48 ≤ r ∧ r ≤ 57) ∨ r = 95)
theorem letC_B (c : UInt8) : letC c = letB (c.toNat : Int) := by
  unfold letC letB
  rw [Bool.eq_iff_iff]; simp; omega
theorem innC_B (c : UInt8) : innC c = (letB (c.toNat : Int) || innB (c.toNat : Int)) := by
  unfold innC innB
  rw [letC_B, Bool.or_assoc]; congr 1; rw [Bool.eq_iff_iff]; simp only [Bool.or_eq_true, Bool.and_eq_true, decide_eq_true_eq]; omega
/-- The bytes ahead of k are as a name's. -/
def Good (s : ByteArray) (k : Nat) : Prop := ∀ j (h : j < s.size), j < k → (j = 0 → letC s[j] = true) ∧ innC s[j] = true
theorem Good.first (s : ByteArray) : Good s 0 := fun _ _ h => absurd h (by omega)
theorem Good.succ {s : ByteArray} {k : Nat} (h : Good s k) (hk : k < s.size) (h1 : letB (s[k].toNat : Int) = true ∨ (k ≠ 0 ∧ innB (s[k].toNat : Int) = true)) : Good s (k + 1) := fun j hj hjk => by
  by_cases e : j = k
  · subst e
    rw [innC_B, letC_B]
    rcases h1 with h1 | ⟨h0, h1⟩
    · simp [h1]
    · simp [h0, h1]
  · exact h j hj (by omega)
theorem right_empty {L : List UInt8} (h : L.length < 1 ∨ 16 < L.length) : rightL L = false := by
  unfold rightL
  rcases h with h | h
  · rw [show decide (1 ≤ L.length) = false from decide_eq_false (by omega)]; rfl
  · rw [show decide (L.length ≤ 16) = false from decide_eq_false (by omega)]; simp
theorem right_bad {s : ByteArray} {k : Nat} (hk : k < s.size) (h1 : letB (s[k].toNat : Int) = false) (h2 : k = 0 ∨ innB (s[k].toNat : Int) = false) : rightL s.toList = false := by
  rcases h2 with rfl | h2
  · unfold rightL; rw [head_list s hk]
    simp only [Option.map_some, Option.getD_some, letC_B, h1]; simp
  · have a : s.toList.all innC = false := by
      rw [List.all_eq_false]
      exact ⟨s[k], by rw [get_list]; exact List.getElem_mem _, by rw [innC_B, h1, h2]; decide⟩
    unfold rightL; rw [a]; simp
theorem right_end {s : ByteArray} (h0 : 0 < s.size) (h1 : s.size ≤ 16) (hg : Good s s.size) : rightL s.toList = (wordN s.toList == 0) := by
  have a : s.toList.all innC = true := by
    rw [List.all_eq_true]
    intro c hc
    obtain ⟨k, hk, rfl⟩ := List.getElem_of_mem hc
    have hk' : k < s.size := by rw [size_list]; exact hk
    rw [← get_list s k hk']
    exact (hg k hk' hk').2
  have b := (hg 0 h0 h0).1 rfl
  unfold rightL
  rw [a, head_list s h0, Option.map_some, Option.getD_some, b, ← size_list, show decide (1 ≤ s.size) = true from decide_eq_true (by omega), show decide (s.size ≤ 16) = true from decide_eq_true h1]
  rw [Bool.eq_iff_iff]; simp
theorem wordN_nonneg (L : List UInt8) : 0 ≤ wordN L := by
  unfold wordN; repeat' split
  all_goals decide
theorem right_word {L : List UInt8} (h : 0 < wordN L) : rightL L = false := by
  unfold rightL; rw [show decide (wordN L = 0) = false from decide_eq_false (by omega)]; simp
end Go.Proofs.YtddleeenlpigfaaGreatDoor.Nm
/- WALKS of name.Word and of the reference's Word. -/
namespace Go.Proofs.YtddleeenlpigfaaGreatDoor.Nm
open Go.RowKit

theorem ret_bool {a b : Bool} (h : a = b) : Ending.returned (.bool a) = .returned (.bool b) := by rw [h]
theorem ret_str {a b : ByteArray} (h : a = b) : Ending.returned (.string a) = .returned (.string b) := by rw [h]
theorem ret_int {k : IntKind} {a b : Int} (h : a = b) : Ending.returned (.int k a) = .returned (.int k b) := by rw [h]

set_option maxHeartbeats 1000000 in
theorem rword_any (s : ByteArray) (w : World) : Calls Tryz.prog 146 #[.string s] w fun e w' => e = .returned (.int .i64 (wordN s.toList)) ∧ w = w' := by
  go_enter Tryz.func146, Tryz.ntmps146
  go_wp2
  all_goals
    go_ret
    exact ⟨ret_int (by simp only [wordN, *]; rfl), rfl⟩

/-- None of the first k words. -/
def NotYet (L : List UInt8) (k : Nat) : Prop := ∀ j, j < k → (L == wordsL.getD j []) = false
theorem NotYet.first (L : List UInt8) : NotYet L 0 := fun _ h => absurd h (by omega)
theorem NotYet.succ {L : List UInt8} {k : Nat} (h : NotYet L k) (hk : (L == wordsL.getD k []) = false) : NotYet L (k + 1) := fun j hj => by
  by_cases e : j = k
  · subst e; exact hk
  · exact h j (by omega)
theorem NotYet.word {L : List UInt8} {k : Nat} (h : NotYet L k) (hk : k < 9) (he : (L == wordsL.getD k []) = true) : (k : Int) + 1 = wordN L := by
  match k, hk with
  | 0, _ =>
    have e : (L == [97, 110, 121]) = true := he
    simp only [wordN, e]; rfl
  | 1, _ =>
    have f0 : (L == [97, 110, 121]) = false := h 0 (by decide)
    have e : (L == [98, 111, 111, 108]) = true := he
    simp only [wordN, e, f0]; rfl
  | 2, _ =>
    have f0 : (L == [97, 110, 121]) = false := h 0 (by decide)
    have f1 : (L == [98, 111, 111, 108]) = false := h 1 (by decide)
    have e : (L == [99, 111, 109, 112, 117, 116, 101, 100]) = true := he
    simp only [wordN, e, f0, f1]; rfl
  | 3, _ =>
    have f0 : (L == [97, 110, 121]) = false := h 0 (by decide)
    have f1 : (L == [98, 111, 111, 108]) = false := h 1 (by decide)
    have f2 : (L == [99, 111, 109, 112, 117, 116, 101, 100]) = false := h 2 (by decide)
    have e : (L == [102, 97, 108, 115, 101]) = true := he
    simp only [wordN, e, f0, f1, f2]; rfl
  | 4, _ =>
    have f0 : (L == [97, 110, 121]) = false := h 0 (by decide)
    have f1 : (L == [98, 111, 111, 108]) = false := h 1 (by decide)
    have f2 : (L == [99, 111, 109, 112, 117, 116, 101, 100]) = false := h 2 (by decide)
    have f3 : (L == [102, 97, 108, 115, 101]) = false := h 3 (by decide)
    have e : (L == [105, 110, 116]) = true := he
    simp only [wordN, e, f0, f1, f2, f3]; rfl
  | 5, _ =>
    have f0 : (L == [97, 110, 121]) = false := h 0 (by decide)
    have f1 : (L == [98, 111, 111, 108]) = false := h 1 (by decide)
    have f2 : (L == [99, 111, 109, 112, 117, 116, 101, 100]) = false := h 2 (by decide)
    have f3 : (L == [102, 97, 108, 115, 101]) = false := h 3 (by decide)
    have f4 : (L == [105, 110, 116]) = false := h 4 (by decide)
    have e : (L == [110, 111, 110, 101]) = true := he
    simp only [wordN, e, f0, f1, f2, f3, f4]; rfl
  | 6, _ =>
    have f0 : (L == [97, 110, 121]) = false := h 0 (by decide)
    have f1 : (L == [98, 111, 111, 108]) = false := h 1 (by decide)
    have f2 : (L == [99, 111, 109, 112, 117, 116, 101, 100]) = false := h 2 (by decide)
    have f3 : (L == [102, 97, 108, 115, 101]) = false := h 3 (by decide)
    have f4 : (L == [105, 110, 116]) = false := h 4 (by decide)
    have f5 : (L == [110, 111, 110, 101]) = false := h 5 (by decide)
    have e : (L == [114, 101, 115, 111, 117, 114, 99, 101]) = true := he
    simp only [wordN, e, f0, f1, f2, f3, f4, f5]; rfl
  | 7, _ =>
    have f0 : (L == [97, 110, 121]) = false := h 0 (by decide)
    have f1 : (L == [98, 111, 111, 108]) = false := h 1 (by decide)
    have f2 : (L == [99, 111, 109, 112, 117, 116, 101, 100]) = false := h 2 (by decide)
    have f3 : (L == [102, 97, 108, 115, 101]) = false := h 3 (by decide)
    have f4 : (L == [105, 110, 116]) = false := h 4 (by decide)
    have f5 : (L == [110, 111, 110, 101]) = false := h 5 (by decide)
    have f6 : (L == [114, 101, 115, 111, 117, 114, 99, 101]) = false := h 6 (by decide)
    have e : (L == [115, 116, 114, 105, 110, 103]) = true := he
    simp only [wordN, e, f0, f1, f2, f3, f4, f5, f6]; rfl
  | 8, _ =>
    have f0 : (L == [97, 110, 121]) = false := h 0 (by decide)
    have f1 : (L == [98, 111, 111, 108]) = false := h 1 (by decide)
    have f2 : (L == [99, 111, 109, 112, 117, 116, 101, 100]) = false := h 2 (by decide)
    have f3 : (L == [102, 97, 108, 115, 101]) = false := h 3 (by decide)
    have f4 : (L == [105, 110, 116]) = false := h 4 (by decide)
    have f5 : (L == [110, 111, 110, 101]) = false := h 5 (by decide)
    have f6 : (L == [114, 101, 115, 111, 117, 114, 99, 101]) = false := h 6 (by decide)
    have f7 : (L == [115, 116, 114, 105, 110, 103]) = false := h 7 (by decide)
    have e : (L == [116, 114, 117, 101]) = true := he
    simp only [wordN, e, f0, f1, f2, f3, f4, f5, f6, f7]; rfl
theorem NotYet.none {L : List UInt8} (h : NotYet L 9) : 0 = wordN L := by
  have f0 : (L == [97, 110, 121]) = false := h 0 (by decide)
  have f1 : (L == [98, 111, 111, 108]) = false := h 1 (by decide)
  have f2 : (L == [99, 111, 109, 112, 117, 116, 101, 100]) = false := h 2 (by decide)
  have f3 : (L == [102, 97, 108, 115, 101]) = false := h 3 (by decide)
  have f4 : (L == [105, 110, 116]) = false := h 4 (by decide)
  have f5 : (L == [110, 111, 110, 101]) = false := h 5 (by decide)
  have f6 : (L == [114, 101, 115, 111, 117, 114, 99, 101]) = false := h 6 (by decide)
  have f7 : (L == [115, 116, 114, 105, 110, 103]) = false := h 7 (by decide)
  have f8 : (L == [116, 114, 117, 101]) = false := h 8 (by decide)
  simp only [wordN, f0, f1, f2, f3, f4, f5, f6, f7, f8]; rfl

theorem index_0 (w : World) : (Instr.index 176 (.agg #[.string { data := #[97, 110, 121] }, .string { data := #[98, 111, 111, 108] }, .string { data := #[99, 111, 109, 112, 117, 116, 101, 100] }, .string { data := #[102, 97, 108, 115, 101] }, .string { data := #[105, 110, 116] }, .string { data := #[110, 111, 110, 101] }, .string { data := #[114, 101, 115, 111, 117, 114, 99, 101] }, .string { data := #[115, 116, 114, 105, 110, 103] }, .string { data := #[116, 114, 117, 101] }]) (.int .i64 0)).run Tryz.prog w = .ok (.string { data := #[97, 110, 121] }) w := by kernel_rfl
theorem index_1 (w : World) : (Instr.index 176 (.agg #[.string { data := #[97, 110, 121] }, .string { data := #[98, 111, 111, 108] }, .string { data := #[99, 111, 109, 112, 117, 116, 101, 100] }, .string { data := #[102, 97, 108, 115, 101] }, .string { data := #[105, 110, 116] }, .string { data := #[110, 111, 110, 101] }, .string { data := #[114, 101, 115, 111, 117, 114, 99, 101] }, .string { data := #[115, 116, 114, 105, 110, 103] }, .string { data := #[116, 114, 117, 101] }]) (.int .i64 1)).run Tryz.prog w = .ok (.string { data := #[98, 111, 111, 108] }) w := by kernel_rfl
theorem index_2 (w : World) : (Instr.index 176 (.agg #[.string { data := #[97, 110, 121] }, .string { data := #[98, 111, 111, 108] }, .string { data := #[99, 111, 109, 112, 117, 116, 101, 100] }, .string { data := #[102, 97, 108, 115, 101] }, .string { data := #[105, 110, 116] }, .string { data := #[110, 111, 110, 101] }, .string { data := #[114, 101, 115, 111, 117, 114, 99, 101] }, .string { data := #[115, 116, 114, 105, 110, 103] }, .string { data := #[116, 114, 117, 101] }]) (.int .i64 2)).run Tryz.prog w = .ok (.string { data := #[99, 111, 109, 112, 117, 116, 101, 100] }) w := by kernel_rfl
theorem index_3 (w : World) : (Instr.index 176 (.agg #[.string { data := #[97, 110, 121] }, .string { data := #[98, 111, 111, 108] }, .string { data := #[99, 111, 109, 112, 117, 116, 101, 100] }, .string { data := #[102, 97, 108, 115, 101] }, .string { data := #[105, 110, 116] }, .string { data := #[110, 111, 110, 101] }, .string { data := #[114, 101, 115, 111, 117, 114, 99, 101] }, .string { data := #[115, 116, 114, 105, 110, 103] }, .string { data := #[116, 114, 117, 101] }]) (.int .i64 3)).run Tryz.prog w = .ok (.string { data := #[102, 97, 108, 115, 101] }) w := by kernel_rfl
theorem index_4 (w : World) : (Instr.index 176 (.agg #[.string { data := #[97, 110, 121] }, .string { data := #[98, 111, 111, 108] }, .string { data := #[99, 111, 109, 112, 117, 116, 101, 100] }, .string { data := #[102, 97, 108, 115, 101] }, .string { data := #[105, 110, 116] }, .string { data := #[110, 111, 110, 101] }, .string { data := #[114, 101, 115, 111, 117, 114, 99, 101] }, .string { data := #[115, 116, 114, 105, 110, 103] }, .string { data := #[116, 114, 117, 101] }]) (.int .i64 4)).run Tryz.prog w = .ok (.string { data := #[105, 110, 116] }) w := by kernel_rfl
theorem index_5 (w : World) : (Instr.index 176 (.agg #[.string { data := #[97, 110, 121] }, .string { data := #[98, 111, 111, 108] }, .string { data := #[99, 111, 109, 112, 117, 116, 101, 100] }, .string { data := #[102, 97, 108, 115, 101] }, .string { data := #[105, 110, 116] }, .string { data := #[110, 111, 110, 101] }, .string { data := #[114, 101, 115, 111, 117, 114, 99, 101] }, .string { data := #[115, 116, 114, 105, 110, 103] }, .string { data := #[116, 114, 117, 101] }]) (.int .i64 5)).run Tryz.prog w = .ok (.string { data := #[110, 111, 110, 101] }) w := by kernel_rfl
theorem index_6 (w : World) : (Instr.index 176 (.agg #[.string { data := #[97, 110, 121] }, .string { data := #[98, 111, 111, 108] }, .string { data := #[99, 111, 109, 112, 117, 116, 101, 100] }, .string { data := #[102, 97, 108, 115, 101] }, .string { data := #[105, 110, 116] }, .string { data := #[110, 111, 110, 101] }, .string { data := #[114, 101, 115, 111, 117, 114, 99, 101] }, .string { data := #[115, 116, 114, 105, 110, 103] }, .string { data := #[116, 114, 117, 101] }]) (.int .i64 6)).run Tryz.prog w = .ok (.string { data := #[114, 101, 115, 111, 117, 114, 99, 101] }) w := by kernel_rfl
theorem index_7 (w : World) : (Instr.index 176 (.agg #[.string { data := #[97, 110, 121] }, .string { data := #[98, 111, 111, 108] }, .string { data := #[99, 111, 109, 112, 117, 116, 101, 100] }, .string { data := #[102, 97, 108, 115, 101] }, .string { data := #[105, 110, 116] }, .string { data := #[110, 111, 110, 101] }, .string { data := #[114, 101, 115, 111, 117, 114, 99, 101] }, .string { data := #[115, 116, 114, 105, 110, 103] }, .string { data := #[116, 114, 117, 101] }]) (.int .i64 7)).run Tryz.prog w = .ok (.string { data := #[115, 116, 114, 105, 110, 103] }) w := by kernel_rfl
theorem index_8 (w : World) : (Instr.index 176 (.agg #[.string { data := #[97, 110, 121] }, .string { data := #[98, 111, 111, 108] }, .string { data := #[99, 111, 109, 112, 117, 116, 101, 100] }, .string { data := #[102, 97, 108, 115, 101] }, .string { data := #[105, 110, 116] }, .string { data := #[110, 111, 110, 101] }, .string { data := #[114, 101, 115, 111, 117, 114, 99, 101] }, .string { data := #[115, 116, 114, 105, 110, 103] }, .string { data := #[116, 114, 117, 101] }]) (.int .i64 8)).run Tryz.prog w = .ok (.string { data := #[116, 114, 117, 101] }) w := by kernel_rfl

set_option maxHeartbeats 2000000 in
theorem word_any (s : ByteArray) (w : World) (hE : Env w) : Calls Tryz.prog 145 #[.string s] w fun e w' => e = .returned (.int .i64 (wordN s.toList)) ∧ w = w' := by
  have c0 : w.cell? ⟨0, 0, none⟩ = some (.string { data := #[97, 110, 121] }) := hE.words 0 (by decide)
  have c1 : w.cell? ⟨0, 1, none⟩ = some (.string { data := #[98, 111, 111, 108] }) := hE.words 1 (by decide)
  have c2 : w.cell? ⟨0, 2, none⟩ = some (.string { data := #[99, 111, 109, 112, 117, 116, 101, 100] }) := hE.words 2 (by decide)
  have c3 : w.cell? ⟨0, 3, none⟩ = some (.string { data := #[102, 97, 108, 115, 101] }) := hE.words 3 (by decide)
  have c4 : w.cell? ⟨0, 4, none⟩ = some (.string { data := #[105, 110, 116] }) := hE.words 4 (by decide)
  have c5 : w.cell? ⟨0, 5, none⟩ = some (.string { data := #[110, 111, 110, 101] }) := hE.words 5 (by decide)
  have c6 : w.cell? ⟨0, 6, none⟩ = some (.string { data := #[114, 101, 115, 111, 117, 114, 99, 101] }) := hE.words 6 (by decide)
  have c7 : w.cell? ⟨0, 7, none⟩ = some (.string { data := #[115, 116, 114, 105, 110, 103] }) := hE.words 7 (by decide)
  have c8 : w.cell? ⟨0, 8, none⟩ = some (.string { data := #[116, 114, 117, 101] }) := hE.words 8 (by decide)
  clear hE
  go_enter Tryz.func145, Tryz.ntmps145
  go_wp2
  clear c0 c1 c2 c3 c4 c5 c6 c7 c8
  go_loop [6] (fun i => ∃ k : Nat, k ≤ 9 ∧ i = .int .i64 k ∧ NotYet s.toList k) (fun i => 9 - (intOf i).toNat)
  case atStart => exact ⟨0, by omega, rfl, NotYet.first _⟩
  case round =>
    obtain ⟨k, hk, rfl, hN⟩ := hrel
    have H := Lib.hid hN
    clear hN
    have x0 := fun w => index_0 w
    have x1 := fun w => index_1 w
    have x2 := fun w => index_2 w
    have x3 := fun w => index_3 w
    have x4 := fun w => index_4 w
    have x5 := fun w => index_5 w
    have x6 := fun w => index_6 w
    have x7 := fun w => index_7 w
    have x8 := fun w => index_8 w
    obtain rfl | rfl | rfl | rfl | rfl | rfl | rfl | rfl | rfl | rfl : k = 0 ∨ k = 1 ∨ k = 2 ∨ k = 3 ∨ k = 4 ∨ k = 5 ∨ k = 6 ∨ k = 7 ∨ k = 8 ∨ k = 9 := by omega
    all_goals
      go_wp2
      all_goals first
        | (go_round
           case rel => exact ⟨_, by decide, by rfl, H.out.succ ‹_›⟩
           case measure => simp [intOf])
        | (go_ret
           exact ⟨ret_int (H.out.word (by decide) ‹_›), rfl⟩)
        | (go_ret
           exact ⟨ret_int H.out.none, rfl⟩)
end Go.Proofs.YtddleeenlpigfaaGreatDoor.Nm
/- WALKS of name.letter, inner, Right and of the reference's Right. -/
namespace Go.Proofs.YtddleeenlpigfaaGreatDoor.Nm
open Go.RowKit

set_option maxHeartbeats 400000 in
theorem letter_any (r : Int) (w : World) : Calls Tryz.prog 143 #[.int .i32 r] w fun e w' => e = .returned (.bool (letB r)) ∧ w = w' := by
  by_cases h1 : 97 ≤ r <;> by_cases h2 : r ≤ 122
  all_goals
    go_enter Tryz.func143, Tryz.ntmps143
    go_wp2
    go_ret
    exact ⟨ret_bool (by simp [letB]; omega), rfl⟩
set_option maxHeartbeats 400000 in
theorem inner_any (r : Int) (w : World) : Calls Tryz.prog 144 #[.int .i32 r] w fun e w' => e = .returned (.bool (innB r)) ∧ w = w' := by
  by_cases h1 : 48 ≤ r <;> by_cases h2 : r ≤ 57 <;> cases h3 : (r == 95)
  all_goals
    have h4 := Lib.hid h3
    go_enter Tryz.func144, Tryz.ntmps144
    go_wp2
    go_ret
    refine ⟨ret_bool ?_, rfl⟩
    have h5 := h4.out
    simp at h5
    unfold innB
    first
      | exact (decide_eq_true (by omega)).symm
      | exact (decide_eq_false (by omega)).symm

theorem letter_as (r : Int) (b : Bool) (w : World) (h : Hid (letB r = b)) : Calls Tryz.prog 143 #[.int .i32 r] w fun e w' => e = .returned (.bool b) ∧ w = w' := by
  rw [← h.out]; exact letter_any r w
theorem inner_as (r : Int) (b : Bool) (w : World) (h : Hid (innB r = b)) : Calls Tryz.prog 144 #[.int .i32 r] w fun e w' => e = .returned (.bool b) ∧ w = w' := by
  rw [← h.out]; exact inner_any r w
theorem word_in (s : ByteArray) (pos : Nat) (w : World) (hE : Hid (Env w)) (t : ByteArray) : Calls Tryz.prog 145 #[.string t] (w.iter s pos) fun e w' => e = .returned (.int .i64 (wordN t.toList)) ∧ w.iter s pos = w' :=
  word_any t _ (hE.out.below ((Below.refl _ _).alloc (Nat.le_refl _) _))
/-- What the range hands over at a byte, and whether it may stand there. -/
theorem rune_at (s : ByteArray) (pos : Nat) (hp : pos < s.size) : ∃ (r : Int) (d : Nat), (Utf8.decode s pos).1 = r ∧ (Utf8.decode s pos).2 = d ∧ 0 ≤ r ∧ r ≤ 2147483647 ∧ 1 ≤ d ∧
    ((letB r = false ∧ innB r = false ∧ letB (s[pos].toNat : Int) = false ∧ innB (s[pos].toNat : Int) = false) ∨
     (letB r = false ∧ innB r = true ∧ d = 1 ∧ letB (s[pos].toNat : Int) = false ∧ innB (s[pos].toNat : Int) = true) ∨
     (letB r = true ∧ d = 1 ∧ letB (s[pos].toNat : Int) = true)) := by
  by_cases ha : s[pos].toNat < 128
  · rw [decode_ascii s pos hp ha]
    refine ⟨(s[pos].toNat : Int), 1, rfl, rfl, by omega, by omega, by omega, ?_⟩
    cases e1 : letB (s[pos].toNat : Int)
    · cases e2 : innB (s[pos].toNat : Int)
      · exact .inl ⟨rfl, rfl, rfl, rfl⟩
      · exact .inr (.inl ⟨rfl, rfl, rfl, rfl, rfl⟩)
    · exact .inr (.inr ⟨rfl, rfl, rfl⟩)
  · have hh := decode_high s pos hp (by omega)
    have n1 : ∀ r : Int, 128 ≤ r → letB r = false ∧ innB r = false := fun r hr => ⟨decide_eq_false (by omega), decide_eq_false (by omega)⟩
    refine ⟨_, _, rfl, rfl, by omega, by have := decode_le s pos; omega, hh.2, .inl ⟨(n1 _ (by omega)).1, (n1 _ (by omega)).2, (n1 _ (by omega)).1, (n1 _ (by omega)).2⟩⟩

set_option maxHeartbeats 1000000 in
theorem right_any (s : ByteArray) (w : World) (hE : Env w) (hs : s.size ≤ maxLen) : Calls Tryz.prog 115 #[.string s] w fun e w' => e = .returned (.bool (rightL s.toList)) ∧ Below w.heap.size w w' := by
  have HE := Lib.hid hE
  clear hE
  unfold maxLen at hs
  by_cases h0 : 0 < s.size
  · have hn := list_ne s h0
    have hi := list_isE s h0
    by_cases h16 : 16 < s.size
    · go_enter Tryz.func115, Tryz.ntmps115
      go_wp2
      go_ret
      exact ⟨ret_bool (right_empty (.inr (by rw [← size_list]; exact h16))).symm, Below.refl _ _⟩
    · go_enter Tryz.func115, Tryz.ntmps115
      go_wp2
      go_loopw [] (fun wr => ∃ pos : Nat, pos ≤ s.size ∧ wr = w.iter s pos ∧ Good s pos) (fun wr => s.size - wr.iterPos w.heap.size)
      case atStart => exact ⟨0, by omega, rfl, Good.first s⟩
      case round =>
        obtain ⟨pos, hle, rfl, hG⟩ := hrel
        have G := Lib.hid hG
        clear hG
        by_cases hp : pos < s.size
        · obtain ⟨r, d, er, ed, r0, r1, d1, hc⟩ := rune_at s pos hp
          have hnx : ∀ ty, (Instr.next (.pointer (some ⟨w.heap.size, 0, none⟩)) true ty).run Tryz.prog (w.iter s pos) = .ok (.tuple #[.bool true, .int .i64 pos, .int .i32 r]) (w.iter s (pos + d)) := fun ty => by
            rw [run_next_any w s pos ty hp, ← er, ← ed]
          clear er ed
          rcases hc with ⟨l1, l2, l3, l4⟩ | ⟨l1, l2, rfl, l3, l4⟩ | ⟨l1, rfl, l3⟩
          · have L1 := Lib.hid l1
            have L2 := Lib.hid l2
            have HB := Lib.hid (right_bad hp l3 (.inr l4))
            clear l1 l2 l3 l4
            go_wp2_with (first
              | (go_at_call 143; refine (letter_as _ _ _ L1).mono ?_; rintro e w' ⟨rfl, rfl⟩)
              | (go_at_call 144; refine (inner_as _ _ _ L2).mono ?_; rintro e w' ⟨rfl, rfl⟩))
            all_goals
              go_ret
              exact ⟨ret_bool HB.out.symm, (Below.refl _ _).alloc (Nat.le_refl _) _⟩
          · have L1 := Lib.hid l1
            have L2 := Lib.hid l2
            have L3 := Lib.hid l3
            have L4 := Lib.hid l4
            clear l1 l2 l3 l4
            go_wp2_with (first
              | (go_at_call 143; refine (letter_as _ _ _ L1).mono ?_; rintro e w' ⟨rfl, rfl⟩)
              | (go_at_call 144; refine (inner_as _ _ _ L2).mono ?_; rintro e w' ⟨rfl, rfl⟩))
            all_goals first
              | (go_roundw
                 case rel => exact ⟨pos + 1, by omega, rfl, G.out.succ hp (.inr ⟨‹¬ pos = 0›, L4.out⟩)⟩
                 case measure => simp; omega)
              | (go_ret
                 exact ⟨ret_bool (right_bad hp L3.out (.inl ‹pos = 0›)).symm, (Below.refl _ _).alloc (Nat.le_refl _) _⟩)
          · have L1 := Lib.hid l1
            have L2 := Lib.hid (rfl : innB r = innB r)
            have HG := Lib.hid (G.out.succ hp (.inl l3))
            clear l1 l3
            go_wp2_with (first
              | (go_at_call 143; refine (letter_as _ _ _ L1).mono ?_; rintro e w' ⟨rfl, rfl⟩)
              | (go_at_call 144; refine (inner_as _ _ _ L2).mono ?_; rintro e w' ⟨rfl, rfl⟩))
            go_roundw
            case rel => exact ⟨pos + 1, by omega, rfl, HG.out⟩
            case measure => simp; omega
        · have hnx : ∀ ty, (Instr.next (.pointer (some ⟨w.heap.size, 0, none⟩)) true ty).run Tryz.prog (w.iter s pos) = _ := fun ty => run_next_end w s pos ty hp
          obtain rfl : pos = s.size := by omega
          have HR := Lib.hid (right_end h0 (by omega) G.out)
          go_wp2_with (go_at_call 145; refine (word_in _ _ _ HE _).mono ?_; rintro e w' ⟨rfl, rfl⟩)
          go_ret
          exact ⟨ret_bool HR.out.symm, (Below.refl _ _).alloc (Nat.le_refl _) _⟩
  · have hn := list_nil s h0
    go_enter Tryz.func115, Tryz.ntmps115
    go_wp2
    go_ret
    exact ⟨ret_bool (right_empty (.inl (by rw [← size_list]; omega))).symm, Below.refl _ _⟩
end Go.Proofs.YtddleeenlpigfaaGreatDoor.Nm
/- WALKS of the reference's Right, of name.Path, the reference's Path, and few. -/
namespace Go.Proofs.YtddleeenlpigfaaGreatDoor.Nm
open Go.RowKit

theorem letB_mk {r : Int} (h : 97 ≤ r ∧ r ≤ 122) : letB r = true := decide_eq_true h
theorem innB_mk {r : Int} (h : (48 ≤ r ∧ r ≤ 57) ∨ r = 95) : innB r = true := decide_eq_true h
theorem letB_mkno {r : Int} (h : ¬ (97 ≤ r ∧ r ≤ 122)) : letB r = false := decide_eq_false h
theorem innB_mkno {r : Int} (h : ¬ ((48 ≤ r ∧ r ≤ 57) ∨ r = 95)) : innB r = false := decide_eq_false h
theorem rword_as (s : ByteArray) (v : Int) (w : World) (h : Hid (wordN s.toList = v)) : Calls Tryz.prog 146 #[.string s] w fun e w' => e = .returned (.int .i64 v) ∧ w = w' := by
  rw [← h.out]; exact rword_any s w
theorem right_first {s : ByteArray} (h0 : 0 < s.size) (h1 : (s[0].toNat : Int) < 97 ∨ 122 < (s[0].toNat : Int)) : rightL s.toList = false :=
  right_bad h0 (letB_mkno (by omega)) (.inl rfl)
theorem right_all {s : ByteArray} (h0 : 0 < s.size) (h1 : s.size ≤ 16) (hg : Good s s.size) (hw : wordN s.toList = 0) : true = rightL s.toList := by
  rw [right_end h0 h1 hg, hw]; rfl

theorem byte_cases (c : Int) : ((97 ≤ c ∧ c ≤ 122) ∧ (c != 95) = true) ∨ ((48 ≤ c ∧ c ≤ 57) ∧ (c != 95) = true) ∨ ((57 < c ∧ c < 97) ∧ (c != 95) = false) ∨ ((c < 48 ∨ (57 < c ∧ c < 97) ∨ 122 < c) ∧ (c != 95) = true) := by
  by_cases h : c = 95
  · subst h; right; right; left; decide
  · have e : (c != 95) = true := by simpa using h
    rw [e]; simp; omega
set_option maxHeartbeats 2000000 in
theorem rright_any (s : ByteArray) (w : World) (hs : s.size ≤ maxLen) : Calls Tryz.prog 116 #[.string s] w fun e w' => e = .returned (.bool (rightL s.toList)) ∧ w = w' := by
  unfold maxLen at hs
  by_cases h0 : 0 < s.size
  · by_cases h16 : 16 < s.size
    · go_enter Tryz.func116, Tryz.ntmps116
      go_wp2
      go_ret
      exact ⟨ret_bool (right_empty (.inr (by rw [← size_list]; exact h16))).symm, rfl⟩
    · obtain ⟨v, hv⟩ : ∃ v, wordN s.toList = v := ⟨_, rfl⟩
      have hv0 := wordN_nonneg s.toList
      rw [hv] at hv0
      have HV := Lib.hid hv
      clear hv
      by_cases hp : 0 < v
      · go_enter Tryz.func116, Tryz.ntmps116
        go_wp2_with (go_at_call 146; refine (rword_as _ _ _ HV).mono ?_; rintro e w' ⟨rfl, rfl⟩)
        go_ret
        exact ⟨ret_bool (right_word (by rw [HV.out]; exact hp)).symm, rfl⟩
      · have HW := Lib.hid (show wordN s.toList = 0 by rw [HV.out]; omega)
        by_cases hf : 97 ≤ (s[0].toNat : Int) ∧ (s[0].toNat : Int) ≤ 122
        · have G1 : Good s 1 := (Good.first s).succ h0 (.inl (letB_mk hf))
          have HG1 := Lib.hid G1
          obtain ⟨f1, f2⟩ := hf
          clear G1
          go_enter Tryz.func116, Tryz.ntmps116
          go_wp2_with (go_at_call 146; refine (rword_as _ _ _ HV).mono ?_; rintro e w' ⟨rfl, rfl⟩)
          go_loop [3] (fun i => ∃ k : Nat, 1 ≤ k ∧ k ≤ s.size ∧ i = .int .i64 k ∧ Good s k) (fun i => s.size - (intOf i).toNat)
          case atStart => exact ⟨1, by omega, by omega, rfl, HG1.out⟩
          case round =>
            obtain ⟨k, hk1, hk, rfl, hG⟩ := hrel
            have G := Lib.hid hG
            clear hG
            by_cases hlt : k < s.size
            · obtain ⟨c, hc⟩ : ∃ c : Int, (s[k].toNat : Int) = c := ⟨_, rfl⟩
              have HC := Lib.hid hc
              rcases byte_cases c with ⟨g1, g2⟩ | ⟨g1, g2⟩ | ⟨g1, g2⟩ | ⟨g1, g2⟩
              · have HG := Lib.hid (G.out.succ hlt (.inl (by rw [hc]; exact letB_mk g1)))
                obtain ⟨g3, g4⟩ := g1
                go_wp2
                go_round
                case rel => exact ⟨k + 1, by omega, by omega, by go_num, HG.out⟩
                case measure => simp [intOf]; omega
              · have HG := Lib.hid (G.out.succ hlt (.inr ⟨by omega, by rw [hc]; exact innB_mk (.inl g1)⟩))
                obtain ⟨g3, g4⟩ := g1
                go_wp2
                go_round
                case rel => exact ⟨k + 1, by omega, by omega, by go_num, HG.out⟩
                case measure => simp [intOf]; omega
              · have HG := Lib.hid (G.out.succ hlt (.inr ⟨by omega, by rw [hc]; exact innB_mk (.inr (by simpa using g2))⟩))
                go_wp2
                go_round
                case rel => exact ⟨k + 1, by omega, by omega, by go_num, HG.out⟩
                case measure => simp [intOf]; omega
              · have hne : c ≠ 95 := by simpa using g2
                have HB := Lib.hid (right_bad hlt (by rw [hc]; exact letB_mkno (by omega)) (.inr (by rw [hc]; exact innB_mkno (by omega))))
                clear hne
                rcases g1 with g1 | ⟨g1, g1'⟩ | g1
                · go_wp2
                  go_ret
                  exact ⟨ret_bool HB.out.symm, rfl⟩
                · have d1 : decide (c ≤ 57) = false := decide_eq_false (by omega)
                  go_wp2
                  go_ret
                  exact ⟨ret_bool HB.out.symm, rfl⟩
                · have d1 : decide (c ≤ 57) = false := decide_eq_false (by omega)
                  have d2 : decide (c ≤ 122) = false := decide_eq_false (by omega)
                  go_wp2
                  go_ret
                  exact ⟨ret_bool HB.out.symm, rfl⟩
            · obtain rfl : k = s.size := by omega
              go_wp2
              go_ret
              exact ⟨ret_bool (right_all h0 (by omega) G.out HW.out), rfl⟩
        · have HB := Lib.hid (right_first h0 (by omega))
          have hf2 : (s[0].toNat : Int) < 97 ∨ (¬ (s[0].toNat : Int) < 97 ∧ 122 < (s[0].toNat : Int)) := by omega
          clear hf
          rcases hf2 with hf2 | ⟨hf2, hf3⟩
          all_goals
            go_enter Tryz.func116, Tryz.ntmps116
            go_wp2_with (go_at_call 146; refine (rword_as _ _ _ HV).mono ?_; rintro e w' ⟨rfl, rfl⟩)
            go_ret
            exact ⟨ret_bool HB.out.symm, rfl⟩
  · go_enter Tryz.func116, Tryz.ntmps116
    go_wp2
    go_ret
    exact ⟨ret_bool (right_empty (.inl (by rw [← size_list]; omega))).symm, rfl⟩
end Go.Proofs.YtddleeenlpigfaaGreatDoor.Nm
/- WALKS of name.Path, of the reference's Path, and of few. -/
namespace Go.Proofs.YtddleeenlpigfaaGreatDoor.Nm
open Go.RowKit

/-- A slice of texts in memory: xs are its elements. -/
structure StrRow (w : World) (a : Option Addr) (len : Nat) (xs : List ByteArray) : Prop where
  count : xs.length = len
  max : len ≤ 140737488355328
  each : ∀ (i : Nat) (x : ByteArray), xs[i]? = some x → x.size ≤ 140737488355328
  at_ : 0 < len → ∃ b off, a = some ⟨b, off, none⟩ ∧ b < w.heap.size ∧ ∀ (i : Nat) (x : ByteArray), xs[i]? = some x → w.cell? ⟨b, off + i, none⟩ = some (.string x)
theorem StrRow.below {w w' : World} {a : Option Addr} {len : Nat} {xs : List ByteArray} (h : StrRow w a len xs) (hb : Below w.heap.size w w') : StrRow w' a len xs := by
  obtain ⟨h1, h2, h3, h4⟩ := h
  refine ⟨h1, h2, h3, fun h0 => ?_⟩
  obtain ⟨b, off, e, hlt, hc⟩ := h4 h0
  exact ⟨b, off, e, Nat.lt_of_lt_of_le hlt hb.size, fun i x hx => by rw [hb.cell (p := ⟨b, off + i, none⟩) hlt]; exact hc i x hx⟩
theorem right_as (s : ByteArray) (b : Bool) (w : World) (hE : Env w) (hs : s.size ≤ 140737488355328) (hb : Hid (rightL s.toList = b)) : Calls Tryz.prog 115 #[.string s] w fun e w' => e = .returned (.bool b) ∧ Below w.heap.size w w' := by
  rw [← hb.out]; exact right_any s w hE (by unfold maxLen; omega)
theorem rright_as (s : ByteArray) (b : Bool) (w : World) (hs : s.size ≤ 140737488355328) (hb : Hid (rightL s.toList = b)) : Calls Tryz.prog 116 #[.string s] w fun e w' => e = .returned (.bool b) ∧ w = w' := by
  rw [← hb.out]; exact rright_any s w (by unfold maxLen; omega)
end Go.Proofs.YtddleeenlpigfaaGreatDoor.Nm
/- WALKS of name.Rising and of the reference's Rising. -/
namespace Go.Proofs.YtddleeenlpigfaaGreatDoor.Nm
open Go.RowKit

/-- Each of the first n is a name, above the one ahead. -/
def Ris (xs : List ByteArray) (n : Nat) : Prop := ∀ (k : Nat) (x : ByteArray), xs[k]? = some x → k < n → rightL x.toList = true ∧ ∀ (j : Nat) (y : ByteArray), j + 1 = k → xs[j]? = some y → Op.bytesLess y.toList x.toList = true
noncomputable def risB (xs : List ByteArray) : Bool := @decide (Ris xs xs.length) (Classical.propDecidable _)
theorem ris_yes {xs : List ByteArray} (h : Ris xs xs.length) : true = risB xs := (@decide_eq_true _ (Classical.propDecidable _) h).symm
theorem ris_no {xs : List ByteArray} (h : ¬ Ris xs xs.length) : false = risB xs := (@decide_eq_false _ (Classical.propDecidable _) h).symm
theorem lt_len {xs : List ByteArray} {k : Nat} {x : ByteArray} (h : xs[k]? = some x) : k < xs.length := (List.getElem?_eq_some_iff.1 h).1
theorem ris_bad_name {xs : List ByteArray} {k : Nat} {x : ByteArray} (hx : xs[k]? = some x) (hr : rightL x.toList = false) : false = risB xs :=
  ris_no fun h => by have := (h k x hx (lt_len hx)).1; rw [hr] at this; exact absurd this (by decide)
theorem ris_bad_ord {xs : List ByteArray} {j : Nat} {x y : ByteArray} (hx : xs[j + 1]? = some x) (hy : xs[j]? = some y) (hr : Op.bytesLess y.toList x.toList = false) : false = risB xs :=
  ris_no fun h => by have := (h (j + 1) x hx (lt_len hx)).2 j y rfl hy; rw [hr] at this; exact absurd this (by decide)
theorem Ris.zero (xs : List ByteArray) : Ris xs 0 := fun _ _ _ h => absurd h (by omega)
theorem Ris.one {xs : List ByteArray} {x : ByteArray} (hx : xs[0]? = some x) (hr : rightL x.toList = true) : Ris xs 1 := fun k z hz hk => by
  obtain rfl : k = 0 := by omega
  rw [hx] at hz; cases hz
  exact ⟨hr, fun j y e _ => absurd e (by omega)⟩
theorem Ris.succ {xs : List ByteArray} {j : Nat} {x y : ByteArray} (h : Ris xs (j + 1)) (hx : xs[j + 1]? = some x) (hy : xs[j]? = some y) (hr : rightL x.toList = true) (ho : Op.bytesLess y.toList x.toList = true) : Ris xs (j + 1 + 1) := fun k z hz hk => by
  by_cases e : k = j + 1
  · subst e
    rw [hx] at hz; cases hz
    refine ⟨hr, fun i u ei hu => ?_⟩
    obtain rfl : i = j := by omega
    rw [hy] at hu; cases hu
    exact ho
  · exact h k z hz (by omega)
theorem less_total (a b : List UInt8) : (Op.bytesLess a b || a == b) = !(Op.bytesLess b a) := by
  rw [bytesLess_eq, bytesLess_eq, Bool.eq_iff_iff]
  simp only [Bool.or_eq_true, decide_eq_true_eq, beq_iff_eq, Bool.not_eq_true', decide_eq_false_iff_not]
  rw [List.not_lt, List.le_iff_lt_or_eq]
theorem less_le {a b : List UInt8} (h : Op.bytesLess a b = true ∨ (a == b) = true) : Op.bytesLess b a = false := by
  have := less_total a b
  rcases h with h | h <;> rw [h] at this <;> simpa using this.symm
theorem less_gt {a b : List UInt8} (h : Op.bytesLess a b = false ∧ (a == b) = false) : Op.bytesLess b a = true := by
  have := less_total a b
  rw [h.1, h.2] at this; simpa using this.symm

set_option maxHeartbeats 4000000 in
theorem rising_any (a : Option Addr) (len cap : Nat) (xs : List ByteArray) (w : World) (hE : Env w) (hS : StrRow w a len xs) : Calls Tryz.prog 79 #[.slice a len cap] w fun e w' => e = .returned (.bool (risB xs)) ∧ Below w.heap.size w w' := by
  have hmax := hS.max
  have HE := Lib.hid hE
  have HS := Lib.hid hS
  clear hE hS
  by_cases h0 : 0 < len
  · obtain ⟨b, off, rfl, hb, hc⟩ := HS.out.at_ h0
    have HC := Lib.hid hc
    have HB := Lib.hid hb
    clear hc hb
    go_enter Tryz.func79, Tryz.ntmps79
    go_wp2
    go_loopw [7] (fun i wr => ∃ k : Nat, k ≤ len ∧ i = .int .i64 k ∧ Below w.heap.size w wr ∧ Ris xs k) (fun i _ => len - (intOf i).toNat)
    case atStart => exact ⟨0, by omega, rfl, Below.refl _ _, Ris.zero xs⟩
    case round =>
      obtain ⟨k, hk, rfl, hBl, hR⟩ := hrel
      rename World => wr
      have BL := Lib.hid hBl
      have RI := Lib.hid hR
      clear hBl hR
      by_cases hlt : k < len
      · obtain ⟨x, hx⟩ : ∃ x, xs[k]? = some x := ⟨xs[k]'(by rw [HS.out.count]; exact hlt), List.getElem?_eq_getElem _⟩
        have HX := Lib.hid hx
        have hcell : wr.cell? ⟨b, off + k, none⟩ = some (.string x) := by rw [BL.out.cell (p := ⟨b, off + k, none⟩) HB.out]; exact HC.out k x hx
        have hsz := HS.out.each k x hx
        clear hx
        have hER := Lib.hid (HE.out.below BL.out)
        cases hr : rightL x.toList
        · have HR := Lib.hid hr
          clear hr
          go_wp2_with (go_at_call 115; refine (right_as _ _ _ hER.out hsz HR).mono ?_; rintro e w' ⟨rfl, hB2⟩)
          go_ret
          exact ⟨ret_bool (ris_bad_name HX.out HR.out), BL.out.trans (hB2.mono BL.out.size)⟩
        · have HR := Lib.hid hr
          clear hr
          by_cases hk0 : 0 < k
          · obtain ⟨j, rfl⟩ : ∃ j, k = j + 1 := ⟨k - 1, by omega⟩
            obtain ⟨y, hy⟩ : ∃ y, xs[j]? = some y := ⟨xs[j]'(by rw [HS.out.count]; omega), List.getElem?_eq_getElem _⟩
            have HY := Lib.hid hy
            have hce : wr.cell? ⟨b, off + j, none⟩ = some (.string y) := by rw [BL.out.cell (p := ⟨b, off + j, none⟩) HB.out]; exact HC.out j y hy
            clear hy
            go_wp2_with (go_at_call 115; refine (right_as _ _ _ hER.out hsz HR).mono ?_; rintro e w' ⟨rfl, hB2⟩; have hce2 := (hB2.cell (p := ⟨b, off + j, none⟩) (Nat.lt_of_lt_of_le HB.out BL.out.size)).trans hce)
            · go_ret
              exact ⟨ret_bool (ris_bad_ord HX.out HY.out (less_le ‹_›)), BL.out.trans (hB2.mono BL.out.size)⟩
            · go_roundw
              case rel => exact ⟨j + 1 + 1, by omega, by go_num, BL.out.trans (hB2.mono BL.out.size), RI.out.succ HX.out HY.out HR.out (less_gt ‹_›)⟩
              case measure => simp [intOf]; omega
          · obtain rfl : k = 0 := by omega
            have hcell0 : wr.cell? ⟨b, off, none⟩ = some (.string x) := hcell
            clear hcell
            go_wp2_with (go_at_call 115; refine (right_as _ _ _ hER.out hsz HR).mono ?_; rintro e w' ⟨rfl, hB2⟩)
            go_roundw
            case rel => exact ⟨1, by omega, by go_num, BL.out.trans (hB2.mono BL.out.size), Ris.one HX.out HR.out⟩
            case measure => simp [intOf]; omega
      · obtain rfl : k = len := by omega
        have HL := Lib.hid HS.out.count
        go_wp2
        go_ret
        exact ⟨ret_bool (ris_yes (by rw [HL.out]; exact RI.out)), BL.out⟩
  · obtain rfl : len = 0 := by omega
    have HL := Lib.hid HS.out.count
    go_enter Tryz.func79, Tryz.ntmps79
    go_wp2
    go_loopw [7] (fun i wr => i = .int .i64 0 ∧ Below w.heap.size w wr) (fun _ _ => 0)
    case atStart => exact ⟨rfl, Below.refl _ _⟩
    case round =>
      obtain ⟨rfl, hBl⟩ := hrel
      have BL := Lib.hid hBl
      clear hBl
      go_wp2
      go_ret
      exact ⟨ret_bool (ris_yes (by rw [HL.out]; exact Ris.zero xs)), BL.out⟩

theorem rright_same (s : ByteArray) (b : Bool) (w : World) (hs : s.size ≤ 140737488355328) (hb : Hid (rightL s.toList = b)) : Calls Tryz.prog 116 #[.string s] w fun e w' => e = .returned (.bool b) ∧ w' = w :=
  (rright_as s b w hs hb).mono fun _ _ ⟨h, h'⟩ => ⟨h, h'.symm⟩
set_option maxHeartbeats 4000000 in
theorem rrising_any (a : Option Addr) (len cap : Nat) (xs : List ByteArray) (w : World) (hS : StrRow w a len xs) : Calls Tryz.prog 81 #[.slice a len cap] w fun e w' => e = .returned (.bool (risB xs)) ∧ Below w.heap.size w w' := by
  have hmax := hS.max
  have HS := Lib.hid hS
  clear hS
  by_cases h0 : 0 < len
  · obtain ⟨b, off, rfl, hb, hc⟩ := HS.out.at_ h0
    have HC := Lib.hid hc
    have HB := Lib.hid hb
    clear hc hb
    go_enter Tryz.func81, Tryz.ntmps81
    go_wp2
    go_loopw [3] (fun i wr => ∃ k : Nat, k ≤ len ∧ i = .int .i64 k ∧ Below w.heap.size w wr ∧ Ris xs k) (fun i _ => len - (intOf i).toNat)
    case atStart => exact ⟨0, by omega, rfl, Below.refl _ _, Ris.zero xs⟩
    case round =>
      obtain ⟨k, hk, rfl, hBl, hR⟩ := hrel
      rename World => wr
      have BL := Lib.hid hBl
      have RI := Lib.hid hR
      clear hBl hR
      by_cases hlt : k < len
      · obtain ⟨x, hx⟩ : ∃ x, xs[k]? = some x := ⟨xs[k]'(by rw [HS.out.count]; exact hlt), List.getElem?_eq_getElem _⟩
        have HX := Lib.hid hx
        have hcell : wr.cell? ⟨b, off + k, none⟩ = some (.string x) := by rw [BL.out.cell (p := ⟨b, off + k, none⟩) HB.out]; exact HC.out k x hx
        have hsz := HS.out.each k x hx
        clear hx
        cases hr : rightL x.toList
        · have HR := Lib.hid hr
          clear hr
          go_wp2
          go_quiet ((go_at_call 116; exact Calls.quiet_of_same (rright_same _ _ _ hsz HR)))
          go_wp2
          go_ret
          exact ⟨ret_bool (ris_bad_name HX.out HR.out), below_drewN BL.out _⟩
        · have HR := Lib.hid hr
          clear hr
          by_cases hk0 : 0 < k
          · obtain ⟨j, rfl⟩ : ∃ j, k = j + 1 := ⟨k - 1, by omega⟩
            obtain ⟨y, hy⟩ : ∃ y, xs[j]? = some y := ⟨xs[j]'(by rw [HS.out.count]; omega), List.getElem?_eq_getElem _⟩
            have HY := Lib.hid hy
            have hce : wr.cell? ⟨b, off + j, none⟩ = some (.string y) := by rw [BL.out.cell (p := ⟨b, off + j, none⟩) HB.out]; exact HC.out j y hy
            clear hy
            cases ho : Op.bytesLess y.toList x.toList
            all_goals
              have HO := Lib.hid ho
              go_wp2
              go_quiet ((go_at_call 116; exact Calls.quiet_of_same (rright_same _ _ _ hsz HR)))
              go_wp2
            · go_ret
              exact ⟨ret_bool (ris_bad_ord HX.out HY.out HO.out), below_drewN BL.out _⟩
            · go_roundw
              case rel => exact ⟨j + 1 + 1, by omega, by go_num, below_drewN BL.out _, RI.out.succ HX.out HY.out HR.out HO.out⟩
              case measure => simp [intOf]; omega
          · obtain rfl : k = 0 := by omega
            have hcell0 : wr.cell? ⟨b, off, none⟩ = some (.string x) := hcell
            clear hcell
            go_wp2
            go_quiet ((go_at_call 116; exact Calls.quiet_of_same (rright_same _ _ _ hsz HR)))
            go_wp2
            go_roundw
            case rel => exact ⟨1, by omega, by go_num, below_drewN BL.out _, Ris.one HX.out HR.out⟩
            case measure => simp [intOf]; omega
      · obtain rfl : k = len := by omega
        have HL := Lib.hid HS.out.count
        go_wp2
        go_ret
        exact ⟨ret_bool (ris_yes (by rw [HL.out]; exact RI.out)), BL.out⟩
  · obtain rfl : len = 0 := by omega
    have HL := Lib.hid HS.out.count
    go_enter Tryz.func81, Tryz.ntmps81
    go_wp2
    go_loopw [3] (fun i wr => i = .int .i64 0 ∧ Below w.heap.size w wr) (fun _ _ => 0)
    case atStart => exact ⟨rfl, Below.refl _ _⟩
    case round =>
      obtain ⟨rfl, hBl⟩ := hrel
      have BL := Lib.hid hBl
      clear hBl
      go_wp2
      go_ret
      exact ⟨ret_bool (ris_yes (by rw [HL.out]; exact Ris.zero xs)), BL.out⟩
end Go.Proofs.YtddleeenlpigfaaGreatDoor.Nm
/- PLAIN MATHEMATICS: what is right, what is below; the value of terms. -/
namespace Go.Proofs.YtddleeenlpigfaaGreatDoor
deriving instance DecidableEq for Sc
def Tm.sc (x : Tm) : Sc := ⟨x.k, x.lo, x.hi, x.s, x.y, x.m⟩
/-- A right scalar. -/
def scR (x : Tm) : Prop := RightP x.k x.lo x.hi x.s x.y x.m x.o x.fs.length
instance (x : Tm) : Decidable (scR x) := by unfold scR; infer_instance
/-- What is in both of two scalars. -/
def scM (a b : Tm) : Option Sc := if scR a ∧ scR b then a.sc.meet b.sc else none
def scB (a b : Tm) : Bool := match scM a b with | none => false | some c => decide (c = a.sc)
def findF (fs : List (ByteArray × List Tm)) (key : ByteArray) : Option (List Tm) := (fs.find? fun f => f.1.toList == key.toList).map (·.2)
/-- Is there a field that is lacking? -/
def lacksF (fs gs : List (ByteArray × List Tm)) : Bool := gs.any fun g => (findF fs g.1).isNone
/-- Is a struct's field of that name below this one? -/
def undF (g : List Tm → List Tm → Bool) (fs : List (ByteArray × List Tm)) (f : ByteArray × List Tm) : Bool := match findF fs f.1 with | some V => g V f.2 | none => false
def undS (g : List Tm → List Tm → Bool) (a b : Tm) : Bool := !(a.o && !b.o) && (b.o || !lacksF b.fs a.fs) && b.fs.all (undF g a.fs)
def undT (g : List Tm → List Tm → Bool) (a b : Tm) : Bool := if b.k = 5 then true else if a.k = 4 ∧ b.k = 4 then undS g a b else scB a b
def undV : Nat → List Tm → List Tm → Bool
  | 0, _, _ => false
  | n + 1, A, B => A.all fun a => B.any fun b => undT (undV n) a b
/-- Fields that a struct may have. -/
def RF (g : List Tm → Prop) (fs : List (ByteArray × List Tm)) : Prop := fs.length ≤ 32 ∧ Nm.Ris (fs.map (·.1)) fs.length ∧ ∀ f ∈ fs, g f.2
def anyT5 : Tm := .mk 5 0 0 ⟨#[]⟩ false false false []
def RT (g : List Tm → Prop) (x : Tm) : Prop :=
  if x.k = 5 then x = anyT5
  else if x.k = 4 then x.lo = 0 ∧ x.hi = 0 ∧ x.s = ⟨#[]⟩ ∧ x.y = false ∧ x.m = false ∧ RF g x.fs ∧ ∀ f ∈ x.fs, f.2 ≠ []
  else scR x
/-- In order. -/
def Ups (f : Tm → Tm → Int) (A : List Tm) : Prop := A.Pairwise fun a b => f a b < 0
/-- None below another one. -/
def Apart (u : Tm → Tm → Bool) (A : List Tm) : Prop := A.Pairwise fun a b => u a b = false ∧ u b a = false
/-- A right value, so many levels deep at most, but for its weight. -/
def RV : Nat → Nat → List Tm → Prop
  | n + 1, l + 1, A => (∀ x ∈ A, RT (RV n l) x) ∧ Ups (cmpT (cmpV n)) A ∧ Apart (undT (undV n)) A
  | _, _, _ => False
def putL (f : Tm → Tm → Int) (t : Tm) : List Tm → List Tm
  | [] => [t]
  | x :: l => if f t x = 0 then x :: l else if f t x < 0 then t :: x :: l else x :: putL f t l
def someL (f : Tm → Tm → Int) (l : List Tm) : List Tm := l.foldl (fun acc t => putL f t acc) []
def keepL (f : Tm → Tm → Int) (u : Tm → Tm → Bool) (S : List Tm) : List Tm := S.filter fun x => !(S.any fun y => decide (f x y ≠ 0) && u x y)
def normV (n : Nat) (l : List Tm) : List Tm := keepL (cmpT (cmpV n)) (undT (undV n)) (someL (cmpT (cmpV n)) l)
theorem putL_mem {f : Tm → Tm → Int} {t x : Tm} : ∀ {l : List Tm}, x ∈ putL f t l → x = t ∨ x ∈ l
  | [], h => .inl (by simpa [putL] using h)
  | y :: l, h => by
    unfold putL at h
    split at h
    · exact .inr h
    · split at h
      · simpa using h
      · rcases List.mem_cons.1 h with rfl | h
        · exact .inr (by simp)
        · rcases putL_mem h with rfl | h
          · exact .inl rfl
          · exact .inr (by simp [h])
theorem putL_old {f : Tm → Tm → Int} {t x : Tm} : ∀ {l : List Tm}, x ∈ l → x ∈ putL f t l
  | y :: l, h => by
    unfold putL
    split
    · exact h
    · split
      · exact List.mem_cons_of_mem _ h
      · rcases List.mem_cons.1 h with rfl | h
        · simp
        · exact List.mem_cons_of_mem _ (putL_old h)
theorem putL_new {f : Tm → Tm → Int} {t : Tm} : ∀ {l : List Tm}, (∀ x ∈ l, f t x = 0 → t = x) → t ∈ putL f t l
  | [], _ => by simp [putL]
  | y :: l, h => by
    unfold putL
    split
    · rw [h y (by simp) ‹_›]; simp
    · split
      · simp
      · exact List.mem_cons_of_mem _ (putL_new (fun x hx => h x (by simp [hx])))
theorem lt_of {f : Tm → Tm → Int} (hf : Cmp f) {a b c : Tm} (h1 : f a b < 0) (h2 : f b c ≤ 0) : f a c < 0 := by
  have t := hf.trans a b c (by omega) h2
  have : f a c ≠ 0 := fun e => by have := (t.2 e).1; omega
  omega
theorem putL_ups {f : Tm → Tm → Int} (hf : Cmp f) {t : Tm} : ∀ {l : List Tm}, Ups f l → Ups f (putL f t l)
  | [], _ => by unfold putL; exact List.pairwise_singleton _ _
  | y :: l, h => by
    have h' := List.pairwise_cons.1 h
    unfold putL
    split
    · exact h
    · rename_i h0
      split
      · rename_i h1
        refine List.pairwise_cons.2 ⟨fun x hx => ?_, h⟩
        rcases List.mem_cons.1 hx with rfl | hx
        · exact h1
        · exact lt_of hf h1 (by have := h'.1 x hx; omega)
      · rename_i h1
        refine List.pairwise_cons.2 ⟨fun x hx => ?_, putL_ups hf h'.2⟩
        rcases putL_mem hx with rfl | hx
        · have := hf.anti x y; omega
        · exact h'.1 x hx
theorem foldl_ups {f : Tm → Tm → Int} (hf : Cmp f) : ∀ (l acc : List Tm), Ups f acc → Ups f (l.foldl (fun acc t => putL f t acc) acc)
  | [], _, h => h
  | t :: l, acc, h => foldl_ups hf l (putL f t acc) (putL_ups hf h)
theorem foldl_mem {f : Tm → Tm → Int} {x : Tm} : ∀ (l acc : List Tm), x ∈ l.foldl (fun acc t => putL f t acc) acc → x ∈ l ∨ x ∈ acc
  | [], _, h => .inr h
  | t :: l, acc, h => by
    rcases foldl_mem l (putL f t acc) h with h | h
    · exact .inl (by simp [h])
    · rcases putL_mem h with rfl | h
      · exact .inl (by simp)
      · exact .inr h
theorem foldl_old {f : Tm → Tm → Int} {x : Tm} : ∀ (l acc : List Tm), x ∈ acc → x ∈ l.foldl (fun acc t => putL f t acc) acc
  | [], _, h => h
  | t :: l, acc, h => foldl_old l (putL f t acc) (putL_old h)
theorem foldl_new {f : Tm → Tm → Int} {x : Tm} : ∀ (l acc : List Tm), (∀ a ∈ l, ∀ b, b ∈ l ∨ b ∈ acc → f a b = 0 → a = b) → x ∈ l → x ∈ l.foldl (fun acc t => putL f t acc) acc
  | t :: l, acc, h, hx => by
    rcases List.mem_cons.1 hx with rfl | hx
    · exact foldl_old l _ (putL_new (fun y hy => h x (by simp) y (.inr hy)))
    · refine foldl_new l (putL f t acc) (fun a ha b hb => h a (by simp [ha]) b ?_) hx
      rcases hb with hb | hb
      · exact .inl (by simp [hb])
      · rcases putL_mem hb with rfl | hb
        · exact .inl (by simp)
        · exact .inr hb
/-- Of what equal comparison is equality. -/
def Sharp (f : Tm → Tm → Int) (l : List Tm) : Prop := ∀ a ∈ l, ∀ b ∈ l, f a b = 0 → a = b
theorem someL_ups {f : Tm → Tm → Int} (hf : Cmp f) (l : List Tm) : Ups f (someL f l) := foldl_ups hf l [] List.Pairwise.nil
theorem someL_mem {f : Tm → Tm → Int} {l : List Tm} (h : Sharp f l) {x : Tm} : x ∈ someL f l ↔ x ∈ l :=
  ⟨fun hx => (foldl_mem l [] hx).resolve_right (by simp), fun hx => foldl_new l [] (fun a ha b hb => h a ha b (hb.resolve_right (by simp))) hx⟩
/-- What rises is told by what is in it. -/
theorem ups_ext {f : Tm → Tm → Int} (hf : Cmp f) : ∀ {A B : List Tm}, Ups f A → Ups f B → (∀ x, x ∈ A ↔ x ∈ B) → A = B
  | [], [], _, _, _ => rfl
  | [], b :: B, _, _, h => by have := (h b).2 (by simp); simp at this
  | a :: A, [], _, _, h => by have := (h a).1 (by simp); simp at this
  | a :: A, b :: B, hA, hB, h => by
    have hA' := List.pairwise_cons.1 hA
    have hB' := List.pairwise_cons.1 hB
    have e : a = b := by
      rcases List.mem_cons.1 ((h a).1 (by simp)) with e | e
      · exact e
      · rcases List.mem_cons.1 ((h b).2 (by simp)) with e' | e'
        · exact e'.symm
        · have h1 := hB'.1 a e
          have h2 := hA'.1 b e'
          have := hf.anti a b
          omega
    subst e
    refine congrArg _ (ups_ext hf hA'.2 hB'.2 fun x => ⟨fun hx => ?_, fun hx => ?_⟩)
    · rcases List.mem_cons.1 ((h x).1 (by simp [hx])) with rfl | h3
      · have := hA'.1 x hx; have := hf.refl x; omega
      · exact h3
    · rcases List.mem_cons.1 ((h x).2 (by simp [hx])) with rfl | h3
      · have := hB'.1 x hx; have := hf.refl x; omega
      · exact h3
theorem someL_self {f : Tm → Tm → Int} (hf : Cmp f) {l : List Tm} (hs : Sharp f l) (h : Ups f l) : someL f l = l := ups_ext hf (someL_ups hf l) h (fun _ => someL_mem hs)
theorem keepL_mem {f : Tm → Tm → Int} {u : Tm → Tm → Bool} {S : List Tm} {x : Tm} : x ∈ keepL f u S ↔ x ∈ S ∧ ∀ y ∈ S, f x y ≠ 0 → u x y = false := by
  unfold keepL
  rw [List.mem_filter]
  simp
theorem keepL_ups {f : Tm → Tm → Int} {u : Tm → Tm → Bool} {S : List Tm} (h : Ups f S) : Ups f (keepL f u S) := h.filter _
theorem keepL_apart {f : Tm → Tm → Int} (hf : Cmp f) {u : Tm → Tm → Bool} {S : List Tm} (h : Ups f S) : Apart u (keepL f u S) := by
  have : ∀ l : List Tm, (∀ x ∈ l, x ∈ keepL f u S) → Ups f l → Apart u l := by
    intro l
    induction l with
    | nil => intro _ _; exact List.Pairwise.nil
    | cons a l ih =>
      intro hm hu
      have hu' := List.pairwise_cons.1 hu
      refine List.pairwise_cons.2 ⟨fun b hb => ?_, ih (fun x hx => hm x (by simp [hx])) hu'.2⟩
      have h1 := keepL_mem.1 (hm a (by simp))
      have h2 := keepL_mem.1 (hm b (by simp [hb]))
      have h3 := hu'.1 b hb
      have h4 := hf.anti a b
      exact ⟨h1.2 b h2.1 (by omega), h2.2 a h1.1 (by omega)⟩
  exact this _ (fun _ h => h) (keepL_ups h)
theorem apart_of {u : Tm → Tm → Bool} : ∀ {l : List Tm}, Apart u l → ∀ x ∈ l, ∀ y ∈ l, x = y ∨ u x y = false
  | a :: l, h, x, hx, y, hy => by
    have h' := List.pairwise_cons.1 h
    rcases List.mem_cons.1 hx with rfl | hx1 <;> rcases List.mem_cons.1 hy with rfl | hy1
    · exact .inl rfl
    · exact .inr (h'.1 y hy1).1
    · exact .inr (h'.1 x hx1).2
    · exact apart_of h'.2 x hx1 y hy1
theorem keepL_self {f : Tm → Tm → Int} (hf : Cmp f) {u : Tm → Tm → Bool} {S : List Tm} (h : Apart u S) : keepL f u S = S := by
  unfold keepL
  rw [List.filter_eq_self]
  intro x hx
  simp only [Bool.not_eq_true', List.any_eq_false, Bool.and_eq_true, decide_eq_true_eq, not_and, Bool.not_eq_true]
  intro y hy h0
  rcases apart_of h x hx y hy with rfl | h
  · exact absurd (hf.refl x) h0
  · exact h
theorem sharp_of {n : Nat} {l : List Tm} (h : ∀ x ∈ l, Dt n x) : Sharp (cmpT (cmpV n)) l := fun a ha b hb h0 => cmpT_eq (h a ha) (h b hb) h0
/-- A value is what comes of its terms just if it is in order, and none is below another one. -/
theorem normV_self {n : Nat} {l : List Tm} (h : ∀ x ∈ l, Dt n x) : normV n l = l ↔ Ups (cmpT (cmpV n)) l ∧ Apart (undT (undV n)) l := by
  constructor
  · intro e
    have h1 : Ups (cmpT (cmpV n)) (normV n l) := keepL_ups (someL_ups (cmpT_cmp n) l)
    have h2 : Apart (undT (undV n)) (normV n l) := keepL_apart (cmpT_cmp n) (someL_ups (cmpT_cmp n) l)
    rw [e] at h1 h2
    exact ⟨h1, h2⟩
  · intro ⟨h1, h2⟩
    unfold normV
    rw [someL_self (cmpT_cmp n) (sharp_of h) h1, keepL_self (cmpT_cmp n) h2]
theorem normV_sub {n : Nat} {l : List Tm} (h : ∀ x ∈ l, Dt n x) {x : Tm} (hx : x ∈ normV n l) : x ∈ l := (someL_mem (sharp_of h)).1 (keepL_mem.1 hx).1
end Go.Proofs.YtddleeenlpigfaaGreatDoor
