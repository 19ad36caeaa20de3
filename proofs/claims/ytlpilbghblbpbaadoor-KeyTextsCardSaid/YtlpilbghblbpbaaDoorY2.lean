/- Na, Nb, Nc, Nd, Ne, Rb, Sa -/
import Derived.Below
import Derived.Lib.Strings
import Derived.Test.YtlpilbghblbpbaaDoorChecked
import Derived.WalkKit
import Derived.WalkSpells
import Derived.WalkLawsBesides
import Derived.Lib.Hide
import Derived.Deep.QuietTactic
import Derived.BigQuiet
import Derived.Test.YtlpilbghblbpbaaDoorY0
/- PLAIN MATHEMATICS of words and names. -/
namespace Go.Proofs.YtlpilbghblbpbaaDoor.Nm

def wordsL : List (List UInt8) := [[97, 110, 121], [98, 111, 111, 108], [99, 111, 109, 112, 117, 116, 101, 100], [102, 97, 108, 115, 101], [105, 110, 116], [110, 111, 110, 101], [114, 101, 115, 111, 117, 114, 99, 101], [115, 116, 114, 105, 110, 103], [116, 114, 117, 101]]
def wordAt (r : Nat) : ByteArray := ⟨(wordsL.getD r []).toArray⟩
def wordN (L : List UInt8) : Int := if (L == [97, 110, 121]) = true then 1 else if (L == [98, 111, 111, 108]) = true then 2 else if (L == [99, 111, 109, 112, 117, 116, 101, 100]) = true then 3 else if (L == [102, 97, 108, 115, 101]) = true then 4 else if (L == [105, 110, 116]) = true then 5 else if (L == [110, 111, 110, 101]) = true then 6 else if (L == [114, 101, 115, 111, 117, 114, 99, 101]) = true then 7 else if (L == [115, 116, 114, 105, 110, 103]) = true then 8 else if (L == [116, 114, 117, 101]) = true then 9 else 0
/-- What a program has from its start on: the words' table, and the library's own number. -/
structure Env (w : World) : Prop where
  words : ∀ r, r < 9 → w.cell? ⟨0, r, none⟩ = some (.string (wordAt r))
  one : 5 ≤ w.heap.size
theorem Env.below {w w' : World} (h : Env w) (hb : RowKit.Below w.heap.size w w') : Env w' := by
  obtain ⟨h1, h3⟩ := h
  refine ⟨fun r hr => ?_, Nat.le_trans h3 hb.size⟩
  rw [hb.cell (p := ⟨0, r, none⟩) (by simp; omega)]; exact h1 r hr
def letC (c : UInt8) : Bool := decide (97 ≤ c.toNat) && decide (c.toNat ≤ 122)
def innC (c : UInt8) : Bool := letC c || (decide (48 ≤ c.toNat) && decide (c.toNat ≤ 57)) || decide (c.toNat = 95)
/-- Is it a name? -/
def rightL (L : List UInt8) : Bool := decide (1 ≤ L.length) && decide (L.length ≤ 16) && (L.head?.map letC).getD false && L.all innC && decide (wordN L = 0)

theorem size_list (s : ByteArray) : s.size = s.toList.length := by rw [Lib.toList_data]; simp
theorem get_list (s : ByteArray) (k : Nat) (h : k < s.size) : s[k] = s.toList[k]'(by rw [← size_list]; exact h) := by
  have : ∀ (L : List UInt8) (e : L = s.data.toList) (hk : k < L.length), L[k] = s.data.toList[k]'(by simpa using h) := fun L e hk => by subst e; rfl
  rw [this _ (Lib.toList_data s) _]; rfl
theorem list_ne (s : ByteArray) (h : 0 < s.size) : ¬ s.toList = [] := by
  intro q; rw [size_list, q] at h; simp at h
theorem list_isE (s : ByteArray) (h : 0 < s.size) : s.toList.isEmpty = false := by
  have := list_ne s h
  cases e : s.toList <;> simp_all
theorem list_nil (s : ByteArray) (h : ¬ 0 < s.size) : s.toList = [] := by
  rw [size_list] at h; exact List.eq_nil_of_length_eq_zero (by omega)
theorem head_list (s : ByteArray) (h : 0 < s.size) : s.toList.head? = some s[0] := by
  rw [get_list, List.head?_eq_getElem?, List.getElem?_eq_getElem]
def letB (r : Int) : Bool := decide (97 ≤ r ∧ r ≤ 122)
def innB (r : Int) : Bool := decide ((48 ≤ r ∧ r ≤ 57) ∨ r = 95)
theorem letC_B (c : UInt8) : letC c = letB (c.toNat : Int) := by
  unfold letC letB
  rw [Bool.eq_iff_iff]; simp; omega
theorem innC_B (c : UInt8) : innC c = (letB (c.toNat : Int) || innB (c.toNat : Int)) := by
  unfold innC innB
  rw [letC_B, Bool.or_assoc]; congr 1; rw [Bool.eq_iff_iff]; simp only [Bool.or_eq_true, Bool.and_eq_true, decide_eq_true_eq]; omega
/-- The bytes ahead of k are as a name's. -/
def Good (s : ByteArray) (k : Nat) : Prop := ∀ j (h : j < s.size), j < k → (j = 0 → letC s[j] = true) ∧ innC s[j] = true
theorem Good.first (s : ByteArray) : Good s 0 := fun _ _ h => absurd h (by omega)
theorem Good.succ {s : ByteArray} {k : Nat} (h : Good s k) (hk : k < s.size) (h1 : letB (s[k].toNat : Int) = true ∨ (k ≠ 0 ∧ innB (s[k].toNat : Int) = true)) : Good s (k + 1) := fun j hj hjk => by
  by_cases e : j = k
  · subst e
    rw [innC_B, letC_B]
    rcases h1 with h1 | ⟨h0, h1⟩
    · simp [h1]
    · simp [h0, h1]
  · exact h j hj (by omega)
theorem right_empty {L : List UInt8} (h : L.length < 1 ∨ 16 < L.length) : rightL L = false := by
  unfold rightL
  rcases h with h | h
  · rw [show decide (1 ≤ L.length) = false from decide_eq_false (by omega)]; rfl
  · rw [show decide (L.length ≤ 16) = false from decide_eq_false (by omega)]; simp
theorem right_bad {s : ByteArray} {k : Nat} (hk : k < s.size) (h1 : letB (s[k].toNat : Int) = false) (h2 : k = 0 ∨ innB (s[k].toNat : Int) = false) : rightL s.toList = false := by
  rcases h2 with rfl | h2
  · unfold rightL; rw [head_list s hk]
    simp only [Option.map_some, Option.getD_some, letC_B, h1]; simp
  · have a : s.toList.all innC = false := by
      rw [List.all_eq_false]
      exact ⟨s[k], by rw [get_list]; exact List.getElem_mem _, by rw [innC_B, h1, h2]; decide⟩
    unfold rightL; rw [a]; simp
theorem right_end {s : ByteArray} (h0 : 0 < s.size) (h1 : s.size ≤ 16) (hg : Good s s.size) : rightL s.toList = (wordN s.toList == 0) := by
  have a : s.toList.all innC = true := by
    rw [List.all_eq_true]
    intro c hc
    obtain ⟨k, hk, rfl⟩ := List.getElem_of_mem hc
    have hk' : k < s.size := by rw [size_list]; exact hk
    rw [← get_list s k hk']
    exact (hg k hk' hk').2
  have b := (hg 0 h0 h0).1 rfl
  unfold rightL
  rw [a, head_list s h0, Option.map_some, Option.getD_some, b, ← size_list, show decide (1 ≤ s.size) = true from decide_eq_true (by omega), show decide (s.size ≤ 16) = true from decide_eq_true h1]
  rw [Bool.eq_iff_iff]; simp
theorem wordN_nonneg (L : List UInt8) : 0 ≤ wordN L := by
  unfold wordN; repeat' split
  all_goals decide
theorem right_word {L : List UInt8} (h : 0 < wordN L) : rightL L = false := by
  unfold rightL; rw [show decide (wordN L = 0) = false from decide_eq_false (by omega)]; simp
end Go.Proofs.YtlpilbghblbpbaaDoor.Nm
/- WALKS of name.Word and of the reference's Word. -/
namespace Go.Proofs.YtlpilbghblbpbaaDoor.Nm
open Go.RowKit

theorem ret_bool {a b : Bool} (h : a = b) : Ending.returned (.bool a) = .returned (.bool b) := by rw [h]
theorem ret_str {a b : ByteArray} (h : a = b) : Ending.returned (.string a) = .returned (.string b) := by rw [h]
theorem ret_int {k : IntKind} {a b : Int} (h : a = b) : Ending.returned (.int k a) = .returned (.int k b) := by rw [h]

set_option maxHeartbeats 1000000 in
theorem rword_any (s : ByteArray) (w : World) : Calls Tryd.prog 42 #[.string s] w fun e w' => e = .returned (.int .i64 (wordN s.toList)) ∧ w = w' := by
  go_enter Tryd.func42, Tryd.ntmps42
  go_wp2
  all_goals
    go_ret
    exact ⟨ret_int (by simp only [wordN, *]; rfl), rfl⟩

/-- None of the first k words. -/
def NotYet (L : List UInt8) (k : Nat) : Prop := ∀ j, j < k → (L == wordsL.getD j []) = false
theorem NotYet.first (L : List UInt8) : NotYet L 0 := fun _ h => absurd h (by omega)
theorem NotYet.succ {L : List UInt8} {k : Nat} (h : NotYet L k) (hk : (L == wordsL.getD k []) = false) : NotYet L (k + 1) := fun j hj => by
  by_cases e : j = k
  · subst e; exact hk
  · exact h j (by omega)
theorem NotYet.word {L : List UInt8} {k : Nat} (h : NotYet L k) (hk : k < 9) (he : (L == wordsL.getD k []) = true) : (k : Int) + 1 = wordN L := by
  match k, hk with
  | 0, _ =>
    have e : (L == [97, 110, 121]) = true := he
    simp only [wordN, e]; rfl
  | 1, _ =>
    have f0 : (L == [97, 110, 121]) = false := h 0 (by decide)
    have e : (L == [98, 111, 111, 108]) = true := he
    simp only [wordN, e, f0]; rfl
  | 2, _ =>
    have f0 : (L == [97, 110, 121]) = false := h 0 (by decide)
    have f1 : (L == [98, 111, 111, 108]) = false := h 1 (by decide)
    have e : (L == [99, 111, 109, 112, 117, 116, 101, 100]) = true := he
    simp only [wordN, e, f0, f1]; rfl
  | 3, _ =>
    have f0 : (L == [97, 110, 121]) = false := h 0 (by decide)
    have f1 : (L == [98, 111, 111, 108]) = false := h 1 (by decide)
    have f2 : (L == [99, 111, 109, 112, 117, 116, 101, 100]) = false := h 2 (by decide)
    have e : (L == [102, 97, 108, 115, 101]) = true := he
    simp only [wordN, e, f0, f1, f2]; rfl
  | 4, _ =>
    have f0 : (L == [97, 110, 121]) = false := h 0 (by decide)
    have f1 : (L == [98, 111, 111, 108]) = false := h 1 (by decide)
    have f2 : (L == [99, 111, 109, 112, 117, 116, 101, 100]) = false := h 2 (by decide)
    have f3 : (L == [102, 97, 108, 115, 101]) = false := h 3 (by decide)
    have e : (L == [105, 110, 116]) = true := he
    simp only [wordN, e, f0, f1, f2, f3]; rfl
  | 5, _ =>
    have f0 : (L == [97, 110, 121]) = false := h 0 (by decide)
    have f1 : (L == [98, 111, 111, 108]) = false := h 1 (by decide)
    have f2 : (L == [99, 111, 109, 112, 117, 116, 101, 100]) = false := h 2 (by decide)
    have f3 : (L == [102, 97, 108, 115, 101]) = false := h 3 (by decide)
    have f4 : (L == [105, 110, 116]) = false := h 4 (by decide)
    have e : (L == [110, 111, 110, 101]) = true := he
    simp only [wordN, e, f0, f1, f2, f3, f4]; rfl
  | 6, _ =>
    have f0 : (L == [97, 110, 121]) = false := h 0 (by decide)
    have f1 : (L == [98, 111, 111, 108]) = false := h 1 (by decide)
    have f2 : (L == [99, 111, 109, 112, 117, 116, 101, 100]) = false := h 2 (by decide)
    have f3 : (L == [102, 97, 108, 115, 101]) = false := h 3 (by decide)
    have f4 : (L == [105, 110, 116]) = false := h 4 (by decide)
    have f5 : (L == [110, 111, 110, 101]) = false := h 5 (by decide)
    have e : (L == [114, 101, 115, 111, 117, 114, 99, 101]) = true := he
    simp only [wordN, e, f0, f1, f2, f3, f4, f5]; rfl
  | 7, _ =>
    have f0 : (L == [97, 110, 121]) = false := h 0 (by decide)
    have f1 : (L == [98, 111, 111, 108]) = false := h 1 (by decide)
    have f2 : (L == [99, 111, 109, 112, 117, 116, 101, 100]) = false := h 2 (by decide)
    have f3 : (L == [102, 97, 108, 115, 101]) = false := h 3 (by decide)
    have f4 : (L == [105, 110, 116]) = false := h 4 (by decide)
    have f5 : (L == [110, 111, 110, 101]) = false := h 5 (by decide)
    have f6 : (L == [114, 101, 115, 111, 117, 114, 99, 101]) = false := h 6 (by decide)
    have e : (L == [115, 116, 114, 105, 110, 103]) = true := he
    simp only [wordN, e, f0, f1, f2, f3, f4, f5, f6]; rfl
  | 8, _ =>
    have f0 : (L == [97, 110, 121]) = false := h 0 (by decide)
    have f1 : (L == [98, 111, 111, 108]) = false := h 1 (by decide)
    have f2 : (L == [99, 111, 109, 112, 117, 116, 101, 100]) = false := h 2 (by decide)
    have f3 : (L == [102, 97, 108, 115, 101]) = false := h 3 (by decide)
    have f4 : (L == [105, 110, 116]) = false := h 4 (by decide)
    have f5 : (L == [110, 111, 110, 101]) = false := h 5 (by decide)
    have f6 : (L == [114, 101, 115, 111, 117, 114, 99, 101]) = false := h 6 (by decide)
    have f7 : (L == [115, 116, 114, 105, 110, 103]) = false := h 7 (by decide)
    have e : (L == [116, 114, 117, 101]) = true := he
    simp only [wordN, e, f0, f1, f2, f3, f4, f5, f6, f7]; rfl
theorem NotYet.none {L : List UInt8} (h : NotYet L 9) : 0 = wordN L := by
  have f0 : (L == [97, 110, 121]) = false := h 0 (by decide)
  have f1 : (L == [98, 111, 111, 108]) = false := h 1 (by decide)
  have f2 : (L == [99, 111, 109, 112, 117, 116, 101, 100]) = false := h 2 (by decide)
  have f3 : (L == [102, 97, 108, 115, 101]) = false := h 3 (by decide)
  have f4 : (L == [105, 110, 116]) = false := h 4 (by decide)
  have f5 : (L == [110, 111, 110, 101]) = false := h 5 (by decide)
  have f6 : (L == [114, 101, 115, 111, 117, 114, 99, 101]) = false := h 6 (by decide)
  have f7 : (L == [115, 116, 114, 105, 110, 103]) = false := h 7 (by decide)
  have f8 : (L == [116, 114, 117, 101]) = false := h 8 (by decide)
  simp only [wordN, f0, f1, f2, f3, f4, f5, f6, f7, f8]; rfl

theorem index_0 (w : World) : (Instr.index 71 (.agg #[.string { data := #[97, 110, 121] }, .string { data := #[98, 111, 111, 108] }, .string { data := #[99, 111, 109, 112, 117, 116, 101, 100] }, .string { data := #[102, 97, 108, 115, 101] }, .string { data := #[105, 110, 116] }, .string { data := #[110, 111, 110, 101] }, .string { data := #[114, 101, 115, 111, 117, 114, 99, 101] }, .string { data := #[115, 116, 114, 105, 110, 103] }, .string { data := #[116, 114, 117, 101] }]) (.int .i64 0)).run Tryd.prog w = .ok (.string { data := #[97, 110, 121] }) w := by kernel_rfl
theorem index_1 (w : World) : (Instr.index 71 (.agg #[.string { data := #[97, 110, 121] }, .string { data := #[98, 111, 111, 108] }, .string { data := #[99, 111, 109, 112, 117, 116, 101, 100] }, .string { data := #[102, 97, 108, 115, 101] }, .string { data := #[105, 110, 116] }, .string { data := #[110, 111, 110, 101] }, .string { data := #[114, 101, 115, 111, 117, 114, 99, 101] }, .string { data := #[115, 116, 114, 105, 110, 103] }, .string { data := #[116, 114, 117, 101] }]) (.int .i64 1)).run Tryd.prog w = .ok (.string { data := #[98, 111, 111, 108] }) w := by kernel_rfl
theorem index_2 (w : World) : (Instr.index 71 (.agg #[.string { data := #[97, 110, 121] }, .string { data := #[98, 111, 111, 108] }, .string { data := #[99, 111, 109, 112, 117, 116, 101, 100] }, .string { data := #[102, 97, 108, 115, 101] }, .string { data := #[105, 110, 116] }, .string { data := #[110, 111, 110, 101] }, .string { data := #[114, 101, 115, 111, 117, 114, 99, 101] }, .string { data := #[115, 116, 114, 105, 110, 103] }, .string { data := #[116, 114, 117, 101] }]) (.int .i64 2)).run Tryd.prog w = .ok (.string { data := #[99, 111, 109, 112, 117, 116, 101, 100] }) w := by kernel_rfl
theorem index_3 (w : World) : (Instr.index 71 (.agg #[.string { data := #[97, 110, 121] }, .string { data := #[98, 111, 111, 108] }, .string { data := #[99, 111, 109, 112, 117, 116, 101, 100] }, .string { data := #[102, 97, 108, 115, 101] }, .string { data := #[105, 110, 116] }, .string { data := #[110, 111, 110, 101] }, .string { data := #[114, 101, 115, 111, 117, 114, 99, 101] }, .string { data := #[115, 116, 114, 105, 110, 103] }, .string { data := #[116, 114, 117, 101] }]) (.int .i64 3)).run Tryd.prog w = .ok (.string { data := #[102, 97, 108, 115, 101] }) w := by kernel_rfl
theorem index_4 (w : World) : (Instr.index 71 (.agg #[.string { data := #[97, 110, 121] }, .string { data := #[98, 111, 111, 108] }, .string { data := #[99, 111, 109, 112, 117, 116, 101, 100] }, .string { data := #[102, 97, 108, 115, 101] }, .string { data := #[105, 110, 116] }, .string { data := #[110, 111, 110, 101] }, .string { data := #[114, 101, 115, 111, 117, 114, 99, 101] }, .string { data := #[115, 116, 114, 105, 110, 103] }, .string { data := #[116, 114, 117, 101] }]) (.int .i64 4)).run Tryd.prog w = .ok (.string { data := #[105, 110, 116] }) w := by kernel_rfl
theorem index_5 (w : World) : (Instr.index 71 (.agg #[.string { data := #[97, 110, 121] }, .string { data := #[98, 111, 111, 108] }, .string { data := #[99, 111, 109, 112, 117, 116, 101, 100] }, .string { data := #[102, 97, 108, 115, 101] }, .string { data := #[105, 110, 116] }, .string { data := #[110, 111, 110, 101] }, .string { data := #[114, 101, 115, 111, 117, 114, 99, 101] }, .string { data := #[115, 116, 114, 105, 110, 103] }, .string { data := #[116, 114, 117, 101] }]) (.int .i64 5)).run Tryd.prog w = .ok (.string { data := #[110, 111, 110, 101] }) w := by kernel_rfl
theorem index_6 (w : World) : (Instr.index 71 (.agg #[.string { data := #[97, 110, 121] }, .string { data := #[98, 111, 111, 108] }, .string { data := #[99, 111, 109, 112, 117, 116, 101, 100] }, .string { data := #[102, 97, 108, 115, 101] }, .string { data := #[105, 110, 116] }, .string { data := #[110, 111, 110, 101] }, .string { data := #[114, 101, 115, 111, 117, 114, 99, 101] }, .string { data := #[115, 116, 114, 105, 110, 103] }, .string { data := #[116, 114, 117, 101] }]) (.int .i64 6)).run Tryd.prog w = .ok (.string { data := #[114, 101, 115, 111, 117, 114, 99, 101] }) w := by kernel_rfl
theorem index_7 (w : World) : (Instr.index 71 (.agg #[.string { data := #[97, 110, 121] }, .string { data := #[98, 111, 111, 108] }, .string { data := #[99, 111, 109, 112, 117, 116, 101, 100] }, .string { data := #[102, 97, 108, 115, 101] }, .string { data := #[105, 110, 116] }, .string { data := #[110, 111, 110, 101] }, .string { data := #[114, 101, 115, 111, 117, 114, 99, 101] }, .string { data := #[115, 116, 114, 105, 110, 103] }, .string { data := #[116, 114, 117, 101] }]) (.int .i64 7)).run Tryd.prog w = .ok (.string { data := #[115, 116, 114, 105, 110, 103] }) w := by kernel_rfl
theorem index_8 (w : World) : (Instr.index 71 (.agg #[.string { data := #[97, 110, 121] }, .string { data := #[98, 111, 111, 108] }, .string { data := #[99, 111, 109, 112, 117, 116, 101, 100] }, .string { data := #[102, 97, 108, 115, 101] }, .string { data := #[105, 110, 116] }, .string { data := #[110, 111, 110, 101] }, .string { data := #[114, 101, 115, 111, 117, 114, 99, 101] }, .string { data := #[115, 116, 114, 105, 110, 103] }, .string { data := #[116, 114, 117, 101] }]) (.int .i64 8)).run Tryd.prog w = .ok (.string { data := #[116, 114, 117, 101] }) w := by kernel_rfl

set_option maxHeartbeats 2000000 in
theorem word_any (s : ByteArray) (w : World) (hE : Env w) : Calls Tryd.prog 19 #[.string s] w fun e w' => e = .returned (.int .i64 (wordN s.toList)) ∧ w = w' := by
  have c0 : w.cell? ⟨0, 0, none⟩ = some (.string { data := #[97, 110, 121] }) := hE.words 0 (by decide)
  have c1 : w.cell? ⟨0, 1, none⟩ = some (.string { data := #[98, 111, 111, 108] }) := hE.words 1 (by decide)
  have c2 : w.cell? ⟨0, 2, none⟩ = some (.string { data := #[99, 111, 109, 112, 117, 116, 101, 100] }) := hE.words 2 (by decide)
  have c3 : w.cell? ⟨0, 3, none⟩ = some (.string { data := #[102, 97, 108, 115, 101] }) := hE.words 3 (by decide)
  have c4 : w.cell? ⟨0, 4, none⟩ = some (.string { data := #[105, 110, 116] }) := hE.words 4 (by decide)
  have c5 : w.cell? ⟨0, 5, none⟩ = some (.string { data := #[110, 111, 110, 101] }) := hE.words 5 (by decide)
  have c6 : w.cell? ⟨0, 6, none⟩ = some (.string { data := #[114, 101, 115, 111, 117, 114, 99, 101] }) := hE.words 6 (by decide)
  have c7 : w.cell? ⟨0, 7, none⟩ = some (.string { data := #[115, 116, 114, 105, 110, 103] }) := hE.words 7 (by decide)
  have c8 : w.cell? ⟨0, 8, none⟩ = some (.string { data := #[116, 114, 117, 101] }) := hE.words 8 (by decide)
  clear hE
  go_enter Tryd.func19, Tryd.ntmps19
  go_wp2
  clear c0 c1 c2 c3 c4 c5 c6 c7 c8
  go_loop [6] (fun i => ∃ k : Nat, k ≤ 9 ∧ i = .int .i64 k ∧ NotYet s.toList k) (fun i => 9 - (intOf i).toNat)
  case atStart => exact ⟨0, by omega, rfl, NotYet.first _⟩
  case round =>
    obtain ⟨k, hk, rfl, hN⟩ := hrel
    have H := Lib.hid hN
    clear hN
    have x0 := fun w => index_0 w
    have x1 := fun w => index_1 w
    have x2 := fun w => index_2 w
    have x3 := fun w => index_3 w
    have x4 := fun w => index_4 w
    have x5 := fun w => index_5 w
    have x6 := fun w => index_6 w
    have x7 := fun w => index_7 w
    have x8 := fun w => index_8 w
    obtain rfl | rfl | rfl | rfl | rfl | rfl | rfl | rfl | rfl | rfl : k = 0 ∨ k = 1 ∨ k = 2 ∨ k = 3 ∨ k = 4 ∨ k = 5 ∨ k = 6 ∨ k = 7 ∨ k = 8 ∨ k = 9 := by omega
    all_goals
      go_wp2
      all_goals first
        | (go_round
           case rel => exact ⟨_, by decide, by rfl, H.out.succ ‹_›⟩
           case measure => simp [intOf])
        | (go_ret
           exact ⟨ret_int (H.out.word (by decide) ‹_›), rfl⟩)
        | (go_ret
           exact ⟨ret_int H.out.none, rfl⟩)
end Go.Proofs.YtlpilbghblbpbaaDoor.Nm
/- WALKS of name.letter, inner, Right and of the reference's Right. -/
namespace Go.Proofs.YtlpilbghblbpbaaDoor.Nm
open Go.RowKit

set_option maxHeartbeats 400000 in
theorem letter_any (r : Int) (w : World) : Calls Tryd.prog 17 #[.int .i32 r] w fun e w' => e = .returned (.bool (letB r)) ∧ w = w' := by
  by_cases h1 : 97 ≤ r <;> by_cases h2 : r ≤ 122
  all_goals
    go_enter Tryd.func17, Tryd.ntmps17
    go_wp2
    go_ret
    exact ⟨ret_bool (by simp [letB]; omega), rfl⟩
set_option maxHeartbeats 400000 in
theorem inner_any (r : Int) (w : World) : Calls Tryd.prog 18 #[.int .i32 r] w fun e w' => e = .returned (.bool (innB r)) ∧ w = w' := by
  by_cases h1 : 48 ≤ r <;> by_cases h2 : r ≤ 57 <;> cases h3 : (r == 95)
  all_goals
    have h4 := Lib.hid h3
    go_enter Tryd.func18, Tryd.ntmps18
    go_wp2
    go_ret
    refine ⟨ret_bool ?_, rfl⟩
    have h5 := h4.out
    simp at h5
    unfold innB
    first
      | exact (decide_eq_true (by omega)).symm
      | exact (decide_eq_false (by omega)).symm

theorem letter_as (r : Int) (b : Bool) (w : World) (h : Hid (letB r = b)) : Calls Tryd.prog 17 #[.int .i32 r] w fun e w' => e = .returned (.bool b) ∧ w = w' := by
  rw [← h.out]; exact letter_any r w
theorem inner_as (r : Int) (b : Bool) (w : World) (h : Hid (innB r = b)) : Calls Tryd.prog 18 #[.int .i32 r] w fun e w' => e = .returned (.bool b) ∧ w = w' := by
  rw [← h.out]; exact inner_any r w
theorem word_in (s : ByteArray) (pos : Nat) (w : World) (hE : Hid (Env w)) (t : ByteArray) : Calls Tryd.prog 19 #[.string t] (w.iter s pos) fun e w' => e = .returned (.int .i64 (wordN t.toList)) ∧ w.iter s pos = w' :=
  word_any t _ (hE.out.below ((Below.refl _ _).alloc (Nat.le_refl _) _))
/-- What the range hands over at a byte, and whether it may stand there. -/
theorem rune_at (s : ByteArray) (pos : Nat) (hp : pos < s.size) : ∃ (r : Int) (d : Nat), (Utf8.decode s pos).1 = r ∧ (Utf8.decode s pos).2 = d ∧ 0 ≤ r ∧ r ≤ 2147483647 ∧ 1 ≤ d ∧
    ((letB r = false ∧ innB r = false ∧ letB (s[pos].toNat : Int) = false ∧ innB (s[pos].toNat : Int) = false) ∨
     (letB r = false ∧ innB r = true ∧ d = 1 ∧ letB (s[pos].toNat : Int) = false ∧ innB (s[pos].toNat : Int) = true) ∨
     (letB r = true ∧ d = 1 ∧ letB (s[pos].toNat : Int) = true)) := by
  by_cases ha : s[pos].toNat < 128
  · rw [decode_ascii s pos hp ha]
    refine ⟨(s[pos].toNat : Int), 1, rfl, rfl, by omega, by omega, by omega, ?_⟩
    cases e1 : letB (s[pos].toNat : Int)
    · cases e2 : innB (s[pos].toNat : Int)
      · exact .inl ⟨rfl, rfl, rfl, rfl⟩
      · exact .inr (.inl ⟨rfl, rfl, rfl, rfl, rfl⟩)
    · exact .inr (.inr ⟨rfl, rfl, rfl⟩)
  · have hh := decode_high s pos hp (by omega)
    have n1 : ∀ r : Int, 128 ≤ r → letB r = false ∧ innB r = false := fun r hr => ⟨decide_eq_false (by omega), decide_eq_false (by omega)⟩
    refine ⟨_, _, rfl, rfl, by omega, by have := decode_le s pos; omega, hh.2, .inl ⟨(n1 _ (by omega)).1, (n1 _ (by omega)).2, (n1 _ (by omega)).1, (n1 _ (by omega)).2⟩⟩

set_option maxHeartbeats 1000000 in
theorem right_any (s : ByteArray) (w : World) (hE : Env w) (hs : s.size ≤ maxLen) : Calls Tryd.prog 9 #[.string s] w fun e w' => e = .returned (.bool (rightL s.toList)) ∧ Below w.heap.size w w' := by
  have HE := Lib.hid hE
  clear hE
  unfold maxLen at hs
  by_cases h0 : 0 < s.size
  · have hn := list_ne s h0
    have hi := list_isE s h0
    by_cases h16 : 16 < s.size
    · go_enter Tryd.func9, Tryd.ntmps9
      go_wp2
      go_ret
      exact ⟨ret_bool (right_empty (.inr (by rw [← size_list]; exact h16))).symm, Below.refl _ _⟩
    · go_enter Tryd.func9, Tryd.ntmps9
      go_wp2
      go_loopw [] (fun wr => ∃ pos : Nat, pos ≤ s.size ∧ wr = w.iter s pos ∧ Good s pos) (fun wr => s.size - wr.iterPos w.heap.size)
      case atStart => exact ⟨0, by omega, rfl, Good.first s⟩
      case round =>
        obtain ⟨pos, hle, rfl, hG⟩ := hrel
        have G := Lib.hid hG
        clear hG
        by_cases hp : pos < s.size
        · obtain ⟨r, d, er, ed, r0, r1, d1, hc⟩ := rune_at s pos hp
          have hnx : ∀ ty, (Instr.next (.pointer (some ⟨w.heap.size, 0, none⟩)) true ty).run Tryd.prog (w.iter s pos) = .ok (.tuple #[.bool true, .int .i64 pos, .int .i32 r]) (w.iter s (pos + d)) := fun ty => by
            rw [run_next_any w s pos ty hp, ← er, ← ed]
          clear er ed
          rcases hc with ⟨l1, l2, l3, l4⟩ | ⟨l1, l2, rfl, l3, l4⟩ | ⟨l1, rfl, l3⟩
          · have L1 := Lib.hid l1
            have L2 := Lib.hid l2
            have HB := Lib.hid (right_bad hp l3 (.inr l4))
            clear l1 l2 l3 l4
            go_wp2_with (first
              | (go_at_call 17; refine (letter_as _ _ _ L1).mono ?_; rintro e w' ⟨rfl, rfl⟩)
              | (go_at_call 18; refine (inner_as _ _ _ L2).mono ?_; rintro e w' ⟨rfl, rfl⟩))
            all_goals
              go_ret
              exact ⟨ret_bool HB.out.symm, (Below.refl _ _).alloc (Nat.le_refl _) _⟩
          · have L1 := Lib.hid l1
            have L2 := Lib.hid l2
            have L3 := Lib.hid l3
            have L4 := Lib.hid l4
            clear l1 l2 l3 l4
            go_wp2_with (first
              | (go_at_call 17; refine (letter_as _ _ _ L1).mono ?_; rintro e w' ⟨rfl, rfl⟩)
              | (go_at_call 18; refine (inner_as _ _ _ L2).mono ?_; rintro e w' ⟨rfl, rfl⟩))
            all_goals first
              | (go_roundw
                 case rel => exact ⟨pos + 1, by omega, rfl, G.out.succ hp (.inr ⟨‹¬ pos = 0›, L4.out⟩)⟩
                 case measure => simp; omega)
              | (go_ret
                 exact ⟨ret_bool (right_bad hp L3.out (.inl ‹pos = 0›)).symm, (Below.refl _ _).alloc (Nat.le_refl _) _⟩)
          · have L1 := Lib.hid l1
            have L2 := Lib.hid (rfl : innB r = innB r)
            have HG := Lib.hid (G.out.succ hp (.inl l3))
            clear l1 l3
            go_wp2_with (first
              | (go_at_call 17; refine (letter_as _ _ _ L1).mono ?_; rintro e w' ⟨rfl, rfl⟩)
              | (go_at_call 18; refine (inner_as _ _ _ L2).mono ?_; rintro e w' ⟨rfl, rfl⟩))
            go_roundw
            case rel => exact ⟨pos + 1, by omega, rfl, HG.out⟩
            case measure => simp; omega
        · have hnx : ∀ ty, (Instr.next (.pointer (some ⟨w.heap.size, 0, none⟩)) true ty).run Tryd.prog (w.iter s pos) = _ := fun ty => run_next_end w s pos ty hp
          obtain rfl : pos = s.size := by omega
          have HR := Lib.hid (right_end h0 (by omega) G.out)
          go_wp2_with (go_at_call 19; refine (word_in _ _ _ HE _).mono ?_; rintro e w' ⟨rfl, rfl⟩)
          go_ret
          exact ⟨ret_bool HR.out.symm, (Below.refl _ _).alloc (Nat.le_refl _) _⟩
  · have hn := list_nil s h0
    go_enter Tryd.func9, Tryd.ntmps9
    go_wp2
    go_ret
    exact ⟨ret_bool (right_empty (.inl (by rw [← size_list]; omega))).symm, Below.refl _ _⟩
end Go.Proofs.YtlpilbghblbpbaaDoor.Nm
/- WALKS of the reference's Right, of name.Path, the reference's Path, and few. -/
namespace Go.Proofs.YtlpilbghblbpbaaDoor.Nm
open Go.RowKit

theorem letB_yes {r : Int} (h : letB r = true) : 97 ≤ r ∧ r ≤ 122 := of_decide_eq_true h
theorem letB_no {r : Int} (h : letB r = false) : r < 97 ∨ 122 < r := by have := of_decide_eq_false h; omega
theorem innB_yes {r : Int} (h : innB r = true) : (48 ≤ r ∧ r ≤ 57) ∨ r = 95 := of_decide_eq_true h
theorem innB_no {r : Int} (h : innB r = false) : ¬ ((48 ≤ r ∧ r ≤ 57) ∨ r = 95) := of_decide_eq_false h
theorem letB_mk {r : Int} (h : 97 ≤ r ∧ r ≤ 122) : letB r = true := decide_eq_true h
theorem innB_mk {r : Int} (h : (48 ≤ r ∧ r ≤ 57) ∨ r = 95) : innB r = true := decide_eq_true h
theorem letB_mkno {r : Int} (h : ¬ (97 ≤ r ∧ r ≤ 122)) : letB r = false := decide_eq_false h
theorem innB_mkno {r : Int} (h : ¬ ((48 ≤ r ∧ r ≤ 57) ∨ r = 95)) : innB r = false := decide_eq_false h
theorem rword_as (s : ByteArray) (v : Int) (w : World) (h : Hid (wordN s.toList = v)) : Calls Tryd.prog 42 #[.string s] w fun e w' => e = .returned (.int .i64 v) ∧ w = w' := by
  rw [← h.out]; exact rword_any s w
theorem right_first {s : ByteArray} (h0 : 0 < s.size) (h1 : (s[0].toNat : Int) < 97 ∨ 122 < (s[0].toNat : Int)) : rightL s.toList = false :=
  right_bad h0 (letB_mkno (by omega)) (.inl rfl)
theorem right_all {s : ByteArray} (h0 : 0 < s.size) (h1 : s.size ≤ 16) (hg : Good s s.size) (hw : wordN s.toList = 0) : true = rightL s.toList := by
  rw [right_end h0 h1 hg, hw]; rfl

theorem byte_cases (c : Int) : ((97 ≤ c ∧ c ≤ 122) ∧ (c != 95) = true) ∨ ((48 ≤ c ∧ c ≤ 57) ∧ (c != 95) = true) ∨ ((57 < c ∧ c < 97) ∧ (c != 95) = false) ∨ ((c < 48 ∨ (57 < c ∧ c < 97) ∨ 122 < c) ∧ (c != 95) = true) := by
  by_cases h : c = 95
  · subst h; right; right; left; decide
  · have e : (c != 95) = true := by simpa using h
    rw [e]; simp; omega
set_option maxHeartbeats 2000000 in
theorem rright_any (s : ByteArray) (w : World) (hs : s.size ≤ maxLen) : Calls Tryd.prog 27 #[.string s] w fun e w' => e = .returned (.bool (rightL s.toList)) ∧ w = w' := by
  unfold maxLen at hs
  by_cases h0 : 0 < s.size
  · by_cases h16 : 16 < s.size
    · go_enter Tryd.func27, Tryd.ntmps27
      go_wp2
      go_ret
      exact ⟨ret_bool (right_empty (.inr (by rw [← size_list]; exact h16))).symm, rfl⟩
    · obtain ⟨v, hv⟩ : ∃ v, wordN s.toList = v := ⟨_, rfl⟩
      have hv0 := wordN_nonneg s.toList
      rw [hv] at hv0
      have HV := Lib.hid hv
      clear hv
      by_cases hp : 0 < v
      · go_enter Tryd.func27, Tryd.ntmps27
        go_wp2_with (go_at_call 42; refine (rword_as _ _ _ HV).mono ?_; rintro e w' ⟨rfl, rfl⟩)
        go_ret
        exact ⟨ret_bool (right_word (by rw [HV.out]; exact hp)).symm, rfl⟩
      · have HW := Lib.hid (show wordN s.toList = 0 by rw [HV.out]; omega)
        by_cases hf : 97 ≤ (s[0].toNat : Int) ∧ (s[0].toNat : Int) ≤ 122
        · have G1 : Good s 1 := (Good.first s).succ h0 (.inl (letB_mk hf))
          have HG1 := Lib.hid G1
          obtain ⟨f1, f2⟩ := hf
          clear G1
          go_enter Tryd.func27, Tryd.ntmps27
          go_wp2_with (go_at_call 42; refine (rword_as _ _ _ HV).mono ?_; rintro e w' ⟨rfl, rfl⟩)
          go_loop [3] (fun i => ∃ k : Nat, 1 ≤ k ∧ k ≤ s.size ∧ i = .int .i64 k ∧ Good s k) (fun i => s.size - (intOf i).toNat)
          case atStart => exact ⟨1, by omega, by omega, rfl, HG1.out⟩
          case round =>
            obtain ⟨k, hk1, hk, rfl, hG⟩ := hrel
            have G := Lib.hid hG
            clear hG
            by_cases hlt : k < s.size
            · obtain ⟨c, hc⟩ : ∃ c : Int, (s[k].toNat : Int) = c := ⟨_, rfl⟩
              have HC := Lib.hid hc
              rcases byte_cases c with ⟨g1, g2⟩ | ⟨g1, g2⟩ | ⟨g1, g2⟩ | ⟨g1, g2⟩
              · have HG := Lib.hid (G.out.succ hlt (.inl (by rw [hc]; exact letB_mk g1)))
                obtain ⟨g3, g4⟩ := g1
                go_wp2
                go_round
                case rel => exact ⟨k + 1, by omega, by omega, by go_num, HG.out⟩
                case measure => simp [intOf]; omega
              · have HG := Lib.hid (G.out.succ hlt (.inr ⟨by omega, by rw [hc]; exact innB_mk (.inl g1)⟩))
                obtain ⟨g3, g4⟩ := g1
                go_wp2
                go_round
                case rel => exact ⟨k + 1, by omega, by omega, by go_num, HG.out⟩
                case measure => simp [intOf]; omega
              · have HG := Lib.hid (G.out.succ hlt (.inr ⟨by omega, by rw [hc]; exact innB_mk (.inr (by simpa using g2))⟩))
                go_wp2
                go_round
                case rel => exact ⟨k + 1, by omega, by omega, by go_num, HG.out⟩
                case measure => simp [intOf]; omega
              · have hne : c ≠ 95 := by simpa using g2
                have HB := Lib.hid (right_bad hlt (by rw [hc]; exact letB_mkno (by omega)) (.inr (by rw [hc]; exact innB_mkno (by omega))))
                clear hne
                rcases g1 with g1 | ⟨g1, g1'⟩ | g1
                · go_wp2
                  go_ret
                  exact ⟨ret_bool HB.out.symm, rfl⟩
                · have d1 : decide (c ≤ 57) = false := decide_eq_false (by omega)
                  go_wp2
                  go_ret
                  exact ⟨ret_bool HB.out.symm, rfl⟩
                · have d1 : decide (c ≤ 57) = false := decide_eq_false (by omega)
                  have d2 : decide (c ≤ 122) = false := decide_eq_false (by omega)
                  go_wp2
                  go_ret
                  exact ⟨ret_bool HB.out.symm, rfl⟩
            · obtain rfl : k = s.size := by omega
              go_wp2
              go_ret
              exact ⟨ret_bool (right_all h0 (by omega) G.out HW.out), rfl⟩
        · have HB := Lib.hid (right_first h0 (by omega))
          have hf2 : (s[0].toNat : Int) < 97 ∨ (¬ (s[0].toNat : Int) < 97 ∧ 122 < (s[0].toNat : Int)) := by omega
          clear hf
          rcases hf2 with hf2 | ⟨hf2, hf3⟩
          all_goals
            go_enter Tryd.func27, Tryd.ntmps27
            go_wp2_with (go_at_call 42; refine (rword_as _ _ _ HV).mono ?_; rintro e w' ⟨rfl, rfl⟩)
            go_ret
            exact ⟨ret_bool HB.out.symm, rfl⟩
  · go_enter Tryd.func27, Tryd.ntmps27
    go_wp2
    go_ret
    exact ⟨ret_bool (right_empty (.inl (by rw [← size_list]; omega))).symm, rfl⟩
end Go.Proofs.YtlpilbghblbpbaaDoor.Nm
/- WALKS of name.Path, of the reference's Path, and of few. -/
namespace Go.Proofs.YtlpilbghblbpbaaDoor.Nm
open Go.RowKit

/-- A slice of texts in memory: xs are its elements. -/
structure StrRow (w : World) (a : Option Addr) (len : Nat) (xs : List ByteArray) : Prop where
  count : xs.length = len
  max : len ≤ 140737488355328
  each : ∀ (i : Nat) (x : ByteArray), xs[i]? = some x → x.size ≤ 140737488355328
  at_ : 0 < len → ∃ b off, a = some ⟨b, off, none⟩ ∧ b < w.heap.size ∧ ∀ (i : Nat) (x : ByteArray), xs[i]? = some x → w.cell? ⟨b, off + i, none⟩ = some (.string x)
theorem StrRow.below {w w' : World} {a : Option Addr} {len : Nat} {xs : List ByteArray} (h : StrRow w a len xs) (hb : Below w.heap.size w w') : StrRow w' a len xs := by
  obtain ⟨h1, h2, h3, h4⟩ := h
  refine ⟨h1, h2, h3, fun h0 => ?_⟩
  obtain ⟨b, off, e, hlt, hc⟩ := h4 h0
  exact ⟨b, off, e, Nat.lt_of_lt_of_le hlt hb.size, fun i x hx => by rw [hb.cell (p := ⟨b, off + i, none⟩) hlt]; exact hc i x hx⟩
theorem right_as (s : ByteArray) (b : Bool) (w : World) (hE : Env w) (hs : s.size ≤ 140737488355328) (hb : Hid (rightL s.toList = b)) : Calls Tryd.prog 9 #[.string s] w fun e w' => e = .returned (.bool b) ∧ Below w.heap.size w w' := by
  rw [← hb.out]; exact right_any s w hE (by unfold maxLen; omega)
theorem rright_as (s : ByteArray) (b : Bool) (w : World) (hs : s.size ≤ 140737488355328) (hb : Hid (rightL s.toList = b)) : Calls Tryd.prog 27 #[.string s] w fun e w' => e = .returned (.bool b) ∧ w = w' := by
  rw [← hb.out]; exact rright_any s w (by unfold maxLen; omega)
end Go.Proofs.YtlpilbghblbpbaaDoor.Nm
/- AN EXPRESSION IN MEMORY, told; its parts; all of them in order. -/
namespace Go.Proofs.YtlpilbghblbpbaaDoor
open Go.RowKit Go.Shelf
inductive Ex where
  | mk (op n : Int) (s : ByteArray) (path : List ByteArray) (ps : List (ByteArray × Ex)) (o : Bool) (ks : List Ex) : Ex
def Ex.op : Ex → Int | .mk op _ _ _ _ _ _ => op
def Ex.path : Ex → List ByteArray | .mk _ _ _ p _ _ _ => p
def Ex.ps : Ex → List (ByteArray × Ex) | .mk _ _ _ _ ps _ _ => ps
def Ex.ks : Ex → List Ex | .mk _ _ _ _ _ _ ks => ks
/-- An expression's seven fields as they lie. -/
structure Hd where
  op : Int
  n : Int
  s : ByteArray
  p : Option Addr
  pl : Nat
  pc : Nat
  q : Option Addr
  ql : Nat
  qc : Nat
  o : Bool
  k : Option Addr
  kl : Nat
  kc : Nat
def Hd.vals (h : Hd) : Array Value := #[.int .i64 h.op, .int .i64 h.n, .string h.s, .slice h.p h.pl h.pc, .slice h.q h.ql h.qc, .bool h.o, .slice h.k h.kl h.kc]
def Hd.agg (h : Hd) : Value := .agg #[.int .i64 h.op, .int .i64 h.n, .string h.s, .slice h.p h.pl h.pc, .slice h.q h.ql h.qc, .bool h.o, .slice h.k h.kl h.kc]
/-- They lie at a place. -/
structure HdAt (w : World) (b off : Nat) (h : Hd) : Prop where
  c0 : w.cell? ⟨b, off, none⟩ = some (.int .i64 h.op)
  c1 : w.cell? ⟨b, off + 1, none⟩ = some (.int .i64 h.n)
  c2 : w.cell? ⟨b, off + 2, none⟩ = some (.string h.s)
  c3 : w.cell? ⟨b, off + 3, none⟩ = some (.slice h.p h.pl h.pc)
  c4 : w.cell? ⟨b, off + 4, none⟩ = some (.slice h.q h.ql h.qc)
  c5 : w.cell? ⟨b, off + 5, none⟩ = some (.bool h.o)
  c6 : w.cell? ⟨b, off + 6, none⟩ = some (.slice h.k h.kl h.kc)
/-- A list of expressions in memory. -/
structure InKs (I : Hd → Ex → Prop) (w : World) (a : Option Addr) (l : Nat) (ks : List Ex) : Prop where
  count : ks.length = l
  max : l ≤ 140737488355328
  at_ : ∀ i (h : i < ks.length), ∃ (b off : Nat) (x : Hd), a = some ⟨b, off, none⟩ ∧ b < w.heap.size ∧ HdAt w b (off + i * 7) x ∧ I x ks[i]
/-- A list of pairs. -/
structure InPs (I : Hd → Ex → Prop) (w : World) (a : Option Addr) (l : Nat) (ps : List (ByteArray × Ex)) : Prop where
  count : ps.length = l
  max : l ≤ 140737488355328
  at_ : ∀ i (h : i < ps.length), ∃ (b off : Nat) (x : Hd), a = some ⟨b, off, none⟩ ∧ b < w.heap.size ∧ ps[i].1.size ≤ 140737488355328 ∧ w.cell? ⟨b, off + i * 8, none⟩ = some (.string ps[i].1) ∧ HdAt w b (off + i * 8 + 1) x ∧ I x ps[i].2
/-- An expression lies in a world, so deep at most. -/
def InX (w : World) : Nat → Hd → Ex → Prop
  | 0, _, _ => False
  | n + 1, h, .mk op m s path ps o ks => h.op = op ∧ h.n = m ∧ h.s = s ∧ h.o = o ∧ s.size ≤ 140737488355328 ∧ Nm.StrRow w h.p h.pl path ∧ InPs (InX w n) w h.q h.ql ps ∧ InKs (InX w n) w h.k h.kl ks
theorem HdAt.below {w w' : World} {b off : Nat} {h : Hd} (hh : HdAt w b off h) (hb : Below w.heap.size w w') (lt : b < w.heap.size) : HdAt w' b off h := by
  have e : ∀ i, w'.cell? ⟨b, i, none⟩ = w.cell? ⟨b, i, none⟩ := fun i => hb.cell (p := ⟨b, i, none⟩) lt
  exact ⟨(e _).trans hh.c0, (e _).trans hh.c1, (e _).trans hh.c2, (e _).trans hh.c3, (e _).trans hh.c4, (e _).trans hh.c5, (e _).trans hh.c6⟩
theorem InKs.below {I J : Hd → Ex → Prop} (hIJ : ∀ h e, I h e → J h e) {w w' : World} (hb : Below w.heap.size w w') {a : Option Addr} {l : Nat} {ks : List Ex} (h : InKs I w a l ks) : InKs J w' a l ks :=
  ⟨h.count, h.max, fun i hi => by
    obtain ⟨b, off, x, e, lt, hx, hI⟩ := h.at_ i hi
    exact ⟨b, off, x, e, Nat.lt_of_lt_of_le lt hb.size, hx.below hb lt, hIJ _ _ hI⟩⟩
theorem InPs.below {I J : Hd → Ex → Prop} (hIJ : ∀ h e, I h e → J h e) {w w' : World} (hb : Below w.heap.size w w') {a : Option Addr} {l : Nat} {ps : List (ByteArray × Ex)} (h : InPs I w a l ps) : InPs J w' a l ps :=
  ⟨h.count, h.max, fun i hi => by
    obtain ⟨b, off, x, e, lt, hz, hc, hx, hI⟩ := h.at_ i hi
    exact ⟨b, off, x, e, Nat.lt_of_lt_of_le lt hb.size, hz, (hb.cell (p := ⟨b, off + i * 8, none⟩) lt).trans hc, hx.below hb lt, hIJ _ _ hI⟩⟩
theorem InX.below {w w' : World} (hb : Below w.heap.size w w') : ∀ {n : Nat} {h : Hd} {e : Ex}, InX w n h e → InX w' n h e
  | 0, _, _, h => h.elim
  | _ + 1, _, .mk _ _ _ _ _ _ _, ⟨h1, h2, h3, h4, hz, h5, h6, h7⟩ => ⟨h1, h2, h3, h4, hz, h5.below hb, h6.below (fun _ _ h => InX.below hb h) hb, h7.below (fun _ _ h => InX.below hb h) hb⟩
theorem InX.pos {w : World} : ∀ {n : Nat} {h : Hd} {e : Ex}, InX w n h e → ∃ m, n = m + 1
  | 0, _, _, h => h.elim
  | n + 1, _, _, _ => ⟨n, rfl⟩
/-- The words' parts. -/
def Ex.parts (e : Ex) : List Ex := if e.op = 10 then e.ps.map (·.2) else e.ks
/-- All expressions in order, so deep at most. -/
def allN : Nat → Ex → List Ex
  | 0, _ => []
  | n + 1, e => e :: e.parts.flatMap (allN n)
abbrev HX := Hd × Ex
def encX (x : HX) : Array Value := #[x.1.agg]
def FitX (w : World) (n : Nat) (x : HX) : Prop := InX w n x.1 x.2
/-- It lies there, and comes next. -/
def FitP (w : World) (n : Nat) (L : List Ex) (pre : List HX) (x : HX) : Prop := FitX w n x ∧ (pre ++ [x]).map (·.2) <+: L
def FitA (w : World) (L : List Ex) (pre : List HX) (x : HX) : Prop := (∃ n, FitX w n x) ∧ (pre ++ [x]).map (·.2) <+: L
end Go.Proofs.YtlpilbghblbpbaaDoor
/- WALKS of num.In, the reference's In, expr's number and empty. -/
namespace Go.Proofs.YtlpilbghblbpbaaDoor
open Go.RowKit
def inB (n : Int) : Bool := decide (-9007199254740992 ≤ n) && decide (n ≤ 9007199254740992)
theorem ret_bool {a b : Bool} (h : a = b) : Ending.returned (.bool a) = .returned (.bool b) := by rw [h]
theorem ret_int {a b : Int} (h : a = b) : Ending.returned (.int .i64 a) = .returned (.int .i64 b) := by rw [h]
set_option maxHeartbeats 400000 in
theorem in_any (n : Int) (w : World) : Calls Tryd.prog 69 #[.int .i64 n] w fun e w' => e = .returned (.bool (inB n)) ∧ w = w' := by
  by_cases h1 : -9007199254740992 ≤ n <;> by_cases h2 : n ≤ 9007199254740992
  all_goals
    go_enter Tryd.func69, Tryd.ntmps69
    go_wp2
    go_ret
    exact ⟨ret_bool (by simp [inB, h1, h2]), rfl⟩
set_option maxHeartbeats 400000 in
theorem rin_any (n : Int) (w : World) : Calls Tryd.prog 53 #[.int .i64 n] w fun e w' => e = .returned (.bool (inB n)) ∧ w = w' := by
  by_cases h1 : -9007199254740992 ≤ n <;> by_cases h2 : n ≤ 9007199254740992
  all_goals
    go_enter Tryd.func53, Tryd.ntmps53
    go_wp2
    go_ret
    exact ⟨ret_bool (by simp [inB, h1, h2]), rfl⟩
def numB (op n : Int) : Bool := if op = 1 ∨ op = 7 ∨ op = 8 then inB n else if op = 3 then decide (n = 0) || decide (n = 1) else if op = 4 then decide (n = 1) || decide (n = 2) || decide (n = 3) || decide (n = 5) else decide (n = 0)
theorem eq_no {a b : Int} (h : ¬ a = b) : (a == b) = false := by simpa using h
set_option maxHeartbeats 1000000 in
theorem number_any (op n : Int) (w : World) : Calls Tryd.prog 61 #[.int .i64 op, .int .i64 n] w fun e w' => e = .returned (.bool (numB op n)) ∧ w = w' := by
  have hI := fun n W => Lib.hid (in_any n W)
  by_cases h : op = 1 ∨ op = 7 ∨ op = 8
  · rcases h with rfl | rfl | rfl
    all_goals
      go_enter Tryd.func61, Tryd.ntmps61
      go_wp2_with (go_at_call 69; refine (hI _ _).out.mono ?_; rintro e w' ⟨rfl, rfl⟩)
      go_ret
      exact ⟨ret_bool (by simp [numB]), rfl⟩
  · by_cases h3 : op = 3
    · subst h3
      by_cases n0 : n = 0
      · subst n0
        go_enter Tryd.func61, Tryd.ntmps61
        go_wp2
        go_ret
        exact ⟨rfl, rfl⟩
      · have e0 := eq_no n0
        go_enter Tryd.func61, Tryd.ntmps61
        go_wp2
        go_ret
        exact ⟨ret_bool (by simp [numB, n0]; rfl), rfl⟩
    · by_cases h4 : op = 4
      · subst h4
        by_cases n1 : n = 1
        · subst n1
          go_enter Tryd.func61, Tryd.ntmps61
          go_wp2
          go_ret
          exact ⟨rfl, rfl⟩
        · by_cases n2 : n = 2
          · subst n2
            go_enter Tryd.func61, Tryd.ntmps61
            go_wp2
            go_ret
            exact ⟨rfl, rfl⟩
          · by_cases n3 : n = 3
            · subst n3
              go_enter Tryd.func61, Tryd.ntmps61
              go_wp2
              go_ret
              exact ⟨rfl, rfl⟩
            · have e1 := eq_no n1
              have e2 := eq_no n2
              have e3 := eq_no n3
              go_enter Tryd.func61, Tryd.ntmps61
              go_wp2
              go_ret
              exact ⟨ret_bool (by simp [numB, n1, n2, n3]; rfl), rfl⟩
      · have e1 := eq_no (show ¬ op = 1 from fun e => h (.inl e))
        have e7 := eq_no (show ¬ op = 7 from fun e => h (.inr (.inl e)))
        have e8 := eq_no (show ¬ op = 8 from fun e => h (.inr (.inr e)))
        have e3 := eq_no h3
        have e4 := eq_no h4
        have HB := Lib.hid (show numB op n = decide (n = 0) by unfold numB; rw [if_neg h, if_neg h3, if_neg h4])
        clear h h3 h4
        go_enter Tryd.func61, Tryd.ntmps61
        go_wp2
        go_ret
        exact ⟨ret_bool (by rw [HB.out]; rfl), rfl⟩
/-- Nothing but the operation. -/
def emB (n : Int) (sz : Nat) (o : Bool) (pl ql kl : Nat) : Bool := decide (n = 0) && decide (sz = 0) && !o && decide (pl = 0) && decide (ql = 0) && decide (kl = 0)
theorem size_nil {s : ByteArray} (h : s.size = 0) : s = ⟨#[]⟩ := by
  cases s with
  | mk d => congr 1; exact Array.eq_empty_of_size_eq_zero h
set_option maxHeartbeats 4000000 in
theorem empty_any (h : Hd) (w : World) (h1 : h.pl ≤ 140737488355328) (h2 : h.ql ≤ 140737488355328) (h3 : h.kl ≤ 140737488355328) : Calls Tryd.prog 62 #[h.agg] w fun e w' => e = .returned (.bool (emB h.n h.s.size h.o h.pl h.ql h.kl)) ∧ Below w.heap.size w w' := by
  obtain ⟨op, nn, s, p, pl, pc, q, ql, qc, o, k, kl, kc⟩ := h
  unfold Hd.agg
  dsimp only at h1 h2 h3 ⊢
  by_cases n0 : nn = 0
  · subst n0
    by_cases s0 : s.size = 0
    · obtain rfl := size_nil s0
      cases o
      · by_cases p0 : pl = 0
        · subst p0
          by_cases q0 : ql = 0
          · subst q0
            by_cases k0 : kl = 0
            · subst k0
              go_enter Tryd.func62, Tryd.ntmps62
              go_wp2
              go_ret
              exact ⟨rfl, (Below.refl _ w).alloc (Nat.le_refl _) _⟩
            · have hk : 0 < kl := by omega
              have HB := Lib.hid (show emB 0 (ByteArray.size ⟨#[]⟩) false 0 0 kl = false by simp [emB, k0])
              have e0 : ((kl : Int) == 0) = false := by simpa using k0
              clear k0
              go_enter Tryd.func62, Tryd.ntmps62
              go_wp2
              go_ret
              exact ⟨ret_bool (by rw [HB.out]), (Below.refl _ w).alloc (Nat.le_refl _) _⟩
          · have hk : 0 < ql := by omega
            have HB := Lib.hid (show emB 0 (ByteArray.size ⟨#[]⟩) false 0 ql kl = false by simp [emB, q0])
            clear q0
            go_enter Tryd.func62, Tryd.ntmps62
            go_wp2
            go_ret
            exact ⟨ret_bool (by rw [HB.out]), (Below.refl _ w).alloc (Nat.le_refl _) _⟩
        · have hk : 0 < pl := by omega
          have HB := Lib.hid (show emB 0 (ByteArray.size ⟨#[]⟩) false pl ql kl = false by simp [emB, p0])
          clear p0
          go_enter Tryd.func62, Tryd.ntmps62
          go_wp2
          go_ret
          exact ⟨ret_bool (by rw [HB.out]), (Below.refl _ w).alloc (Nat.le_refl _) _⟩
      · have HB := Lib.hid (show emB 0 (ByteArray.size ⟨#[]⟩) true pl ql kl = false by simp [emB])
        go_enter Tryd.func62, Tryd.ntmps62
        go_wp2
        go_ret
        exact ⟨ret_bool (by rw [HB.out]), (Below.refl _ w).alloc (Nat.le_refl _) _⟩
    · have HB := Lib.hid (show emB 0 s.size o pl ql kl = false by simp [emB, s0])
      have ne : ¬ s.toList = [] := Nm.list_ne s (by omega)
      have ne2 : (!s.toList.isEmpty) = true := by rw [Nm.list_isE s (by omega)]; rfl
      clear s0
      go_enter Tryd.func62, Tryd.ntmps62
      go_wp2
      go_ret
      exact ⟨ret_bool (by rw [HB.out]), (Below.refl _ w).alloc (Nat.le_refl _) _⟩
  · have HB := Lib.hid (show emB nn s.size o pl ql kl = false by simp [emB, n0])
    have e0 := eq_no n0
    clear n0
    go_enter Tryd.func62, Tryd.ntmps62
    go_wp2
    go_ret
    exact ⟨ret_bool (by rw [HB.out]), (Below.refl _ w).alloc (Nat.le_refl _) _⟩
end Go.Proofs.YtlpilbghblbpbaaDoor
