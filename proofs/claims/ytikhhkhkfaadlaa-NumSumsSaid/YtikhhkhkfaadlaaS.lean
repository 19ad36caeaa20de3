/- WALKS of num.Sum and of the reference's Sum. -/
import Derived.Test.YtikhhkhkfaadlaaG
import Derived.OpenShut
namespace Go.Proofs.Ytikhhkhkfaadlaa
open Go.RowKit

/-- The sum of a list behind a sum that stands, or the first error. -/
def sumF : Int → List Int → Int × Int
  | acc, [] => (acc, 0)
  | acc, x :: T => if addE acc x = 0 then sumF (addV acc x) T else (0, addE acc x)
theorem sumF_ok {acc : Int} {L : List Int} {k : Nat} (hk : k < L.length) (h : addE acc (L.getD k 0) = 0) : sumF acc (L.drop k) = sumF (addV acc (L.getD k 0)) (L.drop (k + 1)) := by
  rw [List.drop_eq_getElem_cons hk]
  have e : L.getD k 0 = L[k] := by simp [hk]
  rw [e] at h ⊢
  simp [sumF, h]
theorem sumF_err {acc : Int} {L : List Int} {k : Nat} (hk : k < L.length) (h : ¬ addE acc (L.getD k 0) = 0) : sumF acc (L.drop k) = (0, addE acc (L.getD k 0)) := by
  rw [List.drop_eq_getElem_cons hk]
  have e : L.getD k 0 = L[k] := by simp [hk]
  rw [e] at h ⊢
  simp [sumF, h]
theorem ret_pair {a b : Int} {p q : Int × Int} (h : q = p) (h' : (a, b) = p) : Ending.returned (.tuple #[.int .i64 a, .int .i64 b]) = .returned (.tuple #[.int .i64 q.1, .int .i64 q.2]) := by subst h; subst h'; rfl

theorem take_getD {zs : List Int} {len k : Nat} {z : Int} (hk : k < len) (h : zs.getD k 0 = z) : (zs.take len).getD k 0 = z := by
  rw [← h]; simp [List.getElem?_take_of_lt hk]
theorem sumF_ok' {acc z : Int} {L : List Int} {k : Nat} (hk : k < L.length) (hg : L.getD k 0 = z) (h : addE acc z = 0) : sumF acc (L.drop k) = sumF (addV acc z) (L.drop (k + 1)) := by
  subst hg; exact sumF_ok hk h
theorem sumF_err' {acc z : Int} {L : List Int} {k : Nat} (hk : k < L.length) (hg : L.getD k 0 = z) (h : ¬ addE acc z = 0) : (0, addE acc z) = sumF acc (L.drop k) := by
  subst hg; exact (sumF_err hk h).symm
theorem sumF_end {acc : Int} {zs : List Int} {len : Nat} (hl : len ≤ zs.length) : (acc, (0 : Int)) = sumF acc ((zs.take len).drop len) := by
  rw [List.drop_of_length_le (by simp; omega)]; rfl

set_option maxHeartbeats 1000000 in
theorem sum_row (b off cap : Nat) (zs : List Int) (len : Nat) (w : World) (hl : len ≤ zs.length) (hm : zs.length ≤ maxLen) (hcell : ∀ i, i < zs.length → w.cell? ⟨b, off + i, none⟩ = some (.int .i64 (zs.getD i 0))) :
    Calls Try.prog 15 #[.slice (some ⟨b, off, none⟩) len cap] w fun e w' => e = .returned (.tuple #[.int .i64 (sumF 0 (zs.take len)).1, .int .i64 (sumF 0 (zs.take len)).2]) ∧ w = w' := by
  unfold maxLen at hm
  have HC := Lib.hid hcell
  clear hcell
  go_enter Try.func15, Try.ntmps15
  go_wp2
  go_loop [4, 10] (fun s i => ∃ (k : Nat) (acc : Int), k ≤ len ∧ i = .int .i64 k ∧ s = .int .i64 acc ∧ sumF 0 (zs.take len) = sumF acc ((zs.take len).drop k)) (fun _ i => len - (intOf i).toNat)
  case atStart => exact ⟨0, 0, by omega, rfl, rfl, rfl⟩
  case round =>
    obtain ⟨k, acc, hk, rfl, rfl, hI⟩ := hrel
    have H := Lib.hid hI
    clear hI
    by_cases hlt : k < len
    · have hcell : w.cell? ⟨b, off + k, none⟩ = some (.int .i64 (zs.getD k 0)) := HC.out k (by omega)
      obtain ⟨z, hz⟩ : ∃ z, Hid (zs.getD k 0 = z) := ⟨_, rfl⟩
      rw [hz.out] at hcell
      have hg := Lib.hid (take_getD hlt hz.out)
      have hlen := Lib.hid (show k < (zs.take len).length by simp; omega)
      go_wp2_with (go_at_call 7; refine (add_any _ _ _).mono ?_; rintro e w' ⟨rfl, rfl⟩)
      · go_ret2
        exact ⟨ret_pair H.out (sumF_err' hlen.out hg.out (by simpa using ‹(addE acc z != 0) = true›)), rfl⟩
      · go_round
        case rel => exact ⟨k + 1, _, by omega, by go_num, rfl, H.out.trans (sumF_ok' hlen.out hg.out (by simpa using ‹(addE acc z != 0) = false›))⟩
        case measure => simp [intOf]; omega
    · obtain rfl : k = len := by omega
      go_wp2
      go_ret2
      exact ⟨ret_pair H.out (sumF_end hl), rfl⟩
set_option maxHeartbeats 400000 in
theorem sum_zero (a : Option Addr) (cap : Nat) (w : World) : Calls Try.prog 15 #[.slice a 0 cap] w fun e w' => e = .returned (.tuple #[.int .i64 0, .int .i64 0]) ∧ w = w' := by
  go_enter Try.func15, Try.ntmps15
  go_wp2
  go_loop [4, 10] (fun s i => i = .int .i64 0 ∧ s = .int .i64 0) (fun _ _ => 0)
  case atStart => exact ⟨rfl, rfl⟩
  case round =>
    obtain ⟨rfl, rfl⟩ := hrel
    go_wp2
    go_ret2
    exact ⟨rfl, rfl⟩

set_option maxHeartbeats 1000000 in
theorem rsum_row (b off cap : Nat) (zs : List Int) (len : Nat) (w : World) (hl : len ≤ zs.length) (hm : zs.length ≤ maxLen) (hcell : ∀ i, i < zs.length → w.cell? ⟨b, off + i, none⟩ = some (.int .i64 (zs.getD i 0))) :
    Calls Try.prog 16 #[.slice (some ⟨b, off, none⟩) len cap] w fun e w' => e = .returned (.tuple #[.int .i64 (sumF 0 (zs.take len)).1, .int .i64 (sumF 0 (zs.take len)).2]) ∧ w = w' := by
  unfold maxLen at hm
  have HC := Lib.hid hcell
  clear hcell
  go_enter Try.func16, Try.ntmps16
  go_wp2
  go_loop [4, 5] (fun s i => ∃ (k : Nat) (acc : Int), k ≤ len ∧ i = .int .i64 k ∧ s = .int .i64 acc ∧ sumF 0 (zs.take len) = sumF acc ((zs.take len).drop k)) (fun _ i => len - (intOf i).toNat)
  case atStart => exact ⟨0, 0, by omega, rfl, rfl, rfl⟩
  case round =>
    obtain ⟨k, acc, hk, rfl, rfl, hI⟩ := hrel
    have H := Lib.hid hI
    clear hI
    by_cases hlt : k < len
    · have hcell : w.cell? ⟨b, off + k, none⟩ = some (.int .i64 (zs.getD k 0)) := HC.out k (by omega)
      obtain ⟨z, hz⟩ : ∃ z, Hid (zs.getD k 0 = z) := ⟨_, rfl⟩
      rw [hz.out] at hcell
      have hg := Lib.hid (take_getD hlt hz.out)
      have hlen := Lib.hid (show k < (zs.take len).length by simp; omega)
      go_wp2_with (go_at_call 8; refine (radd_any _ _ _).mono ?_; rintro e w' ⟨rfl, rfl⟩)
      · go_ret2
        exact ⟨ret_pair H.out (sumF_err' hlen.out hg.out (by simpa using ‹(addE acc z != 0) = true›)), rfl⟩
      · go_round
        case rel => exact ⟨k + 1, _, by omega, by go_num, rfl, H.out.trans (sumF_ok' hlen.out hg.out (by simpa using ‹(addE acc z != 0) = false›))⟩
        case measure => simp [intOf]; omega
    · obtain rfl : k = len := by omega
      go_wp2
      go_ret2
      exact ⟨ret_pair H.out (sumF_end hl), rfl⟩
set_option maxHeartbeats 400000 in
theorem rsum_zero (a : Option Addr) (cap : Nat) (w : World) : Calls Try.prog 16 #[.slice a 0 cap] w fun e w' => e = .returned (.tuple #[.int .i64 0, .int .i64 0]) ∧ w = w' := by
  go_enter Try.func16, Try.ntmps16
  go_wp2
  go_loop [4, 5] (fun s i => i = .int .i64 0 ∧ s = .int .i64 0) (fun _ _ => 0)
  case atStart => exact ⟨rfl, rfl⟩
  case round =>
    obtain ⟨rfl, rfl⟩ := hrel
    go_wp2
    go_ret2
    exact ⟨rfl, rfl⟩

set_option maxHeartbeats 1000000 in
theorem sums_long (a : Option Addr) (len cap : Nat) (w : World) (hm : len ≤ maxLen) (h : 200 < len) : Calls Try.prog 4 #[.slice a len cap] w fun e w' => e = .returned (.bool true) ∧ Below w.heap.size w w' := by
  unfold maxLen at hm
  go_enter Try.func4, Try.ntmps4
  go_wp2_with (go_at_call 14; refine (awake_any _).mono ?_; rintro e w' ⟨rfl, hB⟩)
  go_ret
  exact ⟨rfl, hB⟩
set_option maxHeartbeats 1000000 in
theorem sums_short (a : Option Addr) (len cap : Nat) (w : World) (x y : Int) (h : ¬ 200 < len)
    (c1 : Hid (Calls Try.prog 15 #[.slice a len cap] w fun e w' => e = .returned (.tuple #[.int .i64 x, .int .i64 y]) ∧ w = w'))
    (c2 : Hid (Calls Try.prog 16 #[.slice a len cap] w fun e w' => e = .returned (.tuple #[.int .i64 x, .int .i64 y]) ∧ w = w')) :
    Calls Try.prog 4 #[.slice a len cap] w fun e w' => e = .returned (.bool true) ∧ Below w.heap.size w w' := by
  go_enter Try.func4, Try.ntmps4
  go_wp2_with (first
    | (go_at_call 14; refine (awake_any _).mono ?_; rintro e w' ⟨rfl, hB⟩)
    | (go_at_call 15; refine c1.out.mono ?_; rintro e w' ⟨rfl, rfl⟩)
    | (go_at_call 16; refine c2.out.mono ?_; rintro e w' ⟨rfl, rfl⟩))
  go_ret
  exact ⟨rfl, hB⟩
theorem sums_walk (a : Option Addr) (len cap : Nat) (zs : List Int) (w : World)
    (h : (a = none ∧ len = 0 ∧ cap = 0 ∧ zs = []) ∨ ∃ x, a = some x ∧ len ≤ cap ∧ cap ≤ maxLen ∧ zs.length = cap ∧ (∀ i, i < zs.length → w.cell? (x.add i) = some (.int .i64 (zs.getD i 0))) ∧ ∀ n ∈ zs, (Lit.int .i64 n).wf = true) :
    Calls Try.prog 4 #[.slice a len cap] w fun e w' => e = .returned (.bool true) ∧ Below w.heap.size w w' := by
  by_cases h0 : len = 0
  · subst h0
    exact sums_short a 0 cap w 0 0 (by decide) (sum_zero a cap w) (rsum_zero a cap w)
  · rcases h with ⟨_, h, _⟩ | ⟨x, rfl, h1, h2, h3, h4, _⟩
    · exact absurd h h0
    · by_cases h200 : 200 < len
      · exact sums_long _ len cap w (by omega) h200
      · obtain ⟨b, off, rfl, hc⟩ := ints_at h4 (by omega)
        exact sums_short _ len cap w _ _ h200 (sum_row b off cap zs len w (by omega) (by omega) hc) (rsum_row b off cap zs len w (by omega) (by omega) hc)

end Go.Proofs.Ytikhhkhkfaadlaa
