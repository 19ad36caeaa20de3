/- WALKS of name.Path, of the reference's Path, and of few. -/
import Derived.Test.YtikhhkhkfaadlaaDoorC
namespace Go.Proofs.YtikhhkhkfaadlaaDoor
open Go.RowKit

/-- A slice of texts in memory: xs are its elements. -/
structure StrRow (w : World) (a : Option Addr) (len : Nat) (xs : List ByteArray) : Prop where
  count : xs.length = len
  max : len ≤ 140737488355328
  each : ∀ (i : Nat) (x : ByteArray), xs[i]? = some x → x.size ≤ 140737488355328
  at_ : 0 < len → ∃ b off, a = some ⟨b, off, none⟩ ∧ b < w.heap.size ∧ ∀ (i : Nat) (x : ByteArray), xs[i]? = some x → w.cell? ⟨b, off + i, none⟩ = some (.string x)
theorem StrRow.below {w w' : World} {a : Option Addr} {len : Nat} {xs : List ByteArray} (h : StrRow w a len xs) (hb : Below w.heap.size w w') : StrRow w' a len xs := by
  obtain ⟨h1, h2, h3, h4⟩ := h
  refine ⟨h1, h2, h3, fun h0 => ?_⟩
  obtain ⟨b, off, e, hlt, hc⟩ := h4 h0
  exact ⟨b, off, e, Nat.lt_of_lt_of_le hlt hb.size, fun i x hx => by rw [hb.cell (p := ⟨b, off + i, none⟩) hlt]; exact hc i x hx⟩
def pathB (xs : List ByteArray) : Bool := decide (1 ≤ xs.length) && decide (xs.length ≤ 16) && xs.all fun x => rightL x.toList
def upR (xs : List ByteArray) (k : Nat) : Prop := ∀ (j : Nat) (x : ByteArray), xs[j]? = some x → j < k → rightL x.toList = true
theorem upR_zero (xs : List ByteArray) : upR xs 0 := fun _ _ _ h => absurd h (by omega)
theorem upR_succ {xs : List ByteArray} {k : Nat} {x : ByteArray} (h : upR xs k) (hx : xs[k]? = some x) (hr : rightL x.toList = true) : upR xs (k + 1) := fun j y hy hj => by
  by_cases e : j = k
  · subst e; rw [hx] at hy; cases hy; exact hr
  · exact h j y hy (by omega)
theorem path_bad {xs : List ByteArray} {k : Nat} {x : ByteArray} (hx : xs[k]? = some x) (hr : rightL x.toList = false) : pathB xs = false := by
  have : (xs.all fun x => rightL x.toList) = false := by
    rw [List.all_eq_false]
    exact ⟨x, List.mem_of_getElem? hx, by simp [hr]⟩
  unfold pathB; rw [this]; simp
theorem path_end {xs : List ByteArray} (h : upR xs xs.length) : pathB xs = (decide (1 ≤ xs.length) && decide (xs.length ≤ 16)) := by
  have : (xs.all fun x => rightL x.toList) = true := by
    rw [List.all_eq_true]
    intro x hx
    obtain ⟨k, hk, rfl⟩ := List.getElem_of_mem hx
    exact h k _ (List.getElem?_eq_getElem hk) hk
  unfold pathB; rw [this]; simp
theorem path_size {xs : List ByteArray} (h : ¬ (1 ≤ xs.length ∧ xs.length ≤ 16)) : pathB xs = false := by
  have : (decide (1 ≤ xs.length) && decide (xs.length ≤ 16)) = false := by rw [Bool.and_eq_false_iff]; simp only [decide_eq_false_iff_not]; omega
  unfold pathB; rw [this]; rfl
theorem path_yes {xs : List ByteArray} (h : upR xs xs.length) (h1 : 1 ≤ xs.length) (h2 : xs.length ≤ 16) : true = pathB xs := by
  rw [path_end h]; simp; omega
theorem right_as (s : ByteArray) (b : Bool) (w : World) (hE : Env w) (hs : s.size ≤ 140737488355328) (hb : Hid (rightL s.toList = b)) : Calls Tryd.prog 10 #[.string s] w fun e w' => e = .returned (.bool b) ∧ Below w.heap.size w w' := by
  rw [← hb.out]; exact right_any s w hE (by unfold maxLen; omega)
theorem rright_as (s : ByteArray) (b : Bool) (w : World) (hs : s.size ≤ 140737488355328) (hb : Hid (rightL s.toList = b)) : Calls Tryd.prog 11 #[.string s] w fun e w' => e = .returned (.bool b) ∧ w = w' := by
  rw [← hb.out]; exact rright_any s w (by unfold maxLen; omega)

set_option maxHeartbeats 2000000 in
theorem path_any (a : Option Addr) (len cap : Nat) (xs : List ByteArray) (w : World) (hE : Env w) (hS : StrRow w a len xs) : Calls Tryd.prog 12 #[.slice a len cap] w fun e w' => e = .returned (.bool (pathB xs)) ∧ Below w.heap.size w w' := by
  have hmax := hS.max
  have HE := Lib.hid hE
  have HS := Lib.hid hS
  clear hE hS
  by_cases h0 : 1 ≤ len ∧ len ≤ 16
  · obtain ⟨h1, h16⟩ := h0
    obtain ⟨b, off, rfl, hb, hc⟩ := HS.out.at_ (by omega)
    have HC := Lib.hid hc
    have HB := Lib.hid hb
    clear hc hb
    have hl0 : ((len : Int) == 0) = false := by simp; omega
    have hl1 : ¬ len = 0 := by omega
    go_enter Tryd.func12, Tryd.ntmps12
    go_wp2
    go_loopw [15] (fun i wr => ∃ k : Nat, k ≤ len ∧ i = .int .i64 k ∧ Below w.heap.size w wr ∧ upR xs k) (fun i _ => len - (intOf i).toNat)
    case atStart => exact ⟨0, by omega, rfl, Below.refl _ _, upR_zero xs⟩
    case round =>
      obtain ⟨k, hk, rfl, hBl, hU⟩ := hrel
      rename World => wr
      have U := Lib.hid hU
      have BL := Lib.hid hBl
      clear hU hBl
      by_cases hlt : k < len
      · obtain ⟨x, hx⟩ : ∃ x, xs[k]? = some x := ⟨xs[k]'(by rw [HS.out.count]; exact hlt), List.getElem?_eq_getElem _⟩
        have HX := Lib.hid hx
        have hcell : wr.cell? ⟨b, off + k, none⟩ = some (.string x) := by rw [BL.out.cell (p := ⟨b, off + k, none⟩) HB.out]; exact HC.out k x hx
        have hsz := HS.out.each k x hx
        clear hx
        have hER := Lib.hid (HE.out.below BL.out)
        cases hr : rightL x.toList
        all_goals
          have HR := Lib.hid hr
          clear hr
          go_wp2_with (go_at_call 10; refine (right_as _ _ _ hER.out hsz HR).mono ?_; rintro e w' ⟨rfl, hB2⟩)
        · go_ret
          exact ⟨ret_bool (path_bad HX.out HR.out).symm, BL.out.trans (hB2.mono BL.out.size)⟩
        · go_roundw
          case rel => exact ⟨k + 1, by omega, by go_num, BL.out.trans (hB2.mono BL.out.size), upR_succ U.out HX.out HR.out⟩
          case measure => simp [intOf]; omega
      · obtain rfl : k = len := by omega
        have HL := Lib.hid HS.out.count
        go_wp2
        go_ret
        exact ⟨ret_bool (path_yes (by rw [HL.out]; exact U.out) (by rw [HL.out]; omega) (by rw [HL.out]; omega)), BL.out⟩
  · have HP := Lib.hid (path_size (xs := xs) (by rw [HS.out.count]; exact h0))
    have hc : len < 1 ∨ (¬ len < 1 ∧ 16 < len) := by omega
    clear h0
    rcases hc with hc | ⟨hc, hc2⟩
    · obtain rfl : len = 0 := by omega
      go_enter Tryd.func12, Tryd.ntmps12
      go_wp2
      go_ret
      exact ⟨ret_bool HP.out.symm, Below.refl _ _⟩
    · go_enter Tryd.func12, Tryd.ntmps12
      go_wp2
      go_ret
      exact ⟨ret_bool HP.out.symm, Below.refl _ _⟩

set_option maxHeartbeats 2000000 in
theorem rpath_any (a : Option Addr) (len cap : Nat) (xs : List ByteArray) (w : World) (hS : StrRow w a len xs) : Calls Tryd.prog 13 #[.slice a len cap] w fun e w' => e = .returned (.bool (pathB xs)) ∧ w = w' := by
  have hmax := hS.max
  have HS := Lib.hid hS
  clear hS
  by_cases h0 : 0 < len
  · obtain ⟨b, off, rfl, hb, hc⟩ := HS.out.at_ h0
    have HC := Lib.hid hc
    clear hc hb
    go_enter Tryd.func13, Tryd.ntmps13
    go_wp2
    go_loop [3] (fun i => ∃ k : Nat, k ≤ len ∧ i = .int .i64 k ∧ upR xs k) (fun i => len - (intOf i).toNat)
    case atStart => exact ⟨0, by omega, rfl, upR_zero xs⟩
    case round =>
      obtain ⟨k, hk, rfl, hU⟩ := hrel
      have U := Lib.hid hU
      clear hU
      by_cases hlt : k < len
      · obtain ⟨x, hx⟩ : ∃ x, xs[k]? = some x := ⟨xs[k]'(by rw [HS.out.count]; exact hlt), List.getElem?_eq_getElem _⟩
        have HX := Lib.hid hx
        have hcell : w.cell? ⟨b, off + k, none⟩ = some (.string x) := HC.out k x hx
        have hsz := HS.out.each k x hx
        clear hx
        cases hr : rightL x.toList
        all_goals
          have HR := Lib.hid hr
          clear hr
          go_wp2_with (go_at_call 11; refine (rright_as _ _ _ hsz HR).mono ?_; rintro e w' ⟨rfl, rfl⟩)
        · go_ret
          exact ⟨ret_bool (path_bad HX.out HR.out).symm, rfl⟩
        · go_round
          case rel => exact ⟨k + 1, by omega, by go_num, upR_succ U.out HX.out HR.out⟩
          case measure => simp [intOf]; omega
      · obtain rfl : k = len := by omega
        have HL := Lib.hid HS.out.count
        by_cases h16 : 16 < k
        · have HP := Lib.hid (path_size (xs := xs) (by rw [HL.out]; omega))
          go_wp2
          go_ret
          exact ⟨ret_bool ((decide_eq_false (by omega)).trans HP.out.symm), rfl⟩
        · have HP := Lib.hid (path_yes (xs := xs) (by rw [HL.out]; exact U.out) (by rw [HL.out]; omega) (by rw [HL.out]; omega))
          go_wp2
          go_ret
          exact ⟨ret_bool ((decide_eq_true (by omega)).trans HP.out), rfl⟩
  · have HP := Lib.hid (path_size (xs := xs) (by rw [HS.out.count]; omega))
    obtain rfl : len = 0 := by omega
    go_enter Tryd.func13, Tryd.ntmps13
    go_wp2
    go_loop [3] (fun i => i = .int .i64 0) (fun _ => 0)
    case atStart => rfl
    case round =>
      obtain rfl := hrel
      go_wp2
      go_ret
      exact ⟨ret_bool HP.out.symm, rfl⟩

def sumS (xs : List ByteArray) : Nat := (xs.map (·.size)).sum
theorem sumS_take {xs : List ByteArray} {k : Nat} {x : ByteArray} (h : xs[k]? = some x) : sumS (xs.take (k + 1)) = sumS (xs.take k) + x.size := by
  obtain ⟨hk, e⟩ := List.getElem?_eq_some_iff.1 h
  rw [List.take_succ_eq_append_getElem hk, e]
  simp [sumS]
theorem sumS_le (xs : List ByteArray) (k : Nat) : sumS (xs.take k) ≤ sumS xs := by
  have : sumS xs = sumS (xs.take k) + sumS (xs.drop k) := by
    unfold sumS; rw [← List.sum_append, ← List.map_append, List.take_append_drop]
  omega
def fewB (xs : List ByteArray) : Bool := decide (xs.length + sumS xs ≤ 400)

set_option maxHeartbeats 2000000 in
theorem few_any (a : Option Addr) (len cap : Nat) (xs : List ByteArray) (w : World) (hS : StrRow w a len xs) : Calls Tryd.prog 6 #[.slice a len cap] w fun e w' => e = .returned (.bool (fewB xs)) ∧ w = w' := by
  have hmax := hS.max
  have HS := Lib.hid hS
  clear hS
  by_cases h0 : 0 < len
  · obtain ⟨b, off, rfl, hb, hc⟩ := HS.out.at_ h0
    have HC := Lib.hid hc
    clear hc hb
    go_enter Tryd.func6, Tryd.ntmps6
    go_wp2
    go_loop [3, 4] (fun n i => ∃ k m : Nat, k ≤ len ∧ i = .int .i64 k ∧ n = .int .i64 m ∧ m ≤ 281474976711056 ∧ m = len + sumS (xs.take k)) (fun _ i => len - (intOf i).toNat)
    case atStart => exact ⟨0, len, by omega, rfl, rfl, by omega, by simp [sumS]⟩
    case round =>
      obtain ⟨k, m, hk, rfl, rfl, hm, hM⟩ := hrel
      have HM := Lib.hid hM
      clear hM
      by_cases h4 : m ≤ 400
      · by_cases hlt : k < len
        · obtain ⟨x, hx⟩ : ∃ x, xs[k]? = some x := ⟨xs[k]'(by rw [HS.out.count]; exact hlt), List.getElem?_eq_getElem _⟩
          have HX := Lib.hid hx
          have hcell : w.cell? ⟨b, off + k, none⟩ = some (.string x) := HC.out k x hx
          have hsz := HS.out.each k x hx
          clear hx
          go_wp2
          go_round
          case rel => exact ⟨k + 1, m + x.size, by omega, by go_num, by go_num, by omega, by rw [sumS_take HX.out, HM.out]; omega⟩
          case measure => simp [intOf]; omega
        · obtain rfl : k = len := by omega
          have HF := Lib.hid (show true = fewB xs by
            have := HM.out
            rw [List.take_of_length_le (by rw [HS.out.count]; exact Nat.le_refl _)] at this
            exact (decide_eq_true (by rw [HS.out.count]; omega)).symm)
          go_wp2
          go_ret
          exact ⟨ret_bool ((decide_eq_true (by omega)).trans HF.out), rfl⟩
      · have HF := Lib.hid (show false = fewB xs by
          have := HM.out
          have := sumS_le xs k
          exact (decide_eq_false (by rw [HS.out.count]; omega)).symm)
        go_wp2
        all_goals
          go_ret
          exact ⟨ret_bool ((decide_eq_false (by omega)).trans HF.out), rfl⟩
  · obtain rfl : len = 0 := by omega
    have HF := Lib.hid (show true = fewB xs by
      have : xs = [] := List.eq_nil_of_length_eq_zero HS.out.count
      subst this; rfl)
    go_enter Tryd.func6, Tryd.ntmps6
    go_wp2
    go_loop [3, 4] (fun n i => i = .int .i64 0 ∧ n = .int .i64 0) (fun _ _ => 0)
    case atStart => exact ⟨rfl, rfl⟩
    case round =>
      obtain ⟨rfl, rfl⟩ := hrel
      go_wp2
      go_ret
      exact ⟨ret_bool HF.out, rfl⟩
end Go.Proofs.YtikhhkhkfaadlaaDoor
