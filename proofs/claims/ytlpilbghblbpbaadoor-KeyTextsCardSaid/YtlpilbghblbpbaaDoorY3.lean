/- Nf, Ng -/
import Derived.Deep.QuietTactic
import Derived.BigQuiet
import Derived.Sort.Walk0
import Derived.Test.YtlpilbghblbpbaaDoorY2
/- WALKS of name.Rising and of the reference's Rising. -/
namespace Go.Proofs.YtlpilbghblbpbaaDoor.Nm
open Go.RowKit

/-- Each of the first n is a name, above the one ahead. -/
def Ris (xs : List ByteArray) (n : Nat) : Prop := ∀ (k : Nat) (x : ByteArray), xs[k]? = some x → k < n → rightL x.toList = true ∧ ∀ (j : Nat) (y : ByteArray), j + 1 = k → xs[j]? = some y → Op.bytesLess y.toList x.toList = true
noncomputable def risB (xs : List ByteArray) : Bool := @decide (Ris xs xs.length) (Classical.propDecidable _)
theorem ris_yes {xs : List ByteArray} (h : Ris xs xs.length) : true = risB xs := (@decide_eq_true _ (Classical.propDecidable _) h).symm
theorem ris_no {xs : List ByteArray} (h : ¬ Ris xs xs.length) : false = risB xs := (@decide_eq_false _ (Classical.propDecidable _) h).symm
theorem lt_len {xs : List ByteArray} {k : Nat} {x : ByteArray} (h : xs[k]? = some x) : k < xs.length := (List.getElem?_eq_some_iff.1 h).1
theorem ris_bad_name {xs : List ByteArray} {k : Nat} {x : ByteArray} (hx : xs[k]? = some x) (hr : rightL x.toList = false) : false = risB xs :=
  ris_no fun h => by have := (h k x hx (lt_len hx)).1; rw [hr] at this; exact absurd this (by decide)
theorem ris_bad_ord {xs : List ByteArray} {j : Nat} {x y : ByteArray} (hx : xs[j + 1]? = some x) (hy : xs[j]? = some y) (hr : Op.bytesLess y.toList x.toList = false) : false = risB xs :=
  ris_no fun h => by have := (h (j + 1) x hx (lt_len hx)).2 j y rfl hy; rw [hr] at this; exact absurd this (by decide)
theorem Ris.zero (xs : List ByteArray) : Ris xs 0 := fun _ _ _ h => absurd h (by omega)
theorem Ris.one {xs : List ByteArray} {x : ByteArray} (hx : xs[0]? = some x) (hr : rightL x.toList = true) : Ris xs 1 := fun k z hz hk => by
  obtain rfl : k = 0 := by omega
  rw [hx] at hz; cases hz
  exact ⟨hr, fun j y e _ => absurd e (by omega)⟩
theorem Ris.succ {xs : List ByteArray} {j : Nat} {x y : ByteArray} (h : Ris xs (j + 1)) (hx : xs[j + 1]? = some x) (hy : xs[j]? = some y) (hr : rightL x.toList = true) (ho : Op.bytesLess y.toList x.toList = true) : Ris xs (j + 1 + 1) := fun k z hz hk => by
  by_cases e : k = j + 1
  · subst e
    rw [hx] at hz; cases hz
    refine ⟨hr, fun i u ei hu => ?_⟩
    obtain rfl : i = j := by omega
    rw [hy] at hu; cases hu
    exact ho
  · exact h k z hz (by omega)
theorem less_total (a b : List UInt8) : (Op.bytesLess a b || a == b) = !(Op.bytesLess b a) := by
  rw [bytesLess_eq, bytesLess_eq, Bool.eq_iff_iff]
  simp only [Bool.or_eq_true, decide_eq_true_eq, beq_iff_eq, Bool.not_eq_true', decide_eq_false_iff_not]
  rw [List.not_lt, List.le_iff_lt_or_eq]
theorem less_le {a b : List UInt8} (h : Op.bytesLess a b = true ∨ (a == b) = true) : Op.bytesLess b a = false := by
  have := less_total a b
  rcases h with h | h <;> rw [h] at this <;> simpa using this.symm
theorem less_gt {a b : List UInt8} (h : Op.bytesLess a b = false ∧ (a == b) = false) : Op.bytesLess b a = true := by
  have := less_total a b
  rw [h.1, h.2] at this; simpa using this.symm

set_option maxHeartbeats 4000000 in
theorem rising_any (a : Option Addr) (len cap : Nat) (xs : List ByteArray) (w : World) (hE : Env w) (hS : StrRow w a len xs) : Calls Tryd.prog 68 #[.slice a len cap] w fun e w' => e = .returned (.bool (risB xs)) ∧ Below w.heap.size w w' := by
  have hmax := hS.max
  have HE := Lib.hid hE
  have HS := Lib.hid hS
  clear hE hS
  by_cases h0 : 0 < len
  · obtain ⟨b, off, rfl, hb, hc⟩ := HS.out.at_ h0
    have HC := Lib.hid hc
    have HB := Lib.hid hb
    clear hc hb
    go_enter Tryd.func68, Tryd.ntmps68
    go_wp2
    go_loopw [7] (fun i wr => ∃ k : Nat, k ≤ len ∧ i = .int .i64 k ∧ Below w.heap.size w wr ∧ Ris xs k) (fun i _ => len - (intOf i).toNat)
    case atStart => exact ⟨0, by omega, rfl, Below.refl _ _, Ris.zero xs⟩
    case round =>
      obtain ⟨k, hk, rfl, hBl, hR⟩ := hrel
      rename World => wr
      have BL := Lib.hid hBl
      have RI := Lib.hid hR
      clear hBl hR
      by_cases hlt : k < len
      · obtain ⟨x, hx⟩ : ∃ x, xs[k]? = some x := ⟨xs[k]'(by rw [HS.out.count]; exact hlt), List.getElem?_eq_getElem _⟩
        have HX := Lib.hid hx
        have hcell : wr.cell? ⟨b, off + k, none⟩ = some (.string x) := by rw [BL.out.cell (p := ⟨b, off + k, none⟩) HB.out]; exact HC.out k x hx
        have hsz := HS.out.each k x hx
        clear hx
        have hER := Lib.hid (HE.out.below BL.out)
        cases hr : rightL x.toList
        · have HR := Lib.hid hr
          clear hr
          go_wp2_with (go_at_call 9; refine (right_as _ _ _ hER.out hsz HR).mono ?_; rintro e w' ⟨rfl, hB2⟩)
          go_ret
          exact ⟨ret_bool (ris_bad_name HX.out HR.out), BL.out.trans (hB2.mono BL.out.size)⟩
        · have HR := Lib.hid hr
          clear hr
          by_cases hk0 : 0 < k
          · obtain ⟨j, rfl⟩ : ∃ j, k = j + 1 := ⟨k - 1, by omega⟩
            obtain ⟨y, hy⟩ : ∃ y, xs[j]? = some y := ⟨xs[j]'(by rw [HS.out.count]; omega), List.getElem?_eq_getElem _⟩
            have HY := Lib.hid hy
            have hce : wr.cell? ⟨b, off + j, none⟩ = some (.string y) := by rw [BL.out.cell (p := ⟨b, off + j, none⟩) HB.out]; exact HC.out j y hy
            clear hy
            go_wp2_with (go_at_call 9; refine (right_as _ _ _ hER.out hsz HR).mono ?_; rintro e w' ⟨rfl, hB2⟩; have hce2 := (hB2.cell (p := ⟨b, off + j, none⟩) (Nat.lt_of_lt_of_le HB.out BL.out.size)).trans hce)
            · go_ret
              exact ⟨ret_bool (ris_bad_ord HX.out HY.out (less_le ‹_›)), BL.out.trans (hB2.mono BL.out.size)⟩
            · go_roundw
              case rel => exact ⟨j + 1 + 1, by omega, by go_num, BL.out.trans (hB2.mono BL.out.size), RI.out.succ HX.out HY.out HR.out (less_gt ‹_›)⟩
              case measure => simp [intOf]; omega
          · obtain rfl : k = 0 := by omega
            have hcell0 : wr.cell? ⟨b, off, none⟩ = some (.string x) := hcell
            clear hcell
            go_wp2_with (go_at_call 9; refine (right_as _ _ _ hER.out hsz HR).mono ?_; rintro e w' ⟨rfl, hB2⟩)
            go_roundw
            case rel => exact ⟨1, by omega, by go_num, BL.out.trans (hB2.mono BL.out.size), Ris.one HX.out HR.out⟩
            case measure => simp [intOf]; omega
      · obtain rfl : k = len := by omega
        have HL := Lib.hid HS.out.count
        go_wp2
        go_ret
        exact ⟨ret_bool (ris_yes (by rw [HL.out]; exact RI.out)), BL.out⟩
  · obtain rfl : len = 0 := by omega
    have HL := Lib.hid HS.out.count
    go_enter Tryd.func68, Tryd.ntmps68
    go_wp2
    go_loopw [7] (fun i wr => i = .int .i64 0 ∧ Below w.heap.size w wr) (fun _ _ => 0)
    case atStart => exact ⟨rfl, Below.refl _ _⟩
    case round =>
      obtain ⟨rfl, hBl⟩ := hrel
      have BL := Lib.hid hBl
      clear hBl
      go_wp2
      go_ret
      exact ⟨ret_bool (ris_yes (by rw [HL.out]; exact Ris.zero xs)), BL.out⟩

theorem rright_same (s : ByteArray) (b : Bool) (w : World) (hs : s.size ≤ 140737488355328) (hb : Hid (rightL s.toList = b)) : Calls Tryd.prog 27 #[.string s] w fun e w' => e = .returned (.bool b) ∧ w' = w :=
  (rright_as s b w hs hb).mono fun _ _ ⟨h, h'⟩ => ⟨h, h'.symm⟩
set_option maxHeartbeats 4000000 in
theorem rrising_any (a : Option Addr) (len cap : Nat) (xs : List ByteArray) (w : World) (hS : StrRow w a len xs) : Calls Tryd.prog 67 #[.slice a len cap] w fun e w' => e = .returned (.bool (risB xs)) ∧ Below w.heap.size w w' := by
  have hmax := hS.max
  have HS := Lib.hid hS
  clear hS
  by_cases h0 : 0 < len
  · obtain ⟨b, off, rfl, hb, hc⟩ := HS.out.at_ h0
    have HC := Lib.hid hc
    have HB := Lib.hid hb
    clear hc hb
    go_enter Tryd.func67, Tryd.ntmps67
    go_wp2
    go_loopw [3] (fun i wr => ∃ k : Nat, k ≤ len ∧ i = .int .i64 k ∧ Below w.heap.size w wr ∧ Ris xs k) (fun i _ => len - (intOf i).toNat)
    case atStart => exact ⟨0, by omega, rfl, Below.refl _ _, Ris.zero xs⟩
    case round =>
      obtain ⟨k, hk, rfl, hBl, hR⟩ := hrel
      rename World => wr
      have BL := Lib.hid hBl
      have RI := Lib.hid hR
      clear hBl hR
      by_cases hlt : k < len
      · obtain ⟨x, hx⟩ : ∃ x, xs[k]? = some x := ⟨xs[k]'(by rw [HS.out.count]; exact hlt), List.getElem?_eq_getElem _⟩
        have HX := Lib.hid hx
        have hcell : wr.cell? ⟨b, off + k, none⟩ = some (.string x) := by rw [BL.out.cell (p := ⟨b, off + k, none⟩) HB.out]; exact HC.out k x hx
        have hsz := HS.out.each k x hx
        clear hx
        cases hr : rightL x.toList
        · have HR := Lib.hid hr
          clear hr
          go_wp2
          go_quiet ((go_at_call 27; exact Calls.quiet_of_same (rright_same _ _ _ hsz HR)))
          go_wp2
          go_ret
          exact ⟨ret_bool (ris_bad_name HX.out HR.out), below_drewN BL.out _⟩
        · have HR := Lib.hid hr
          clear hr
          by_cases hk0 : 0 < k
          · obtain ⟨j, rfl⟩ : ∃ j, k = j + 1 := ⟨k - 1, by omega⟩
            obtain ⟨y, hy⟩ : ∃ y, xs[j]? = some y := ⟨xs[j]'(by rw [HS.out.count]; omega), List.getElem?_eq_getElem _⟩
            have HY := Lib.hid hy
            have hce : wr.cell? ⟨b, off + j, none⟩ = some (.string y) := by rw [BL.out.cell (p := ⟨b, off + j, none⟩) HB.out]; exact HC.out j y hy
            clear hy
            cases ho : Op.bytesLess y.toList x.toList
            all_goals
              have HO := Lib.hid ho
              go_wp2
              go_quiet ((go_at_call 27; exact Calls.quiet_of_same (rright_same _ _ _ hsz HR)))
              go_wp2
            · go_ret
              exact ⟨ret_bool (ris_bad_ord HX.out HY.out HO.out), below_drewN BL.out _⟩
            · go_roundw
              case rel => exact ⟨j + 1 + 1, by omega, by go_num, below_drewN BL.out _, RI.out.succ HX.out HY.out HR.out HO.out⟩
              case measure => simp [intOf]; omega
          · obtain rfl : k = 0 := by omega
            have hcell0 : wr.cell? ⟨b, off, none⟩ = some (.string x) := hcell
            clear hcell
            go_wp2
            go_quiet ((go_at_call 27; exact Calls.quiet_of_same (rright_same _ _ _ hsz HR)))
            go_wp2
            go_roundw
            case rel => exact ⟨1, by omega, by go_num, below_drewN BL.out _, Ris.one HX.out HR.out⟩
            case measure => simp [intOf]; omega
      · obtain rfl : k = len := by omega
        have HL := Lib.hid HS.out.count
        go_wp2
        go_ret
        exact ⟨ret_bool (ris_yes (by rw [HL.out]; exact RI.out)), BL.out⟩
  · obtain rfl : len = 0 := by omega
    have HL := Lib.hid HS.out.count
    go_enter Tryd.func67, Tryd.ntmps67
    go_wp2
    go_loopw [3] (fun i wr => i = .int .i64 0 ∧ Below w.heap.size w wr) (fun _ _ => 0)
    case atStart => exact ⟨rfl, Below.refl _ _⟩
    case round =>
      obtain ⟨rfl, hBl⟩ := hrel
      have BL := Lib.hid hBl
      clear hBl
      go_wp2
      go_ret
      exact ⟨ret_bool (ris_yes (by rw [HL.out]; exact Ris.zero xs)), BL.out⟩
end Go.Proofs.YtlpilbghblbpbaaDoor.Nm
/- WALKS of name.Path, of the reference's Path and Same. -/

namespace Go.Proofs.YtlpilbghblbpbaaDoor.Nm
open Go.RowKit
def pathB (xs : List ByteArray) : Bool := decide (1 ≤ xs.length) && decide (xs.length ≤ 16) && xs.all fun x => rightL x.toList
def upR (xs : List ByteArray) (k : Nat) : Prop := ∀ (j : Nat) (x : ByteArray), xs[j]? = some x → j < k → rightL x.toList = true
theorem upR_zero (xs : List ByteArray) : upR xs 0 := fun _ _ _ h => absurd h (by omega)
theorem upR_succ {xs : List ByteArray} {k : Nat} {x : ByteArray} (h : upR xs k) (hx : xs[k]? = some x) (hr : rightL x.toList = true) : upR xs (k + 1) := fun j y hy hj => by
  by_cases e : j = k
  · subst e; rw [hx] at hy; cases hy; exact hr
  · exact h j y hy (by omega)
theorem path_bad {xs : List ByteArray} {k : Nat} {x : ByteArray} (hx : xs[k]? = some x) (hr : rightL x.toList = false) : pathB xs = false := by
  have : (xs.all fun x => rightL x.toList) = false := by
    rw [List.all_eq_false]
    exact ⟨x, List.mem_of_getElem? hx, by simp [hr]⟩
  unfold pathB; rw [this]; simp
theorem path_end {xs : List ByteArray} (h : upR xs xs.length) : pathB xs = (decide (1 ≤ xs.length) && decide (xs.length ≤ 16)) := by
  have : (xs.all fun x => rightL x.toList) = true := by
    rw [List.all_eq_true]
    intro x hx
    obtain ⟨k, hk, rfl⟩ := List.getElem_of_mem hx
    exact h k _ (List.getElem?_eq_getElem hk) hk
  unfold pathB; rw [this]; simp
theorem path_size {xs : List ByteArray} (h : ¬ (1 ≤ xs.length ∧ xs.length ≤ 16)) : pathB xs = false := by
  have : (decide (1 ≤ xs.length) && decide (xs.length ≤ 16)) = false := by rw [Bool.and_eq_false_iff]; simp only [decide_eq_false_iff_not]; omega
  unfold pathB; rw [this]; rfl
theorem path_yes {xs : List ByteArray} (h : upR xs xs.length) (h1 : 1 ≤ xs.length) (h2 : xs.length ≤ 16) : true = pathB xs := by
  rw [path_end h]; simp; omega
set_option maxHeartbeats 2000000 in
theorem path_any (a : Option Addr) (len cap : Nat) (xs : List ByteArray) (w : World) (hE : Env w) (hS : StrRow w a len xs) : Calls Tryd.prog 60 #[.slice a len cap] w fun e w' => e = .returned (.bool (pathB xs)) ∧ Below w.heap.size w w' := by
  have hmax := hS.max
  have HE := Lib.hid hE
  have HS := Lib.hid hS
  clear hE hS
  by_cases h0 : 1 ≤ len ∧ len ≤ 16
  · obtain ⟨h1, h16⟩ := h0
    obtain ⟨b, off, rfl, hb, hc⟩ := HS.out.at_ (by omega)
    have HC := Lib.hid hc
    have HB := Lib.hid hb
    clear hc hb
    have hl0 : ((len : Int) == 0) = false := by simp; omega
    have hl1 : ¬ len = 0 := by omega
    go_enter Tryd.func60, Tryd.ntmps60
    go_wp2
    go_loopw [15] (fun i wr => ∃ k : Nat, k ≤ len ∧ i = .int .i64 k ∧ Below w.heap.size w wr ∧ upR xs k) (fun i _ => len - (intOf i).toNat)
    case atStart => exact ⟨0, by omega, rfl, Below.refl _ _, upR_zero xs⟩
    case round =>
      obtain ⟨k, hk, rfl, hBl, hU⟩ := hrel
      rename World => wr
      have U := Lib.hid hU
      have BL := Lib.hid hBl
      clear hU hBl
      by_cases hlt : k < len
      · obtain ⟨x, hx⟩ : ∃ x, xs[k]? = some x := ⟨xs[k]'(by rw [HS.out.count]; exact hlt), List.getElem?_eq_getElem _⟩
        have HX := Lib.hid hx
        have hcell : wr.cell? ⟨b, off + k, none⟩ = some (.string x) := by rw [BL.out.cell (p := ⟨b, off + k, none⟩) HB.out]; exact HC.out k x hx
        have hsz := HS.out.each k x hx
        clear hx
        have hER := Lib.hid (HE.out.below BL.out)
        cases hr : rightL x.toList
        all_goals
          have HR := Lib.hid hr
          clear hr
          go_wp2_with (go_at_call 9; refine (right_as _ _ _ hER.out hsz HR).mono ?_; rintro e w' ⟨rfl, hB2⟩)
        · go_ret
          exact ⟨ret_bool (path_bad HX.out HR.out).symm, BL.out.trans (hB2.mono BL.out.size)⟩
        · go_roundw
          case rel => exact ⟨k + 1, by omega, by go_num, BL.out.trans (hB2.mono BL.out.size), upR_succ U.out HX.out HR.out⟩
          case measure => simp [intOf]; omega
      · obtain rfl : k = len := by omega
        have HL := Lib.hid HS.out.count
        go_wp2
        go_ret
        exact ⟨ret_bool (path_yes (by rw [HL.out]; exact U.out) (by rw [HL.out]; omega) (by rw [HL.out]; omega)), BL.out⟩
  · have HP := Lib.hid (path_size (xs := xs) (by rw [HS.out.count]; exact h0))
    have hc : len < 1 ∨ (¬ len < 1 ∧ 16 < len) := by omega
    clear h0
    rcases hc with hc | ⟨hc, hc2⟩
    · obtain rfl : len = 0 := by omega
      go_enter Tryd.func60, Tryd.ntmps60
      go_wp2
      go_ret
      exact ⟨ret_bool HP.out.symm, Below.refl _ _⟩
    · go_enter Tryd.func60, Tryd.ntmps60
      go_wp2
      go_ret
      exact ⟨ret_bool HP.out.symm, Below.refl _ _⟩

set_option maxHeartbeats 2000000 in
theorem rpath_any (a : Option Addr) (len cap : Nat) (xs : List ByteArray) (w : World) (hS : StrRow w a len xs) : Calls Tryd.prog 43 #[.slice a len cap] w fun e w' => e = .returned (.bool (pathB xs)) ∧ w = w' := by
  have hmax := hS.max
  have HS := Lib.hid hS
  clear hS
  by_cases h0 : 0 < len
  · obtain ⟨b, off, rfl, hb, hc⟩ := HS.out.at_ h0
    have HC := Lib.hid hc
    clear hc hb
    go_enter Tryd.func43, Tryd.ntmps43
    go_wp2
    go_loop [3] (fun i => ∃ k : Nat, k ≤ len ∧ i = .int .i64 k ∧ upR xs k) (fun i => len - (intOf i).toNat)
    case atStart => exact ⟨0, by omega, rfl, upR_zero xs⟩
    case round =>
      obtain ⟨k, hk, rfl, hU⟩ := hrel
      have U := Lib.hid hU
      clear hU
      by_cases hlt : k < len
      · obtain ⟨x, hx⟩ : ∃ x, xs[k]? = some x := ⟨xs[k]'(by rw [HS.out.count]; exact hlt), List.getElem?_eq_getElem _⟩
        have HX := Lib.hid hx
        have hcell : w.cell? ⟨b, off + k, none⟩ = some (.string x) := HC.out k x hx
        have hsz := HS.out.each k x hx
        clear hx
        cases hr : rightL x.toList
        all_goals
          have HR := Lib.hid hr
          clear hr
          go_wp2_with (go_at_call 27; refine (rright_as _ _ _ hsz HR).mono ?_; rintro e w' ⟨rfl, rfl⟩)
        · go_ret
          exact ⟨ret_bool (path_bad HX.out HR.out).symm, rfl⟩
        · go_round
          case rel => exact ⟨k + 1, by omega, by go_num, upR_succ U.out HX.out HR.out⟩
          case measure => simp [intOf]; omega
      · obtain rfl : k = len := by omega
        have HL := Lib.hid HS.out.count
        by_cases h16 : 16 < k
        · have HP := Lib.hid (path_size (xs := xs) (by rw [HL.out]; omega))
          go_wp2
          go_ret
          exact ⟨ret_bool ((decide_eq_false (by omega)).trans HP.out.symm), rfl⟩
        · have HP := Lib.hid (path_yes (xs := xs) (by rw [HL.out]; exact U.out) (by rw [HL.out]; omega) (by rw [HL.out]; omega))
          go_wp2
          go_ret
          exact ⟨ret_bool ((decide_eq_true (by omega)).trans HP.out), rfl⟩
  · have HP := Lib.hid (path_size (xs := xs) (by rw [HS.out.count]; omega))
    obtain rfl : len = 0 := by omega
    go_enter Tryd.func43, Tryd.ntmps43
    go_wp2
    go_loop [3] (fun i => i = .int .i64 0) (fun _ => 0)
    case atStart => rfl
    case round =>
      obtain rfl := hrel
      go_wp2
      go_ret
      exact ⟨ret_bool HP.out.symm, rfl⟩

def bl (xs : List ByteArray) : List (List UInt8) := xs.map (·.data.toList)
def sameB (xs ys : List ByteArray) : Bool := decide (bl xs = bl ys)
theorem same_len {xs ys : List ByteArray} (h : xs.length ≠ ys.length) : false = sameB xs ys :=
  (decide_eq_false fun e => h (by have := congrArg List.length e; simpa [bl] using this)).symm
/-- The first k are the same. -/
def Sam (xs ys : List ByteArray) (k : Nat) : Prop := ∀ (j : Nat) (x y : ByteArray), xs[j]? = some x → ys[j]? = some y → j < k → x.toList = y.toList
theorem Sam.zero (xs ys : List ByteArray) : Sam xs ys 0 := fun _ _ _ _ _ h => absurd h (by omega)
theorem Sam.succ {xs ys : List ByteArray} {k : Nat} {x y : ByteArray} (h : Sam xs ys k) (hx : xs[k]? = some x) (hy : ys[k]? = some y) (e : (x.toList == y.toList) = true) : Sam xs ys (k + 1) := fun j u v hu hv hj => by
  by_cases ej : j = k
  · subst ej; rw [hx] at hu; rw [hy] at hv; cases hu; cases hv; simpa using e
  · exact h j u v hu hv (by omega)
theorem same_bad {xs ys : List ByteArray} {k : Nat} {x y : ByteArray} (hx : xs[k]? = some x) (hy : ys[k]? = some y) (e : (x.toList == y.toList) = false) : false = sameB xs ys :=
  (decide_eq_false fun q => by
    have h1 : (bl xs)[k]? = some x.data.toList := by simp [bl, hx]
    have h2 : (bl ys)[k]? = some y.data.toList := by simp [bl, hy]
    rw [q, h2] at h1
    rw [Lib.toList_data, Lib.toList_data] at e
    have := Option.some.inj h1
    rw [this] at e
    simp at e).symm
theorem same_end {xs ys : List ByteArray} (hl : xs.length = ys.length) (h : Sam xs ys xs.length) : true = sameB xs ys :=
  (decide_eq_true (by
    unfold bl
    apply List.ext_getElem (by simpa using hl)
    intro i h1 h2
    simp only [List.length_map] at h1 h2
    simp only [List.getElem_map]
    have := h i _ _ (List.getElem?_eq_getElem h1) (List.getElem?_eq_getElem h2) h1
    rwa [Lib.toList_data, Lib.toList_data] at this)).symm

end Go.Proofs.YtlpilbghblbpbaaDoor.Nm
