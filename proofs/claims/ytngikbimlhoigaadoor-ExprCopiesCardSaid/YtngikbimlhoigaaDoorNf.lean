/- WALKS of name.Rising and of the reference's Rising. -/
import Derived.Test.YtngikbimlhoigaaDoorNe
import Derived.Deep.QuietTactic
import Derived.BigQuiet
import Derived.Sort.Walk0
namespace Go.Proofs.YtngikbimlhoigaaDoor.Nm
open Go.RowKit

/-- Each of the first n is a name, above the one ahead. -/
def Ris (xs : List ByteArray) (n : Nat) : Prop := ∀ (k : Nat) (x : ByteArray), xs[k]? = some x → k < n → rightL x.toList = true ∧ ∀ (j : Nat) (y : ByteArray), j + 1 = k → xs[j]? = some y → Op.bytesLess y.toList x.toList = true
noncomputable def risB (xs : List ByteArray) : Bool := @decide (Ris xs xs.length) (Classical.propDecidable _)
theorem ris_yes {xs : List ByteArray} (h : Ris xs xs.length) : true = risB xs := (@decide_eq_true _ (Classical.propDecidable _) h).symm
theorem ris_no {xs : List ByteArray} (h : ¬ Ris xs xs.length) : false = risB xs := (@decide_eq_false _ (Classical.propDecidable _) h).symm
theorem lt_len {xs : List ByteArray} {k : Nat} {x : ByteArray} (h : xs[k]? = some x) : k < xs.length := (List.getElem?_eq_some_iff.1 h).1
theorem ris_bad_name {xs : List ByteArray} {k : Nat} {x : ByteArray} (hx : xs[k]? = some x) (hr : rightL x.toList = false) : false = risB xs :=
  ris_no fun h => by have := (h k x hx (lt_len hx)).1; rw [hr] at this; exact absurd this (by decide)
theorem ris_bad_ord {xs : List ByteArray} {j : Nat} {x y : ByteArray} (hx : xs[j + 1]? = some x) (hy : xs[j]? = some y) (hr : Op.bytesLess y.toList x.toList = false) : false = risB xs :=
  ris_no fun h => by have := (h (j + 1) x hx (lt_len hx)).2 j y rfl hy; rw [hr] at this; exact absurd this (by decide)
theorem Ris.zero (xs : List ByteArray) : Ris xs 0 := fun _ _ _ h => absurd h (by omega)
theorem Ris.one {xs : List ByteArray} {x : ByteArray} (hx : xs[0]? = some x) (hr : rightL x.toList = true) : Ris xs 1 := fun k z hz hk => by
  obtain rfl : k = 0 := by omega
  rw [hx] at hz; cases hz
  exact ⟨hr, fun j y e _ => absurd e (by omega)⟩
theorem Ris.succ {xs : List ByteArray} {j : Nat} {x y : ByteArray} (h : Ris xs (j + 1)) (hx : xs[j + 1]? = some x) (hy : xs[j]? = some y) (hr : rightL x.toList = true) (ho : Op.bytesLess y.toList x.toList = true) : Ris xs (j + 1 + 1) := fun k z hz hk => by
  by_cases e : k = j + 1
  · subst e
    rw [hx] at hz; cases hz
    refine ⟨hr, fun i u ei hu => ?_⟩
    obtain rfl : i = j := by omega
    rw [hy] at hu; cases hu
    exact ho
  · exact h k z hz (by omega)
theorem less_total (a b : List UInt8) : (Op.bytesLess a b || a == b) = !(Op.bytesLess b a) := by
  rw [bytesLess_eq, bytesLess_eq, Bool.eq_iff_iff]
  simp only [Bool.or_eq_true, decide_eq_true_eq, beq_iff_eq, Bool.not_eq_true', decide_eq_false_iff_not]
  rw [List.not_lt, List.le_iff_lt_or_eq]
theorem less_le {a b : List UInt8} (h : Op.bytesLess a b = true ∨ (a == b) = true) : Op.bytesLess b a = false := by
  have := less_total a b
  rcases h with h | h <;> rw [h] at this <;> simpa using this.symm
theorem less_gt {a b : List UInt8} (h : Op.bytesLess a b = false ∧ (a == b) = false) : Op.bytesLess b a = true := by
  have := less_total a b
  rw [h.1, h.2] at this; simpa using this.symm

set_option maxHeartbeats 4000000 in
theorem rising_any (a : Option Addr) (len cap : Nat) (xs : List ByteArray) (w : World) (hE : Env w) (hS : StrRow w a len xs) : Calls Tryd.prog 53 #[.slice a len cap] w fun e w' => e = .returned (.bool (risB xs)) ∧ Below w.heap.size w w' := by
  have hmax := hS.max
  have HE := Lib.hid hE
  have HS := Lib.hid hS
  clear hE hS
  by_cases h0 : 0 < len
  · obtain ⟨b, off, rfl, hb, hc⟩ := HS.out.at_ h0
    have HC := Lib.hid hc
    have HB := Lib.hid hb
    clear hc hb
    go_enter Tryd.func53, Tryd.ntmps53
    go_wp2
    go_loopw [7] (fun i wr => ∃ k : Nat, k ≤ len ∧ i = .int .i64 k ∧ Below w.heap.size w wr ∧ Ris xs k) (fun i _ => len - (intOf i).toNat)
    case atStart => exact ⟨0, by omega, rfl, Below.refl _ _, Ris.zero xs⟩
    case round =>
      obtain ⟨k, hk, rfl, hBl, hR⟩ := hrel
      rename World => wr
      have BL := Lib.hid hBl
      have RI := Lib.hid hR
      clear hBl hR
      by_cases hlt : k < len
      · obtain ⟨x, hx⟩ : ∃ x, xs[k]? = some x := ⟨xs[k]'(by rw [HS.out.count]; exact hlt), List.getElem?_eq_getElem _⟩
        have HX := Lib.hid hx
        have hcell : wr.cell? ⟨b, off + k, none⟩ = some (.string x) := by rw [BL.out.cell (p := ⟨b, off + k, none⟩) HB.out]; exact HC.out k x hx
        have hsz := HS.out.each k x hx
        clear hx
        have hER := Lib.hid (HE.out.below BL.out)
        cases hr : rightL x.toList
        · have HR := Lib.hid hr
          clear hr
          go_wp2_with (go_at_call 54; refine (right_as _ _ _ hER.out hsz HR).mono ?_; rintro e w' ⟨rfl, hB2⟩)
          go_ret
          exact ⟨ret_bool (ris_bad_name HX.out HR.out), BL.out.trans (hB2.mono BL.out.size)⟩
        · have HR := Lib.hid hr
          clear hr
          by_cases hk0 : 0 < k
          · obtain ⟨j, rfl⟩ : ∃ j, k = j + 1 := ⟨k - 1, by omega⟩
            obtain ⟨y, hy⟩ : ∃ y, xs[j]? = some y := ⟨xs[j]'(by rw [HS.out.count]; omega), List.getElem?_eq_getElem _⟩
            have HY := Lib.hid hy
            have hce : wr.cell? ⟨b, off + j, none⟩ = some (.string y) := by rw [BL.out.cell (p := ⟨b, off + j, none⟩) HB.out]; exact HC.out j y hy
            clear hy
            go_wp2_with (go_at_call 54; refine (right_as _ _ _ hER.out hsz HR).mono ?_; rintro e w' ⟨rfl, hB2⟩; have hce2 := (hB2.cell (p := ⟨b, off + j, none⟩) (Nat.lt_of_lt_of_le HB.out BL.out.size)).trans hce)
            · go_ret
              exact ⟨ret_bool (ris_bad_ord HX.out HY.out (less_le ‹_›)), BL.out.trans (hB2.mono BL.out.size)⟩
            · go_roundw
              case rel => exact ⟨j + 1 + 1, by omega, by go_num, BL.out.trans (hB2.mono BL.out.size), RI.out.succ HX.out HY.out HR.out (less_gt ‹_›)⟩
              case measure => simp [intOf]; omega
          · obtain rfl : k = 0 := by omega
            have hcell0 : wr.cell? ⟨b, off, none⟩ = some (.string x) := hcell
            clear hcell
            go_wp2_with (go_at_call 54; refine (right_as _ _ _ hER.out hsz HR).mono ?_; rintro e w' ⟨rfl, hB2⟩)
            go_roundw
            case rel => exact ⟨1, by omega, by go_num, BL.out.trans (hB2.mono BL.out.size), Ris.one HX.out HR.out⟩
            case measure => simp [intOf]; omega
      · obtain rfl : k = len := by omega
        have HL := Lib.hid HS.out.count
        go_wp2
        go_ret
        exact ⟨ret_bool (ris_yes (by rw [HL.out]; exact RI.out)), BL.out⟩
  · obtain rfl : len = 0 := by omega
    have HL := Lib.hid HS.out.count
    go_enter Tryd.func53, Tryd.ntmps53
    go_wp2
    go_loopw [7] (fun i wr => i = .int .i64 0 ∧ Below w.heap.size w wr) (fun _ _ => 0)
    case atStart => exact ⟨rfl, Below.refl _ _⟩
    case round =>
      obtain ⟨rfl, hBl⟩ := hrel
      have BL := Lib.hid hBl
      clear hBl
      go_wp2
      go_ret
      exact ⟨ret_bool (ris_yes (by rw [HL.out]; exact Ris.zero xs)), BL.out⟩

theorem rright_same (s : ByteArray) (b : Bool) (w : World) (hs : s.size ≤ 140737488355328) (hb : Hid (rightL s.toList = b)) : Calls Tryd.prog 49 #[.string s] w fun e w' => e = .returned (.bool b) ∧ w' = w :=
  (rright_as s b w hs hb).mono fun _ _ ⟨h, h'⟩ => ⟨h, h'.symm⟩
set_option maxHeartbeats 4000000 in
theorem rrising_any (a : Option Addr) (len cap : Nat) (xs : List ByteArray) (w : World) (hS : StrRow w a len xs) : Calls Tryd.prog 50 #[.slice a len cap] w fun e w' => e = .returned (.bool (risB xs)) ∧ Below w.heap.size w w' := by
  have hmax := hS.max
  have HS := Lib.hid hS
  clear hS
  by_cases h0 : 0 < len
  · obtain ⟨b, off, rfl, hb, hc⟩ := HS.out.at_ h0
    have HC := Lib.hid hc
    have HB := Lib.hid hb
    clear hc hb
    go_enter Tryd.func50, Tryd.ntmps50
    go_wp2
    go_loopw [3] (fun i wr => ∃ k : Nat, k ≤ len ∧ i = .int .i64 k ∧ Below w.heap.size w wr ∧ Ris xs k) (fun i _ => len - (intOf i).toNat)
    case atStart => exact ⟨0, by omega, rfl, Below.refl _ _, Ris.zero xs⟩
    case round =>
      obtain ⟨k, hk, rfl, hBl, hR⟩ := hrel
      rename World => wr
      have BL := Lib.hid hBl
      have RI := Lib.hid hR
      clear hBl hR
      by_cases hlt : k < len
      · obtain ⟨x, hx⟩ : ∃ x, xs[k]? = some x := ⟨xs[k]'(by rw [HS.out.count]; exact hlt), List.getElem?_eq_getElem _⟩
        have HX := Lib.hid hx
        have hcell : wr.cell? ⟨b, off + k, none⟩ = some (.string x) := by rw [BL.out.cell (p := ⟨b, off + k, none⟩) HB.out]; exact HC.out k x hx
        have hsz := HS.out.each k x hx
        clear hx
        cases hr : rightL x.toList
        · have HR := Lib.hid hr
          clear hr
          go_wp2
          go_quiet ((go_at_call 49; exact Calls.quiet_of_same (rright_same _ _ _ hsz HR)))
          go_wp2
          go_ret
          exact ⟨ret_bool (ris_bad_name HX.out HR.out), below_drewN BL.out _⟩
        · have HR := Lib.hid hr
          clear hr
          by_cases hk0 : 0 < k
          · obtain ⟨j, rfl⟩ : ∃ j, k = j + 1 := ⟨k - 1, by omega⟩
            obtain ⟨y, hy⟩ : ∃ y, xs[j]? = some y := ⟨xs[j]'(by rw [HS.out.count]; omega), List.getElem?_eq_getElem _⟩
            have HY := Lib.hid hy
            have hce : wr.cell? ⟨b, off + j, none⟩ = some (.string y) := by rw [BL.out.cell (p := ⟨b, off + j, none⟩) HB.out]; exact HC.out j y hy
            clear hy
            cases ho : Op.bytesLess y.toList x.toList
            all_goals
              have HO := Lib.hid ho
              go_wp2
              go_quiet ((go_at_call 49; exact Calls.quiet_of_same (rright_same _ _ _ hsz HR)))
              go_wp2
            · go_ret
              exact ⟨ret_bool (ris_bad_ord HX.out HY.out HO.out), below_drewN BL.out _⟩
            · go_roundw
              case rel => exact ⟨j + 1 + 1, by omega, by go_num, below_drewN BL.out _, RI.out.succ HX.out HY.out HR.out HO.out⟩
              case measure => simp [intOf]; omega
          · obtain rfl : k = 0 := by omega
            have hcell0 : wr.cell? ⟨b, off, none⟩ = some (.string x) := hcell
            clear hcell
            go_wp2
            go_quiet ((go_at_call 49; exact Calls.quiet_of_same (rright_same _ _ _ hsz HR)))
            go_wp2
            go_roundw
            case rel => exact ⟨1, by omega, by go_num, below_drewN BL.out _, Ris.one HX.out HR.out⟩
            case measure => simp [intOf]; omega
      · obtain rfl : k = len := by omega
        have HL := Lib.hid HS.out.count
        go_wp2
        go_ret
        exact ⟨ret_bool (ris_yes (by rw [HL.out]; exact RI.out)), BL.out⟩
  · obtain rfl : len = 0 := by omega
    have HL := Lib.hid HS.out.count
    go_enter Tryd.func50, Tryd.ntmps50
    go_wp2
    go_loopw [3] (fun i wr => i = .int .i64 0 ∧ Below w.heap.size w wr) (fun _ _ => 0)
    case atStart => exact ⟨rfl, Below.refl _ _⟩
    case round =>
      obtain ⟨rfl, hBl⟩ := hrel
      have BL := Lib.hid hBl
      clear hBl
      go_wp2
      go_ret
      exact ⟨ret_bool (ris_yes (by rw [HL.out]; exact Ris.zero xs)), BL.out⟩
end Go.Proofs.YtngikbimlhoigaaDoor.Nm
