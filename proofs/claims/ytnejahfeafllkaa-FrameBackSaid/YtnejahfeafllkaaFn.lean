/- WALK of the reference's Same. -/
import Derived.Test.YtnejahfeafllkaaFk
import Derived.Deep.QuietTactic
import Derived.BigQuiet
namespace Go.Proofs.Ytnejahfeafllkaa
open Go.RowKit
/-- The bytes of texts. -/
def bl (xs : List ByteArray) : List (List UInt8) := xs.map fun x => x.data.toList
theorem below_drewN {B : Nat} {w a : World} (h : Below B w a) (n : Nat) : Below B w (a.drewN n) := ⟨h.os, h.tape, h.output, h.size, h.block⟩
def sameB (xs ys : List ByteArray) : Bool := decide (bl xs = bl ys)
theorem same_len {xs ys : List ByteArray} (h : xs.length ≠ ys.length) : false = sameB xs ys :=
  (decide_eq_false fun e => h (by have := congrArg List.length e; simpa [bl] using this)).symm
/-- The first k are the same. -/
def Sam (xs ys : List ByteArray) (k : Nat) : Prop := ∀ (j : Nat) (x y : ByteArray), xs[j]? = some x → ys[j]? = some y → j < k → x.toList = y.toList
theorem Sam.zero (xs ys : List ByteArray) : Sam xs ys 0 := fun _ _ _ _ _ h => absurd h (by omega)
theorem Sam.succ {xs ys : List ByteArray} {k : Nat} {x y : ByteArray} (h : Sam xs ys k) (hx : xs[k]? = some x) (hy : ys[k]? = some y) (e : (x.toList == y.toList) = true) : Sam xs ys (k + 1) := fun j u v hu hv hj => by
  by_cases ej : j = k
  · subst ej; rw [hx] at hu; rw [hy] at hv; cases hu; cases hv; simpa using e
  · exact h j u v hu hv (by omega)
theorem same_bad {xs ys : List ByteArray} {k : Nat} {x y : ByteArray} (hx : xs[k]? = some x) (hy : ys[k]? = some y) (e : (x.toList == y.toList) = false) : false = sameB xs ys :=
  (decide_eq_false fun q => by
    have h1 : (bl xs)[k]? = some x.data.toList := by simp [bl, hx]
    have h2 : (bl ys)[k]? = some y.data.toList := by simp [bl, hy]
    rw [q, h2] at h1
    rw [Lib.toList_data, Lib.toList_data] at e
    have := Option.some.inj h1
    rw [this] at e
    simp at e).symm
theorem same_end {xs ys : List ByteArray} (hl : xs.length = ys.length) (h : Sam xs ys xs.length) : true = sameB xs ys :=
  (decide_eq_true (by
    unfold bl
    apply List.ext_getElem (by simpa using hl)
    intro i h1 h2
    simp only [List.length_map] at h1 h2
    simp only [List.getElem_map]
    have := h i _ _ (List.getElem?_eq_getElem h1) (List.getElem?_eq_getElem h2) h1
    rwa [Lib.toList_data, Lib.toList_data] at this)).symm

set_option maxHeartbeats 2000000 in
theorem same_any (a a' : Option Addr) (len cap len' cap' : Nat) (xs ys : List ByteArray) (w : World) (hS : StrRow w a len xs) (hT : StrRow w a' len' ys) : Calls Try.prog 30 #[.slice a len cap, .slice a' len' cap'] w fun e w' => e = .returned (.bool (sameB xs ys)) ∧ Below w.heap.size w w' := by
  have hmax := hS.max
  have HS := Lib.hid hS
  have HT := Lib.hid hT
  clear hS hT
  by_cases hl : len = len'
  · subst hl
    have HL := Lib.hid (show xs.length = ys.length by rw [HS.out.count, HT.out.count])
    have HC := Lib.hid HS.out.count
    by_cases h0 : 0 < len
    · obtain ⟨b, off, rfl, hb, hc⟩ := HS.out.at_ h0
      obtain ⟨b', off', rfl, hb', hc'⟩ := HT.out.at_ h0
      have C1 := Lib.hid hc
      have C2 := Lib.hid hc'
      have B1 := Lib.hid hb
      have B2 := Lib.hid hb'
      clear hc hc' hb hb'
      go_enter Try.func30, Try.ntmps30
      go_wp2
      go_loopw [5] (fun i wr => ∃ k : Nat, k ≤ len ∧ i = .int .i64 k ∧ Below w.heap.size w wr ∧ Sam xs ys k) (fun i _ => len - (intOf i).toNat)
      case atStart => exact ⟨0, by omega, rfl, Below.refl _ _, Sam.zero xs ys⟩
      case round =>
        obtain ⟨k, hk, rfl, hBl, hR⟩ := hrel
        rename World => wr
        have BL := Lib.hid hBl
        have RI := Lib.hid hR
        clear hBl hR
        by_cases hlt : k < len
        · obtain ⟨x, hx⟩ : ∃ x, xs[k]? = some x := ⟨xs[k]'(by rw [HS.out.count]; exact hlt), List.getElem?_eq_getElem _⟩
          obtain ⟨y, hy⟩ : ∃ y, ys[k]? = some y := ⟨ys[k]'(by rw [HT.out.count]; exact hlt), List.getElem?_eq_getElem _⟩
          have HX := Lib.hid hx
          have HY := Lib.hid hy
          have hcell : wr.cell? ⟨b, off + k, none⟩ = some (.string x) := by rw [BL.out.cell (p := ⟨b, off + k, none⟩) B1.out]; exact C1.out k x hx
          have hcell' : wr.cell? ⟨b', off' + k, none⟩ = some (.string y) := by rw [BL.out.cell (p := ⟨b', off' + k, none⟩) B2.out]; exact C2.out k y hy
          clear hx hy
          cases he : (x.toList == y.toList)
          all_goals
            have HE := Lib.hid he
            go_wp2
            go_quiet (fail)
            go_wp2
          · go_ret
            exact ⟨ret_bool (same_bad HX.out HY.out HE.out), below_drewN BL.out _⟩
          · go_roundw
            case rel => exact ⟨k + 1, by omega, by go_num, below_drewN BL.out _, RI.out.succ HX.out HY.out HE.out⟩
            case measure => simp [intOf]; omega
        · obtain rfl : k = len := by omega
          go_wp2
          go_ret
          exact ⟨ret_bool (same_end HL.out (by rw [HC.out]; exact RI.out)), BL.out⟩
    · obtain rfl : len = 0 := by omega
      go_enter Try.func30, Try.ntmps30
      go_wp2
      go_loopw [5] (fun i wr => i = .int .i64 0 ∧ Below w.heap.size w wr) (fun _ _ => 0)
      case atStart => exact ⟨rfl, Below.refl _ _⟩
      case round =>
        obtain ⟨rfl, hBl⟩ := hrel
        have BL := Lib.hid hBl
        clear hBl
        go_wp2
        go_ret
        exact ⟨ret_bool (same_end HL.out (by rw [HC.out]; exact Sam.zero xs ys)), BL.out⟩
  · have HP := Lib.hid (same_len (xs := xs) (ys := ys) (by rw [HS.out.count, HT.out.count]; exact hl))
    have hl2 : ((len : Int) != (len' : Int)) = true := by simp; omega
    clear hl
    go_enter Try.func30, Try.ntmps30
    go_wp2
    go_ret
    exact ⟨ret_bool HP.out, Below.refl _ _⟩

theorem same_is (a a' : Option Addr) (len cap len' cap' : Nat) (xs : List ByteArray) (w : World) (hS : StrRow w a len xs) (hT : StrRow w a' len' xs) : Calls Try.prog 30 #[.slice a len cap, .slice a' len' cap'] w fun e w' => e = .returned (.bool true) ∧ Below w.heap.size w w' := by
  have e : sameB xs xs = true := decide_eq_true rfl
  rw [← e]; exact same_any a a' len cap len' cap' xs xs w hS hT
end Go.Proofs.Ytnejahfeafllkaa
