/- WALKS of name.Path, of the reference's Path and Same. -/
import Derived.Test.YtngikbimlhoigaaDoorNf

namespace Go.Proofs.YtngikbimlhoigaaDoor.Nm
open Go.RowKit
def pathB (xs : List ByteArray) : Bool := decide (1 ≤ xs.length) && decide (xs.length ≤ 16) && xs.all fun x => rightL x.toList
def upR (xs : List ByteArray) (k : Nat) : Prop := ∀ (j : Nat) (x : ByteArray), xs[j]? = some x → j < k → rightL x.toList = true
theorem upR_zero (xs : List ByteArray) : upR xs 0 := fun _ _ _ h => absurd h (by omega)
theorem upR_succ {xs : List ByteArray} {k : Nat} {x : ByteArray} (h : upR xs k) (hx : xs[k]? = some x) (hr : rightL x.toList = true) : upR xs (k + 1) := fun j y hy hj => by
  by_cases e : j = k
  · subst e; rw [hx] at hy; cases hy; exact hr
  · exact h j y hy (by omega)
theorem path_bad {xs : List ByteArray} {k : Nat} {x : ByteArray} (hx : xs[k]? = some x) (hr : rightL x.toList = false) : pathB xs = false := by
  have : (xs.all fun x => rightL x.toList) = false := by
    rw [List.all_eq_false]
    exact ⟨x, List.mem_of_getElem? hx, by simp [hr]⟩
  unfold pathB; rw [this]; simp
theorem path_end {xs : List ByteArray} (h : upR xs xs.length) : pathB xs = (decide (1 ≤ xs.length) && decide (xs.length ≤ 16)) := by
  have : (xs.all fun x => rightL x.toList) = true := by
    rw [List.all_eq_true]
    intro x hx
    obtain ⟨k, hk, rfl⟩ := List.getElem_of_mem hx
    exact h k _ (List.getElem?_eq_getElem hk) hk
  unfold pathB; rw [this]; simp
theorem path_size {xs : List ByteArray} (h : ¬ (1 ≤ xs.length ∧ xs.length ≤ 16)) : pathB xs = false := by
  have : (decide (1 ≤ xs.length) && decide (xs.length ≤ 16)) = false := by rw [Bool.and_eq_false_iff]; simp only [decide_eq_false_iff_not]; omega
  unfold pathB; rw [this]; rfl
theorem path_yes {xs : List ByteArray} (h : upR xs xs.length) (h1 : 1 ≤ xs.length) (h2 : xs.length ≤ 16) : true = pathB xs := by
  rw [path_end h]; simp; omega
set_option maxHeartbeats 2000000 in
theorem path_any (a : Option Addr) (len cap : Nat) (xs : List ByteArray) (w : World) (hE : Env w) (hS : StrRow w a len xs) : Calls Tryd.prog 46 #[.slice a len cap] w fun e w' => e = .returned (.bool (pathB xs)) ∧ Below w.heap.size w w' := by
  have hmax := hS.max
  have HE := Lib.hid hE
  have HS := Lib.hid hS
  clear hE hS
  by_cases h0 : 1 ≤ len ∧ len ≤ 16
  · obtain ⟨h1, h16⟩ := h0
    obtain ⟨b, off, rfl, hb, hc⟩ := HS.out.at_ (by omega)
    have HC := Lib.hid hc
    have HB := Lib.hid hb
    clear hc hb
    have hl0 : ((len : Int) == 0) = false := by simp; omega
    have hl1 : ¬ len = 0 := by omega
    go_enter Tryd.func46, Tryd.ntmps46
    go_wp2
    go_loopw [15] (fun i wr => ∃ k : Nat, k ≤ len ∧ i = .int .i64 k ∧ Below w.heap.size w wr ∧ upR xs k) (fun i _ => len - (intOf i).toNat)
    case atStart => exact ⟨0, by omega, rfl, Below.refl _ _, upR_zero xs⟩
    case round =>
      obtain ⟨k, hk, rfl, hBl, hU⟩ := hrel
      rename World => wr
      have U := Lib.hid hU
      have BL := Lib.hid hBl
      clear hU hBl
      by_cases hlt : k < len
      · obtain ⟨x, hx⟩ : ∃ x, xs[k]? = some x := ⟨xs[k]'(by rw [HS.out.count]; exact hlt), List.getElem?_eq_getElem _⟩
        have HX := Lib.hid hx
        have hcell : wr.cell? ⟨b, off + k, none⟩ = some (.string x) := by rw [BL.out.cell (p := ⟨b, off + k, none⟩) HB.out]; exact HC.out k x hx
        have hsz := HS.out.each k x hx
        clear hx
        have hER := Lib.hid (HE.out.below BL.out)
        cases hr : rightL x.toList
        all_goals
          have HR := Lib.hid hr
          clear hr
          go_wp2_with (go_at_call 54; refine (right_as _ _ _ hER.out hsz HR).mono ?_; rintro e w' ⟨rfl, hB2⟩)
        · go_ret
          exact ⟨ret_bool (path_bad HX.out HR.out).symm, BL.out.trans (hB2.mono BL.out.size)⟩
        · go_roundw
          case rel => exact ⟨k + 1, by omega, by go_num, BL.out.trans (hB2.mono BL.out.size), upR_succ U.out HX.out HR.out⟩
          case measure => simp [intOf]; omega
      · obtain rfl : k = len := by omega
        have HL := Lib.hid HS.out.count
        go_wp2
        go_ret
        exact ⟨ret_bool (path_yes (by rw [HL.out]; exact U.out) (by rw [HL.out]; omega) (by rw [HL.out]; omega)), BL.out⟩
  · have HP := Lib.hid (path_size (xs := xs) (by rw [HS.out.count]; exact h0))
    have hc : len < 1 ∨ (¬ len < 1 ∧ 16 < len) := by omega
    clear h0
    rcases hc with hc | ⟨hc, hc2⟩
    · obtain rfl : len = 0 := by omega
      go_enter Tryd.func46, Tryd.ntmps46
      go_wp2
      go_ret
      exact ⟨ret_bool HP.out.symm, Below.refl _ _⟩
    · go_enter Tryd.func46, Tryd.ntmps46
      go_wp2
      go_ret
      exact ⟨ret_bool HP.out.symm, Below.refl _ _⟩

set_option maxHeartbeats 2000000 in
theorem rpath_any (a : Option Addr) (len cap : Nat) (xs : List ByteArray) (w : World) (hS : StrRow w a len xs) : Calls Tryd.prog 31 #[.slice a len cap] w fun e w' => e = .returned (.bool (pathB xs)) ∧ w = w' := by
  have hmax := hS.max
  have HS := Lib.hid hS
  clear hS
  by_cases h0 : 0 < len
  · obtain ⟨b, off, rfl, hb, hc⟩ := HS.out.at_ h0
    have HC := Lib.hid hc
    clear hc hb
    go_enter Tryd.func31, Tryd.ntmps31
    go_wp2
    go_loop [3] (fun i => ∃ k : Nat, k ≤ len ∧ i = .int .i64 k ∧ upR xs k) (fun i => len - (intOf i).toNat)
    case atStart => exact ⟨0, by omega, rfl, upR_zero xs⟩
    case round =>
      obtain ⟨k, hk, rfl, hU⟩ := hrel
      have U := Lib.hid hU
      clear hU
      by_cases hlt : k < len
      · obtain ⟨x, hx⟩ : ∃ x, xs[k]? = some x := ⟨xs[k]'(by rw [HS.out.count]; exact hlt), List.getElem?_eq_getElem _⟩
        have HX := Lib.hid hx
        have hcell : w.cell? ⟨b, off + k, none⟩ = some (.string x) := HC.out k x hx
        have hsz := HS.out.each k x hx
        clear hx
        cases hr : rightL x.toList
        all_goals
          have HR := Lib.hid hr
          clear hr
          go_wp2_with (go_at_call 49; refine (rright_as _ _ _ hsz HR).mono ?_; rintro e w' ⟨rfl, rfl⟩)
        · go_ret
          exact ⟨ret_bool (path_bad HX.out HR.out).symm, rfl⟩
        · go_round
          case rel => exact ⟨k + 1, by omega, by go_num, upR_succ U.out HX.out HR.out⟩
          case measure => simp [intOf]; omega
      · obtain rfl : k = len := by omega
        have HL := Lib.hid HS.out.count
        by_cases h16 : 16 < k
        · have HP := Lib.hid (path_size (xs := xs) (by rw [HL.out]; omega))
          go_wp2
          go_ret
          exact ⟨ret_bool ((decide_eq_false (by omega)).trans HP.out.symm), rfl⟩
        · have HP := Lib.hid (path_yes (xs := xs) (by rw [HL.out]; exact U.out) (by rw [HL.out]; omega) (by rw [HL.out]; omega))
          go_wp2
          go_ret
          exact ⟨ret_bool ((decide_eq_true (by omega)).trans HP.out), rfl⟩
  · have HP := Lib.hid (path_size (xs := xs) (by rw [HS.out.count]; omega))
    obtain rfl : len = 0 := by omega
    go_enter Tryd.func31, Tryd.ntmps31
    go_wp2
    go_loop [3] (fun i => i = .int .i64 0) (fun _ => 0)
    case atStart => rfl
    case round =>
      obtain rfl := hrel
      go_wp2
      go_ret
      exact ⟨ret_bool HP.out.symm, rfl⟩

def bl (xs : List ByteArray) : List (List UInt8) := xs.map (·.data.toList)
def sameB (xs ys : List ByteArray) : Bool := decide (bl xs = bl ys)
theorem same_len {xs ys : List ByteArray} (h : xs.length ≠ ys.length) : false = sameB xs ys :=
  (decide_eq_false fun e => h (by have := congrArg List.length e; simpa [bl] using this)).symm
/-- The first k are the same. -/
def Sam (xs ys : List ByteArray) (k : Nat) : Prop := ∀ (j : Nat) (x y : ByteArray), xs[j]? = some x → ys[j]? = some y → j < k → x.toList = y.toList
theorem Sam.zero (xs ys : List ByteArray) : Sam xs ys 0 := fun _ _ _ _ _ h => absurd h (by omega)
theorem Sam.succ {xs ys : List ByteArray} {k : Nat} {x y : ByteArray} (h : Sam xs ys k) (hx : xs[k]? = some x) (hy : ys[k]? = some y) (e : (x.toList == y.toList) = true) : Sam xs ys (k + 1) := fun j u v hu hv hj => by
  by_cases ej : j = k
  · subst ej; rw [hx] at hu; rw [hy] at hv; cases hu; cases hv; simpa using e
  · exact h j u v hu hv (by omega)
theorem same_bad {xs ys : List ByteArray} {k : Nat} {x y : ByteArray} (hx : xs[k]? = some x) (hy : ys[k]? = some y) (e : (x.toList == y.toList) = false) : false = sameB xs ys :=
  (decide_eq_false fun q => by
    have h1 : (bl xs)[k]? = some x.data.toList := by simp [bl, hx]
    have h2 : (bl ys)[k]? = some y.data.toList := by simp [bl, hy]
    rw [q, h2] at h1
    rw [Lib.toList_data, Lib.toList_data] at e
    have := Option.some.inj h1
    rw [this] at e
    simp at e).symm
theorem same_end {xs ys : List ByteArray} (hl : xs.length = ys.length) (h : Sam xs ys xs.length) : true = sameB xs ys :=
  (decide_eq_true (by
    unfold bl
    apply List.ext_getElem (by simpa using hl)
    intro i h1 h2
    simp only [List.length_map] at h1 h2
    simp only [List.getElem_map]
    have := h i _ _ (List.getElem?_eq_getElem h1) (List.getElem?_eq_getElem h2) h1
    rwa [Lib.toList_data, Lib.toList_data] at this)).symm

set_option maxHeartbeats 2000000 in
theorem same_any (a a' : Option Addr) (len cap len' cap' : Nat) (xs ys : List ByteArray) (w : World) (hS : StrRow w a len xs) (hT : StrRow w a' len' ys) : Calls Tryd.prog 19 #[.slice a len cap, .slice a' len' cap'] w fun e w' => e = .returned (.bool (sameB xs ys)) ∧ Below w.heap.size w w' := by
  have hmax := hS.max
  have HS := Lib.hid hS
  have HT := Lib.hid hT
  clear hS hT
  by_cases hl : len = len'
  · subst hl
    have HL := Lib.hid (show xs.length = ys.length by rw [HS.out.count, HT.out.count])
    have HC := Lib.hid HS.out.count
    by_cases h0 : 0 < len
    · obtain ⟨b, off, rfl, hb, hc⟩ := HS.out.at_ h0
      obtain ⟨b', off', rfl, hb', hc'⟩ := HT.out.at_ h0
      have C1 := Lib.hid hc
      have C2 := Lib.hid hc'
      have B1 := Lib.hid hb
      have B2 := Lib.hid hb'
      clear hc hc' hb hb'
      go_enter Tryd.func19, Tryd.ntmps19
      go_wp2
      go_loopw [5] (fun i wr => ∃ k : Nat, k ≤ len ∧ i = .int .i64 k ∧ Below w.heap.size w wr ∧ Sam xs ys k) (fun i _ => len - (intOf i).toNat)
      case atStart => exact ⟨0, by omega, rfl, Below.refl _ _, Sam.zero xs ys⟩
      case round =>
        obtain ⟨k, hk, rfl, hBl, hR⟩ := hrel
        rename World => wr
        have BL := Lib.hid hBl
        have RI := Lib.hid hR
        clear hBl hR
        by_cases hlt : k < len
        · obtain ⟨x, hx⟩ : ∃ x, xs[k]? = some x := ⟨xs[k]'(by rw [HS.out.count]; exact hlt), List.getElem?_eq_getElem _⟩
          obtain ⟨y, hy⟩ : ∃ y, ys[k]? = some y := ⟨ys[k]'(by rw [HT.out.count]; exact hlt), List.getElem?_eq_getElem _⟩
          have HX := Lib.hid hx
          have HY := Lib.hid hy
          have hcell : wr.cell? ⟨b, off + k, none⟩ = some (.string x) := by rw [BL.out.cell (p := ⟨b, off + k, none⟩) B1.out]; exact C1.out k x hx
          have hcell' : wr.cell? ⟨b', off' + k, none⟩ = some (.string y) := by rw [BL.out.cell (p := ⟨b', off' + k, none⟩) B2.out]; exact C2.out k y hy
          clear hx hy
          cases he : (x.toList == y.toList)
          all_goals
            have HE := Lib.hid he
            go_wp2
            go_quiet (fail)
            go_wp2
          · go_ret
            exact ⟨ret_bool (same_bad HX.out HY.out HE.out), below_drewN BL.out _⟩
          · go_roundw
            case rel => exact ⟨k + 1, by omega, by go_num, below_drewN BL.out _, RI.out.succ HX.out HY.out HE.out⟩
            case measure => simp [intOf]; omega
        · obtain rfl : k = len := by omega
          go_wp2
          go_ret
          exact ⟨ret_bool (same_end HL.out (by rw [HC.out]; exact RI.out)), BL.out⟩
    · obtain rfl : len = 0 := by omega
      go_enter Tryd.func19, Tryd.ntmps19
      go_wp2
      go_loopw [5] (fun i wr => i = .int .i64 0 ∧ Below w.heap.size w wr) (fun _ _ => 0)
      case atStart => exact ⟨rfl, Below.refl _ _⟩
      case round =>
        obtain ⟨rfl, hBl⟩ := hrel
        have BL := Lib.hid hBl
        clear hBl
        go_wp2
        go_ret
        exact ⟨ret_bool (same_end HL.out (by rw [HC.out]; exact Sam.zero xs ys)), BL.out⟩
  · have HP := Lib.hid (same_len (xs := xs) (ys := ys) (by rw [HS.out.count, HT.out.count]; exact hl))
    have hl2 : ((len : Int) != (len' : Int)) = true := by simp; omega
    clear hl
    go_enter Tryd.func19, Tryd.ntmps19
    go_wp2
    go_ret
    exact ⟨ret_bool HP.out, Below.refl _ _⟩
end Go.Proofs.YtngikbimlhoigaaDoor.Nm
