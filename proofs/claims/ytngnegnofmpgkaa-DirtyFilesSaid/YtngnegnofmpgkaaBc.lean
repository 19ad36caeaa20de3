/- WALKS of dirty's Files; of the laws' Light and unlike, the reference's file. -/
import Derived.Test.YtngnegnofmpgkaaBb
import Derived.Test.YtngnegnofmpgkaaZ19
import Derived.Deep.QuietTactic
import Derived.BigQuiet
namespace Go.Proofs.Ytngnegnofmpgkaa.Gr
open Go.RowKit Go.Maps Go.Sort
open Go.Proofs.Ytngnegnofmpgkaa.Nm (StrRow)
set_option maxRecDepth 100000 in
theorem filesS_any (w0 : World) (a : Option Addr) (len cap : Nat) (a2 : Option Addr) (len2 cap2 : Nat) (xs ys : List Sr) (w : World) (hX : LineRow w0 a len xs) (hY : LineRow w0 a2 len2 ys) (hl : len ≤ 100000) (hl2 : len2 ≤ 100000)
    (hnx : (xs.map sNm).Nodup) (hny : (ys.map sNm).Nodup) (hB : Below w0.heap.size w0 w) : Calls Try.prog 9 #[.slice a len cap, .slice a2 len2 cap2] w (SetR (chS sNm qS xs ys) 200000 w) := by
  have HC := Lib.hid (changedS_any w0 a len cap a2 len2 cap2 xs ys w hX hY hl hl2 hnx hny hB)
  clear hX hY hnx hny hB
  go_enter Try.func9, Try.ntmps9
  go_wp2_with fail
  go_at_call 17; refine HC.out.mono ?_; rintro e w2 ⟨l, ⟨v, rfl, hr, hB2⟩, hs, hm⟩
  have HR := Lib.hid (And.intro hr (And.intro hB2 (And.intro hs hm)))
  clear hr hB2 hs hm HC
  go_wp2_with fail
  go_ret
  exact ⟨l, ⟨v, rfl, HR.out.1, HR.out.2.1⟩, HR.out.2.2⟩
/-- Where the first file of a name stands, or -1. -/
def FndS (xs : List Sr) (s : ByteArray) (i : Int) : Prop := (i = -1 ∧ s ∉ xs.map sNm) ∨ ∃ (k : Nat) (x : Sr), i = (k : Int) ∧ xs[k]? = some x ∧ sNm x = s
set_option maxRecDepth 100000 in
set_option maxHeartbeats 4000000 in
theorem rfile_any (a : Option Addr) (len cap : Nat) (xs : List Sr) (s : ByteArray) (w : World) (hS : LineRow w a len xs) : Calls Try.prog 20 #[.slice a len cap, .string s] w fun e w' => (∃ i : Int, e = .returned (.int .i64 i) ∧ FndS xs s i) ∧ w = w' := by
  have hmax := hS.max
  have HS := Lib.hid hS
  have HN0 := Lib.hid (show Nin s (xs.map sNm) 0 from fun _ _ _ h => absurd h (by omega))
  clear hS
  by_cases h0 : 0 < len
  · obtain ⟨b, off, rfl, hb, hc⟩ := HS.out.at_ h0
    have HC := Lib.hid hc
    clear hc hb
    go_enter Try.func20, Try.ntmps20
    go_wp2
    go_loop [5] (fun i => ∃ k : Nat, k ≤ len ∧ i = .int .i64 k ∧ Hid (Nin s (xs.map sNm) k)) (fun i => len - (intOf i).toNat)
    case atStart => exact ⟨0, by omega, rfl, HN0⟩
    case round =>
      obtain ⟨k, hk, rfl, hU⟩ := hrel
      by_cases hlt : k < len
      · obtain ⟨x, hx⟩ : ∃ x, xs[k]? = some x := ⟨xs[k]'(by rw [HS.out.count]; exact hlt), List.getElem?_eq_getElem _⟩
        have hcell := (HC.out k x hx).1
        have HX := Lib.hid hx
        have HX2 := Lib.hid (show (xs.map sNm)[k]? = some x.1 by rw [List.getElem?_map, hx]; rfl)
        obtain ⟨nm, hnm⟩ : ∃ nm, x.1 = nm := ⟨_, rfl⟩
        have HNM := Lib.hid hnm
        rw [hnm] at hcell HX2
        clear hx hnm
        cases hr : (nm.toList == s.toList)
        · have HR := Lib.hid hr
          go_wp2
          go_round
          case rel => exact ⟨k + 1, by omega, by go_num, Lib.hid (hU.out.succ HX2.out HR.out)⟩
          case measure => simp [intOf]; omega
        · have HR := Lib.hid hr
          go_wp2
          go_ret
          have e := eq_list.1 HR.out
          subst e
          exact ⟨⟨k, rfl, .inr ⟨k, x, rfl, HX.out, HNM.out⟩⟩, rfl⟩
      · have hki : ¬ (k : Int) < (len : Int) := by omega
        obtain rfl : k = len := by omega
        go_wp2
        go_ret
        refine ⟨⟨-1, rfl, .inl ⟨rfl, fun hm => ?_⟩⟩, rfl⟩
        have := nin_end (s := s) (xs := xs.map sNm) (by rw [List.length_map, HS.out.count]; exact hU.out)
        rw [inB_iff.2 hm] at this
        exact absurd this (by decide)
  · obtain rfl : len = 0 := by omega
    have hx : xs = [] := List.eq_nil_of_length_eq_zero HS.out.count
    subst hx
    go_enter Try.func20, Try.ntmps20
    go_wp2
    refine wp_loop_rounds 1 ?_
    rw [rounds_succ]
    go_wp2
    go_ret
    exact ⟨⟨-1, rfl, .inl ⟨rfl, by simp⟩⟩, rfl⟩
/-- A bool that is true only if there are few. -/
def LightR (xs : List Sr) (w : World) (e : Ending) (w' : World) : Prop := ∃ b : Bool, e = .returned (.bool b) ∧ Below w.heap.size w w' ∧ (b = true → xs.length ≤ 40)
set_option maxRecDepth 100000 in
set_option maxHeartbeats 8000000 in
theorem light_any (a : Option Addr) (len cap : Nat) (xs : List Sr) (w : World) (hX : LineRow w a len xs) : Calls Try.prog 5 #[.slice a len cap] w (LightR xs w) := by
  have HX := Lib.hid hX
  have hcx := hX.count
  have hmx := hX.max
  clear hX
  by_cases h40 : len ≤ 40
  · have hg40 : ¬ ((40 : Int) < (len : Int)) := by omega
    go_enter Try.func5, Try.ntmps5
    go_upto_region 5 with fail
    go_loopw [3, 4] (fun v i wr => ∃ (k : Nat) (z : Int), k ≤ len ∧ v = .int .i64 z ∧ i = .int .i64 k ∧ Hid (Below w.heap.size w wr)) (fun _ i _ => len - (intOf i).toNat)
    case atStart => exact ⟨0, 0, by omega, rfl, rfl, Lib.hid (Below.refl _ _)⟩
    case round =>
      obtain ⟨k, z, hk, rfl, rfl, hB⟩ := hrel
      rename World => wr
      have HB := Lib.hid hB.out
      clear hB
      by_cases hlt : k < len
      · obtain ⟨b0, off, rfl, hb, hc⟩ := HX.out.at_ (by omega)
        obtain ⟨x, hx⟩ : ∃ x, xs[k]? = some x := ⟨xs[k]'(by rw [hcx]; exact hlt), List.getElem?_eq_getElem _⟩
        obtain ⟨nm, tx⟩ := x
        have c0 : wr.cell? ⟨b0, off + k * 2, none⟩ = some (.string nm) := (HB.out.cell (p := ⟨b0, off + k * 2, none⟩) hb).trans (hc k _ hx).1
        have c1 : wr.cell? ⟨b0, off + k * 2 + 1, none⟩ = some (.string tx) := (HB.out.cell (p := ⟨b0, off + k * 2 + 1, none⟩) hb).trans (hc k _ hx).2
        clear hx hc hb
        by_cases hn : nm.size ≤ 100
        · have hn2 : ¬ ((100 : Int) < (nm.size : Int)) := by omega
          by_cases ht : tx.size ≤ 500
          · have ht2 : ¬ ((500 : Int) < (tx.size : Int)) := by omega
            go_wp2
            go_roundw
            case rel => exact ⟨k + 1, _, by omega, rfl, by go_num, HB⟩
            case measure => simp [intOf]; omega
          · have ht2 : (500 : Int) < (tx.size : Int) := by omega
            go_wp2
            go_ret
            exact ⟨false, rfl, HB.out, fun h => absurd h (by decide)⟩
        · have hn2 : (100 : Int) < (nm.size : Int) := by omega
          go_wp2
          go_ret
          exact ⟨false, rfl, HB.out, fun h => absurd h (by decide)⟩
      · have hki : ¬ (k : Int) < (len : Int) := by omega
        obtain rfl : k = len := by omega
        go_wp2
        go_ret
        exact ⟨_, rfl, HB.out, fun _ => by omega⟩
  · have hg40 : (40 : Int) < (len : Int) := by omega
    go_enter Try.func5, Try.ntmps5
    go_wp2
    go_ret
    exact ⟨false, rfl, Below.refl _ _, fun h => absurd h (by decide)⟩
end Go.Proofs.Ytngnegnofmpgkaa.Gr
