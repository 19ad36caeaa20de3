/- WALKS of slices.Equal at texts, slices.EqualFunc at expressions. -/
import Derived.Test.YtngnegnofmpgkaaZ8
namespace Go.Proofs.Ytngnegnofmpgkaa.Nm
open Go.RowKit
set_option maxHeartbeats 2000000 in
theorem equal_any (a a' : Option Addr) (len cap len' cap' : Nat) (xs ys : List ByteArray) (w : World) (hS : StrRow w a len xs) (hT : StrRow w a' len' ys) : Calls Try.prog 42 #[.slice a len cap, .slice a' len' cap'] w fun e w' => e = .returned (.bool (sameB xs ys)) ∧ Below w.heap.size w w' := by
  have hmax := hS.max
  have HS := Lib.hid hS
  have HT := Lib.hid hT
  clear hS hT
  by_cases hl : len = len'
  · subst hl
    have HL := Lib.hid (show xs.length = ys.length by rw [HS.out.count, HT.out.count])
    have HC := Lib.hid HS.out.count
    by_cases h0 : 0 < len
    · obtain ⟨b, off, rfl, hb, hc⟩ := HS.out.at_ h0
      obtain ⟨b', off', rfl, hb', hc'⟩ := HT.out.at_ h0
      have C1 := Lib.hid hc
      have C2 := Lib.hid hc'
      have B1 := Lib.hid hb
      have B2 := Lib.hid hb'
      clear hc hc' hb hb'
      go_enter Try.func42, Try.ntmps42
      go_wp2
      go_loopw [13] (fun i wr => ∃ k : Nat, k ≤ len ∧ i = .int .i64 k ∧ Below w.heap.size w wr ∧ Sam xs ys k) (fun i _ => len - (intOf i).toNat)
      case atStart => exact ⟨0, by omega, rfl, Below.refl _ _, Sam.zero xs ys⟩
      case round =>
        obtain ⟨k, hk, rfl, hBl, hR⟩ := hrel
        rename World => wr
        have BL := Lib.hid hBl
        have RI := Lib.hid hR
        clear hBl hR
        by_cases hlt : k < len
        · obtain ⟨x, hx⟩ : ∃ x, xs[k]? = some x := ⟨xs[k]'(by rw [HS.out.count]; exact hlt), List.getElem?_eq_getElem _⟩
          obtain ⟨y, hy⟩ : ∃ y, ys[k]? = some y := ⟨ys[k]'(by rw [HT.out.count]; exact hlt), List.getElem?_eq_getElem _⟩
          have HX := Lib.hid hx
          have HY := Lib.hid hy
          have hcell : wr.cell? ⟨b, off + k, none⟩ = some (.string x) := by rw [BL.out.cell (p := ⟨b, off + k, none⟩) B1.out]; exact C1.out k x hx
          have hcell' : wr.cell? ⟨b', off' + k, none⟩ = some (.string y) := by rw [BL.out.cell (p := ⟨b', off' + k, none⟩) B2.out]; exact C2.out k y hy
          clear hx hy
          cases he : (x.toList == y.toList)
          all_goals
            have HE := Lib.hid he
            go_wp2
            go_quiet (fail)
            go_wp2
          · go_ret
            exact ⟨ret_bool (same_bad HX.out HY.out HE.out), below_drewN BL.out _⟩
          · go_roundw
            case rel => exact ⟨k + 1, by omega, by go_num, below_drewN BL.out _, RI.out.succ HX.out HY.out HE.out⟩
            case measure => simp [intOf]; omega
        · obtain rfl : k = len := by omega
          go_wp2
          go_ret
          exact ⟨ret_bool (same_end HL.out (by rw [HC.out]; exact RI.out)), BL.out⟩
    · obtain rfl : len = 0 := by omega
      go_enter Try.func42, Try.ntmps42
      go_wp2
      go_loopw [13] (fun i wr => i = .int .i64 0 ∧ Below w.heap.size w wr) (fun _ _ => 0)
      case atStart => exact ⟨rfl, Below.refl _ _⟩
      case round =>
        obtain ⟨rfl, hBl⟩ := hrel
        have BL := Lib.hid hBl
        clear hBl
        go_wp2
        go_ret
        exact ⟨ret_bool (same_end HL.out (by rw [HC.out]; exact Sam.zero xs ys)), BL.out⟩
  · have HP := Lib.hid (same_len (xs := xs) (ys := ys) (by rw [HS.out.count, HT.out.count]; exact hl))
    have hl2 : ((len : Int) != (len' : Int)) = true := by simp; omega
    clear hl
    go_enter Try.func42, Try.ntmps42
    go_wp2
    go_ret
    exact ⟨ret_bool HP.out, Below.refl _ _⟩
end Go.Proofs.Ytngnegnofmpgkaa.Nm
namespace Go.Proofs.Ytngnegnofmpgkaa
open Go.RowKit
theorem equal_eq (a a' : Option Addr) (len cap len' cap' : Nat) (xs ys : List ByteArray) (w : World) (hS : Nm.StrRow w a len xs) (hT : Nm.StrRow w a' len' ys) : Calls Try.prog 42 #[.slice a len cap, .slice a' len' cap'] w (BoolP (eqB xs ys) w) := by
  rw [← sameB_eq]; exact Nm.equal_any a a' len cap len' cap' xs ys w hS hT
set_option maxRecDepth 100000 in
set_option maxHeartbeats 4000000 in
theorem eqf_ks (w0 : World) (I I' : Hd → Ex → Prop) (a : Option Addr) (l c : Nat) (a' : Option Addr) (l' c' : Nat) (xs ys : List Ex) (hx : InKs I w0 a l xs) (hy : InKs I' w0 a' l' ys)
    (ask : ∀ (h h' : Hd) (x y : Ex) (W : World), I h x → I' h' y → Below w0.heap.size w0 W → Calls Try.prog 29 #[h.agg, h'.agg] W (BoolP (eqB x y) W)) (w : World) (hb0 : Below w0.heap.size w0 w) :
    Calls Try.prog 28 #[.slice a l c, .slice a' l' c', .func (.func 29) #[] #[]] w (BoolP (eqB xs ys) w) := by
  have m1 := hx.max
  have m2 := hy.max
  obtain rfl := hx.count
  obtain rfl := hy.count
  have HX := Lib.hid hx.at_
  have HY := Lib.hid hy.at_
  have HA := Lib.hid ask
  have HB0 := Lib.hid hb0
  clear hx hy ask hb0
  by_cases hl : xs.length = ys.length
  · have hlen := Lib.hid hl
    have g0 : ((xs.length : Int) != (ys.length : Int)) = false := by rw [hl]; simp
    rw [← hl] at g0 ⊢
    clear hl
    go_enter Try.func28, Try.ntmps28
    go_wp2_with fail
    go_loopw [17] (fun i wr => ∃ k : Nat, k ≤ xs.length ∧ i = .int .i64 k ∧ Hid (xs.take k = ys.take k) ∧ Hid (Below w.heap.size w wr)) (fun i _ => xs.length - (intOf i).toNat)
    case atStart => exact ⟨0, Nat.zero_le _, rfl, rfl, Below.refl _ _⟩
    case round =>
      obtain ⟨k, hk, rfl, hT, hB⟩ := hrel
      rename World => wr
      by_cases hlt : k < xs.length
      · have hlt2 := Lib.hid (show k < ys.length by rw [← hlen.out]; exact hlt)
        obtain ⟨b, off, x, rfl, lt, hx, hI⟩ := HX.out k hlt
        obtain ⟨b', off', y, rfl, lt', hy, hI'⟩ := HY.out k hlt2.out
        have hbw := below_step HB0.out hB.out
        have hx2 := HdAt.below hx hbw lt
        have hy2 := HdAt.below hy hbw lt'
        have KC := fun (W : World) (hW : Below wr.heap.size wr W) => Lib.hid (HA.out x y xs[k] (ys[k]'hlt2.out) W hI hI' (below_step hbw hW))
        obtain ⟨r, hr⟩ : ∃ r, eqB xs[k] (ys[k]'hlt2.out) = r := ⟨_, rfl⟩
        rw [hr] at KC
        have HR := Lib.hid hr
        have lz := Nat.lt_of_lt_of_le lt hbw.size
        have lz' := Nat.lt_of_lt_of_le lt' hbw.size
        obtain ⟨op, nn, s, p, pl, pc, q, ql, qc, o, ka, kl, kc⟩ := x
        obtain ⟨op2, nn2, s2, p2, pl2, pc2, q2, ql2, qc2, o2, k2, kl2, kc2⟩ := y
        obtain ⟨c0, c1, c2, c3, c4, c5, c6⟩ := hx2
        obtain ⟨d0, d1, d2, d3, d4, d5, d6⟩ := hy2
        dsimp only at c0 c1 c2 c3 c4 c5 c6 d0 d1 d2 d3 d4 d5 d6
        unfold Hd.agg at KC
        dsimp only at KC
        clear hx hy hbw hr lt lt' hI hI'
        have HBB := below_alloc (below_alloc (Below.refl wr.heap.size wr) (.cells #[.int .i64 op, .int .i64 nn, .string s, .slice p pl pc, .slice q ql qc, .bool o, .slice ka kl kc] 38)) (.cells #[.int .i64 op2, .int .i64 nn2, .string s2, .slice p2 pl2 pc2, .slice q2 ql2 qc2, .bool o2, .slice k2 kl2 kc2] 38)
        have HB2 := Lib.hid HBB
        clear HBB
        cases r
        · go_wp2_with (go_at_call 29; refine (KC _ HB2.out).out.mono ?_; rintro e w4 ⟨rfl, hB4⟩; have HB4 := Lib.hid hB4; clear hB4)
          go_ret
          exact ⟨ret_bool (eqB_no (fun e => not_eqB HR.out (by simp only [e]))).symm, below_step hB.out (below_step HB2.out HB4.out)⟩
        · go_wp2_with (go_at_call 29; refine (KC _ HB2.out).out.mono ?_; rintro e w4 ⟨rfl, hB4⟩; have HB4 := Lib.hid hB4; clear hB4)
          go_roundw
          case rel => exact ⟨k + 1, by omega, by go_num, take_next hlt hlt2.out hT.out (of_eqB HR.out), below_step hB.out (below_step HB2.out HB4.out)⟩
          case measure => simp [intOf]; omega
      · obtain rfl : k = xs.length := by omega
        have HR := Lib.hid (eqB_yes (take_all hlen.out hT.out))
        clear hT
        go_wp2_with fail
        go_ret
        exact ⟨ret_bool HR.out.symm, hB.out⟩
  · have g0 : ((xs.length : Int) != (ys.length : Int)) = true := by simpa using (show ¬ (xs.length : Int) = ys.length by omega)
    have HR := Lib.hid (eqB_no (fun e : xs = ys => hl (by rw [e])))
    clear hl
    go_enter Try.func28, Try.ntmps28
    go_wp2_with fail
    go_ret
    exact ⟨ret_bool HR.out.symm, Below.refl _ _⟩
end Go.Proofs.Ytngnegnofmpgkaa
