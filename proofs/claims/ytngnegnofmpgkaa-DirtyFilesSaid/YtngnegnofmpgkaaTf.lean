/- WALKS of slices.EqualFunc at pairs, expr's samePair and Same. -/
import Derived.Test.YtngnegnofmpgkaaTe
namespace Go.Proofs.Ytngnegnofmpgkaa
open Go.RowKit
set_option maxRecDepth 100000 in
set_option maxHeartbeats 4000000 in
theorem eqf_ps (w0 : World) (I I' : Hd → Ex → Prop) (a : Option Addr) (l c : Nat) (a' : Option Addr) (l' c' : Nat) (xs ys : List (ByteArray × Ex)) (hx : InPs I w0 a l xs) (hy : InPs I' w0 a' l' ys)
    (ask : ∀ (h h' : Hd) (x y : ByteArray × Ex) (W : World), I h x.2 → I' h' y.2 → Below w0.heap.size w0 W → Calls Try.prog 44 #[h.pair x.1, h'.pair y.1] W (BoolP (eqB x y) W)) (w : World) (hb0 : Below w0.heap.size w0 w) :
    Calls Try.prog 43 #[.slice a l c, .slice a' l' c', .func (.func 44) #[] #[]] w (BoolP (eqB xs ys) w) := by
  have m1 := hx.max
  have m2 := hy.max
  obtain rfl := hx.count
  obtain rfl := hy.count
  have HX := Lib.hid hx.at_
  have HY := Lib.hid hy.at_
  have HA := Lib.hid ask
  have HB0 := Lib.hid hb0
  clear hx hy ask hb0
  by_cases hl : xs.length = ys.length
  · have hlen := Lib.hid hl
    have g0 : ((xs.length : Int) != (ys.length : Int)) = false := by rw [hl]; simp
    rw [← hl] at g0 ⊢
    clear hl
    go_enter Try.func43, Try.ntmps43
    go_wp2_with fail
    go_loopw [17] (fun i wr => ∃ k : Nat, k ≤ xs.length ∧ i = .int .i64 k ∧ Hid (xs.take k = ys.take k) ∧ Hid (Below w.heap.size w wr)) (fun i _ => xs.length - (intOf i).toNat)
    case atStart => exact ⟨0, Nat.zero_le _, rfl, rfl, Below.refl _ _⟩
    case round =>
      obtain ⟨k, hk, rfl, hT, hB⟩ := hrel
      rename World => wr
      by_cases hlt : k < xs.length
      · have hlt2 := Lib.hid (show k < ys.length by rw [← hlen.out]; exact hlt)
        obtain ⟨b, off, x, rfl, lt, -, hn, hx, hI⟩ := HX.out k hlt
        obtain ⟨b', off', y, rfl, lt', -, hn', hy, hI'⟩ := HY.out k hlt2.out
        have hbw := below_step HB0.out hB.out
        have hx2 := HdAt.below hx hbw lt
        have e0 := (hbw.cell (p := ⟨b, off + k * 8, none⟩) lt).trans hn
        have e1 := (hbw.cell (p := ⟨b', off' + k * 8, none⟩) lt').trans hn'
        have hy2 := HdAt.below hy hbw lt'
        have KC := fun (W : World) (hW : Below wr.heap.size wr W) => Lib.hid (HA.out x y xs[k] (ys[k]'hlt2.out) W hI hI' (below_step hbw hW))
        obtain ⟨r, hr⟩ : ∃ r, eqB xs[k] (ys[k]'hlt2.out) = r := ⟨_, rfl⟩
        rw [hr] at KC
        have HR := Lib.hid hr
        have lz := Nat.lt_of_lt_of_le lt hbw.size
        have lz' := Nat.lt_of_lt_of_le lt' hbw.size
        obtain ⟨op, nn, s, p, pl, pc, q, ql, qc, o, ka, kl, kc⟩ := x
        obtain ⟨op2, nn2, s2, p2, pl2, pc2, q2, ql2, qc2, o2, k2, kl2, kc2⟩ := y
        obtain ⟨c0, c1, c2, c3, c4, c5, c6⟩ := hx2
        obtain ⟨d0, d1, d2, d3, d4, d5, d6⟩ := hy2
        dsimp only at c0 c1 c2 c3 c4 c5 c6 d0 d1 d2 d3 d4 d5 d6
        unfold Hd.pair at KC
        dsimp only at KC
        clear hx hy hbw hr lt lt' hI hI' hn hn'
        obtain ⟨nm, hnm⟩ : ∃ nm, xs[k].1 = nm := ⟨_, rfl⟩
        obtain ⟨nm2, hnm2⟩ : ∃ nm, (ys[k]'hlt2.out).1 = nm := ⟨_, rfl⟩
        rw [hnm] at e0 KC
        rw [hnm2] at e1 KC
        clear hnm hnm2
        have HBB := below_alloc (below_alloc (Below.refl wr.heap.size wr) (.cells #[.string nm, .int .i64 op, .int .i64 nn, .string s, .slice p pl pc, .slice q ql qc, .bool o, .slice ka kl kc] 69)) (.cells #[.string nm2, .int .i64 op2, .int .i64 nn2, .string s2, .slice p2 pl2 pc2, .slice q2 ql2 qc2, .bool o2, .slice k2 kl2 kc2] 69)
        have HB2 := Lib.hid HBB
        clear HBB
        cases r
        · go_wp2_with (go_at_call 44; refine (KC _ HB2.out).out.mono ?_; rintro e w4 ⟨rfl, hB4⟩; have HB4 := Lib.hid hB4; clear hB4)
          go_ret
          exact ⟨ret_bool (eqB_no (fun e => not_eqB HR.out (by simp only [e]))).symm, below_step hB.out (below_step HB2.out HB4.out)⟩
        · go_wp2_with (go_at_call 44; refine (KC _ HB2.out).out.mono ?_; rintro e w4 ⟨rfl, hB4⟩; have HB4 := Lib.hid hB4; clear hB4)
          go_roundw
          case rel => exact ⟨k + 1, by omega, by go_num, take_next hlt hlt2.out hT.out (of_eqB HR.out), below_step hB.out (below_step HB2.out HB4.out)⟩
          case measure => simp [intOf]; omega
      · obtain rfl : k = xs.length := by omega
        have HR := Lib.hid (eqB_yes (take_all hlen.out hT.out))
        clear hT
        go_wp2_with fail
        go_ret
        exact ⟨ret_bool HR.out.symm, hB.out⟩
  · have g0 : ((xs.length : Int) != (ys.length : Int)) = true := by simpa using (show ¬ (xs.length : Int) = ys.length by omega)
    have HR := Lib.hid (eqB_no (fun e : xs = ys => hl (by rw [e])))
    clear hl
    go_enter Try.func43, Try.ntmps43
    go_wp2_with fail
    go_ret
    exact ⟨ret_bool HR.out.symm, Below.refl _ _⟩
end Go.Proofs.Ytngnegnofmpgkaa
