/- The right records of a text, from the front; the iterator that tells them. -/
import Derived.Test.YtnejahfeafllkaaFh
import Derived.RangeFuncNested
import Derived.RangeFuncBound
import Derived.RangeFuncCalls
import Derived.RangeFuncLeaves
import Derived.Shelf.Abstract
import Derived.Shelf.RegionOpen
import Derived.WalkKit
import Derived.OwnWalkIn
import Derived.TacticsInMore
import Derived.LoopNIn
import Derived.LoopIn
namespace Go.Proofs.Ytnejahfeafllkaa
open Go.RowKit Go.Shelf
attribute [local go_sem] Oper.semAt_some
/-- A record: its place, the place behind it, its text. -/
abbrev Rc := Nat × Nat × ByteArray
theorem nx_ok {s : ByteArray} {p : Nat} (h : (nx s p).2.2 = 0) : p < (nx s p).2.1 ∧ (nx s p).2.1 ≤ s.size := by
  unfold nx at h ⊢
  by_cases h0 : p = s.size
  · rw [if_pos h0] at h; exact absurd h (by decide)
  · rw [if_neg h0] at h ⊢
    by_cases h1 : s.data.toList.getD p 0 ≠ 165
    · rw [if_pos h1] at h; exact absurd h (by decide)
    · rw [if_neg h1] at h ⊢
      obtain ⟨⟨a, n, c⟩, hg⟩ : ∃ g, gets (s.data.toList.drop (p + 1)) = g := ⟨_, rfl⟩
      rw [hg] at h ⊢
      unfold nxB at h ⊢
      by_cases ha : a ≠ 0
      · rw [if_pos ha] at h; exact absurd h ha
      · rw [if_neg ha] at h ⊢
        by_cases hn : 65536 < n
        · rw [if_pos hn] at h; exact absurd h (by decide)
        · rw [if_neg hn] at h ⊢
          by_cases hs : s.size < p + 1 + c + n + 4
          · rw [if_pos hs] at h; exact absurd h (by decide)
          · rw [if_neg hs] at h ⊢
            by_cases hm : markS (s.extract p (p + 1 + c + n)) ≠ s.extract (p + 1 + c + n) (p + 1 + c + n + 4)
            · rw [if_pos hm] at h; exact absurd h (by decide)
            · rw [if_neg hm] at h ⊢
              exact ⟨by show p < p + 1 + c + n + 4; omega, by show p + 1 + c + n + 4 ≤ s.size; omega⟩
def recsF : Nat → ByteArray → Nat → List Rc
  | 0, _, _ => []
  | f + 1, s, p => if (nx s p).2.2 = 0 then (p, (nx s p).2.1, (nx s p).1) :: recsF f s (nx s p).2.1 else []
theorem recsF_more (s : ByteArray) : ∀ (f g p : Nat), s.size < p + f → s.size < p + g → p ≤ s.size → recsF f s p = recsF g s p
  | 0, _, p, h, _, hp => absurd h (by omega)
  | _ + 1, 0, p, _, h, hp => absurd h (by omega)
  | f + 1, g + 1, p, hf, hg, _ => by
    unfold recsF
    by_cases h : (nx s p).2.2 = 0
    · rw [if_pos h, if_pos h]
      have := nx_ok h
      rw [recsF_more s f g _ (by omega) (by omega) (by omega)]
    · rw [if_neg h, if_neg h]
/-- The right records from a place on. -/
def recsP (s : ByteArray) (p : Nat) : List Rc := recsF (s.size + 1) s p
theorem recsP_ok {s : ByteArray} {p : Nat} (h : (nx s p).2.2 = 0) : recsP s p = (p, (nx s p).2.1, (nx s p).1) :: recsP s (nx s p).2.1 := by
  have := nx_ok h
  unfold recsP
  conv => lhs; unfold recsF
  rw [if_pos h, recsF_more s s.size (s.size + 1) _ (by omega) (by omega) (by omega)]
theorem recsP_no {s : ByteArray} {p : Nat} (h : (nx s p).2.2 ≠ 0) : recsP s p = [] := by
  unfold recsP recsF; rw [if_neg h]
theorem recsF_len (s : ByteArray) : ∀ (f p : Nat), p ≤ s.size → (recsF f s p).length ≤ s.size - p
  | 0, _, _ => by simp [recsF]
  | f + 1, p, hp => by
    unfold recsF
    by_cases h : (nx s p).2.2 = 0
    · rw [if_pos h]
      have := nx_ok h
      have := recsF_len s f (nx s p).2.1 (by omega)
      simp only [List.length_cons]; omega
    · rw [if_neg h]; simp
theorem recsP_len (s : ByteArray) : (recsP s 0).length ≤ s.size := recsF_len s _ 0 (Nat.zero_le _)
def encR (x : Rc) : Array Value := #[.agg #[.int .i64 (x.1 : Int), .int .i64 (x.2.1 : Int), .string x.2.2]]
/-- What a round keeps: the text's box. -/
def KpB (B : Nat) (s : ByteArray) (W W' : World) : Prop := Boxed W B 9 (.string s) → Boxed W' B 9 (.string s)
theorem grown_of_below {W W' : World} (h : Below W.heap.size W W') : W.grownBy W' none := ⟨h.os, h.tape, h.output, h.size, fun k hk _ => h.block k hk⟩
theorem Boxed.below {W W' : World} {B : Nat} {t : TypeId} {v : Value} (h : Boxed W B t v) (hb : Below W.heap.size W W') : Boxed W' B t v := (hb.block B h.lt).trans h
set_option maxRecDepth 100000 in
set_option maxHeartbeats 2000000 in
theorem right1_in (n : Nat) (l Bn : Nat) (s : ByteArray) (hs : s.size ≤ 140737488355328) (J Jx : List Rc → World → Prop) (W : World) (hJ : AbidesFrom W.heap.size J)
    (hY : ∀ pre x W1, J pre W1 → pre.length < (recsP s 0).length → YieldAt Fence.wide (n - 1) Try.prog l (encR x) W1 fun e W' =>
      (e = .returned (.bool true) ∧ J (pre ++ [x]) W' ∧ KpB Bn s W1 W') ∨ (e = .returned (.bool false) ∧ Jx (pre ++ [x]) W'))
    (hB : Boxed W Bn 9 (.string s)) (h0 : J [] W) :
    CallsIn Fence.wide n Try.prog 72 #[.func (.yield l) #[] #[], .pointer (some ⟨Bn, 0, none⟩)] W fun e W' => (∃ v, e = .returned v) ∧
      ((∃ ys, ys = recsP s 0 ∧ J ys W') ∨ (∃ pre, pre <+: recsP s 0 ∧ Jx pre W')) := by
  have hw1 : ∀ f, Fence.wide.fn f := fun _ => trivial
  have hw2 : Fence.wide.depth.isSome = false := rfl
  have HJ := Lib.hid hJ
  have HY := Lib.hid hY
  clear hJ hY
  refine callsIn_of_wp Try.func72 rfl trivial ?_ rfl
  simp only [Try.ntmps72, List.size_toArray, List.length_cons, List.length_nil, Nat.reduceAdd, Nat.reduceSub, Array.replicate_succ, Array.replicate_zero, List.push_toArray, List.append_toArray, List.nil_append, List.cons_append]
  gi_wp2
  gi_loopw [3] (fun a wr => ∃ (pre : List Rc) (p : Nat), p ≤ s.size ∧ a = .int .i64 p ∧ recsP s 0 = pre ++ recsP s p ∧ Boxed wr Bn 9 (.string s) ∧ J pre wr)
    (fun a _ => s.size - (intOf a).toNat)
  case atStart =>
    exact ⟨[], 0, Nat.zero_le _, rfl, rfl, hB, h0⟩
  case round =>
    obtain ⟨pre, p, hp, rfl, hx, hb, hj⟩ := hrel
    rename World => wr
    have hc := hb.cell
    have HN := Lib.hid (next_any s p wr hs hp)
    unfold NextIs at HN
    obtain ⟨⟨t, q, r⟩, hg⟩ : ∃ g, nx s p = g := ⟨_, rfl⟩
    rw [hg] at HN
    have HB := Lib.hid hb
    have HX := Lib.hid hx
    have HJ1 := Lib.hid hj
    clear hb hx hj
    by_cases hr : r = 0
    · subst hr
      have hok := nx_ok (s := s) (p := p) (by rw [hg])
      rw [hg] at hok
      have hq : p < q := hok.1
      have hqs : q ≤ s.size := hok.2
      have HR := Lib.hid (recsP_ok (s := s) (p := p) (by rw [hg]))
      rw [hg] at HR
      clear hok hg
      gi_wp2_with (gi_at_call 25; refine (callsIn_wide.2 HN.out).mono ?_; rintro e w2 ⟨rfl, hB2⟩; have HB2 := Lib.hid hB2; clear hB2)
      have hJ2 := HJ.out pre wr w2 none HJ1.out (grown_of_below HB2.out) (fun r e => by cases e)
      obtain ⟨fn, tmps, assign, body, hy, hR⟩ := HY.out pre (p, q, t) w2 hJ2 (by rw [HX.out, HR.out]; simp)
      dsimp only [encR] at hy
      gi_wp2
      rw [hy]
      simp only [Oper.uponIn_round]
      refine ⟨fun h => (by rw [hw2] at h; cases h), ?_⟩
      refine hR.mono ?_
      rintro e W3 (⟨rfl, hJ3, hk3⟩ | ⟨rfl, hJx3⟩)
      · have HB3 := Lib.hid (hk3 (Boxed.below HB.out HB2.out))
        clear hk3 hy hR
        have HJ3 := Lib.hid hJ3
        clear hJ3 hJ2
        gi_wp2
        go_roundw
        case rel => exact ⟨pre ++ [(p, q, t)], q, by omega, rfl, by rw [HX.out, HR.out]; simp, HB3.out, HJ3.out⟩
        case measure => simp [intOf]; omega
      · clear hy hR hJ2
        have HJ3 := Lib.hid hJx3
        clear hJx3
        gi_wp2
        refine bodyPost_ret (results_none rfl _ _ _) rfl ?_
        exact ⟨⟨_, rfl⟩, .inr ⟨pre ++ [(p, q, t)], ⟨recsP s q, by rw [HX.out, HR.out]; simp⟩, HJ3.out⟩⟩
    · have hri : ((r : Int) != 0) = true := by simp; exact hr
      have HR := Lib.hid (recsP_no (s := s) (p := p) (by rw [hg]; exact hr))
      clear hg hr
      gi_wp2_with (gi_at_call 25; refine (callsIn_wide.2 HN.out).mono ?_; rintro e w2 ⟨rfl, hB2⟩; have HB2 := Lib.hid hB2; clear hB2)
      refine bodyPost_ret (results_none rfl _ _ _) rfl ?_
      exact ⟨⟨_, rfl⟩, .inl ⟨pre, by rw [HX.out, HR.out]; simp, HJ.out pre wr w2 none HJ1.out (grown_of_below HB2.out) (fun r e => by cases e)⟩⟩
/-- WHAT THE ITERATOR PROMISES. -/
theorem right_stops (n Bn : Nat) (s : ByteArray) (w : World) (hs : s.size ≤ 140737488355328) (hB : Boxed w Bn 9 (.string s)) :
    SeqStopsK Fence.wide n Try.prog 72 #[.pointer (some ⟨Bn, 0, none⟩)] encR (KpB Bn s) (fun ys => ys = recsP s 0) (fun pre => pre <+: recsP s 0) (recsP s 0).length w := fun l J Jx W hW hJ _ hY h0 =>
  right1_in n l Bn s hs J Jx W hJ hY (Boxed.below hB hW) h0
set_option maxHeartbeats 1000000 in
/-- right(s): the text is boxed; the function value captures the box. -/
theorem right_any (s : ByteArray) (w : World) : Calls Try.prog 48 #[.string s] w fun e w' => e = .returned (.func (.func 72) #[] #[.pointer (some ⟨w.heap.size, 0, none⟩)]) ∧ w' = w.alloc (.cells #[.string s] 9) := by
  go_enter Try.func48, Try.ntmps48
  go_wp2
  go_ret
  exact ⟨rfl, rfl⟩
end Go.Proofs.Ytnejahfeafllkaa
