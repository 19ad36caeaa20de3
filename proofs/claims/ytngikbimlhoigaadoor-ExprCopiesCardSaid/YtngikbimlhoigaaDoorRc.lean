/- What slices.Values' iterator over expressions promises. -/
import Derived.Test.YtngikbimlhoigaaDoorRb
namespace Go.Proofs.YtngikbimlhoigaaDoor
open Go.RowKit Go.Shelf
attribute [local go_sem] Oper.semAt_some
theorem take_it {α : Type} (l : List α) (i : Nat) (h : i < l.length) : l.take (i + 1) = l.take i ++ [l[i]] := by
  rw [List.take_succ_eq_append_getElem h]
set_option maxRecDepth 100000 in
set_option maxHeartbeats 2000000 in
theorem vals_fit (w0 : World) (n be : Nat) (a : Option Addr) (ll c : Nat) (ks : List Ex) (h : InKs (InX w0 n) w0 a ll ks) :
    FitSeq Tryd.prog 57 #[.pointer (some ⟨be, 0, none⟩)] encX (fun X => Below w0.heap.size w0 X ∧ Boxed X be 24 (.slice a ll c)) (FitP w0 n ks) (fun xs => xs.map (·.2) = ks) (fun pre => pre.map (·.2) <+: ks) := by
  intro l J Jx W hJ hJx hInv hY h0
  obtain ⟨_, hbox⟩ := hInv _ [] W h0
  have hbl := hbox.lt
  have hbc := hbox.cell
  have hl := h.count
  have hmax := h.max
  subst hl
  have HJ := Lib.hid hJ
  have HY := Lib.hid hY
  have HI := Lib.hid hInv
  have HK := Lib.hid h
  clear hJ hJx hY hInv h
  refine (callsIn_wide (n := 9)).1 ?_
  refine callsIn_of_wp Tryd.func57 rfl trivial ?_ rfl
  simp only [Tryd.ntmps57, List.size_toArray, List.length_cons, List.length_nil, Nat.reduceAdd, Nat.reduceSub, Array.replicate_succ, Array.replicate_zero, List.push_toArray, List.append_toArray, List.nil_append, List.cons_append]
  gi_wp2
  gi_loopw [7] (fun x wr => ∃ (pre : List HX) (i : Nat), i ≤ ks.length ∧ x = .int .i64 i ∧ pre.map (·.2) = ks.take i ∧ J none_ pre wr) (fun x _ => ks.length - (intOf x).toNat)
  case atStart => exact ⟨[], 0, Nat.zero_le _, rfl, rfl, h0⟩
  case round =>
    obtain ⟨pre, i, hi, rfl, hpm, hj⟩ := hrel
    rename World => wr
    obtain ⟨hbw, _⟩ := HI.out _ pre wr hj
    have HJ2 := Lib.hid hj
    have HP := Lib.hid hpm
    clear hj hpm
    by_cases hlt : i < ks.length
    · obtain ⟨b, off, x, rfl, lt, hx, hI⟩ := HK.out.at_ i hlt
      have hx2 := HdAt.below hx hbw lt
      have HF : Hid (FitX w0 n (x, ks[i])) := hI
      obtain ⟨op, nn, s, p, pl, pc, q, ql, qc, o, k, kl, kc⟩ := x
      obtain ⟨c0, c1, c2, c3, c4, c5, c6⟩ := hx2
      clear hx hI hbw
      dsimp only at c0 c1 c2 c3 c4 c5 c6
      have HP3 := Lib.hid (show (pre ++ [((⟨op, nn, s, p, pl, pc, q, ql, qc, o, k, kl, kc⟩, ks[i]) : HX)]).map (·.2) = ks.take (i + 1) by rw [List.map_append, HP.out, take_it _ i hlt]; rfl)
      obtain ⟨fn, tmps, assign, body, hy, hR⟩ := HY.out 8 none_ pre (⟨op, nn, s, p, pl, pc, q, ql, qc, o, k, kl, kc⟩, ks[i]) (wr.alloc (.cells #[.int .i64 op, .int .i64 nn, .string s, .slice p pl pc, .slice q ql qc, .bool o, .slice k kl kc] 26)) (HJ.out.alloc HJ2.out _) ⟨HF.out, by rw [HP3.out]; exact List.take_prefix _ _⟩
      dsimp only [encX, Hd.agg] at hy
      gi_wp2
      refine hR.mono ?_
      rintro e W3 (⟨rfl, hJ3, -⟩ | ⟨rfl, hJx3, -⟩)
      · have HJ4 := Lib.hid hJ3
        clear hy hR hJ3
        gi_wp2
        go_roundw
        case rel => exact ⟨_, i + 1, by omega, by go_num, HP3.out, HJ4.out⟩
        case measure => simp [intOf]; omega
      · have HJ4 := Lib.hid hJx3
        clear hy hR hJx3
        gi_wp2
        refine bodyPost_ret (results_none rfl _ _ _) rfl ?_
        exact ⟨⟨_, rfl⟩, .inr ⟨_, by rw [HP3.out]; exact List.take_prefix _ _, HJ4.out⟩⟩
    · obtain rfl : i = ks.length := by omega
      gi_wp2
      go_end0
      exact ⟨⟨_, rfl⟩, .inl ⟨pre, by rw [HP.out, List.take_length], HJ2.out⟩⟩
end Go.Proofs.YtngikbimlhoigaaDoor
