/- WALKS of the law's left and Few. -/
import Derived.Test.YtngikbimlhoigaaDoorUb
namespace Go.Proofs.YtngikbimlhoigaaDoor
open Go.RowKit
/-- What is left; if it is not below 0, there are no more than what is gone. -/
def LeftP (m : Int) (t : Nat) (w : World) (e : Ending) (w' : World) : Prop := ∃ x : Int, -1 ≤ x ∧ x ≤ 200 ∧ e = .returned (.int .i64 x) ∧ Below w.heap.size w w' ∧ (0 ≤ x → (t : Int) ≤ m - x)
theorem sum_take {f : Ex → Nat} {l : List Ex} {k : Nat} (hk : k < l.length) : ((l.take (k + 1)).map f).sum = ((l.take k).map f).sum + f l[k] := by
  rw [List.take_succ_eq_append_getElem hk, List.map_append, List.sum_append]; simp
set_option maxRecDepth 100000 in
set_option maxHeartbeats 8000000 in
theorem left_step (w0 : World) (n : Nat) (ih : ∀ (h : Hd) (x : Ex) (w : World) (d m : Int), InX w0 n h x → Below w0.heap.size w0 w → 0 ≤ d → d ≤ 24 → -1 ≤ m → m ≤ 200 → Calls Tryd.prog 25 #[h.agg, .int .i64 d, .int .i64 m] w (LeftP m (tN n x) w))
    (h : Hd) (x : Ex) (w : World) (d m : Int) (hx : InX w0 (n + 1) h x) (hb0 : Below w0.heap.size w0 w) (hd0 : 0 ≤ d) (hd : d ≤ 24) (hm0 : -1 ≤ m) (hm : m ≤ 200) : Calls Tryd.prog 25 #[h.agg, .int .i64 d, .int .i64 m] w (LeftP m (tN (n + 1) x) w) := by
  obtain ⟨op, nn, s, p, pl, pc, q, ql, qc, o, k, kl, kc⟩ := h
  obtain ⟨xop, xm, xs, pa, ps, xo, ks⟩ := x
  have hL := lay_of hx
  obtain ⟨rfl, rfl, rfl, rfl, -, hpa, hps, hks⟩ := hx
  obtain ⟨rfl, rfl, rfl, pm, qm, km, sm⟩ := hL
  dsimp only at pm qm km sm hpa hps hks
  unfold Hd.agg
  dsimp only
  have HPA := Lib.hid (hpa.below hb0)
  have HPS := Lib.hid hps.at_
  have HKS := Lib.hid hks.at_
  have HB0 := Lib.hid hb0
  have IH := Lib.hid ih
  have HT := Lib.hid (show tN (n + 1) (.mk op nn s pa ps o ks) = 1 + ((ps.map (·.2)).map (tN n)).sum + (ks.map (tN n)).sum by rw [List.map_map]; rfl)
  have HB1 : Hid (Below w.heap.size w (w.alloc (.cells #[.int .i64 op, .int .i64 nn, .string s, .slice p pa.length pc, .slice q ps.length qc, .bool o, .slice k ks.length kc] 26))) := below_alloc (Below.refl _ _) _
  have HBX : Hid (BoxH (w.alloc (.cells #[.int .i64 op, .int .i64 nn, .string s, .slice p pa.length pc, .slice q ps.length qc, .bool o, .slice k ks.length kc] 26)) w.heap.size ⟨op, nn, s, p, pa.length, pc, q, ps.length, qc, o, k, ks.length, kc⟩) := World.alloc_heap_new w _
  clear hpa hps hks hb0 ih
  by_cases c1 : d = 0
  · subst c1
    go_enter Tryd.func25, Tryd.ntmps25
    go_wp2_with fail
    go_ret
    exact ⟨-1, by omega, by omega, rfl, HB1.out, by omega⟩
  have e1 : (d == 0) = false := by simpa using c1
  have hd1 : 1 ≤ d := by omega
  by_cases c2 : m ≤ 0
  · go_enter Tryd.func25, Tryd.ntmps25
    go_wp2_with fail
    go_ret
    exact ⟨-1, by omega, by omega, rfl, HB1.out, by omega⟩
  have e2 : 0 < m := by omega
  by_cases c3 : 400 < s.size
  · have e3 : (400 : Int) < (s.size : Int) := by omega
    go_enter Tryd.func25, Tryd.ntmps25
    go_wp2_with fail
    go_ret
    exact ⟨-1, by omega, by omega, rfl, HB1.out, by omega⟩
  have e3 : (s.size : Int) ≤ 400 := by omega
  by_cases c4 : 40 < pa.length
  · have e4 : (40 : Int) < (pa.length : Int) := by omega
    go_enter Tryd.func25, Tryd.ntmps25
    go_wp2_with fail
    go_ret
    exact ⟨-1, by omega, by omega, rfl, HB1.out, by omega⟩
  have e4 : (pa.length : Int) ≤ 40 := by omega
  by_cases c5 : 200 < ps.length
  · have e5 : (200 : Int) < (ps.length : Int) := by omega
    go_enter Tryd.func25, Tryd.ntmps25
    go_wp2_with fail
    go_ret
    exact ⟨-1, by omega, by omega, rfl, HB1.out, by omega⟩
  have e5 : (ps.length : Int) ≤ 200 := by omega
  by_cases c6 : 200 < ks.length
  · have e6 : (200 : Int) < (ks.length : Int) := by omega
    go_enter Tryd.func25, Tryd.ntmps25
    go_wp2_with fail
    go_ret
    exact ⟨-1, by omega, by omega, rfl, HB1.out, by omega⟩
  have e6 : (ks.length : Int) ≤ 200 := by omega
  clear c1 c2 c3 c4 c5 c6
  go_enter Tryd.func25, Tryd.ntmps25
  go_wp2_with fail
  obtain ⟨W1, hW1⟩ : ∃ W1, w.alloc (.cells #[.int .i64 op, .int .i64 nn, .string s, .slice p pa.length pc, .slice q ps.length qc, .bool o, .slice k ks.length kc] 26) = W1 := ⟨_, rfl⟩
  rw [hW1] at HBX HB1 ⊢
  clear hW1 e1
  have hm1 : -1 ≤ m - 1 := by omega
  go_loopw [7] (fun i wr => ∃ j : Nat, j ≤ pa.length ∧ i = .int .i64 j ∧ Hid (Below W1.heap.size W1 wr)) (fun i _ => pa.length - (intOf i).toNat)
  case atStart => exact ⟨0, Nat.zero_le _, rfl, Below.refl _ _⟩
  case round =>
    obtain ⟨j, hj, rfl, hB⟩ := hrel
    rename World => wr
    have hbx := BoxH.cells (show BoxH wr w.heap.size _ from (hB.out.block _ HBX.out.lt).trans HBX.out)
    have v3 := hbx.c3
    have v4 := hbx.c4
    have v6 := hbx.c6
    simp only [Nat.zero_add] at v3 v4 v6
    clear hbx
    have hlb : w.heap.size < wr.heap.size := Nat.lt_of_lt_of_le HBX.out.lt hB.out.size
    by_cases hlt : j < pa.length
    · obtain ⟨b, off, rfl, lt, hc⟩ := HPA.out.at_ (by omega)
      have hc2 := ((below_step HB1.out hB.out).cell (p := ⟨b, off + j, none⟩) lt).trans (hc j pa[j] (List.getElem?_eq_getElem hlt))
      have hz := HPA.out.each j pa[j] (List.getElem?_eq_getElem hlt)
      have hlz := Nat.lt_of_lt_of_le lt (below_step HB1.out hB.out).size
      obtain ⟨nm, hnm⟩ : ∃ nm, pa[j] = nm := ⟨_, rfl⟩
      rw [hnm] at hc2 hz
      have hki : (j : Int) < (pa.length : Int) := by omega
      have hk0 : (0 : Int) ≤ (j : Int) := by omega
      clear hnm hc lt
      by_cases hl : 400 < nm.size
      · have g : (400 : Int) < (nm.size : Int) := by omega
        go_wp2_with fail
        go_ret
        exact ⟨-1, by omega, by omega, rfl, below_step HB1.out hB.out, by omega⟩
      · have g : (nm.size : Int) ≤ 400 := by omega
        go_wp2_with fail
        go_roundw
        case rel => exact ⟨j + 1, by omega, by go_num, hB.out⟩
        case measure => simp [intOf]; omega
    · obtain rfl : j = pa.length := by omega
      have HBP := Lib.hid hB.out
      clear hB
      go_wp2_with fail
      clear v3 v4 v6 hlb
      go_loopw [2, 8] (fun u i wr => ∃ (j : Nat) (x : Int), j ≤ ps.length ∧ i = .int .i64 j ∧ u = .int .i64 x ∧ -1 ≤ x ∧ x ≤ 200 ∧ Hid (0 ≤ x → ((((ps.map (·.2)).take j).map (tN n)).sum : Int) ≤ m - 1 - x) ∧ Hid (Below W1.heap.size W1 wr)) (fun _ i _ => ps.length - (intOf i).toNat)
      case atStart => exact ⟨0, m - 1, Nat.zero_le _, rfl, rfl, hm1, by omega, (by intro _; simp), HBP.out⟩
      case round =>
        obtain ⟨j, x, hj, rfl, rfl, hx0, hx1, hS, hB⟩ := hrel
        rename World => wr
        have hbx := BoxH.cells (show BoxH wr w.heap.size _ from (hB.out.block _ HBX.out.lt).trans HBX.out)
        have v4 := hbx.c4
        have v6 := hbx.c6
        simp only [Nat.zero_add] at v4 v6
        clear hbx
        have hlb : w.heap.size < wr.heap.size := Nat.lt_of_lt_of_le HBX.out.lt hB.out.size
        by_cases hgo : j < ps.length ∧ 0 ≤ x
        · obtain ⟨hlt, hxn⟩ := hgo
          have hki : (j : Int) < (ps.length : Int) := by omega
          have hk0 : (0 : Int) ≤ (j : Int) := by omega
          obtain ⟨b, off, y, rfl, lt, hz, hc, hy, hI⟩ := HPS.out j hlt
          have hbw := below_step HB0.out (below_step HB1.out hB.out)
          have hy2 := HdAt.below hy hbw lt
          have hc2 := (hbw.cell (p := ⟨b, off + j * 8, none⟩) lt).trans hc
          have hlz := Nat.lt_of_lt_of_le lt hbw.size
          have KD := Lib.hid (IH.out y ps[j].2 wr (d - 1) x hI hbw (by omega) (by omega) hx0 hx1)
          have hjm : j < (ps.map (·.2)).length := by simpa using hlt
          have HST := Lib.hid (show (((ps.map (·.2)).take (j + 1)).map (tN n)).sum = (((ps.map (·.2)).take j).map (tN n)).sum + tN n ps[j].2 by rw [sum_take hjm]; simp)
          obtain ⟨nm, hnm⟩ : ∃ nm, ps[j].1 = nm := ⟨_, rfl⟩
          rw [hnm] at hc2 hz
          obtain ⟨op2, nn2, s2, p2, pl2, pc2, q2, ql2, qc2, o2, k2, kl2, kc2⟩ := y
          obtain ⟨c0, c1, c2, c3, c4, c5, c6⟩ := hy2
          dsimp only at c0 c1 c2 c3 c4 c5 c6
          unfold Hd.agg at KD
          dsimp only at KD
          clear hy hI lt hbw hc hnm hjm
          by_cases hl : 400 < nm.size
          · have g : (400 : Int) < (nm.size : Int) := by omega
            go_wp2_with fail
            go_ret
            exact ⟨-1, by omega, by omega, rfl, below_step HB1.out hB.out, by omega⟩
          · have g : (nm.size : Int) ≤ 400 := by omega
            go_wp2_with (go_at_call 25; refine KD.out.mono ?_; rintro e w5 ⟨y5, h50, h51, rfl, hb5, hs5⟩; have HB5 := Lib.hid hb5; have HS5 := Lib.hid hs5; clear hb5 hs5)
            go_roundw
            case rel => exact ⟨j + 1, y5, by omega, by go_num, rfl, h50, h51, (by intro hy0; have h1 := HS5.out hy0; have h2 := hS.out hxn; have h3 := HST.out; omega), below_step hB.out HB5.out⟩
            case measure => simp [intOf]; omega
        · have HEND := Lib.hid (show 0 ≤ x → (((ps.map (·.2)).map (tN n)).sum : Int) ≤ m - 1 - x from fun h0 => by
            have h1 := hS.out h0
            have : j = ps.length := by omega
            subst this
            rwa [List.take_of_length_le (by simp)] at h1)
          have HBP2 := Lib.hid hB.out
          have hng : ¬ ((j : Int) < (ps.length : Int) ∧ 0 ≤ x) := by omega
          clear hS hB HBP
          by_cases hjl : j < ps.length
          · have hki : (j : Int) < (ps.length : Int) := by omega
            have hxn : x < 0 := by omega
            clear hgo hng
            go_wp2_with fail
            clear v4 v6 hlb
            go_loopw [2, 9] (fun u i wr => ∃ (j : Nat) (x : Int), j ≤ ks.length ∧ i = .int .i64 j ∧ u = .int .i64 x ∧ -1 ≤ x ∧ x ≤ 200 ∧ Hid (0 ≤ x → ((((ps.map (·.2)).map (tN n)).sum + ((ks.take j).map (tN n)).sum : Nat) : Int) ≤ m - 1 - x) ∧ Hid (Below W1.heap.size W1 wr)) (fun _ i _ => ks.length - (intOf i).toNat)
            case atStart => exact ⟨0, x, Nat.zero_le _, rfl, rfl, hx0, hx1, (by intro h0; have := HEND.out h0; simpa using this), HBP2.out⟩
            case round =>
              obtain ⟨j, x, hj, rfl, rfl, hx0, hx1, hS, hB⟩ := hrel
              rename World => wr
              have hbx := BoxH.cells (show BoxH wr w.heap.size _ from (hB.out.block _ HBX.out.lt).trans HBX.out)
              have v6 := hbx.c6
              simp only [Nat.zero_add] at v6
              clear hbx
              have hlb : w.heap.size < wr.heap.size := Nat.lt_of_lt_of_le HBX.out.lt hB.out.size
              by_cases hgo : j < ks.length ∧ 0 ≤ x
              · obtain ⟨hlt, hxn⟩ := hgo
                have hki : (j : Int) < (ks.length : Int) := by omega
                have hk0 : (0 : Int) ≤ (j : Int) := by omega
                obtain ⟨b, off, y, rfl, lt, hy, hI⟩ := HKS.out j hlt
                have hbw := below_step HB0.out (below_step HB1.out hB.out)
                have hy2 := HdAt.below hy hbw lt
                have hlz := Nat.lt_of_lt_of_le lt hbw.size
                have KD := Lib.hid (IH.out y ks[j] wr (d - 1) x hI hbw (by omega) (by omega) hx0 hx1)
                have HST := Lib.hid (sum_take (f := tN n) hlt)
                obtain ⟨op2, nn2, s2, p2, pl2, pc2, q2, ql2, qc2, o2, k2, kl2, kc2⟩ := y
                obtain ⟨c0, c1, c2, c3, c4, c5, c6⟩ := hy2
                dsimp only at c0 c1 c2 c3 c4 c5 c6
                unfold Hd.agg at KD
                dsimp only at KD
                clear hy hI lt hbw
                go_wp2_with (go_at_call 25; refine KD.out.mono ?_; rintro e w5 ⟨y5, h50, h51, rfl, hb5, hs5⟩; have HB5 := Lib.hid hb5; have HS5 := Lib.hid hs5; clear hb5 hs5)
                go_roundw
                case rel => exact ⟨j + 1, y5, by omega, by go_num, rfl, h50, h51, (by intro hy0; have h1 := HS5.out hy0; have h2 := hS.out hxn; have h3 := HST.out; omega), below_step hB.out HB5.out⟩
                case measure => simp [intOf]; omega
              · have HEND2 := Lib.hid (show 0 ≤ x → (tN (n + 1) (.mk op nn s pa ps o ks) : Int) ≤ m - x from fun h0 => by
                  have h1 := hS.out h0
                  have : j = ks.length := by omega
                  subst this
                  rw [List.take_length] at h1
                  rw [HT.out]
                  omega)
                clear hS
                by_cases hjl2 : j < ks.length
                · have hki2 : (j : Int) < (ks.length : Int) := by omega
                  have hxn2 : x < 0 := by omega
                  clear hgo
                  go_wp2_with fail
                  go_ret
                  exact ⟨x, hx0, hx1, rfl, below_step HB1.out hB.out, HEND2.out⟩
                · have hki2 : ¬ (j : Int) < (ks.length : Int) := by omega
                  clear hgo
                  go_wp2_with fail
                  go_ret
                  exact ⟨x, hx0, hx1, rfl, below_step HB1.out hB.out, HEND2.out⟩
          · have hki : ¬ (j : Int) < (ps.length : Int) := by omega
            clear hgo hng
            go_wp2_with fail
            clear v4 v6 hlb
            go_loopw [2, 9] (fun u i wr => ∃ (j : Nat) (x : Int), j ≤ ks.length ∧ i = .int .i64 j ∧ u = .int .i64 x ∧ -1 ≤ x ∧ x ≤ 200 ∧ Hid (0 ≤ x → ((((ps.map (·.2)).map (tN n)).sum + ((ks.take j).map (tN n)).sum : Nat) : Int) ≤ m - 1 - x) ∧ Hid (Below W1.heap.size W1 wr)) (fun _ i _ => ks.length - (intOf i).toNat)
            case atStart => exact ⟨0, x, Nat.zero_le _, rfl, rfl, hx0, hx1, (by intro h0; have := HEND.out h0; simpa using this), HBP2.out⟩
            case round =>
              obtain ⟨j, x, hj, rfl, rfl, hx0, hx1, hS, hB⟩ := hrel
              rename World => wr
              have hbx := BoxH.cells (show BoxH wr w.heap.size _ from (hB.out.block _ HBX.out.lt).trans HBX.out)
              have v6 := hbx.c6
              simp only [Nat.zero_add] at v6
              clear hbx
              have hlb : w.heap.size < wr.heap.size := Nat.lt_of_lt_of_le HBX.out.lt hB.out.size
              by_cases hgo : j < ks.length ∧ 0 ≤ x
              · obtain ⟨hlt, hxn⟩ := hgo
                have hki : (j : Int) < (ks.length : Int) := by omega
                have hk0 : (0 : Int) ≤ (j : Int) := by omega
                obtain ⟨b, off, y, rfl, lt, hy, hI⟩ := HKS.out j hlt
                have hbw := below_step HB0.out (below_step HB1.out hB.out)
                have hy2 := HdAt.below hy hbw lt
                have hlz := Nat.lt_of_lt_of_le lt hbw.size
                have KD := Lib.hid (IH.out y ks[j] wr (d - 1) x hI hbw (by omega) (by omega) hx0 hx1)
                have HST := Lib.hid (sum_take (f := tN n) hlt)
                obtain ⟨op2, nn2, s2, p2, pl2, pc2, q2, ql2, qc2, o2, k2, kl2, kc2⟩ := y
                obtain ⟨c0, c1, c2, c3, c4, c5, c6⟩ := hy2
                dsimp only at c0 c1 c2 c3 c4 c5 c6
                unfold Hd.agg at KD
                dsimp only at KD
                clear hy hI lt hbw
                go_wp2_with (go_at_call 25; refine KD.out.mono ?_; rintro e w5 ⟨y5, h50, h51, rfl, hb5, hs5⟩; have HB5 := Lib.hid hb5; have HS5 := Lib.hid hs5; clear hb5 hs5)
                go_roundw
                case rel => exact ⟨j + 1, y5, by omega, by go_num, rfl, h50, h51, (by intro hy0; have h1 := HS5.out hy0; have h2 := hS.out hxn; have h3 := HST.out; omega), below_step hB.out HB5.out⟩
                case measure => simp [intOf]; omega
              · have HEND2 := Lib.hid (show 0 ≤ x → (tN (n + 1) (.mk op nn s pa ps o ks) : Int) ≤ m - x from fun h0 => by
                  have h1 := hS.out h0
                  have : j = ks.length := by omega
                  subst this
                  rw [List.take_length] at h1
                  rw [HT.out]
                  omega)
                clear hS
                by_cases hjl2 : j < ks.length
                · have hki2 : (j : Int) < (ks.length : Int) := by omega
                  have hxn2 : x < 0 := by omega
                  clear hgo
                  go_wp2_with fail
                  go_ret
                  exact ⟨x, hx0, hx1, rfl, below_step HB1.out hB.out, HEND2.out⟩
                · have hki2 : ¬ (j : Int) < (ks.length : Int) := by omega
                  clear hgo
                  go_wp2_with fail
                  go_ret
                  exact ⟨x, hx0, hx1, rfl, below_step HB1.out hB.out, HEND2.out⟩
theorem left_any (w0 : World) : ∀ (n : Nat) (h : Hd) (x : Ex) (w : World) (d m : Int), InX w0 n h x → Below w0.heap.size w0 w → 0 ≤ d → d ≤ 24 → -1 ≤ m → m ≤ 200 → Calls Tryd.prog 25 #[h.agg, .int .i64 d, .int .i64 m] w (LeftP m (tN n x) w)
  | 0, _, _, _, _, _, h, _, _, _, _, _ => h.elim
  | n + 1, h, x, w, d, m, hx, hb, h1, h2, h3, h4 => left_step w0 n (left_any w0 n) h x w d m hx hb h1 h2 h3 h4
/-- Few answers something; and true of what is small alone. -/
def FewP (t : Nat) (w : World) (e : Ending) (w' : World) : Prop := ∃ b : Bool, e = .returned (.bool b) ∧ Below w.heap.size w w' ∧ (b = true → t ≤ 200)
set_option maxHeartbeats 1000000 in
theorem few_any (w0 w : World) (n : Nat) (h : Hd) (x : Ex) (hx : InX w0 n h x) (hb0 : Below w0.heap.size w0 w) : Calls Tryd.prog 6 #[h.agg] w (FewP (tN n x) w) := by
  have KL := fun (W : World) (hW : Below w.heap.size w W) => Lib.hid (left_any w0 n h x W 24 200 hx (below_step hb0 hW) (by omega) (by omega) (by omega) (by omega))
  obtain ⟨op, nn, s, p, pl, pc, q, ql, qc, o, k, kl, kc⟩ := h
  unfold Hd.agg at KL
  unfold Hd.agg
  dsimp only at KL ⊢
  have HB1 : Hid (Below w.heap.size w (w.alloc (.cells #[.int .i64 op, .int .i64 nn, .string s, .slice p pl pc, .slice q ql qc, .bool o, .slice k kl kc] 26))) := (Below.refl _ w).alloc (Nat.le_refl _) _
  clear hx hb0
  go_enter Tryd.func6, Tryd.ntmps6
  go_wp2_with (go_at_call 25; refine (KL _ HB1.out).out.mono ?_; rintro e w5 ⟨y5, h50, h51, rfl, hb5, hs5⟩; have HB5 := Lib.hid hb5; have HS5 := Lib.hid hs5; clear hb5 hs5)
  go_ret
  exact ⟨_, rfl, below_step HB1.out HB5.out, fun hb => by have h0 : 0 ≤ y5 := (by simpa using hb); have := HS5.out h0; omega⟩
end Go.Proofs.YtngikbimlhoigaaDoor
