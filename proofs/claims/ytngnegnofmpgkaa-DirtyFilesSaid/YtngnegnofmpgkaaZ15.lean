/- Ug, Hk, Hl -/
import Derived.Test.YtngnegnofmpgkaaZ8
import Derived.Test.YtngnegnofmpgkaaZ14
import Derived.Test.YtngnegnofmpgkaaZ12
/- WALKS of the law's left and Few. -/
namespace Go.Proofs.Ytngnegnofmpgkaa
open Go.RowKit
/-- What is left; if it is not below 0, there are no more than what is gone. -/
def LeftP (m : Int) (t : Nat) (w : World) (e : Ending) (w' : World) : Prop := ∃ x : Int, -1 ≤ x ∧ x ≤ 200 ∧ e = .returned (.int .i64 x) ∧ Below w.heap.size w w' ∧ (0 ≤ x → (t : Int) ≤ m - x)
theorem sum_take {f : Ex → Nat} {l : List Ex} {k : Nat} (hk : k < l.length) : ((l.take (k + 1)).map f).sum = ((l.take k).map f).sum + f l[k] := by
  rw [List.take_succ_eq_append_getElem hk, List.map_append, List.sum_append]; simp
set_option maxRecDepth 100000 in
set_option maxHeartbeats 8000000 in
theorem left_step (w0 : World) (n : Nat) (ih : ∀ (h : Hd) (x : Ex) (w : World) (d m : Int), InX w0 n h x → Below w0.heap.size w0 w → 0 ≤ d → d ≤ 24 → -1 ≤ m → m ≤ 200 → Calls Try.prog 37 #[h.agg, .int .i64 d, .int .i64 m] w (LeftP m (tN n x) w))
    (h : Hd) (x : Ex) (w : World) (d m : Int) (hx : InX w0 (n + 1) h x) (hb0 : Below w0.heap.size w0 w) (hd0 : 0 ≤ d) (hd : d ≤ 24) (hm0 : -1 ≤ m) (hm : m ≤ 200) : Calls Try.prog 37 #[h.agg, .int .i64 d, .int .i64 m] w (LeftP m (tN (n + 1) x) w) := by
  obtain ⟨op, nn, s, p, pl, pc, q, ql, qc, o, k, kl, kc⟩ := h
  obtain ⟨xop, xm, xs, pa, ps, xo, ks⟩ := x
  have hL := lay_of hx
  obtain ⟨rfl, rfl, rfl, rfl, -, hpa, hps, hks⟩ := hx
  obtain ⟨rfl, rfl, rfl, pm, qm, km, sm⟩ := hL
  dsimp only at pm qm km sm hpa hps hks
  unfold Hd.agg
  dsimp only
  have HPA := Lib.hid (hpa.below hb0)
  have HPS := Lib.hid hps.at_
  have HKS := Lib.hid hks.at_
  have HB0 := Lib.hid hb0
  have IH := Lib.hid ih
  have HT := Lib.hid (show tN (n + 1) (.mk op nn s pa ps o ks) = 1 + ((ps.map (·.2)).map (tN n)).sum + (ks.map (tN n)).sum by rw [List.map_map]; rfl)
  have HB1 : Hid (Below w.heap.size w (w.alloc (.cells #[.int .i64 op, .int .i64 nn, .string s, .slice p pa.length pc, .slice q ps.length qc, .bool o, .slice k ks.length kc] 38))) := below_alloc (Below.refl _ _) _
  have HBX : Hid (BoxH (w.alloc (.cells #[.int .i64 op, .int .i64 nn, .string s, .slice p pa.length pc, .slice q ps.length qc, .bool o, .slice k ks.length kc] 38)) w.heap.size ⟨op, nn, s, p, pa.length, pc, q, ps.length, qc, o, k, ks.length, kc⟩) := World.alloc_heap_new w _
  clear hpa hps hks hb0 ih
  by_cases c1 : d = 0
  · subst c1
    go_enter Try.func37, Try.ntmps37
    go_wp2_with fail
    go_ret
    exact ⟨-1, by omega, by omega, rfl, HB1.out, by omega⟩
  have e1 : (d == 0) = false := by simpa using c1
  have hd1 : 1 ≤ d := by omega
  by_cases c2 : m ≤ 0
  · go_enter Try.func37, Try.ntmps37
    go_wp2_with fail
    go_ret
    exact ⟨-1, by omega, by omega, rfl, HB1.out, by omega⟩
  have e2 : 0 < m := by omega
  by_cases c3 : 400 < s.size
  · have e3 : (400 : Int) < (s.size : Int) := by omega
    go_enter Try.func37, Try.ntmps37
    go_wp2_with fail
    go_ret
    exact ⟨-1, by omega, by omega, rfl, HB1.out, by omega⟩
  have e3 : (s.size : Int) ≤ 400 := by omega
  by_cases c4 : 40 < pa.length
  · have e4 : (40 : Int) < (pa.length : Int) := by omega
    go_enter Try.func37, Try.ntmps37
    go_wp2_with fail
    go_ret
    exact ⟨-1, by omega, by omega, rfl, HB1.out, by omega⟩
  have e4 : (pa.length : Int) ≤ 40 := by omega
  by_cases c5 : 200 < ps.length
  · have e5 : (200 : Int) < (ps.length : Int) := by omega
    go_enter Try.func37, Try.ntmps37
    go_wp2_with fail
    go_ret
    exact ⟨-1, by omega, by omega, rfl, HB1.out, by omega⟩
  have e5 : (ps.length : Int) ≤ 200 := by omega
  by_cases c6 : 200 < ks.length
  · have e6 : (200 : Int) < (ks.length : Int) := by omega
    go_enter Try.func37, Try.ntmps37
    go_wp2_with fail
    go_ret
    exact ⟨-1, by omega, by omega, rfl, HB1.out, by omega⟩
  have e6 : (ks.length : Int) ≤ 200 := by omega
  clear c1 c2 c3 c4 c5 c6
  go_enter Try.func37, Try.ntmps37
  go_wp2_with fail
  obtain ⟨W1, hW1⟩ : ∃ W1, w.alloc (.cells #[.int .i64 op, .int .i64 nn, .string s, .slice p pa.length pc, .slice q ps.length qc, .bool o, .slice k ks.length kc] 38) = W1 := ⟨_, rfl⟩
  rw [hW1] at HBX HB1 ⊢
  clear hW1 e1
  have hm1 : -1 ≤ m - 1 := by omega
  go_loopw [7] (fun i wr => ∃ j : Nat, j ≤ pa.length ∧ i = .int .i64 j ∧ Hid (Below W1.heap.size W1 wr)) (fun i _ => pa.length - (intOf i).toNat)
  case atStart => exact ⟨0, Nat.zero_le _, rfl, Below.refl _ _⟩
  case round =>
    obtain ⟨j, hj, rfl, hB⟩ := hrel
    rename World => wr
    have hbx := BoxH.cells (show BoxH wr w.heap.size _ from (hB.out.block _ HBX.out.lt).trans HBX.out)
    have v3 := hbx.c3
    have v4 := hbx.c4
    have v6 := hbx.c6
    simp only [Nat.zero_add] at v3 v4 v6
    clear hbx
    have hlb : w.heap.size < wr.heap.size := Nat.lt_of_lt_of_le HBX.out.lt hB.out.size
    by_cases hlt : j < pa.length
    · obtain ⟨b, off, rfl, lt, hc⟩ := HPA.out.at_ (by omega)
      have hc2 := ((below_step HB1.out hB.out).cell (p := ⟨b, off + j, none⟩) lt).trans (hc j pa[j] (List.getElem?_eq_getElem hlt))
      have hz := HPA.out.each j pa[j] (List.getElem?_eq_getElem hlt)
      have hlz := Nat.lt_of_lt_of_le lt (below_step HB1.out hB.out).size
      obtain ⟨nm, hnm⟩ : ∃ nm, pa[j] = nm := ⟨_, rfl⟩
      rw [hnm] at hc2 hz
      have hki : (j : Int) < (pa.length : Int) := by omega
      have hk0 : (0 : Int) ≤ (j : Int) := by omega
      clear hnm hc lt
      by_cases hl : 400 < nm.size
      · have g : (400 : Int) < (nm.size : Int) := by omega
        go_wp2_with fail
        go_ret
        exact ⟨-1, by omega, by omega, rfl, below_step HB1.out hB.out, by omega⟩
      · have g : (nm.size : Int) ≤ 400 := by omega
        go_wp2_with fail
        go_roundw
        case rel => exact ⟨j + 1, by omega, by go_num, hB.out⟩
        case measure => simp [intOf]; omega
    · obtain rfl : j = pa.length := by omega
      have HBP := Lib.hid hB.out
      clear hB
      go_wp2_with fail
      clear v3 v4 v6 hlb
      go_loopw [2, 8] (fun u i wr => ∃ (j : Nat) (x : Int), j ≤ ps.length ∧ i = .int .i64 j ∧ u = .int .i64 x ∧ -1 ≤ x ∧ x ≤ 200 ∧ Hid (0 ≤ x → ((((ps.map (·.2)).take j).map (tN n)).sum : Int) ≤ m - 1 - x) ∧ Hid (Below W1.heap.size W1 wr)) (fun _ i _ => ps.length - (intOf i).toNat)
      case atStart => exact ⟨0, m - 1, Nat.zero_le _, rfl, rfl, hm1, by omega, (by intro _; simp), HBP.out⟩
      case round =>
        obtain ⟨j, x, hj, rfl, rfl, hx0, hx1, hS, hB⟩ := hrel
        rename World => wr
        have hbx := BoxH.cells (show BoxH wr w.heap.size _ from (hB.out.block _ HBX.out.lt).trans HBX.out)
        have v4 := hbx.c4
        have v6 := hbx.c6
        simp only [Nat.zero_add] at v4 v6
        clear hbx
        have hlb : w.heap.size < wr.heap.size := Nat.lt_of_lt_of_le HBX.out.lt hB.out.size
        by_cases hgo : j < ps.length ∧ 0 ≤ x
        · obtain ⟨hlt, hxn⟩ := hgo
          have hki : (j : Int) < (ps.length : Int) := by omega
          have hk0 : (0 : Int) ≤ (j : Int) := by omega
          obtain ⟨b, off, y, rfl, lt, hz, hc, hy, hI⟩ := HPS.out j hlt
          have hbw := below_step HB0.out (below_step HB1.out hB.out)
          have hy2 := HdAt.below hy hbw lt
          have hc2 := (hbw.cell (p := ⟨b, off + j * 8, none⟩) lt).trans hc
          have hlz := Nat.lt_of_lt_of_le lt hbw.size
          have KD := Lib.hid (IH.out y ps[j].2 wr (d - 1) x hI hbw (by omega) (by omega) hx0 hx1)
          have hjm : j < (ps.map (·.2)).length := by simpa using hlt
          have HST := Lib.hid (show (((ps.map (·.2)).take (j + 1)).map (tN n)).sum = (((ps.map (·.2)).take j).map (tN n)).sum + tN n ps[j].2 by rw [sum_take hjm]; simp)
          obtain ⟨nm, hnm⟩ : ∃ nm, ps[j].1 = nm := ⟨_, rfl⟩
          rw [hnm] at hc2 hz
          obtain ⟨op2, nn2, s2, p2, pl2, pc2, q2, ql2, qc2, o2, k2, kl2, kc2⟩ := y
          obtain ⟨c0, c1, c2, c3, c4, c5, c6⟩ := hy2
          dsimp only at c0 c1 c2 c3 c4 c5 c6
          unfold Hd.agg at KD
          dsimp only at KD
          clear hy hI lt hbw hc hnm hjm
          by_cases hl : 400 < nm.size
          · have g : (400 : Int) < (nm.size : Int) := by omega
            go_wp2_with fail
            go_ret
            exact ⟨-1, by omega, by omega, rfl, below_step HB1.out hB.out, by omega⟩
          · have g : (nm.size : Int) ≤ 400 := by omega
            go_wp2_with (go_at_call 37; refine KD.out.mono ?_; rintro e w5 ⟨y5, h50, h51, rfl, hb5, hs5⟩; have HB5 := Lib.hid hb5; have HS5 := Lib.hid hs5; clear hb5 hs5)
            go_roundw
            case rel => exact ⟨j + 1, y5, by omega, by go_num, rfl, h50, h51, (by intro hy0; have h1 := HS5.out hy0; have h2 := hS.out hxn; have h3 := HST.out; omega), below_step hB.out HB5.out⟩
            case measure => simp [intOf]; omega
        · have HEND := Lib.hid (show 0 ≤ x → (((ps.map (·.2)).map (tN n)).sum : Int) ≤ m - 1 - x from fun h0 => by
            have h1 := hS.out h0
            have : j = ps.length := by omega
            subst this
            rwa [List.take_of_length_le (by simp)] at h1)
          have HBP2 := Lib.hid hB.out
          have hng : ¬ ((j : Int) < (ps.length : Int) ∧ 0 ≤ x) := by omega
          clear hS hB HBP
          by_cases hjl : j < ps.length
          · have hki : (j : Int) < (ps.length : Int) := by omega
            have hxn : x < 0 := by omega
            clear hgo hng
            go_wp2_with fail
            clear v4 v6 hlb
            go_loopw [2, 9] (fun u i wr => ∃ (j : Nat) (x : Int), j ≤ ks.length ∧ i = .int .i64 j ∧ u = .int .i64 x ∧ -1 ≤ x ∧ x ≤ 200 ∧ Hid (0 ≤ x → ((((ps.map (·.2)).map (tN n)).sum + ((ks.take j).map (tN n)).sum : Nat) : Int) ≤ m - 1 - x) ∧ Hid (Below W1.heap.size W1 wr)) (fun _ i _ => ks.length - (intOf i).toNat)
            case atStart => exact ⟨0, x, Nat.zero_le _, rfl, rfl, hx0, hx1, (by intro h0; have := HEND.out h0; simpa using this), HBP2.out⟩
            case round =>
              obtain ⟨j, x, hj, rfl, rfl, hx0, hx1, hS, hB⟩ := hrel
              rename World => wr
              have hbx := BoxH.cells (show BoxH wr w.heap.size _ from (hB.out.block _ HBX.out.lt).trans HBX.out)
              have v6 := hbx.c6
              simp only [Nat.zero_add] at v6
              clear hbx
              have hlb : w.heap.size < wr.heap.size := Nat.lt_of_lt_of_le HBX.out.lt hB.out.size
              by_cases hgo : j < ks.length ∧ 0 ≤ x
              · obtain ⟨hlt, hxn⟩ := hgo
                have hki : (j : Int) < (ks.length : Int) := by omega
                have hk0 : (0 : Int) ≤ (j : Int) := by omega
                obtain ⟨b, off, y, rfl, lt, hy, hI⟩ := HKS.out j hlt
                have hbw := below_step HB0.out (below_step HB1.out hB.out)
                have hy2 := HdAt.below hy hbw lt
                have hlz := Nat.lt_of_lt_of_le lt hbw.size
                have KD := Lib.hid (IH.out y ks[j] wr (d - 1) x hI hbw (by omega) (by omega) hx0 hx1)
                have HST := Lib.hid (sum_take (f := tN n) hlt)
                obtain ⟨op2, nn2, s2, p2, pl2, pc2, q2, ql2, qc2, o2, k2, kl2, kc2⟩ := y
                obtain ⟨c0, c1, c2, c3, c4, c5, c6⟩ := hy2
                dsimp only at c0 c1 c2 c3 c4 c5 c6
                unfold Hd.agg at KD
                dsimp only at KD
                clear hy hI lt hbw
                go_wp2_with (go_at_call 37; refine KD.out.mono ?_; rintro e w5 ⟨y5, h50, h51, rfl, hb5, hs5⟩; have HB5 := Lib.hid hb5; have HS5 := Lib.hid hs5; clear hb5 hs5)
                go_roundw
                case rel => exact ⟨j + 1, y5, by omega, by go_num, rfl, h50, h51, (by intro hy0; have h1 := HS5.out hy0; have h2 := hS.out hxn; have h3 := HST.out; omega), below_step hB.out HB5.out⟩
                case measure => simp [intOf]; omega
              · have HEND2 := Lib.hid (show 0 ≤ x → (tN (n + 1) (.mk op nn s pa ps o ks) : Int) ≤ m - x from fun h0 => by
                  have h1 := hS.out h0
                  have : j = ks.length := by omega
                  subst this
                  rw [List.take_length] at h1
                  rw [HT.out]
                  omega)
                clear hS
                by_cases hjl2 : j < ks.length
                · have hki2 : (j : Int) < (ks.length : Int) := by omega
                  have hxn2 : x < 0 := by omega
                  clear hgo
                  go_wp2_with fail
                  go_ret
                  exact ⟨x, hx0, hx1, rfl, below_step HB1.out hB.out, HEND2.out⟩
                · have hki2 : ¬ (j : Int) < (ks.length : Int) := by omega
                  clear hgo
                  go_wp2_with fail
                  go_ret
                  exact ⟨x, hx0, hx1, rfl, below_step HB1.out hB.out, HEND2.out⟩
          · have hki : ¬ (j : Int) < (ps.length : Int) := by omega
            clear hgo hng
            go_wp2_with fail
            clear v4 v6 hlb
            go_loopw [2, 9] (fun u i wr => ∃ (j : Nat) (x : Int), j ≤ ks.length ∧ i = .int .i64 j ∧ u = .int .i64 x ∧ -1 ≤ x ∧ x ≤ 200 ∧ Hid (0 ≤ x → ((((ps.map (·.2)).map (tN n)).sum + ((ks.take j).map (tN n)).sum : Nat) : Int) ≤ m - 1 - x) ∧ Hid (Below W1.heap.size W1 wr)) (fun _ i _ => ks.length - (intOf i).toNat)
            case atStart => exact ⟨0, x, Nat.zero_le _, rfl, rfl, hx0, hx1, (by intro h0; have := HEND.out h0; simpa using this), HBP2.out⟩
            case round =>
              obtain ⟨j, x, hj, rfl, rfl, hx0, hx1, hS, hB⟩ := hrel
              rename World => wr
              have hbx := BoxH.cells (show BoxH wr w.heap.size _ from (hB.out.block _ HBX.out.lt).trans HBX.out)
              have v6 := hbx.c6
              simp only [Nat.zero_add] at v6
              clear hbx
              have hlb : w.heap.size < wr.heap.size := Nat.lt_of_lt_of_le HBX.out.lt hB.out.size
              by_cases hgo : j < ks.length ∧ 0 ≤ x
              · obtain ⟨hlt, hxn⟩ := hgo
                have hki : (j : Int) < (ks.length : Int) := by omega
                have hk0 : (0 : Int) ≤ (j : Int) := by omega
                obtain ⟨b, off, y, rfl, lt, hy, hI⟩ := HKS.out j hlt
                have hbw := below_step HB0.out (below_step HB1.out hB.out)
                have hy2 := HdAt.below hy hbw lt
                have hlz := Nat.lt_of_lt_of_le lt hbw.size
                have KD := Lib.hid (IH.out y ks[j] wr (d - 1) x hI hbw (by omega) (by omega) hx0 hx1)
                have HST := Lib.hid (sum_take (f := tN n) hlt)
                obtain ⟨op2, nn2, s2, p2, pl2, pc2, q2, ql2, qc2, o2, k2, kl2, kc2⟩ := y
                obtain ⟨c0, c1, c2, c3, c4, c5, c6⟩ := hy2
                dsimp only at c0 c1 c2 c3 c4 c5 c6
                unfold Hd.agg at KD
                dsimp only at KD
                clear hy hI lt hbw
                go_wp2_with (go_at_call 37; refine KD.out.mono ?_; rintro e w5 ⟨y5, h50, h51, rfl, hb5, hs5⟩; have HB5 := Lib.hid hb5; have HS5 := Lib.hid hs5; clear hb5 hs5)
                go_roundw
                case rel => exact ⟨j + 1, y5, by omega, by go_num, rfl, h50, h51, (by intro hy0; have h1 := HS5.out hy0; have h2 := hS.out hxn; have h3 := HST.out; omega), below_step hB.out HB5.out⟩
                case measure => simp [intOf]; omega
              · have HEND2 := Lib.hid (show 0 ≤ x → (tN (n + 1) (.mk op nn s pa ps o ks) : Int) ≤ m - x from fun h0 => by
                  have h1 := hS.out h0
                  have : j = ks.length := by omega
                  subst this
                  rw [List.take_length] at h1
                  rw [HT.out]
                  omega)
                clear hS
                by_cases hjl2 : j < ks.length
                · have hki2 : (j : Int) < (ks.length : Int) := by omega
                  have hxn2 : x < 0 := by omega
                  clear hgo
                  go_wp2_with fail
                  go_ret
                  exact ⟨x, hx0, hx1, rfl, below_step HB1.out hB.out, HEND2.out⟩
                · have hki2 : ¬ (j : Int) < (ks.length : Int) := by omega
                  clear hgo
                  go_wp2_with fail
                  go_ret
                  exact ⟨x, hx0, hx1, rfl, below_step HB1.out hB.out, HEND2.out⟩
theorem left_any (w0 : World) : ∀ (n : Nat) (h : Hd) (x : Ex) (w : World) (d m : Int), InX w0 n h x → Below w0.heap.size w0 w → 0 ≤ d → d ≤ 24 → -1 ≤ m → m ≤ 200 → Calls Try.prog 37 #[h.agg, .int .i64 d, .int .i64 m] w (LeftP m (tN n x) w)
  | 0, _, _, _, _, _, h, _, _, _, _, _ => h.elim
  | n + 1, h, x, w, d, m, hx, hb, h1, h2, h3, h4 => left_step w0 n (left_any w0 n) h x w d m hx hb h1 h2 h3 h4
/-- Few answers something; and true of what is small alone. -/
def FewP (t : Nat) (w : World) (e : Ending) (w' : World) : Prop := ∃ b : Bool, e = .returned (.bool b) ∧ Below w.heap.size w w' ∧ (b = true → t ≤ 200)
set_option maxHeartbeats 1000000 in
theorem few_any (w0 w : World) (n : Nat) (h : Hd) (x : Ex) (hx : InX w0 n h x) (hb0 : Below w0.heap.size w0 w) : Calls Try.prog 22 #[h.agg] w (FewP (tN n x) w) := by
  have KL := fun (W : World) (hW : Below w.heap.size w W) => Lib.hid (left_any w0 n h x W 24 200 hx (below_step hb0 hW) (by omega) (by omega) (by omega) (by omega))
  obtain ⟨op, nn, s, p, pl, pc, q, ql, qc, o, k, kl, kc⟩ := h
  unfold Hd.agg at KL
  unfold Hd.agg
  dsimp only at KL ⊢
  have HB1 : Hid (Below w.heap.size w (w.alloc (.cells #[.int .i64 op, .int .i64 nn, .string s, .slice p pl pc, .slice q ql qc, .bool o, .slice k kl kc] 38))) := (Below.refl _ w).alloc (Nat.le_refl _) _
  clear hx hb0
  go_enter Try.func22, Try.ntmps22
  go_wp2_with (go_at_call 37; refine (KL _ HB1.out).out.mono ?_; rintro e w5 ⟨y5, h50, h51, rfl, hb5, hs5⟩; have HB5 := Lib.hid hb5; have HS5 := Lib.hid hs5; clear hb5 hs5)
  go_ret
  exact ⟨_, rfl, below_step HB1.out HB5.out, fun hb => by have h0 : 0 ≤ y5 := (by simpa using hb); have := HS5.out h0; omega⟩
end Go.Proofs.Ytngnegnofmpgkaa
/- WALK of the laws' Few of nodes. -/
namespace Go.Proofs.Ytngnegnofmpgkaa.Gr
open Go.RowKit Go.Maps Go.Sort
open Go.Proofs.Ytngnegnofmpgkaa.Nm (StrRow)
/-- Nodes few and small enough. -/
def OkN (n : Nat) (x : Nd) : Prop := x.name.size ≤ 100 ∧ x.defs.length ≤ 10 ∧ ∀ e ∈ x.defs, tN n e ≤ 200
def FewR (n : Nat) (xs : List Nd) (w : World) (e : Ending) (w' : World) : Prop := ∃ b : Bool, e = .returned (.bool b) ∧ Below w.heap.size w w' ∧ (b = true → xs.length ≤ 40 ∧ ∀ x ∈ xs, OkN n x)
theorem all_at {α : Type} {Q : α → Prop} {l : List α} {k : Nat} {x : α} (h : l[k]? = some x) (ha : ∀ y ∈ l.take k, Q y) (hx : Q x) : ∀ y ∈ l.take (k + 1), Q y := by
  obtain ⟨hk, e⟩ := List.getElem?_eq_some_iff.1 h
  rw [List.take_succ_eq_append_getElem hk, e]
  intro y hy
  rcases List.mem_append.1 hy with hy | hy
  · exact ha y hy
  · rw [List.mem_singleton.1 hy]; exact hx
set_option maxRecDepth 100000 in
set_option maxHeartbeats 16000000 in
theorem few_nodes (a : Option Addr) (len cap n : Nat) (xs : List Nd) (w : World) (hX : NodeRow w n a len xs) : Calls Try.prog 11 #[.slice a len cap] w (FewR n xs w) := by
  have HX := Lib.hid hX
  have hcx := hX.count
  have hmx := hX.max
  clear hX
  by_cases h40 : len ≤ 40
  · have hg40 : ¬ ((40 : Int) < (len : Int)) := by omega
    go_enter Try.func11, Try.ntmps11
    go_upto_region 4 with fail
    go_loopw [3] (fun i wr => ∃ (k : Nat), k ≤ len ∧ i = .int .i64 k ∧ Hid (∀ x ∈ xs.take k, OkN n x) ∧ Hid (Below w.heap.size w wr)) (fun i _ => len - (intOf i).toNat)
    case atStart => exact ⟨0, by omega, rfl, Lib.hid (by simp), Lib.hid (Below.refl _ _)⟩
    case round =>
      obtain ⟨k, hk, rfl, hO, hB⟩ := hrel
      rename World => wr
      have HO := Lib.hid hO.out
      have HB := Lib.hid hB.out
      clear hO hB
      by_cases hlt : k < len
      · obtain ⟨b0, off, rfl, hb, hc⟩ := HX.out.at_ (by omega)
        obtain ⟨x, hx⟩ : ∃ x, xs[k]? = some x := ⟨xs[k]'(by rw [hcx]; exact hlt), List.getElem?_eq_getElem _⟩
        obtain ⟨a', dl, dc, hN⟩ := hc k x hx
        obtain ⟨c0, c1, c2, hok, hds⟩ := hN.below HB.out hb
        have HX1 := Lib.hid hx
        have HNB := Lib.hid hN
        have HBL := Lib.hid hb
        have hdc := hds.count
        have hdm := hds.max
        have hokz : x.name.size ≤ 140737488355328 := hok
        have HDS := Lib.hid hds
        obtain ⟨nm, rs, dsx⟩ := x
        dsimp only at c0 c1 c2 hok hdc hokz HDS
        clear hx hc hb hN hok hds c1
        by_cases hn : nm.size ≤ 100
        · have hn2 : ¬ ((100 : Int) < (nm.size : Int)) := by omega
          by_cases hd : dl ≤ 10
          · have hd2 : ¬ ((10 : Int) < (dl : Int)) := by omega
            go_upto_region 9 with fail
            go_loopw [4] (fun i w4 => ∃ (j : Nat), j ≤ dl ∧ i = .int .i64 j ∧ Hid (∀ e ∈ dsx.take j, tN n e ≤ 200) ∧ Hid (Below wr.heap.size wr w4)) (fun i _ => dl - (intOf i).toNat)
            case atStart => exact ⟨0, by omega, rfl, Lib.hid (by simp), Lib.hid (Below.refl _ _)⟩
            case round =>
              clear c0 c2
              obtain ⟨j, hj, rfl, hA, hB2⟩ := hrel
              rename World => w4
              have HA := Lib.hid hA.out
              have HB2 := Lib.hid hB2.out
              clear hA hB2
              obtain ⟨c0, c1, c2, -, -⟩ := HNB.out.below (below_step HB.out HB2.out) HBL.out
              dsimp only at c0 c1 c2
              clear c0 c1
              by_cases hlt2 : j < dl
              · have hlt' : j < dsx.length := by rw [hdc]; exact hlt2
                obtain ⟨b, off, y, rfl, lt, hy2, hI⟩ := HDS.out.at_ j hlt'
                obtain ⟨e, he⟩ : ∃ e, dsx[j]? = some e := ⟨dsx[j], List.getElem?_eq_getElem _⟩
                rw [(List.getElem?_eq_some_iff.1 he).2] at hI
                have HE := Lib.hid he
                have HRS := Lib.hid (few_any wr w4 n y e hI HB2.out)
                obtain ⟨op2, nn2, s2, p2, pl2, pc2, q2, ql2, qc2, o2, k2, kl2, kc2⟩ := y
                obtain ⟨e0, e1, e2, e3, e4, e5, e6⟩ := hy2.below HB2.out lt
                dsimp only at e0 e1 e2 e3 e4 e5 e6
                unfold Hd.agg at HRS
                dsimp only at HRS
                have hk0 : (0 : Int) ≤ (j : Int) := by omega
                have hki : (j : Int) < (dl : Int) := by omega
                clear hI hy2 lt he
                go_wp2_with fail
                go_at_call 22; refine HRS.out.mono ?_; rintro en w5 ⟨bb, rfl, hB5, h5⟩
                have HB5 := Lib.hid (HB2.out.trans (hB5.mono HB2.out.size))
                have H5 := Lib.hid h5
                clear hB5 h5 HRS e0 e1 e2 e3 e4 e5 e6
                cases bb
                · go_wp2
                  go_ret
                  exact ⟨false, rfl, HB.out.trans (HB5.out.mono HB.out.size), fun h => absurd h (by decide)⟩
                · go_wp2
                  go_roundw
                  case rel => exact ⟨j + 1, by omega, by go_num, Lib.hid (all_at HE.out HA.out (H5.out (by trivial))), HB5⟩
                  case measure => simp [intOf]; omega
              · have hki : ¬ (j : Int) < (dl : Int) := by omega
                obtain rfl : j = dl := by omega
                have HT := Lib.hid (show dsx.take j = dsx from List.take_of_length_le (by omega))
                rw [HT.out] at HA
                go_wp2
                go_roundw
                case rel => exact ⟨k + 1, by omega, by go_num, Lib.hid (all_at HX1.out HO.out ⟨hn, by dsimp only; omega, HA.out⟩), Lib.hid (HB.out.trans (HB2.out.mono HB.out.size))⟩
                case measure => simp [intOf]; omega
          · have hd2 : (10 : Int) < (dl : Int) := by omega
            go_wp2
            go_ret
            exact ⟨false, rfl, HB.out, fun h => absurd h (by decide)⟩
        · have hn2 : (100 : Int) < (nm.size : Int) := by omega
          go_wp2
          go_ret
          exact ⟨false, rfl, HB.out, fun h => absurd h (by decide)⟩
      · have hki : ¬ (k : Int) < (len : Int) := by omega
        obtain rfl : k = len := by omega
        have HE := Lib.hid (show xs.take k = xs from List.take_of_length_le (by omega))
        rw [HE.out] at HO
        go_wp2
        go_ret
        exact ⟨true, rfl, HB.out, fun _ => ⟨by omega, HO.out⟩⟩
  · have hg40 : (40 : Int) < (len : Int) := by omega
    go_enter Try.func11, Try.ntmps11
    go_wp2
    go_ret
    exact ⟨false, rfl, Below.refl _ _, fun h => absurd h (by decide)⟩
end Go.Proofs.Ytngnegnofmpgkaa.Gr
/- WALK of the reference's Right of nodes. -/
namespace Go.Proofs.Ytngnegnofmpgkaa.Gr
open Go.RowKit Go.Maps Go.Sort
open Go.Proofs.Ytngnegnofmpgkaa.Nm (StrRow)
def RightR (xs : List Nd) (w : World) (e : Ending) (w' : World) : Prop := ∃ b : Bool, e = .returned (.bool b) ∧ Below w.heap.size w w' ∧ (b = true → Nm.risB (xs.map Nd.name) = true)
set_option maxRecDepth 100000 in
set_option maxHeartbeats 16000000 in
theorem right_nodes (a : Option Addr) (len cap n : Nat) (xs : List Nd) (w : World) (hX : NodeRow w n a len xs) (hl : len ≤ 40) (hT : ∀ x ∈ xs, ∀ e ∈ x.defs, tN n e ≤ 1000000) : Calls Try.prog 12 #[.slice a len cap] w (RightR xs w) := by
  have HX := Lib.hid hX
  have hcx := hX.count
  have HTT := Lib.hid hT
  have HOK := Lib.hid (show ∀ s ∈ xs.map Nd.name, okS s from fun s hs => by
    obtain ⟨x, hx, rfl⟩ := List.mem_map.1 hs
    obtain ⟨i, hi, e⟩ := List.getElem_of_mem hx
    obtain ⟨b, off, -, -, hc⟩ := hX.at_ (by rw [← hcx]; omega)
    obtain ⟨a', dl, dc, hN⟩ := hc i x (by rw [← e]; exact List.getElem?_eq_getElem hi)
    exact hN.ok)
  obtain ⟨i0, hi, hz0, hz1, hz2⟩ := info_parts info9
  clear hX hT
  go_enter Try.func12, Try.ntmps12
  go_upto_region 3 with fail
  go_loopw [3, 4] (fun v i wr => ∃ (k : Nat), k ≤ len ∧ i = .int .i64 k ∧ Hid (wr.ownsRow w.heap.size 9 1 v ((xs.take k).map Nd.name).length (((xs.take k).map Nd.name).map Value.string)) ∧ Hid (Below w.heap.size w wr)) (fun _ i _ => len - (intOf i).toNat)
  case atStart => exact ⟨0, by omega, rfl, Lib.hid (World.ownsRow_nil _ _ _ _), Lib.hid (Below.refl _ _)⟩
  case round =>
    obtain ⟨k, hk, rfl, hR, hB⟩ := hrel
    rename World => wr
    have HR := Lib.hid hR.out
    have HB := Lib.hid hB.out
    clear hR hB
    by_cases hlt : k < len
    · obtain ⟨b0, off, rfl, hb, hc⟩ := HX.out.at_ (by omega)
      obtain ⟨x, hx⟩ : ∃ x, xs[k]? = some x := ⟨xs[k]'(by rw [hcx]; exact hlt), List.getElem?_eq_getElem _⟩
      obtain ⟨a', dl, dc, hN⟩ := hc k x hx
      obtain ⟨c0, c1, c2, -, hds⟩ := hN.below HB.out hb
      have hdc := hds.count
      have hdm := hds.max
      have HNB := Lib.hid hN
      have HBL := Lib.hid hb
      have HDS := Lib.hid hN.ds
      have HTX := Lib.hid (HTT.out x (List.mem_of_getElem? hx))
      have HE := Lib.hid (map_at Nd.name hx)
      have HAL := Lib.hid (show ((xs.take k).map Nd.name).length ≤ k by rw [List.length_map, List.length_take]; omega)
      obtain ⟨acc, hacc⟩ : ∃ acc, (xs.take k).map Nd.name = acc := ⟨_, rfl⟩
      rw [hacc] at HR HE HAL
      have hal := HAL.out
      obtain ⟨nm, rs, dsx⟩ := x
      dsimp only at c0 c1 c2 HE hdc HDS HTX
      have HZW := Lib.hid HB.out.size
      clear hx hc hb hN hacc hds c1 c2
      go_upto_region 7 with (at_builtin; refine wpList_append_own_at _ rfl _ _ 26 rfl w.heap.size 9 i0 (.string ByteArray.empty) 1 16 Try.underlying26 hi hz0 hz1 hz2 rfl (by decide) _ acc.length (acc.map Value.string) rfl (HR.out.alloc _) ⟨wr.heap.size, 0, none⟩ 1 1 [.string nm] rfl rfl (cell_one_new _ _ _) (by intro v hv; simp at hv; subst hv; rfl) (by unfold maxLen; omega) (by omega) (by have := HZW.out; simp; omega) ?_; intro v' w6 hown' hgrow6 hnil6 hat6; have HO6 := Lib.hid hown'; have HG6 := Lib.hid hgrow6; clear hown' hgrow6 hnil6 hat6)
      have hrb := own_base HR.out
      have HB6 := Lib.hid ((HB.out.alloc HB.out.size (.cells #[.string nm] 9)).grown HG6.out (by have := HZW.out; simp; omega) (fun r e => hrb r e))
      clear hrb HG6 c0
      go_loopw [5] (fun i w4 => ∃ (j : Nat), j ≤ dl ∧ i = .int .i64 j ∧ Hid (Below w6.heap.size w6 w4)) (fun i _ => dl - (intOf i).toNat)
      case atStart => exact ⟨0, by omega, rfl, Lib.hid (Below.refl _ _)⟩
      case round =>
        obtain ⟨j, hj, rfl, hB2⟩ := hrel
        rename World => w4
        have HB2 := Lib.hid (HB6.out.trans (hB2.out.mono HB6.out.size))
        have HB3 := Lib.hid hB2.out
        clear hB2
        obtain ⟨c0, c1, c2, -, -⟩ := HNB.out.below HB2.out HBL.out
        dsimp only at c0 c1 c2
        clear c0 c1
        by_cases hlt2 : j < dl
        · have hlt' : j < dsx.length := by rw [hdc]; exact hlt2
          obtain ⟨b, off, y, rfl, lt, hy2, hI⟩ := HDS.out.at_ j hlt'
          have HRS := Lib.hid (rcheck_any w w4 n y dsx[j] hI HB2.out (HTX.out _ (List.getElem_mem hlt')))
          obtain ⟨op2, nn2, s2, p2, pl2, pc2, q2, ql2, qc2, o2, k2, kl2, kc2⟩ := y
          obtain ⟨e0, e1, e2, e3, e4, e5, e6⟩ := hy2.below HB2.out lt
          dsimp only at e0 e1 e2 e3 e4 e5 e6
          unfold Hd.agg at HRS
          dsimp only at HRS
          have hk0 : (0 : Int) ≤ (j : Int) := by omega
          have hki : (j : Int) < (dl : Int) := by omega
          generalize (if rightB n dsx[j] = true then (if 16 < depW n dsx[j] then (22 : Int) else 0) else 1) = z at HRS
          clear hI hy2 lt
          go_wp2_with fail
          go_at_call 23; refine HRS.out.mono ?_; rintro en w5 ⟨rfl, hB5⟩
          have HB5 := Lib.hid (HB3.out.trans (hB5.mono HB3.out.size))
          clear hB5 HRS e0 e1 e2 e3 e4 e5 e6
          by_cases hz : z = 0
          · subst hz
            go_wp2
            go_roundw
            case rel => exact ⟨j + 1, by omega, by go_num, HB5⟩
            case measure => simp [intOf]; omega
          · have hz2 : (z != 0) = true := by simpa using hz
            go_wp2
            go_ret
            exact ⟨false, rfl, HB6.out.trans (HB5.out.mono HB6.out.size), fun h => absurd h (by decide)⟩
        · have hki : ¬ (j : Int) < (dl : Int) := by omega
          obtain rfl : j = dl := by omega
          have HO7 := Lib.hid (HO6.out.kept (grow_of HB3.out) (by cases v'.ownBlock <;> simp))
          by_cases hd0 : j = 0
          · subst hd0
            go_wp2
            go_ret
            exact ⟨false, rfl, HB2.out, fun h => absurd h (by decide)⟩
          · have hd1 : ((j : Int) == 0) = false := by simpa using hd0
            go_wp2
            go_roundw
            case rel => exact ⟨k + 1, by omega, by go_num, by rw [HE.out, List.length_append, List.map_append]; exact HO7, HB2⟩
            case measure => simp [intOf]; omega
    · have hki : ¬ (k : Int) < (len : Int) := by omega
      obtain rfl : k = len := by omega
      have HE := Lib.hid (show xs.take k = xs from List.take_of_length_le (by omega))
      have h256 : (k : Int) ≤ 256 := by omega
      rw [HE.out] at HR
      obtain ⟨av, cv, rfl, hS⟩ := str_row HR.out (by rw [List.length_map]; omega) HOK.out
      have HRI := Lib.hid (Nm.rrising_any av _ cv _ wr hS)
      obtain ⟨rb, hrb⟩ : ∃ rb, Nm.risB (xs.map Nd.name) = rb := ⟨_, rfl⟩
      rw [hrb] at HRI
      have HRB := Lib.hid hrb
      have hlz : (xs.map Nd.name).length = k := by rw [List.length_map]; exact hcx
      rw [hlz] at HRI ⊢
      clear hS HR hrb hlz HTT HOK HX HE
      go_wp2_with (go_at_call 24; refine HRI.out.mono ?_; rintro e w2 ⟨rfl, hB2⟩; have HB2 := Lib.hid (HB.out.trans (hB2.mono HB.out.size)); clear hB2)
      go_ret
      exact ⟨rb, rfl, HB2.out, fun h => by rw [HRB.out]; exact h⟩
end Go.Proofs.Ytngnegnofmpgkaa.Gr
