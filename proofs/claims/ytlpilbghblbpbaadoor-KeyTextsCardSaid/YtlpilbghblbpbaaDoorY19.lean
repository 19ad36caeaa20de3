/- Ug, Kn, Ka, Kf -/
import Derived.Deep.RegionHeld3
import Derived.Maps.AppendAt
import Derived.Test.YtlpilbghblbpbaaDoorRows
import Derived.Lib.SmallJoins
import Derived.ProofKit
import Derived.ChangeOld
import Derived.SizedLaws
import Derived.Test.YtlpilbghblbpbaaDoorY2
import Derived.Test.YtlpilbghblbpbaaDoorY14
import Derived.Test.YtlpilbghblbpbaaDoorY18
import Derived.Test.YtlpilbghblbpbaaDoorY16
/- WALKS of the law's left and Few. -/
namespace Go.Proofs.YtlpilbghblbpbaaDoor
open Go.RowKit
/-- What is left; if it is not below 0, there are no more than what is gone. -/
def LeftP (m : Int) (t : Nat) (w : World) (e : Ending) (w' : World) : Prop := ∃ x : Int, -1 ≤ x ∧ x ≤ 200 ∧ e = .returned (.int .i64 x) ∧ Below w.heap.size w w' ∧ (0 ≤ x → (t : Int) ≤ m - x)
theorem sum_take {f : Ex → Nat} {l : List Ex} {k : Nat} (hk : k < l.length) : ((l.take (k + 1)).map f).sum = ((l.take k).map f).sum + f l[k] := by
  rw [List.take_succ_eq_append_getElem hk, List.map_append, List.sum_append]; simp
set_option maxRecDepth 100000 in
set_option maxHeartbeats 8000000 in
theorem left_step (w0 : World) (n : Nat) (ih : ∀ (h : Hd) (x : Ex) (w : World) (d m : Int), InX w0 n h x → Below w0.heap.size w0 w → 0 ≤ d → d ≤ 24 → -1 ≤ m → m ≤ 200 → Calls Tryd.prog 16 #[h.agg, .int .i64 d, .int .i64 m] w (LeftP m (tN n x) w))
    (h : Hd) (x : Ex) (w : World) (d m : Int) (hx : InX w0 (n + 1) h x) (hb0 : Below w0.heap.size w0 w) (hd0 : 0 ≤ d) (hd : d ≤ 24) (hm0 : -1 ≤ m) (hm : m ≤ 200) : Calls Tryd.prog 16 #[h.agg, .int .i64 d, .int .i64 m] w (LeftP m (tN (n + 1) x) w) := by
  obtain ⟨op, nn, s, p, pl, pc, q, ql, qc, o, k, kl, kc⟩ := h
  obtain ⟨xop, xm, xs, pa, ps, xo, ks⟩ := x
  have hL := lay_of hx
  obtain ⟨rfl, rfl, rfl, rfl, -, hpa, hps, hks⟩ := hx
  obtain ⟨rfl, rfl, rfl, pm, qm, km, sm⟩ := hL
  dsimp only at pm qm km sm hpa hps hks
  unfold Hd.agg
  dsimp only
  have HPA := Lib.hid (hpa.below hb0)
  have HPS := Lib.hid hps.at_
  have HKS := Lib.hid hks.at_
  have HB0 := Lib.hid hb0
  have IH := Lib.hid ih
  have HT := Lib.hid (show tN (n + 1) (.mk op nn s pa ps o ks) = 1 + ((ps.map (·.2)).map (tN n)).sum + (ks.map (tN n)).sum by rw [List.map_map]; rfl)
  have HB1 : Hid (Below w.heap.size w (w.alloc (.cells #[.int .i64 op, .int .i64 nn, .string s, .slice p pa.length pc, .slice q ps.length qc, .bool o, .slice k ks.length kc] 38))) := below_alloc (Below.refl _ _) _
  have HBX : Hid (BoxH (w.alloc (.cells #[.int .i64 op, .int .i64 nn, .string s, .slice p pa.length pc, .slice q ps.length qc, .bool o, .slice k ks.length kc] 38)) w.heap.size ⟨op, nn, s, p, pa.length, pc, q, ps.length, qc, o, k, ks.length, kc⟩) := World.alloc_heap_new w _
  clear hpa hps hks hb0 ih
  by_cases c1 : d = 0
  · subst c1
    go_enter Tryd.func16, Tryd.ntmps16
    go_wp2_with fail
    go_ret
    exact ⟨-1, by omega, by omega, rfl, HB1.out, by omega⟩
  have e1 : (d == 0) = false := by simpa using c1
  have hd1 : 1 ≤ d := by omega
  by_cases c2 : m ≤ 0
  · go_enter Tryd.func16, Tryd.ntmps16
    go_wp2_with fail
    go_ret
    exact ⟨-1, by omega, by omega, rfl, HB1.out, by omega⟩
  have e2 : 0 < m := by omega
  by_cases c3 : 400 < s.size
  · have e3 : (400 : Int) < (s.size : Int) := by omega
    go_enter Tryd.func16, Tryd.ntmps16
    go_wp2_with fail
    go_ret
    exact ⟨-1, by omega, by omega, rfl, HB1.out, by omega⟩
  have e3 : (s.size : Int) ≤ 400 := by omega
  by_cases c4 : 40 < pa.length
  · have e4 : (40 : Int) < (pa.length : Int) := by omega
    go_enter Tryd.func16, Tryd.ntmps16
    go_wp2_with fail
    go_ret
    exact ⟨-1, by omega, by omega, rfl, HB1.out, by omega⟩
  have e4 : (pa.length : Int) ≤ 40 := by omega
  by_cases c5 : 200 < ps.length
  · have e5 : (200 : Int) < (ps.length : Int) := by omega
    go_enter Tryd.func16, Tryd.ntmps16
    go_wp2_with fail
    go_ret
    exact ⟨-1, by omega, by omega, rfl, HB1.out, by omega⟩
  have e5 : (ps.length : Int) ≤ 200 := by omega
  by_cases c6 : 200 < ks.length
  · have e6 : (200 : Int) < (ks.length : Int) := by omega
    go_enter Tryd.func16, Tryd.ntmps16
    go_wp2_with fail
    go_ret
    exact ⟨-1, by omega, by omega, rfl, HB1.out, by omega⟩
  have e6 : (ks.length : Int) ≤ 200 := by omega
  clear c1 c2 c3 c4 c5 c6
  go_enter Tryd.func16, Tryd.ntmps16
  go_wp2_with fail
  obtain ⟨W1, hW1⟩ : ∃ W1, w.alloc (.cells #[.int .i64 op, .int .i64 nn, .string s, .slice p pa.length pc, .slice q ps.length qc, .bool o, .slice k ks.length kc] 38) = W1 := ⟨_, rfl⟩
  rw [hW1] at HBX HB1 ⊢
  clear hW1 e1
  have hm1 : -1 ≤ m - 1 := by omega
  go_loopw [7] (fun i wr => ∃ j : Nat, j ≤ pa.length ∧ i = .int .i64 j ∧ Hid (Below W1.heap.size W1 wr)) (fun i _ => pa.length - (intOf i).toNat)
  case atStart => exact ⟨0, Nat.zero_le _, rfl, Below.refl _ _⟩
  case round =>
    obtain ⟨j, hj, rfl, hB⟩ := hrel
    rename World => wr
    have hbx := BoxH.cells (show BoxH wr w.heap.size _ from (hB.out.block _ HBX.out.lt).trans HBX.out)
    have v3 := hbx.c3
    have v4 := hbx.c4
    have v6 := hbx.c6
    simp only [Nat.zero_add] at v3 v4 v6
    clear hbx
    have hlb : w.heap.size < wr.heap.size := Nat.lt_of_lt_of_le HBX.out.lt hB.out.size
    by_cases hlt : j < pa.length
    · obtain ⟨b, off, rfl, lt, hc⟩ := HPA.out.at_ (by omega)
      have hc2 := ((below_step HB1.out hB.out).cell (p := ⟨b, off + j, none⟩) lt).trans (hc j pa[j] (List.getElem?_eq_getElem hlt))
      have hz := HPA.out.each j pa[j] (List.getElem?_eq_getElem hlt)
      have hlz := Nat.lt_of_lt_of_le lt (below_step HB1.out hB.out).size
      obtain ⟨nm, hnm⟩ : ∃ nm, pa[j] = nm := ⟨_, rfl⟩
      rw [hnm] at hc2 hz
      have hki : (j : Int) < (pa.length : Int) := by omega
      have hk0 : (0 : Int) ≤ (j : Int) := by omega
      clear hnm hc lt
      by_cases hl : 400 < nm.size
      · have g : (400 : Int) < (nm.size : Int) := by omega
        go_wp2_with fail
        go_ret
        exact ⟨-1, by omega, by omega, rfl, below_step HB1.out hB.out, by omega⟩
      · have g : (nm.size : Int) ≤ 400 := by omega
        go_wp2_with fail
        go_roundw
        case rel => exact ⟨j + 1, by omega, by go_num, hB.out⟩
        case measure => simp [intOf]; omega
    · obtain rfl : j = pa.length := by omega
      have HBP := Lib.hid hB.out
      clear hB
      go_wp2_with fail
      clear v3 v4 v6 hlb
      go_loopw [2, 8] (fun u i wr => ∃ (j : Nat) (x : Int), j ≤ ps.length ∧ i = .int .i64 j ∧ u = .int .i64 x ∧ -1 ≤ x ∧ x ≤ 200 ∧ Hid (0 ≤ x → ((((ps.map (·.2)).take j).map (tN n)).sum : Int) ≤ m - 1 - x) ∧ Hid (Below W1.heap.size W1 wr)) (fun _ i _ => ps.length - (intOf i).toNat)
      case atStart => exact ⟨0, m - 1, Nat.zero_le _, rfl, rfl, hm1, by omega, (by intro _; simp), HBP.out⟩
      case round =>
        obtain ⟨j, x, hj, rfl, rfl, hx0, hx1, hS, hB⟩ := hrel
        rename World => wr
        have hbx := BoxH.cells (show BoxH wr w.heap.size _ from (hB.out.block _ HBX.out.lt).trans HBX.out)
        have v4 := hbx.c4
        have v6 := hbx.c6
        simp only [Nat.zero_add] at v4 v6
        clear hbx
        have hlb : w.heap.size < wr.heap.size := Nat.lt_of_lt_of_le HBX.out.lt hB.out.size
        by_cases hgo : j < ps.length ∧ 0 ≤ x
        · obtain ⟨hlt, hxn⟩ := hgo
          have hki : (j : Int) < (ps.length : Int) := by omega
          have hk0 : (0 : Int) ≤ (j : Int) := by omega
          obtain ⟨b, off, y, rfl, lt, hz, hc, hy, hI⟩ := HPS.out j hlt
          have hbw := below_step HB0.out (below_step HB1.out hB.out)
          have hy2 := HdAt.below hy hbw lt
          have hc2 := (hbw.cell (p := ⟨b, off + j * 8, none⟩) lt).trans hc
          have hlz := Nat.lt_of_lt_of_le lt hbw.size
          have KD := Lib.hid (IH.out y ps[j].2 wr (d - 1) x hI hbw (by omega) (by omega) hx0 hx1)
          have hjm : j < (ps.map (·.2)).length := by simpa using hlt
          have HST := Lib.hid (show (((ps.map (·.2)).take (j + 1)).map (tN n)).sum = (((ps.map (·.2)).take j).map (tN n)).sum + tN n ps[j].2 by rw [sum_take hjm]; simp)
          obtain ⟨nm, hnm⟩ : ∃ nm, ps[j].1 = nm := ⟨_, rfl⟩
          rw [hnm] at hc2 hz
          obtain ⟨op2, nn2, s2, p2, pl2, pc2, q2, ql2, qc2, o2, k2, kl2, kc2⟩ := y
          obtain ⟨c0, c1, c2, c3, c4, c5, c6⟩ := hy2
          dsimp only at c0 c1 c2 c3 c4 c5 c6
          unfold Hd.agg at KD
          dsimp only at KD
          clear hy hI lt hbw hc hnm hjm
          by_cases hl : 400 < nm.size
          · have g : (400 : Int) < (nm.size : Int) := by omega
            go_wp2_with fail
            go_ret
            exact ⟨-1, by omega, by omega, rfl, below_step HB1.out hB.out, by omega⟩
          · have g : (nm.size : Int) ≤ 400 := by omega
            go_wp2_with (go_at_call 16; refine KD.out.mono ?_; rintro e w5 ⟨y5, h50, h51, rfl, hb5, hs5⟩; have HB5 := Lib.hid hb5; have HS5 := Lib.hid hs5; clear hb5 hs5)
            go_roundw
            case rel => exact ⟨j + 1, y5, by omega, by go_num, rfl, h50, h51, (by intro hy0; have h1 := HS5.out hy0; have h2 := hS.out hxn; have h3 := HST.out; omega), below_step hB.out HB5.out⟩
            case measure => simp [intOf]; omega
        · have HEND := Lib.hid (show 0 ≤ x → (((ps.map (·.2)).map (tN n)).sum : Int) ≤ m - 1 - x from fun h0 => by
            have h1 := hS.out h0
            have : j = ps.length := by omega
            subst this
            rwa [List.take_of_length_le (by simp)] at h1)
          have HBP2 := Lib.hid hB.out
          have hng : ¬ ((j : Int) < (ps.length : Int) ∧ 0 ≤ x) := by omega
          clear hS hB HBP
          by_cases hjl : j < ps.length
          · have hki : (j : Int) < (ps.length : Int) := by omega
            have hxn : x < 0 := by omega
            clear hgo hng
            go_wp2_with fail
            clear v4 v6 hlb
            go_loopw [2, 9] (fun u i wr => ∃ (j : Nat) (x : Int), j ≤ ks.length ∧ i = .int .i64 j ∧ u = .int .i64 x ∧ -1 ≤ x ∧ x ≤ 200 ∧ Hid (0 ≤ x → ((((ps.map (·.2)).map (tN n)).sum + ((ks.take j).map (tN n)).sum : Nat) : Int) ≤ m - 1 - x) ∧ Hid (Below W1.heap.size W1 wr)) (fun _ i _ => ks.length - (intOf i).toNat)
            case atStart => exact ⟨0, x, Nat.zero_le _, rfl, rfl, hx0, hx1, (by intro h0; have := HEND.out h0; simpa using this), HBP2.out⟩
            case round =>
              obtain ⟨j, x, hj, rfl, rfl, hx0, hx1, hS, hB⟩ := hrel
              rename World => wr
              have hbx := BoxH.cells (show BoxH wr w.heap.size _ from (hB.out.block _ HBX.out.lt).trans HBX.out)
              have v6 := hbx.c6
              simp only [Nat.zero_add] at v6
              clear hbx
              have hlb : w.heap.size < wr.heap.size := Nat.lt_of_lt_of_le HBX.out.lt hB.out.size
              by_cases hgo : j < ks.length ∧ 0 ≤ x
              · obtain ⟨hlt, hxn⟩ := hgo
                have hki : (j : Int) < (ks.length : Int) := by omega
                have hk0 : (0 : Int) ≤ (j : Int) := by omega
                obtain ⟨b, off, y, rfl, lt, hy, hI⟩ := HKS.out j hlt
                have hbw := below_step HB0.out (below_step HB1.out hB.out)
                have hy2 := HdAt.below hy hbw lt
                have hlz := Nat.lt_of_lt_of_le lt hbw.size
                have KD := Lib.hid (IH.out y ks[j] wr (d - 1) x hI hbw (by omega) (by omega) hx0 hx1)
                have HST := Lib.hid (sum_take (f := tN n) hlt)
                obtain ⟨op2, nn2, s2, p2, pl2, pc2, q2, ql2, qc2, o2, k2, kl2, kc2⟩ := y
                obtain ⟨c0, c1, c2, c3, c4, c5, c6⟩ := hy2
                dsimp only at c0 c1 c2 c3 c4 c5 c6
                unfold Hd.agg at KD
                dsimp only at KD
                clear hy hI lt hbw
                go_wp2_with (go_at_call 16; refine KD.out.mono ?_; rintro e w5 ⟨y5, h50, h51, rfl, hb5, hs5⟩; have HB5 := Lib.hid hb5; have HS5 := Lib.hid hs5; clear hb5 hs5)
                go_roundw
                case rel => exact ⟨j + 1, y5, by omega, by go_num, rfl, h50, h51, (by intro hy0; have h1 := HS5.out hy0; have h2 := hS.out hxn; have h3 := HST.out; omega), below_step hB.out HB5.out⟩
                case measure => simp [intOf]; omega
              · have HEND2 := Lib.hid (show 0 ≤ x → (tN (n + 1) (.mk op nn s pa ps o ks) : Int) ≤ m - x from fun h0 => by
                  have h1 := hS.out h0
                  have : j = ks.length := by omega
                  subst this
                  rw [List.take_length] at h1
                  rw [HT.out]
                  omega)
                clear hS
                by_cases hjl2 : j < ks.length
                · have hki2 : (j : Int) < (ks.length : Int) := by omega
                  have hxn2 : x < 0 := by omega
                  clear hgo
                  go_wp2_with fail
                  go_ret
                  exact ⟨x, hx0, hx1, rfl, below_step HB1.out hB.out, HEND2.out⟩
                · have hki2 : ¬ (j : Int) < (ks.length : Int) := by omega
                  clear hgo
                  go_wp2_with fail
                  go_ret
                  exact ⟨x, hx0, hx1, rfl, below_step HB1.out hB.out, HEND2.out⟩
          · have hki : ¬ (j : Int) < (ps.length : Int) := by omega
            clear hgo hng
            go_wp2_with fail
            clear v4 v6 hlb
            go_loopw [2, 9] (fun u i wr => ∃ (j : Nat) (x : Int), j ≤ ks.length ∧ i = .int .i64 j ∧ u = .int .i64 x ∧ -1 ≤ x ∧ x ≤ 200 ∧ Hid (0 ≤ x → ((((ps.map (·.2)).map (tN n)).sum + ((ks.take j).map (tN n)).sum : Nat) : Int) ≤ m - 1 - x) ∧ Hid (Below W1.heap.size W1 wr)) (fun _ i _ => ks.length - (intOf i).toNat)
            case atStart => exact ⟨0, x, Nat.zero_le _, rfl, rfl, hx0, hx1, (by intro h0; have := HEND.out h0; simpa using this), HBP2.out⟩
            case round =>
              obtain ⟨j, x, hj, rfl, rfl, hx0, hx1, hS, hB⟩ := hrel
              rename World => wr
              have hbx := BoxH.cells (show BoxH wr w.heap.size _ from (hB.out.block _ HBX.out.lt).trans HBX.out)
              have v6 := hbx.c6
              simp only [Nat.zero_add] at v6
              clear hbx
              have hlb : w.heap.size < wr.heap.size := Nat.lt_of_lt_of_le HBX.out.lt hB.out.size
              by_cases hgo : j < ks.length ∧ 0 ≤ x
              · obtain ⟨hlt, hxn⟩ := hgo
                have hki : (j : Int) < (ks.length : Int) := by omega
                have hk0 : (0 : Int) ≤ (j : Int) := by omega
                obtain ⟨b, off, y, rfl, lt, hy, hI⟩ := HKS.out j hlt
                have hbw := below_step HB0.out (below_step HB1.out hB.out)
                have hy2 := HdAt.below hy hbw lt
                have hlz := Nat.lt_of_lt_of_le lt hbw.size
                have KD := Lib.hid (IH.out y ks[j] wr (d - 1) x hI hbw (by omega) (by omega) hx0 hx1)
                have HST := Lib.hid (sum_take (f := tN n) hlt)
                obtain ⟨op2, nn2, s2, p2, pl2, pc2, q2, ql2, qc2, o2, k2, kl2, kc2⟩ := y
                obtain ⟨c0, c1, c2, c3, c4, c5, c6⟩ := hy2
                dsimp only at c0 c1 c2 c3 c4 c5 c6
                unfold Hd.agg at KD
                dsimp only at KD
                clear hy hI lt hbw
                go_wp2_with (go_at_call 16; refine KD.out.mono ?_; rintro e w5 ⟨y5, h50, h51, rfl, hb5, hs5⟩; have HB5 := Lib.hid hb5; have HS5 := Lib.hid hs5; clear hb5 hs5)
                go_roundw
                case rel => exact ⟨j + 1, y5, by omega, by go_num, rfl, h50, h51, (by intro hy0; have h1 := HS5.out hy0; have h2 := hS.out hxn; have h3 := HST.out; omega), below_step hB.out HB5.out⟩
                case measure => simp [intOf]; omega
              · have HEND2 := Lib.hid (show 0 ≤ x → (tN (n + 1) (.mk op nn s pa ps o ks) : Int) ≤ m - x from fun h0 => by
                  have h1 := hS.out h0
                  have : j = ks.length := by omega
                  subst this
                  rw [List.take_length] at h1
                  rw [HT.out]
                  omega)
                clear hS
                by_cases hjl2 : j < ks.length
                · have hki2 : (j : Int) < (ks.length : Int) := by omega
                  have hxn2 : x < 0 := by omega
                  clear hgo
                  go_wp2_with fail
                  go_ret
                  exact ⟨x, hx0, hx1, rfl, below_step HB1.out hB.out, HEND2.out⟩
                · have hki2 : ¬ (j : Int) < (ks.length : Int) := by omega
                  clear hgo
                  go_wp2_with fail
                  go_ret
                  exact ⟨x, hx0, hx1, rfl, below_step HB1.out hB.out, HEND2.out⟩
theorem left_any (w0 : World) : ∀ (n : Nat) (h : Hd) (x : Ex) (w : World) (d m : Int), InX w0 n h x → Below w0.heap.size w0 w → 0 ≤ d → d ≤ 24 → -1 ≤ m → m ≤ 200 → Calls Tryd.prog 16 #[h.agg, .int .i64 d, .int .i64 m] w (LeftP m (tN n x) w)
  | 0, _, _, _, _, _, h, _, _, _, _, _ => h.elim
  | n + 1, h, x, w, d, m, hx, hb, h1, h2, h3, h4 => left_step w0 n (left_any w0 n) h x w d m hx hb h1 h2 h3 h4
/-- Few answers something; and true of what is small alone. -/
def FewP (t : Nat) (w : World) (e : Ending) (w' : World) : Prop := ∃ b : Bool, e = .returned (.bool b) ∧ Below w.heap.size w w' ∧ (b = true → t ≤ 200)
set_option maxHeartbeats 1000000 in
theorem few_any (w0 w : World) (n : Nat) (h : Hd) (x : Ex) (hx : InX w0 n h x) (hb0 : Below w0.heap.size w0 w) : Calls Tryd.prog 8 #[h.agg] w (FewP (tN n x) w) := by
  have KL := fun (W : World) (hW : Below w.heap.size w W) => Lib.hid (left_any w0 n h x W 24 200 hx (below_step hb0 hW) (by omega) (by omega) (by omega) (by omega))
  obtain ⟨op, nn, s, p, pl, pc, q, ql, qc, o, k, kl, kc⟩ := h
  unfold Hd.agg at KL
  unfold Hd.agg
  dsimp only at KL ⊢
  have HB1 : Hid (Below w.heap.size w (w.alloc (.cells #[.int .i64 op, .int .i64 nn, .string s, .slice p pl pc, .slice q ql qc, .bool o, .slice k kl kc] 38))) := (Below.refl _ w).alloc (Nat.le_refl _) _
  clear hx hb0
  go_enter Tryd.func8, Tryd.ntmps8
  go_wp2_with (go_at_call 16; refine (KL _ HB1.out).out.mono ?_; rintro e w5 ⟨y5, h50, h51, rfl, hb5, hs5⟩; have HB5 := Lib.hid hb5; have HS5 := Lib.hid hs5; clear hb5 hs5)
  go_ret
  exact ⟨_, rfl, below_step HB1.out HB5.out, fun hb => by have h0 : 0 ≤ y5 := (by simpa using hb); have := HS5.out h0; omega⟩
end Go.Proofs.YtlpilbghblbpbaaDoor
/- NODES IN MEMORY; WALK of the laws' Few of nodes. -/
namespace Go.Proofs.YtlpilbghblbpbaaDoor.Gr
open Go.RowKit
open Go.Proofs.YtlpilbghblbpbaaDoor.Nm (StrRow)
def okS (s : ByteArray) : Prop := s.size ≤ 140737488355328
structure Nd where
  name : ByteArray
  res : Bool
  defs : List Ex
/-- A node's three fields at a place. -/
structure NdAt (w : World) (n : Nat) (b off : Nat) (a : Option Addr) (dl dc : Nat) (x : Nd) : Prop where
  c0 : w.cell? ⟨b, off, none⟩ = some (.string x.name)
  c1 : w.cell? ⟨b, off + 1, none⟩ = some (.bool x.res)
  c2 : w.cell? ⟨b, off + 2, none⟩ = some (.slice a dl dc)
  ok : okS x.name
  ds : InKs (InX w n) w a dl x.defs
/-- A slice of nodes. -/
structure NodeRow (w : World) (n : Nat) (a : Option Addr) (len : Nat) (xs : List Nd) : Prop where
  count : xs.length = len
  max : len ≤ 140737488355328
  at_ : 0 < len → ∃ b off, a = some ⟨b, off, none⟩ ∧ b < w.heap.size ∧ ∀ (i : Nat) (x : Nd), xs[i]? = some x → ∃ a' dl dc, NdAt w n b (off + i * 3) a' dl dc x
theorem NdAt.below {w w' : World} {n b off : Nat} {a : Option Addr} {dl dc : Nat} {x : Nd} (h : NdAt w n b off a dl dc x) (hb : Below w.heap.size w w') (lt : b < w.heap.size) : NdAt w' n b off a dl dc x := by
  have e : ∀ i, w'.cell? ⟨b, i, none⟩ = w.cell? ⟨b, i, none⟩ := fun i => hb.cell (p := ⟨b, i, none⟩) lt
  exact ⟨(e _).trans h.c0, (e _).trans h.c1, (e _).trans h.c2, h.ok, h.ds.below (fun _ _ h => h.below hb) hb⟩
theorem NodeRow.below {w w' : World} {n : Nat} {a : Option Addr} {len : Nat} {xs : List Nd} (h : NodeRow w n a len xs) (hb : Below w.heap.size w w') : NodeRow w' n a len xs := by
  obtain ⟨h1, h2, h4⟩ := h
  refine ⟨h1, h2, fun h0 => ?_⟩
  obtain ⟨b, off, e, hlt, hc⟩ := h4 h0
  exact ⟨b, off, e, Nat.lt_of_lt_of_le hlt hb.size, fun i x hx => by
    obtain ⟨a', dl, dc, h⟩ := hc i x hx
    exact ⟨a', dl, dc, h.below hb hlt⟩⟩
/-- Nodes few and small enough. -/
def OkN (n : Nat) (x : Nd) : Prop := x.name.size ≤ 100 ∧ x.defs.length ≤ 10 ∧ ∀ e ∈ x.defs, tN n e ≤ 200
def FewR (n : Nat) (xs : List Nd) (w : World) (e : Ending) (w' : World) : Prop := ∃ b : Bool, e = .returned (.bool b) ∧ Below w.heap.size w w' ∧ (b = true → xs.length ≤ 40 ∧ ∀ x ∈ xs, OkN n x)
theorem all_at {α : Type} {Q : α → Prop} {l : List α} {k : Nat} {x : α} (h : l[k]? = some x) (ha : ∀ y ∈ l.take k, Q y) (hx : Q x) : ∀ y ∈ l.take (k + 1), Q y := by
  obtain ⟨hk, e⟩ := List.getElem?_eq_some_iff.1 h
  rw [List.take_succ_eq_append_getElem hk, e]
  intro y hy
  rcases List.mem_append.1 hy with hy | hy
  · exact ha y hy
  · rw [List.mem_singleton.1 hy]; exact hx
set_option maxRecDepth 100000 in
set_option maxHeartbeats 16000000 in
theorem few_nodes (a : Option Addr) (len cap n : Nat) (xs : List Nd) (w : World) (hX : NodeRow w n a len xs) : Calls Tryd.prog 4 #[.slice a len cap] w (FewR n xs w) := by
  have HX := Lib.hid hX
  have hcx := hX.count
  have hmx := hX.max
  clear hX
  by_cases h40 : len ≤ 40
  · have hg40 : ¬ ((40 : Int) < (len : Int)) := by omega
    go_enter Tryd.func4, Tryd.ntmps4
    go_upto_region 4 with fail
    go_loopw [3] (fun i wr => ∃ (k : Nat), k ≤ len ∧ i = .int .i64 k ∧ Hid (∀ x ∈ xs.take k, OkN n x) ∧ Hid (Below w.heap.size w wr)) (fun i _ => len - (intOf i).toNat)
    case atStart => exact ⟨0, by omega, rfl, Lib.hid (by simp), Lib.hid (Below.refl _ _)⟩
    case round =>
      obtain ⟨k, hk, rfl, hO, hB⟩ := hrel
      rename World => wr
      have HO := Lib.hid hO.out
      have HB := Lib.hid hB.out
      clear hO hB
      by_cases hlt : k < len
      · obtain ⟨b0, off, rfl, hb, hc⟩ := HX.out.at_ (by omega)
        obtain ⟨x, hx⟩ : ∃ x, xs[k]? = some x := ⟨xs[k]'(by rw [hcx]; exact hlt), List.getElem?_eq_getElem _⟩
        obtain ⟨a', dl, dc, hN⟩ := hc k x hx
        obtain ⟨c0, c1, c2, hok, hds⟩ := hN.below HB.out hb
        have HX1 := Lib.hid hx
        have HNB := Lib.hid hN
        have HBL := Lib.hid hb
        have hdc := hds.count
        have hdm := hds.max
        have hokz : x.name.size ≤ 140737488355328 := hok
        have HDS := Lib.hid hds
        obtain ⟨nm, rs, dsx⟩ := x
        dsimp only at c0 c1 c2 hok hdc hokz HDS
        clear hx hc hb hN hok hds c1
        by_cases hn : nm.size ≤ 100
        · have hn2 : ¬ ((100 : Int) < (nm.size : Int)) := by omega
          by_cases hd : dl ≤ 10
          · have hd2 : ¬ ((10 : Int) < (dl : Int)) := by omega
            go_upto_region 9 with fail
            go_loopw [4] (fun i w4 => ∃ (j : Nat), j ≤ dl ∧ i = .int .i64 j ∧ Hid (∀ e ∈ dsx.take j, tN n e ≤ 200) ∧ Hid (Below wr.heap.size wr w4)) (fun i _ => dl - (intOf i).toNat)
            case atStart => exact ⟨0, by omega, rfl, Lib.hid (by simp), Lib.hid (Below.refl _ _)⟩
            case round =>
              clear c0 c2
              obtain ⟨j, hj, rfl, hA, hB2⟩ := hrel
              rename World => w4
              have HA := Lib.hid hA.out
              have HB2 := Lib.hid hB2.out
              clear hA hB2
              obtain ⟨c0, c1, c2, -, -⟩ := HNB.out.below (below_step HB.out HB2.out) HBL.out
              dsimp only at c0 c1 c2
              clear c0 c1
              by_cases hlt2 : j < dl
              · have hlt' : j < dsx.length := by rw [hdc]; exact hlt2
                obtain ⟨b, off, y, rfl, lt, hy2, hI⟩ := HDS.out.at_ j hlt'
                obtain ⟨e, he⟩ : ∃ e, dsx[j]? = some e := ⟨dsx[j], List.getElem?_eq_getElem _⟩
                rw [(List.getElem?_eq_some_iff.1 he).2] at hI
                have HE := Lib.hid he
                have HRS := Lib.hid (few_any wr w4 n y e hI HB2.out)
                obtain ⟨op2, nn2, s2, p2, pl2, pc2, q2, ql2, qc2, o2, k2, kl2, kc2⟩ := y
                obtain ⟨e0, e1, e2, e3, e4, e5, e6⟩ := hy2.below HB2.out lt
                dsimp only at e0 e1 e2 e3 e4 e5 e6
                unfold Hd.agg at HRS
                dsimp only at HRS
                have hk0 : (0 : Int) ≤ (j : Int) := by omega
                have hki : (j : Int) < (dl : Int) := by omega
                clear hI hy2 lt he
                go_wp2_with fail
                go_at_call 8; refine HRS.out.mono ?_; rintro en w5 ⟨bb, rfl, hB5, h5⟩
                have HB5 := Lib.hid (HB2.out.trans (hB5.mono HB2.out.size))
                have H5 := Lib.hid h5
                clear hB5 h5 HRS e0 e1 e2 e3 e4 e5 e6
                cases bb
                · go_wp2
                  go_ret
                  exact ⟨false, rfl, HB.out.trans (HB5.out.mono HB.out.size), fun h => absurd h (by decide)⟩
                · go_wp2
                  go_roundw
                  case rel => exact ⟨j + 1, by omega, by go_num, Lib.hid (all_at HE.out HA.out (H5.out (by trivial))), HB5⟩
                  case measure => simp [intOf]; omega
              · have hki : ¬ (j : Int) < (dl : Int) := by omega
                obtain rfl : j = dl := by omega
                have HT := Lib.hid (show dsx.take j = dsx from List.take_of_length_le (by omega))
                rw [HT.out] at HA
                go_wp2
                go_roundw
                case rel => exact ⟨k + 1, by omega, by go_num, Lib.hid (all_at HX1.out HO.out ⟨hn, by dsimp only; omega, HA.out⟩), Lib.hid (HB.out.trans (HB2.out.mono HB.out.size))⟩
                case measure => simp [intOf]; omega
          · have hd2 : (10 : Int) < (dl : Int) := by omega
            go_wp2
            go_ret
            exact ⟨false, rfl, HB.out, fun h => absurd h (by decide)⟩
        · have hn2 : (100 : Int) < (nm.size : Int) := by omega
          go_wp2
          go_ret
          exact ⟨false, rfl, HB.out, fun h => absurd h (by decide)⟩
      · have hki : ¬ (k : Int) < (len : Int) := by omega
        obtain rfl : k = len := by omega
        have HE := Lib.hid (show xs.take k = xs from List.take_of_length_le (by omega))
        rw [HE.out] at HO
        go_wp2
        go_ret
        exact ⟨true, rfl, HB.out, fun _ => ⟨by omega, HO.out⟩⟩
  · have hg40 : (40 : Int) < (len : Int) := by omega
    go_enter Tryd.func4, Tryd.ntmps4
    go_wp2
    go_ret
    exact ⟨false, rfl, Below.refl _ _, fun h => absurd h (by decide)⟩
end Go.Proofs.YtlpilbghblbpbaaDoor.Gr
/- A KEY's TEXT; WALK of key's Of. -/
namespace Go.Proofs.YtlpilbghblbpbaaDoor.Gr
open Go.RowKit
theorem map_at {α β : Type} (f : α → β) {l : List α} {k : Nat} {x : α} (h : l[k]? = some x) : (l.take (k + 1)).map f = (l.take k).map f ++ [f x] := by
  obtain ⟨hk, e⟩ := List.getElem?_eq_some_iff.1 h
  rw [List.take_succ_eq_append_getElem hk, List.map_append, e]
  rfl
theorem grow_of {w w' : World} (h : Below w.heap.size w w') : w.grownBy w' none := ⟨h.os, h.tape, h.output, h.size, fun k hk _ => h.block k hk⟩
theorem own_none (v : Value) : v.ownBlock = none ∨ v.ownBlock ≠ none := by cases v.ownBlock <;> simp
end Go.Proofs.YtlpilbghblbpbaaDoor.Gr
namespace Go.Proofs.YtlpilbghblbpbaaDoor.Ky
open Go.RowKit
open Sw (SE NText TxE sexp chk xt Cp chk_zero xt_len expr_any ntext_any)
open Lx (bs bl_alloc bl_step)
open Gr (okS)
/-- Texts, each with a line feed behind it. -/
def kText (l : List ByteArray) : List UInt8 := l.flatMap fun t => t.data.toList ++ [10]
theorem kText_snoc (l : List ByteArray) (t : ByteArray) : kText (l ++ [t]) = kText l ++ (t.data.toList ++ [10]) := by unfold kText; simp
theorem join_nl : ∀ l : List ByteArray, l ≠ [] → Lib.join (l.map (·.data.toList)) [10] ++ [10] = kText l
  | [], h => absurd rfl h
  | [x], _ => by simp [Lib.join, List.intercalate, kText]
  | x :: y :: l, _ => by
    have h := join_nl (y :: l) (by simp)
    have e : Lib.join ((x :: y :: l).map (·.data.toList)) [10] = x.data.toList ++ 10 :: Lib.join ((y :: l).map (·.data.toList)) [10] := by
      unfold Lib.join
      simp [List.intercalate]
    rw [e, List.append_assoc, List.cons_append, h]
    simp [kText]
theorem kText_len (l : List ByteArray) (m : Nat) (h : ∀ t ∈ l, t.size ≤ m) : (kText l).length ≤ l.length * (m + 1) := by
  induction l with
  | nil => simp [kText]
  | cons x l ih =>
    have h1 := ih fun t ht => h t (List.mem_cons_of_mem _ ht)
    have h2 := h x (List.mem_cons_self)
    have e : kText (x :: l) = (x.data.toList ++ [10]) ++ kText l := by simp [kText]
    have h3 : x.data.toList.length = x.size := Array.length_toList
    rw [e, List.length_append, List.length_append, h3, List.length_cons, List.length_cons, List.length_nil, Nat.add_mul]
    omega
/-- Are the lists' paths as long as their room? -/
def CKs (w : World) (n : Nat) (a : Option Addr) (ds : List Ex) : Prop := ∀ (i : Nat) (hi : i < ds.length) (b off : Nat) (y : Hd), a = some ⟨b, off, none⟩ → HdAt w b (off + i * 7) y → Cp w n y ds[i]
/-- Has a node a key? -/
noncomputable def okK (n : Nat) (nm : ByteArray) (ds : List Ex) (fuel : Int) : Bool := Nm.rightL nm.toList && !ds.isEmpty && decide (1 ≤ fuel) && decide (fuel ≤ 1048576) && ds.all fun e => decide (chk n e = 0)
/-- A key's lines. -/
noncomputable def kLines (n : Nat) (nm : ByteArray) (ds : List Ex) (fuel : Int) : List ByteArray := nm :: Nt.textS fuel :: ds.map (sexp n)
noncomputable def keyT (n : Nat) (nm : ByteArray) (ds : List Ex) (fuel : Int) : ByteArray := if okK n nm ds fuel = true then bs (kText (kLines n nm ds fuel)) else ⟨#[]⟩
noncomputable def keyE (n : Nat) (nm : ByteArray) (ds : List Ex) (fuel : Int) : Int := if okK n nm ds fuel = true then 0 else 1
theorem key_no {n : Nat} {nm : ByteArray} {ds : List Ex} {fuel : Int} (h : okK n nm ds fuel = false) : keyT n nm ds fuel = ⟨#[]⟩ ∧ keyE n nm ds fuel = 1 := by
  unfold keyT keyE
  rw [h]
  exact ⟨rfl, rfl⟩
theorem key_yes {n : Nat} {nm : ByteArray} {ds : List Ex} {fuel : Int} (h : okK n nm ds fuel = true) : keyT n nm ds fuel = bs (kText (kLines n nm ds fuel)) ∧ keyE n nm ds fuel = 0 := by
  unfold keyT keyE
  rw [h]
  exact ⟨rfl, rfl⟩
theorem sexp_len {n : Nat} {e : Ex} (h : tN n e ≤ 200) : (sexp n e).size ≤ 220000 := by
  unfold sexp
  split
  · rename_i hc
    have := xt_len n e (chk_zero hc)
    rw [Lx.bs_size]
    omega
  · simp [ByteArray.size]
theorem texts_len {fuel : Int} (h1 : 1 ≤ fuel) (h2 : fuel ≤ 1048576) : (Nt.textS fuel).size ≤ 20 := by
  have h := Nt.textL_len fuel (by omega)
  have e : (Nt.textS fuel).size = (Nt.textL fuel).length := List.size_toArray
  omega
theorem lines_len {n : Nat} {nm : ByteArray} {ds : List Ex} {fuel : Int} (hn : nm.size ≤ 100) (hd : ds.length ≤ 10) (ht : ∀ e ∈ ds, tN n e ≤ 200) (h1 : 1 ≤ fuel) (h2 : fuel ≤ 1048576) : (kText (kLines n nm ds fuel)).length ≤ 3000000 := by
  have h := kText_len (kLines n nm ds fuel) 220000 fun t hm => by
    unfold kLines at hm
    rcases List.mem_cons.1 hm with rfl | hm
    · omega
    rcases List.mem_cons.1 hm with rfl | hm
    · have := texts_len h1 h2; omega
    · obtain ⟨e, he, rfl⟩ := List.mem_map.1 hm
      exact sexp_len (ht e he)
  have e : (kLines n nm ds fuel).length = ds.length + 2 := by unfold kLines; simp
  have h3 : (kLines n nm ds fuel).length * (220000 + 1) ≤ 12 * (220000 + 1) := Nat.mul_le_mul_right _ (by omega)
  omega
theorem holds_str {w : World} {g : Nat} {cur : Array Value} {t : TypeId} {fr : Nat × Nat} {L : List ByteArray} (hb : w.heap[g]? = some (.cells cur t fr)) (h : cur.toList.take L.length = L.map Value.string) (j : Nat) (x : ByteArray) (hx : L[j]? = some x) : w.cell? ⟨g, j, none⟩ = some (.string x) := by
  obtain ⟨hl, e⟩ := List.getElem?_eq_some_iff.1 hx
  have h1 : (cur.toList.take L.length)[j]? = some (.string x) := by rw [h, List.getElem?_map, hx]; rfl
  rw [List.getElem?_take, if_pos hl] at h1
  simp only [World.cell?, hb]
  simpa using h1
/-- What a node must be for the walk. -/
structure KN (w : World) (n : Nat) (nm : ByteArray) (a : Option Addr) (dl : Nat) (ds : List Ex) : Prop where
  tab : SE w
  name : nm.size ≤ 100
  len : ds.length ≤ 10
  tN : ∀ e ∈ ds, tN n e ≤ 200
  ks : InKs (InX w n) w a dl ds
  cp : CKs w n a ds
theorem KN.below {w w' : World} {n : Nat} {nm : ByteArray} {a : Option Addr} {dl : Nat} {ds : List Ex} (h : KN w n nm a dl ds) (hb : Below w.heap.size w w') : KN w' n nm a dl ds := by
  refine ⟨h.tab.below hb, h.name, h.len, h.tN, h.ks.below (fun _ _ h => h.below hb) hb, fun i hi b off y hq hy => ?_⟩
  obtain ⟨b1, off1, y1, e, lt, hy1, hI⟩ := h.ks.at_ i hi
  obtain ⟨rfl, rfl⟩ : b = b1 ∧ off = off1 := by rw [hq] at e; injection e with e; injection e with e1 e2; exact ⟨e1, e2⟩
  obtain rfl := Sw.hd_eq hy (hy1.below hb lt)
  exact Cp.below hb hI (h.cp i hi b off y hq hy1)
end Go.Proofs.YtlpilbghblbpbaaDoor.Ky
/- THE FRAME: a node that came in lies in memory; none of its lists takes more than the reach, and no text either. -/
namespace Go.Proofs.YtlpilbghblbpbaaDoor.Fm
open Go.Joins Go.ChangeShapes Go.WideShapes Go.ChangeAt Go.RowKit Go.Deep
open Sw (Cp hd_eq)
theorem own_knob : ownKnob Tryd.prog.godebug = none := by kernel_rfl
theorem laidOut : laidOutB Tryd.prog = true := by kernel_rfl
theorem cells103 : Tryd.prog.cellsOf 38 = 7 := by kernel_rfl
theorem cells144 : Tryd.prog.cellsOf 69 = 8 := by kernel_rfl
theorem cells9 : Tryd.prog.cellsOf 9 = 1 := by kernel_rfl
theorem bytes103 : Tryd.prog.bytesOf 38 = 112 := by kernel_rfl
theorem bytes144 : Tryd.prog.bytesOf 69 = 128 := by kernel_rfl
theorem bytes9 : Tryd.prog.bytesOf 9 = 16 := by kernel_rfl
section
variable {H : Type} {enc : TypeId × Value → H} {P : Program} {w : World} {base : Nat} {spare : Nat → Bool} {held : Bool}
theorem open_agg7 {t : TypeId} {f0 f1 f2 f3 f4 f5 f6 : Field} {cs : List Value} {x : DataW H × List MemPlace} {fuel : Nat} (hs : P.underlying t = some (.struct #[f0, f1, f2, f3, f4, f5, f6])) (hone : oneCellFields P #[f0, f1, f2, f3, f4, f5, f6] = true)
    (hC : P.cellsOf t = 7) (h : DataW.trod enc P w base spare held fuel t cs = some x) :
    ∃ (v0 v1 v2 v3 v4 v5 v6 : Value) (y0 y1 y2 y3 y4 y5 y6 : DataW H × List MemPlace) (n : Nat), fuel = n + 1 ∧ cs = [v0, v1, v2, v3, v4, v5, v6] ∧ x.1 = .agg [y0.1, y1.1, y2.1, y3.1, y4.1, y5.1, y6.1] ∧
      DataW.trod enc P w base spare held n f0.type [v0] = some y0 ∧ DataW.trod enc P w base spare held n f1.type [v1] = some y1 ∧ DataW.trod enc P w base spare held n f2.type [v2] = some y2 ∧ DataW.trod enc P w base spare held n f3.type [v3] = some y3 ∧
      DataW.trod enc P w base spare held n f4.type [v4] = some y4 ∧ DataW.trod enc P w base spare held n f5.type [v5] = some y5 ∧ DataW.trod enc P w base spare held n f6.type [v6] = some y6 := by
  obtain ⟨xs, n, hfu, hx, hcl, hlen, hg⟩ := DataW.trod_struct hs h
  rw [hC] at hcl
  match cs, hcl with
  | [c0, c1, c2, c3, c4, c5, c6], _ =>
    obtain ⟨o0, k0⟩ := hone_of hone 0 f0 rfl
    obtain ⟨o1, k1⟩ := hone_of hone 1 f1 rfl
    obtain ⟨o2, k2⟩ := hone_of hone 2 f2 rfl
    obtain ⟨o3, k3⟩ := hone_of hone 3 f3 rfl
    obtain ⟨o4, k4⟩ := hone_of hone 4 f4 rfl
    obtain ⟨o5, k5⟩ := hone_of hone 5 f5 rfl
    obtain ⟨o6, k6⟩ := hone_of hone 6 f6 rfl
    match xs, hlen with
    | [y0, y1, y2, y3, y4, y5, y6], _ =>
      exact ⟨c0, c1, c2, c3, c4, c5, c6, y0, y1, y2, y3, y4, y5, y6, n, hfu, rfl, by simp [hx], by simpa [o0, k0] using hg 0 f0 rfl, by simpa [o1, k1] using hg 1 f1 rfl, by simpa [o2, k2] using hg 2 f2 rfl, by simpa [o3, k3] using hg 3 f3 rfl, by simpa [o4, k4] using hg 4 f4 rfl, by simpa [o5, k5] using hg 5 f5 rfl, by simpa [o6, k6] using hg 6 f6 rfl⟩
theorem slice_any {t e : TypeId} {fuel : Nat} {v : Value} {x : DataW H × List MemPlace} (ht : P.underlying t = some (.slice e)) (h : DataW.trod enc P w base spare held fuel t [v] = some x) : ∃ (f : Option Addr) (fl fc : Nat), v = .slice f fl fc := by
  rcases open_slice ht h with ⟨h0, _⟩ | ⟨a, len, cap, _, _, _, _, hc, _⟩
  · exact ⟨none, 0, 0, by simpa using h0⟩
  · exact ⟨some a, len, cap, by simpa using hc⟩
end
theorem spot_of {w : World} {a : Addr} {v : Value} (h : w.cell? a = some v) : a = ⟨a.block, a.off, none⟩ := by
  obtain ⟨b, o, s⟩ := a
  cases s with
  | none => rfl
  | some x => simp [World.cell?] at h; split at h <;> simp_all
theorem add_at (b o i : Nat) : (⟨b, o, none⟩ : Addr).add i = ⟨b, o + i, none⟩ := by
  unfold Addr.add
  split
  · simp_all
  · rfl
section
variable {H : Type} {enc : TypeId × Value → H} {w : World} {base : Nat} {spare : Nat → Bool} {held : Bool}
/-- No part of a datum weighs more than the reach. -/
def Wt (t : TypeId) (d : DataW H) : Prop := ∀ n ∈ DataW.weights Tryd.prog t d, n ≤ reachBytes
theorem wt_all {e : TypeId} : ∀ {l : List (DataW H)} {n : Nat} {d : DataW H}, d ∈ l → n ∈ DataW.weights Tryd.prog e d → n ∈ DataW.weightsAll Tryd.prog e l
  | a :: l, n, d, h, hn => by
    simp only [DataW.weightsAll, List.mem_append]
    rcases List.mem_cons.1 h with rfl | h
    · exact .inl hn
    · exact .inr (wt_all h hn)
theorem wt_part {t : TypeId} {fs : Array Field} {parts : List (DataW H)} (ht : Tryd.prog.underlying t = some (.struct fs)) (h : Wt t (.agg parts)) {i : Nat} {f : Field} {d : DataW H} (hf : fs[i]? = some f) (hd : parts[i]? = some d) : Wt f.type d := by
  intro n hn
  refine h n ?_
  simp only [DataW.weights, ht]
  exact DataW.weights_mem_each (j := i) (by simp [hf]) hd n hn
set_option maxRecDepth 100000 in
theorem slice_cells_w {t e : TypeId} {c fuel : Nat} {cs : List Value} {x : DataW H × List MemPlace} (ht : Tryd.prog.underlying t = some (.slice e)) (hc : Tryd.prog.cellsOf e = c) (hpos : 0 < c) (h : DataW.trod enc Tryd.prog w base spare held fuel t cs = some x) (hw : Wt t x.1) :
    ∃ (o : Option Addr) (len cap : Nat), cs = [.slice o len cap] ∧ len ≤ cap ∧ len ≤ maxLen ∧ len * Tryd.prog.bytesOf e ≤ reachBytes ∧ ∀ i, i < len → ∃ (b off n : Nat) (cs' : List Value) (y : DataW H × List MemPlace), fuel = n + 1 ∧ o = some ⟨b, off, none⟩ ∧ b < w.heap.size ∧ cs'.length = c ∧
      (∀ j, j < c → w.cell? ⟨b, off + i * c + j, none⟩ = cs'[j]?) ∧ DataW.trod enc Tryd.prog w base spare held n e cs' = some y ∧ Wt e y.1 := by
  rcases DataW.trod_slice ht h with ⟨h0, _⟩ | ⟨a, len, cap, elems, rest, n, hfu, rfl, hx, hb, hl, hm, hlen, hel, _, _⟩
  · exact ⟨none, 0, 0, h0, Nat.le_refl _, by decide, by simp, fun i hi => absurd hi (Nat.not_lt_zero _)⟩
  · subst hx
    simp only [Wt, DataW.weights, ht, List.mem_cons, List.mem_append, List.length_map] at hw
    refine ⟨some a, len, cap, rfl, by omega, by omega, ?_, fun i hi => ?_⟩
    · have := hw _ (.inl rfl)
      rw [hlen, Nat.add_mul] at this
      omega
    have get : ∀ i, i < len → ∃ cs' y, w.cells? base (a.add (i * c)) c = some cs' ∧ DataW.trod enc Tryd.prog w base spare held n e cs' = some y ∧ y ∈ elems := fun i hi => by
      have h1 := hel i hi
      rw [hc, List.getElem?_eq_getElem (by omega)] at h1
      obtain ⟨cs', h2, h3⟩ := Option.bind_eq_some_iff.1 h1
      exact ⟨cs', _, h2, h3, List.getElem_mem _⟩
    obtain ⟨cs0, _, h0, _, _⟩ := get 0 (by omega)
    obtain ⟨_, l0, e0⟩ := World.cells?_some h0
    have z0 := e0 0 hpos
    have p0 : 0 < cs0.length := by omega
    rw [List.getElem?_eq_getElem p0, Nat.zero_mul] at z0
    have hz : w.cell? a = some (cs0[0]'p0) := by simpa [Addr.add] using z0
    have ha := spot_of hz
    have hbl := World.block_lt_of_cell? _ _ hz
    obtain ⟨cs', y, h1, h2, hmem⟩ := get i hi
    obtain ⟨_, l1, e1⟩ := World.cells?_some h1
    refine ⟨a.block, a.off, n, cs', y, hfu, by rw [← ha], hbl, l1, fun j hj => ?_, h2, fun m hm' => hw m (.inr (.inl (wt_all (List.mem_map_of_mem hmem) hm')))⟩
    have := e1 j hj
    rw [ha, add_at, add_at] at this
    exact this
theorem pick_lt {α : Type} [Inhabited α] {n : Nat} {P : Nat → α → Prop} (h : ∀ i, i < n → ∃ a, P i a) : ∃ f : Nat → α, ∀ i, i < n → P i (f i) := by
  refine ⟨fun i => if hi : i < n then Classical.choose (h i hi) else default, fun i hi => ?_⟩
  simp only [hi, dif_pos]
  exact Classical.choose_spec (h i hi)
theorem text_w {fuel : Nat} {v : Value} {x : DataW H × List MemPlace} (h : DataW.trod enc Tryd.prog w base spare held fuel 9 [v] = some x) (hw : Wt 9 x.1) : ∃ s : ByteArray, v = .string s ∧ s.size ≤ 140737488355328 := by
  obtain ⟨s, e, xn, _⟩ := DataW.trod_string Tryd.underlying9 h
  simp only [List.cons.injEq, and_true] at e
  refine ⟨s, e, ?_⟩
  rw [xn] at hw
  have h47 := hw s.data.toList.length (by simp [DataW.weights])
  rw [Nm.size_list, Lib.toList_data]
  have := reachBytes_lt
  omega
instance : Inhabited Hd := ⟨⟨0, 0, ⟨#[]⟩, none, 0, 0, none, 0, 0, false, none, 0, 0⟩⟩
instance : Inhabited Ex := ⟨.mk 0 0 ⟨#[]⟩ [] [] false []⟩
theorem InX.le {w : World} : ∀ {n m : Nat} {h : Hd} {x : Ex}, InX w n h x → n ≤ m → InX w m h x
  | 0, _, _, _, h, _ => h.elim
  | n + 1, 0, _, _, _, h => absurd h (by omega)
  | n + 1, m + 1, h, .mk op nn s pa ps o ks, ⟨h1, h2, h3, h4, h5, h6, h7, h8⟩, hle =>
    ⟨h1, h2, h3, h4, h5, h6, ⟨h7.count, h7.max, fun i hi => by
      obtain ⟨b, off, y, e, lt, hz, hc, hx, hI⟩ := h7.at_ i hi
      exact ⟨b, off, y, e, lt, hz, hc, hx, InX.le hI (by omega)⟩⟩, ⟨h8.count, h8.max, fun i hi => by
      obtain ⟨b, off, y, e, lt, hx, hI⟩ := h8.at_ i hi
      exact ⟨b, off, y, e, lt, hx, InX.le hI (by omega)⟩⟩⟩
set_option maxRecDepth 100000 in
theorem open_paths_w {fuel : Nat} {v : Value} {x : DataW H × List MemPlace} (h : DataW.trod enc Tryd.prog w base spare held fuel 35 [v] = some x) (hw : Wt 35 x.1) : ∃ (a : Option Addr) (l c : Nat) (pa : List ByteArray), v = .slice a l c ∧ l ≤ c ∧ Nm.StrRow w a l pa := by
  obtain ⟨a, l, c, hcs, hlc, hm, hby, hel⟩ := slice_cells_w Tryd.underlying35 cells9 (by decide) h hw
  rw [bytes9] at hby
  simp only [List.cons.injEq, and_true] at hcs
  have one : ∀ i, i < l → ∃ s : ByteArray, ∃ b off, a = some ⟨b, off, none⟩ ∧ b < w.heap.size ∧ w.cell? ⟨b, off + i, none⟩ = some (.string s) ∧ s.size ≤ 140737488355328 := fun i hi => by
    obtain ⟨b, off, n, cs', y, hfu, e, hb, hl, hc, ht, hwy⟩ := hel i hi
    match cs', hl with
    | [u], _ =>
      obtain ⟨s, rfl, hz⟩ := text_w ht hwy
      exact ⟨s, b, off, e, hb, by have := hc 0 (by omega); simpa using this, hz⟩
  have : Inhabited ByteArray := ⟨⟨#[]⟩⟩
  obtain ⟨f, hf⟩ := pick_lt one
  refine ⟨a, l, c, (List.range l).map f, hcs, hlc, by simp, by unfold reachBytes at hby; omega, fun i s hs => ?_, fun h0 => ?_⟩
  · obtain ⟨hi, rfl⟩ := List.getElem?_eq_some_iff.1 hs
    have hi' : i < l := by simpa using hi
    obtain ⟨b, off, _, _, _, hz⟩ := hf i hi'
    simpa using hz
  · obtain ⟨b, off, e, hb, _⟩ := hf 0 h0
    refine ⟨b, off, e, hb, fun i s hs => ?_⟩
    obtain ⟨hi, rfl⟩ := List.getElem?_eq_some_iff.1 hs
    have hi' : i < l := by simpa using hi
    obtain ⟨b2, off2, e2, _, hc, _⟩ := hf i hi'
    rw [e] at e2
    injection e2 with e3
    injection e3 with e4 e5
    subst e4 e5
    simpa using hc
theorem hd_at {b o : Nat} {h : Hd} (hc : ∀ j, j < 7 → w.cell? ⟨b, o + j, none⟩ = (h.vals.toList)[j]?) : HdAt w b o h :=
  ⟨hc 0 (by omega), hc 1 (by omega), hc 2 (by omega), hc 3 (by omega), hc 4 (by omega), hc 5 (by omega), hc 6 (by omega)⟩
set_option maxRecDepth 100000 in
theorem open_expr_w : ∀ (fuel : Nat) (cs : List Value) (x : DataW H × List MemPlace), DataW.trod enc Tryd.prog w base spare held fuel 38 cs = some x → Wt 38 x.1 →
    ∃ (h : Hd) (e : Ex), cs = h.vals.toList ∧ InX w (fuel + 1) h e ∧ ∀ m, Cp w m h e := by
  intro fuel
  induction fuel using Nat.strongRecOn with
  | _ fuel ih =>
    intro cs x h hwx
    obtain ⟨v0, v1, v2, v3, v4, v5, v6, y0, y1, y2, y3, y4, y5, y6, n, hfu, rfl, hx, h0, h1, h2, h3, h4, h5, h6⟩ := open_agg7 Tryd.underlying38 (by kernel_rfl) cells103 h
    rw [hx] at hwx
    obtain ⟨op, e0, _, _⟩ := DataW.trod_int Tryd.underlying3 h0
    obtain ⟨nn, e1, _, _⟩ := DataW.trod_int Tryd.underlying3 h1
    obtain ⟨s, rfl, hs⟩ := text_w h2 (wt_part Tryd.underlying38 hwx (i := 2) rfl rfl)
    obtain ⟨p, pl, pc, pa, rfl, hplc, hpa⟩ := open_paths_w h3 (wt_part Tryd.underlying38 hwx (i := 3) rfl rfl)
    obtain ⟨o, e5, _⟩ := DataW.trod_bool Tryd.underlying4 h5
    simp only [List.cons.injEq, and_true] at e0 e1 e5
    subst e0 e1 e5
    obtain ⟨q, ql, qc, hq, _, hqm, hqb, hqe⟩ := slice_cells_w Tryd.underlying36 cells144 (by decide) h4 (wt_part Tryd.underlying38 hwx (i := 4) rfl rfl)
    obtain ⟨k, kl, kc, hk, _, hkm, hkb, hke⟩ := slice_cells_w Tryd.underlying22 cells103 (by decide) h6 (wt_part Tryd.underlying38 hwx (i := 6) rfl rfl)
    simp only [List.cons.injEq, and_true] at hq hk
    subst hq hk
    rw [bytes144] at hqb
    rw [bytes103] at hkb
    have kid : ∀ i, i < kl → ∃ z : HX, ∃ b off, k = some ⟨b, off, none⟩ ∧ b < w.heap.size ∧ HdAt w b (off + i * 7) z.1 ∧ InX w fuel z.1 z.2 ∧ ∀ m, Cp w m z.1 z.2 := fun i hi => by
      obtain ⟨b, off, n2, cs', y, hn, e, hb, hl, hc, ht, hwy⟩ := hke i hi
      obtain ⟨h', e', rfl, hI, hP⟩ := ih n2 (by omega) cs' y ht hwy
      exact ⟨(h', e'), b, off, e, hb, hd_at hc, InX.le hI (by omega), hP⟩
    have pair : ∀ i, i < ql → ∃ z : ByteArray × HX, ∃ b off, q = some ⟨b, off, none⟩ ∧ b < w.heap.size ∧ z.1.size ≤ 140737488355328 ∧ w.cell? ⟨b, off + i * 8, none⟩ = some (.string z.1) ∧ HdAt w b (off + i * 8 + 1) z.2.1 ∧ InX w fuel z.2.1 z.2.2 ∧ ∀ m, Cp w m z.2.1 z.2.2 := fun i hi => by
      obtain ⟨b, off, n2, cs', y, hn, e, hb, hl, hc, ht, hwy⟩ := hqe i hi
      obtain ⟨ys, n4, hn4, hy2, _, hyl, hg⟩ := DataW.trod_struct Tryd.underlying69 ht
      match cs', hl with
      | u0 :: cs1, hl =>
        match ys, hyl with
        | [z0, z1], _ =>
          have g0 : DataW.trod enc Tryd.prog w base spare held n4 9 [u0] = some z0 := by have := hg 0 _ rfl; simpa [cells9] using this
          have hl1 : cs1.length = 7 := by simpa using hl
          have g1 : DataW.trod enc Tryd.prog w base spare held n4 38 cs1 = some z1 := by
            have h7 : DataW.trod enc Tryd.prog w base spare held n4 38 (((u0 :: cs1).drop 1).take (Tryd.prog.cellsOf 38)) = [z0, z1][1]? := hg 1 _ rfl
            have e7 : ((u0 :: cs1).drop 1).take (Tryd.prog.cellsOf 38) = cs1 := by rw [cells103, List.drop_succ_cons, List.drop_zero, ← hl1, List.take_length]
            rw [e7] at h7
            simpa using h7
          rw [hy2] at hwy
          obtain ⟨nm, rfl, hz⟩ := text_w g0 (wt_part Tryd.underlying69 hwy (i := 0) rfl rfl)
          obtain ⟨h', e', rfl, hI, hP⟩ := ih n4 (by omega) cs1 z1 g1 (wt_part Tryd.underlying69 hwy (i := 1) rfl rfl)
          refine ⟨(nm, h', e'), b, off, e, hb, hz, hc 0 (by omega), hd_at fun j hj => ?_, InX.le hI (by omega), hP⟩
          have := hc (j + 1) (by omega)
          rw [List.getElem?_cons_succ] at this
          rw [← this]
          congr 2
          omega
    obtain ⟨fk, hfk⟩ := pick_lt (α := HX) kid
    have : Inhabited ByteArray := ⟨⟨#[]⟩⟩
    obtain ⟨fp, hfp⟩ := pick_lt (α := ByteArray × HX) pair
    refine ⟨⟨op, nn, s, p, pl, pc, q, ql, qc, o, k, kl, kc⟩, .mk op nn s pa ((List.range ql).map fun i => ((fp i).1, (fp i).2.2)) o ((List.range kl).map fun i => (fk i).2), rfl, ⟨rfl, rfl, rfl, rfl, hs, hpa, ⟨by simp, by show ql ≤ _; unfold reachBytes at hqb; omega, fun i hi => ?_⟩, ⟨by simp, by show kl ≤ _; unfold reachBytes at hkb; omega, fun i hi => ?_⟩⟩, fun m => ?_⟩
    · have hi' : i < ql := by simpa using hi
      obtain ⟨b, off, e1, e2, e3, e4, e5, e6, _⟩ := hfp i hi'
      exact ⟨b, off, (fp i).2.1, e1, e2, by simpa using e3, by simpa using e4, e5, by simpa using e6⟩
    · have hi' : i < kl := by simpa using hi
      obtain ⟨b, off, e1, e2, e5, e6, _⟩ := hfk i hi'
      exact ⟨b, off, (fk i).1, e1, e2, e5, by simpa using e6⟩
    · cases m with
      | zero => trivial
      | succ m =>
        refine ⟨hplc, fun i hi b off y hq hy => ?_, fun i hi b off y hq hy => ?_⟩
        · have hi' : i < ql := by simpa using hi
          obtain ⟨b2, off2, e1, e2, e3, e4, e5, e6, e7⟩ := hfp i hi'
          have e8 : (some ⟨b, off, none⟩ : Option Addr) = some ⟨b2, off2, none⟩ := hq.symm.trans e1
          injection e8 with e8
          injection e8 with e8 e9
          subst e8 e9
          obtain rfl := hd_eq hy e5
          simpa using e7 m
        · have hi' : i < kl := by simpa using hi
          obtain ⟨b2, off2, e1, e2, e5, e6, e7⟩ := hfk i hi'
          have e8 : (some ⟨b, off, none⟩ : Option Addr) = some ⟨b2, off2, none⟩ := hq.symm.trans e1
          injection e8 with e8
          injection e8 with e8 e9
          subst e8 e9
          obtain rfl := hd_eq hy e5
          simpa using e7 m
/-- A list of expressions that came in. -/
theorem InKs.le {w : World} {n m : Nat} {a : Option Addr} {l : Nat} {ks : List Ex} (h : InKs (InX w n) w a l ks) (hle : n ≤ m) : InKs (InX w m) w a l ks :=
  ⟨h.count, h.max, fun i hi => by
    obtain ⟨b, off, y, e, lt, hx, hI⟩ := h.at_ i hi
    exact ⟨b, off, y, e, lt, hx, InX.le hI hle⟩⟩
set_option maxRecDepth 100000 in
theorem open_exprs_w {fuel : Nat} {v : Value} {x : DataW H × List MemPlace} (h : DataW.trod enc Tryd.prog w base spare held fuel 22 [v] = some x) (hw : Wt 22 x.1) : ∃ (a : Option Addr) (l c : Nat) (ks : List Ex), v = .slice a l c ∧ InKs (InX w fuel) w a l ks ∧ ∀ m, Ky.CKs w m a ks := by
  obtain ⟨k, kl, kc, hk, _, hkm, hkb, hke⟩ := slice_cells_w Tryd.underlying22 cells103 (by decide) h hw
  rw [bytes103] at hkb
  simp only [List.cons.injEq, and_true] at hk
  subst hk
  have kid : ∀ i, i < kl → ∃ z : HX, ∃ b off, k = some ⟨b, off, none⟩ ∧ b < w.heap.size ∧ HdAt w b (off + i * 7) z.1 ∧ InX w fuel z.1 z.2 ∧ ∀ m, Cp w m z.1 z.2 := fun i hi => by
    obtain ⟨b, off, n2, cs', y, hn, e, hb, hl, hc, ht, hwy⟩ := hke i hi
    obtain ⟨h', e', rfl, hI, hP⟩ := open_expr_w n2 cs' y ht hwy
    exact ⟨(h', e'), b, off, e, hb, hd_at hc, InX.le hI (by omega), hP⟩
  obtain ⟨fk, hfk⟩ := pick_lt (α := HX) kid
  refine ⟨k, kl, kc, (List.range kl).map fun i => (fk i).2, rfl, ⟨by simp, by show kl ≤ _; unfold reachBytes at hkb; omega, fun i hi => ?_⟩, fun m i hi b off y hq hy => ?_⟩
  · have hi' : i < kl := by simpa using hi
    obtain ⟨b, off, e1, e2, e5, e6, _⟩ := hfk i hi'
    exact ⟨b, off, (fk i).1, e1, e2, e5, by simpa using e6⟩
  · have hi' : i < kl := by simpa using hi
    obtain ⟨b2, off2, e1, e2, e5, e6, e7⟩ := hfk i hi'
    have e8 : (some ⟨b, off, none⟩ : Option Addr) = some ⟨b2, off2, none⟩ := hq.symm.trans e1
    injection e8 with e8
    injection e8 with e8 e9
    subst e8 e9
    obtain rfl := hd_eq hy e5
    simpa using e7 m
theorem cells22 : Tryd.prog.cellsOf 22 = 1 := by kernel_rfl
theorem cells4 : Tryd.prog.cellsOf 4 = 1 := by kernel_rfl
set_option maxRecDepth 100000 in
/-- A node that came in. -/
theorem open_node {r : Reach} {b0 : Nat} {v : Value} {d : DataW H} {p : List MemPlace} (hv : Value.okWide Tryd.prog w r b0 24 v) (h : DataW.Trod enc Tryd.prog w base spare held 24 v d p) (hw : Wt 24 d) :
    ∃ (nm : ByteArray) (rs : Bool) (a : Option Addr) (dl dc n : Nat) (ds : List Ex), v = .agg #[.string nm, .bool rs, .slice a dl dc] ∧ nm.size ≤ 140737488355328 ∧ InKs (InX w n) w a dl ds ∧ Ky.CKs w n a ds := by
  obtain ⟨cs, rfl, hsz⟩ := okWide_struct Tryd.underlying24 hv
  obtain ⟨fuel, hf⟩ := h
  obtain ⟨ys, n4, hn4, hy2, hcl, hyl, hg⟩ := DataW.trod_struct Tryd.underlying24 hf
  obtain ⟨l⟩ := cs
  match l, hcl with
  | [u0, u1, u2], _ =>
    match ys, hyl with
    | [z0, z1, z2], _ =>
      have g0 : DataW.trod enc Tryd.prog w base spare held n4 9 [u0] = some z0 := by have := hg 0 _ rfl; simpa [Value.cells, cells9] using this
      have g1 : DataW.trod enc Tryd.prog w base spare held n4 4 [u1] = some z1 := by have := hg 1 _ rfl; simpa [Value.cells, cells9, cells4] using this
      have g2 : DataW.trod enc Tryd.prog w base spare held n4 22 [u2] = some z2 := by have := hg 2 _ rfl; simpa [Value.cells, cells9, cells4, cells22] using this
      obtain rfl := (Prod.mk.inj hy2).1
      obtain ⟨nm, rfl, hz⟩ := text_w g0 (wt_part Tryd.underlying24 hw (i := 0) rfl rfl)
      obtain ⟨o, e1, _⟩ := DataW.trod_bool Tryd.underlying4 g1
      simp only [List.cons.injEq, and_true] at e1
      subst e1
      obtain ⟨a, dl, dc, ks, rfl, hks, hcp⟩ := open_exprs_w g2 (wt_part Tryd.underlying24 hw (i := 2) rfl rfl)
      exact ⟨nm, o, a, dl, dc, n4, ks, rfl, hz, hks, hcp _⟩
end
end Go.Proofs.YtlpilbghblbpbaaDoor.Fm
