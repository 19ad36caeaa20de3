/- WALK of the reference's Same of expressions. -/
import Derived.Test.YtngnegnofmpgkaaTg
import Derived.Deep.DeepCutAuto
import Derived.Deep.CutBlock
namespace Go.Proofs.Ytngnegnofmpgkaa
open Go.RowKit
set_option maxRecDepth 100000 in
set_option maxHeartbeats 8000000 in
theorem rsame_body (w0 w : World) (I I' : Hd → Ex → Prop) (ask : ∀ (h h' : Hd) (x y : Ex) (W : World), I h x → I' h' y → Below w0.heap.size w0 W → Calls Try.prog 45 #[h.agg, h'.agg] W (BoolP (eqB x y) W))
    (op n : Int) (s : ByteArray) (p : Option Addr) (pl pc : Nat) (q : Option Addr) (ql qc : Nat) (o : Bool) (k : Option Addr) (kl kc : Nat) (op2 n2 : Int) (s2 : ByteArray) (p2 : Option Addr) (pl2 pc2 : Nat) (q2 : Option Addr) (ql2 qc2 : Nat) (o2 : Bool) (k2 : Option Addr) (kl2 kc2 : Nat)
    (pa pa2 : List ByteArray) (ps ps2 : List (ByteArray × Ex)) (ks ks2 : List Ex) (la : ∀ W, Below w0.heap.size w0 W → Calls Try.prog 8 #[.slice p pl pc, .slice p2 pl2 pc2] W (BoolP (eqB pa pa2) W))
    (hp : InPs I w0 q ql ps) (hp2 : InPs I' w0 q2 ql2 ps2) (hk : InKs I w0 k kl ks) (hk2 : InKs I' w0 k2 kl2 ks2) (hb0 : Below w0.heap.size w0 w) :
    Calls Try.prog 45 #[.agg #[.int .i64 op, .int .i64 n, .string s, .slice p pl pc, .slice q ql qc, .bool o, .slice k kl kc], .agg #[.int .i64 op2, .int .i64 n2, .string s2, .slice p2 pl2 pc2, .slice q2 ql2 qc2, .bool o2, .slice k2 kl2 kc2]] w
      (BoolP (eqB (Ex.mk op n s pa ps o ks) (Ex.mk op2 n2 s2 pa2 ps2 o2 ks2)) w) := by
  have m1 := hp.max
  have m2 := hp2.max
  have m3 := hk.max
  have m4 := hk2.max
  obtain rfl := hp.count
  obtain rfl := hp2.count
  obtain rfl := hk.count
  obtain rfl := hk2.count
  have HB1 : Hid (Below w.heap.size w ((w.alloc (.cells #[.int .i64 op, .int .i64 n, .string s, .slice p pl pc, .slice q ps.length qc, .bool o, .slice k ks.length kc] 38)).alloc (.cells #[.int .i64 op2, .int .i64 n2, .string s2, .slice p2 pl2 pc2, .slice q2 ps2.length qc2, .bool o2, .slice k2 ks2.length kc2] 38))) := below_alloc (below_alloc (Below.refl _ _) _) _
  have HP1 := Lib.hid hp.at_
  have HP2 := Lib.hid hp2.at_
  have HK1 := Lib.hid hk.at_
  have HK2 := Lib.hid hk2.at_
  have HA := Lib.hid ask
  have HB0 := Lib.hid hb0
  have LA := fun W hW => Lib.hid (la W (below_step hb0 hW))
  clear hp hp2 hk hk2 ask hb0 la
  by_cases h1 : op = op2
  · subst h1
    by_cases h2 : n = n2
    · subst h2
      cases he : (s.toList == s2.toList)
      · have HE := Lib.hid (eqB_no (fun e : Ex.mk op n s pa ps o ks = Ex.mk op n s2 pa2 ps2 o2 ks2 => text_ne he (mk_inj.1 e).2.2.1))
        go_enter Try.func45, Try.ntmps45
        go_wp2_with fail
        go_ret
        exact ⟨ret_bool HE.out.symm, HB1.out⟩
      · obtain rfl := text_eq he
        clear he
        by_cases h3 : o = o2
        · subst h3
          obtain ⟨r1, hr1⟩ : ∃ r, eqB pa pa2 = r := ⟨_, rfl⟩
          rw [hr1] at LA
          have HR1 := Lib.hid hr1
          clear hr1
          cases r1
          · have HE := Lib.hid (eqB_no (fun e : Ex.mk op n s pa ps o ks = Ex.mk op n s pa2 ps2 o ks2 => not_eqB HR1.out (mk_inj.1 e).2.2.2.1))
            cases o
            all_goals
              go_enter Try.func45, Try.ntmps45
              go_wp2_with (go_at_call 8; refine (LA _ HB1.out).out.mono ?_; rintro e w4 ⟨rfl, hB4⟩; have HB4 := Lib.hid hB4; clear hB4)
              go_ret
              exact ⟨ret_bool HE.out.symm, below_step HB1.out HB4.out⟩
          · have HPA := Lib.hid (of_eqB HR1.out)
            by_cases l1 : ps.length = ps2.length
            · by_cases l2 : ks.length = ks2.length
              · have g1 : ((ps.length : Int) != (ps2.length : Int)) = false := by rw [l1]; simp
                have g2 : ((ks.length : Int) != (ks2.length : Int)) = false := by rw [l2]; simp
                have g3 : (o != o) = false := by simp
                have L1 := Lib.hid l1
                have L2 := Lib.hid l2
                clear l1 l2
                have hE2 : BoxH ((w.alloc (.cells #[.int .i64 op, .int .i64 n, .string s, .slice p pl pc, .slice q ps.length qc, .bool o, .slice k ks.length kc] 38)).alloc (.cells #[.int .i64 op, .int .i64 n, .string s, .slice p2 pl2 pc2, .slice q2 ps2.length qc2, .bool o, .slice k2 ks2.length kc2] 38)) w.heap.size ⟨op, n, s, p, pl, pc, q, ps.length, qc, o, k, ks.length, kc⟩ ∧ BoxH ((w.alloc (.cells #[.int .i64 op, .int .i64 n, .string s, .slice p pl pc, .slice q ps.length qc, .bool o, .slice k ks.length kc] 38)).alloc (.cells #[.int .i64 op, .int .i64 n, .string s, .slice p2 pl2 pc2, .slice q2 ps2.length qc2, .bool o, .slice k2 ks2.length kc2] 38)) (w.heap.size + 1) ⟨op, n, s, p2, pl2, pc2, q2, ps2.length, qc2, o, k2, ks2.length, kc2⟩ := ⟨(Below.heap_alloc _ _ _ (by simp)).trans (World.alloc_heap_new w _), heap_new1 w _ _⟩
                have HE2 := Lib.hid hE2
                clear hE2
                go_enter Try.func45, Try.ntmps45
                go_wp2_with (go_at_call 8; refine (LA _ HB1.out).out.mono ?_; rintro e w4 ⟨rfl, hB4⟩; obtain ⟨hc, hf⟩ := bcell hB4; have HB4 := Lib.hid hB4; clear hB4)
                clear hc hf LA g1 g2 g3
                have HX := Lib.hid (below_step HB1.out HB4.out)
                have HX1 := Lib.hid (show BoxH w4 w.heap.size ⟨op, n, s, p, pl, pc, q, ps.length, qc, o, k, ks.length, kc⟩ from (HB4.out.block _ HE2.out.1.lt).trans HE2.out.1)
                have HX2 := Lib.hid (show BoxH w4 (w.heap.size + 1) ⟨op, n, s, p2, pl2, pc2, q2, ps2.length, qc2, o, k2, ks2.length, kc2⟩ from (HB4.out.block _ HE2.out.2.lt).trans HE2.out.2)
                clear HB4 HE2 HB1
                go_loopw [5] (fun i wr => ∃ j : Nat, j ≤ ps.length ∧ i = .int .i64 j ∧ Hid (ps.take j = ps2.take j) ∧ Hid (Below w4.heap.size w4 wr)) (fun i _ => ps.length - (intOf i).toNat)
                case atStart => exact ⟨0, Nat.zero_le _, rfl, rfl, Below.refl _ _⟩
                case round =>
                  obtain ⟨j, hj, rfl, hT, hB⟩ := hrel
                  rename World => wr
                  have hbx1 : BoxH wr w.heap.size ⟨op, n, s, p, pl, pc, q, ps.length, qc, o, k, ks.length, kc⟩ := (hB.out.block _ HX1.out.lt).trans HX1.out
                  have hbx2 : BoxH wr (w.heap.size + 1) ⟨op, n, s, p2, pl2, pc2, q2, ps2.length, qc2, o, k2, ks2.length, kc2⟩ := (hB.out.block _ HX2.out.lt).trans HX2.out
                  have v1 := hbx1.cells.c4
                  have v2 := hbx2.cells.c4
                  simp only [Nat.zero_add] at v1 v2
                  have hbw := below_step HB0.out (below_step HX.out hB.out)
                  have LZ1 := Lib.hid hbx1.lt
                  have LZ2 := Lib.hid hbx2.lt
                  have HBX1 := Lib.hid hbx1
                  have HBX2 := Lib.hid hbx2
                  have HBW := Lib.hid hbw
                  clear hbx1 hbx2 hbw
                  by_cases hlt : j < ps.length
                  · have hki : (j : Int) < (ps.length : Int) := by omega
                    have hki2 : (j : Int) < (ps2.length : Int) := by have := L1.out; omega
                    have hk0 : (0 : Int) ≤ (j : Int) := by omega
                    have hlt2 := Lib.hid (show j < ps2.length by rw [← L1.out]; exact hlt)
                    obtain ⟨b1, off1, x, rfl, lt1, -, hn1, hx1, hI1⟩ := HP1.out j hlt
                    obtain ⟨b2, off2, y, rfl, lt2, -, hn2, hx2, hI2⟩ := HP2.out j hlt2.out
                    have KC := fun (W : World) (hW : Below wr.heap.size wr W) => Lib.hid (HA.out x y ps[j].2 (ps2[j]'hlt2.out).2 W hI1 hI2 (below_step HBW.out hW))
                    obtain ⟨r, hr⟩ : ∃ r, eqB ps[j].2 (ps2[j]'hlt2.out).2 = r := ⟨_, rfl⟩
                    rw [hr] at KC
                    have HR := Lib.hid hr
                    have q1 := HdAt.below hx1 HBW.out lt1
                    have q2 := HdAt.below hx2 HBW.out lt2
                    have t1 := (HBW.out.cell (p := ⟨b1, off1 + j * 8, none⟩) lt1).trans hn1
                    have t2 := (HBW.out.cell (p := ⟨b2, off2 + j * 8, none⟩) lt2).trans hn2
                    have LT1 := Lib.hid (Nat.lt_of_lt_of_le lt1 HBW.out.size)
                    have LT2 := Lib.hid (Nat.lt_of_lt_of_le lt2 HBW.out.size)
                    obtain ⟨nm, hnm⟩ : ∃ nm, ps[j].1 = nm := ⟨_, rfl⟩
                    obtain ⟨nm2, hnm2⟩ : ∃ nm, (ps2[j]'hlt2.out).1 = nm := ⟨_, rfl⟩
                    rw [hnm] at t1
                    rw [hnm2] at t2
                    have HNM := Lib.hid hnm
                    have HNM2 := Lib.hid hnm2
                    clear hx1 hx2 hI1 hI2 hn1 hn2 lt1 lt2 hr hnm hnm2
                    have KC2 : Hid (∀ W, Below wr.heap.size wr W → Calls Try.prog 45 #[x.agg, y.agg] W fun e w' => e = .returned (.bool r) ∧ Below wr.heap.size wr w') := fun W hW => (KC W hW).out.mono fun _ _ ⟨a, b⟩ => ⟨a, below_step hW b⟩
                    obtain ⟨xop, xn, xs, xp, xpl, xpc, xq, xql, xqc, xo, xk, xkl, xkc⟩ := x
                    obtain ⟨yop, yn, ys, yp, ypl, ypc, yq, yql, yqc, yo, yk, ykl, ykc⟩ := y
                    have VX : Hid (∀ W, Below wr.heap.size wr W → (W.cell? ⟨w.heap.size, 4, none⟩ = some (.slice (some ⟨b1, off1, none⟩) ps.length qc) ∧ W.cell? ⟨w.heap.size + 1, 4, none⟩ = some (.slice (some ⟨b2, off2, none⟩) ps2.length qc2)) ∧ (W.cell? ⟨b1, off1 + j * 8, none⟩ = some (.string nm) ∧ W.cell? ⟨b2, off2 + j * 8, none⟩ = some (.string nm2)) ∧ HdAt W b1 (off1 + j * 8 + 1) ⟨xop, xn, xs, xp, xpl, xpc, xq, xql, xqc, xo, xk, xkl, xkc⟩ ∧ HdAt W b2 (off2 + j * 8 + 1) ⟨yop, yn, ys, yp, ypl, ypc, yq, yql, yqc, yo, yk, ykl, ykc⟩) := fun W hW =>
                      ⟨⟨(hW.cell (p := ⟨w.heap.size, 4, none⟩) LZ1.out).trans v1, (hW.cell (p := ⟨w.heap.size + 1, 4, none⟩) LZ2.out).trans v2⟩, ⟨(hW.cell (p := ⟨b1, off1 + j * 8, none⟩) LT1.out).trans t1, (hW.cell (p := ⟨b2, off2 + j * 8, none⟩) LT2.out).trans t2⟩, q1.below hW LT1.out, q2.below hW LT2.out⟩
                    unfold Hd.agg at KC2
                    dsimp only at KC2
                    clear KC q1 q2 t1 t2
                    cases hnn : (nm.toList == nm2.toList)
                    · go_upto_region 6 with fail
                      clear v1 v2
                      refine region_class (C := fun W => Below wr.heap.size wr W) (by kernel_rfl) (by kernel_rfl) ((Below.refl _ _).drew) ?_
                      repeat (first | go_big_quiet_skip | (go_big_quiet_want; go_big_quiet_op; first | go_big_quiet_on | (apply Exists.intro; refine ⟨fun W hW => ?_, ?_⟩; (first | rfl | exact (KC2.out W hW) | (obtain ⟨⟨a1, a2⟩, ⟨a3, a4⟩, ⟨c0, c1, c2, c3, c4, c5, c6⟩, ⟨d0, d1, d2, d3, d4, d5, d6⟩⟩ := VX.out W hW; dsimp only at c0 c1 c2 c3 c4 c5 c6 d0 d1 d2 d3 d4 d5 d6; go_simp; first | done | rfl | exact ⟨rfl, rfl⟩)); go_big_quiet_on)))
                      refine wpQuiet_nil ?_
                      intro w9 hW9
                      go_wp2_with fail
                      go_ret
                      refine ⟨ret_bool (eqB_no (fun e => text_ne hnn ?_)).symm, below_step HX.out (below_step hB.out hW9)⟩
                      have e5 := (mk_inj.1 e).2.2.2.2.1
                      rw [← HNM.out, ← HNM2.out]
                      simp only [e5]
                    · cases r
                      · go_upto_region 6 with fail
                        clear v1 v2
                        refine region_class (C := fun W => Below wr.heap.size wr W) (by kernel_rfl) (by kernel_rfl) ((Below.refl _ _).drew) ?_
                        repeat (first | go_big_quiet_skip | (go_big_quiet_want; go_big_quiet_op; first | go_big_quiet_on | (apply Exists.intro; refine ⟨fun W hW => ?_, ?_⟩; (first | rfl | exact (KC2.out W hW) | (obtain ⟨⟨a1, a2⟩, ⟨a3, a4⟩, ⟨c0, c1, c2, c3, c4, c5, c6⟩, ⟨d0, d1, d2, d3, d4, d5, d6⟩⟩ := VX.out W hW; dsimp only at c0 c1 c2 c3 c4 c5 c6 d0 d1 d2 d3 d4 d5 d6; go_simp; first | done | rfl | exact ⟨rfl, rfl⟩)); go_big_quiet_on)))
                        refine wpQuiet_nil ?_
                        intro w9 hW9
                        go_wp2_with fail
                        go_ret
                        refine ⟨ret_bool (eqB_no (fun e => not_eqB HR.out ?_)).symm, below_step HX.out (below_step hB.out hW9)⟩
                        have e5 := (mk_inj.1 e).2.2.2.2.1
                        simp only [e5]
                      · go_upto_region 6 with fail
                        clear v1 v2
                        refine region_class (C := fun W => Below wr.heap.size wr W) (by kernel_rfl) (by kernel_rfl) ((Below.refl _ _).drew) ?_
                        repeat (first | go_big_quiet_skip | (go_big_quiet_want; go_big_quiet_op; first | go_big_quiet_on | (apply Exists.intro; refine ⟨fun W hW => ?_, ?_⟩; (first | rfl | exact (KC2.out W hW) | (obtain ⟨⟨a1, a2⟩, ⟨a3, a4⟩, ⟨c0, c1, c2, c3, c4, c5, c6⟩, ⟨d0, d1, d2, d3, d4, d5, d6⟩⟩ := VX.out W hW; dsimp only at c0 c1 c2 c3 c4 c5 c6 d0 d1 d2 d3 d4 d5 d6; go_simp; first | done | rfl | exact ⟨rfl, rfl⟩)); go_big_quiet_on)))
                        refine wpQuiet_nil ?_
                        intro w9 hW9
                        have HN := Lib.hid (text_eq hnn)
                        clear hnn
                        go_wp2_with fail
                        go_roundw
                        case rel => exact ⟨j + 1, by omega, by go_num, take_next hlt hlt2.out hT.out (Prod.ext (by rw [HNM.out, HNM2.out, HN.out]) (of_eqB HR.out)), below_step hB.out hW9⟩
                        case measure => simp [intOf]; omega
                  · obtain rfl : j = ps.length := by omega
                    have HPS := Lib.hid (take_all L1.out hT.out)
                    have HXB := Lib.hid (show Below w4.heap.size w4 wr from hB.out)
                    clear hT hB
                    go_wp2_with fail
                    clear v1 v2 HBX1 HBX2 HBW LZ1 LZ2
                    go_loopw [6] (fun i wr => ∃ j : Nat, j ≤ ks.length ∧ i = .int .i64 j ∧ Hid (ks.take j = ks2.take j) ∧ Hid (Below w4.heap.size w4 wr)) (fun i _ => ks.length - (intOf i).toNat)
                    case atStart => exact ⟨0, Nat.zero_le _, rfl, rfl, HXB.out⟩
                    case round =>
                      obtain ⟨j, hj, rfl, hT, hB⟩ := hrel
                      rename World => wr
                      have hbx1 : BoxH wr w.heap.size ⟨op, n, s, p, pl, pc, q, ps.length, qc, o, k, ks.length, kc⟩ := (hB.out.block _ HX1.out.lt).trans HX1.out
                      have hbx2 : BoxH wr (w.heap.size + 1) ⟨op, n, s, p2, pl2, pc2, q2, ps2.length, qc2, o, k2, ks2.length, kc2⟩ := (hB.out.block _ HX2.out.lt).trans HX2.out
                      have v1 := hbx1.cells.c6
                      have v2 := hbx2.cells.c6
                      simp only [Nat.zero_add] at v1 v2
                      have hbw := below_step HB0.out (below_step HX.out hB.out)
                      have LZ1 := Lib.hid hbx1.lt
                      have LZ2 := Lib.hid hbx2.lt
                      have HBW := Lib.hid hbw
                      clear hbx1 hbx2 hbw
                      by_cases hlt : j < ks.length
                      · have hki : (j : Int) < (ks.length : Int) := by omega
                        have hki2 : (j : Int) < (ks2.length : Int) := by have := L2.out; omega
                        have hk0 : (0 : Int) ≤ (j : Int) := by omega
                        have hlt2 := Lib.hid (show j < ks2.length by rw [← L2.out]; exact hlt)
                        obtain ⟨b1, off1, x, rfl, lt1, hx1, hI1⟩ := HK1.out j hlt
                        obtain ⟨b2, off2, y, rfl, lt2, hx2, hI2⟩ := HK2.out j hlt2.out
                        have KC := fun (W : World) (hW : Below wr.heap.size wr W) => Lib.hid (HA.out x y ks[j] (ks2[j]'hlt2.out) W hI1 hI2 (below_step HBW.out hW))
                        obtain ⟨r, hr⟩ : ∃ r, eqB ks[j] (ks2[j]'hlt2.out) = r := ⟨_, rfl⟩
                        rw [hr] at KC
                        have HR := Lib.hid hr
                        have q1 := HdAt.below hx1 HBW.out lt1
                        have q2 := HdAt.below hx2 HBW.out lt2
                        have LT1 := Lib.hid (Nat.lt_of_lt_of_le lt1 HBW.out.size)
                        have LT2 := Lib.hid (Nat.lt_of_lt_of_le lt2 HBW.out.size)
                        clear hx1 hx2 hI1 hI2 lt1 lt2 hr
                        have KC2 : Hid (∀ W, Below wr.heap.size wr W → Calls Try.prog 45 #[x.agg, y.agg] W fun e w' => e = .returned (.bool r) ∧ Below wr.heap.size wr w') := fun W hW => (KC W hW).out.mono fun _ _ ⟨a, b⟩ => ⟨a, below_step hW b⟩
                        obtain ⟨xop, xn, xs, xp, xpl, xpc, xq, xql, xqc, xo, xk, xkl, xkc⟩ := x
                        obtain ⟨yop, yn, ys, yp, ypl, ypc, yq, yql, yqc, yo, yk, ykl, ykc⟩ := y
                        have VX : Hid (∀ W, Below wr.heap.size wr W → (W.cell? ⟨w.heap.size, 6, none⟩ = some (.slice (some ⟨b1, off1, none⟩) ks.length kc) ∧ W.cell? ⟨w.heap.size + 1, 6, none⟩ = some (.slice (some ⟨b2, off2, none⟩) ks2.length kc2)) ∧ (True ∧ True) ∧ HdAt W b1 (off1 + j * 7) ⟨xop, xn, xs, xp, xpl, xpc, xq, xql, xqc, xo, xk, xkl, xkc⟩ ∧ HdAt W b2 (off2 + j * 7) ⟨yop, yn, ys, yp, ypl, ypc, yq, yql, yqc, yo, yk, ykl, ykc⟩) := fun W hW =>
                          ⟨⟨(hW.cell (p := ⟨w.heap.size, 6, none⟩) LZ1.out).trans v1, (hW.cell (p := ⟨w.heap.size + 1, 6, none⟩) LZ2.out).trans v2⟩, ⟨trivial, trivial⟩, q1.below hW LT1.out, q2.below hW LT2.out⟩
                        unfold Hd.agg at KC2
                        dsimp only at KC2
                        clear KC q1 q2
                        cases r
                        · go_upto_region 11 with fail
                          clear v1 v2
                          refine region_class (C := fun W => Below wr.heap.size wr W) (by kernel_rfl) (by kernel_rfl) ((Below.refl _ _).drew) ?_
                          repeat (first | go_big_quiet_skip | (go_big_quiet_want; go_big_quiet_op; first | go_big_quiet_on | (apply Exists.intro; refine ⟨fun W hW => ?_, ?_⟩; (first | rfl | exact (KC2.out W hW) | (obtain ⟨⟨a1, a2⟩, ⟨a3, a4⟩, ⟨c0, c1, c2, c3, c4, c5, c6⟩, ⟨d0, d1, d2, d3, d4, d5, d6⟩⟩ := VX.out W hW; dsimp only at c0 c1 c2 c3 c4 c5 c6 d0 d1 d2 d3 d4 d5 d6; go_simp; first | done | rfl | exact ⟨rfl, rfl⟩)); go_big_quiet_on)))
                          refine wpQuiet_nil ?_
                          intro w9 hW9
                          go_wp2_with fail
                          go_ret
                          refine ⟨ret_bool (eqB_no (fun e => not_eqB HR.out ?_)).symm, below_step HX.out (below_step hB.out hW9)⟩
                          have e5 := (mk_inj.1 e).2.2.2.2.2.2
                          simp only [e5]
                        · go_upto_region 11 with fail
                          clear v1 v2
                          refine region_class (C := fun W => Below wr.heap.size wr W) (by kernel_rfl) (by kernel_rfl) ((Below.refl _ _).drew) ?_
                          repeat (first | go_big_quiet_skip | (go_big_quiet_want; go_big_quiet_op; first | go_big_quiet_on | (apply Exists.intro; refine ⟨fun W hW => ?_, ?_⟩; (first | rfl | exact (KC2.out W hW) | (obtain ⟨⟨a1, a2⟩, ⟨a3, a4⟩, ⟨c0, c1, c2, c3, c4, c5, c6⟩, ⟨d0, d1, d2, d3, d4, d5, d6⟩⟩ := VX.out W hW; dsimp only at c0 c1 c2 c3 c4 c5 c6 d0 d1 d2 d3 d4 d5 d6; go_simp; first | done | rfl | exact ⟨rfl, rfl⟩)); go_big_quiet_on)))
                          refine wpQuiet_nil ?_
                          intro w9 hW9
                          go_wp2_with fail
                          go_roundw
                          case rel => exact ⟨j + 1, by omega, by go_num, take_next hlt hlt2.out hT.out (of_eqB HR.out), below_step hB.out hW9⟩
                          case measure => simp [intOf]; omega
                      · obtain rfl : j = ks.length := by omega
                        have HE := Lib.hid (eqB_yes (mk_inj.2 ⟨rfl, rfl, rfl, HPA.out, HPS.out, rfl, take_all L2.out hT.out⟩ : Ex.mk op n s pa ps o ks = Ex.mk op n s pa2 ps2 o ks2))
                        clear hT
                        go_wp2_with fail
                        go_ret
                        exact ⟨ret_bool HE.out.symm, below_step HX.out hB.out⟩
              · have HE := Lib.hid (eqB_no (fun e : Ex.mk op n s pa ps o ks = Ex.mk op n s pa2 ps2 o ks2 => l2 (congrArg List.length (mk_inj.1 e).2.2.2.2.2.2)))
                have g1 : ((ps.length : Int) != (ps2.length : Int)) = false := by rw [l1]; simp
                have g2 : ((ks.length : Int) != (ks2.length : Int)) = true := by simpa using (show ¬ (ks.length : Int) = ks2.length by omega)
                clear l2 l1
                cases o
                all_goals
                  go_enter Try.func45, Try.ntmps45
                  go_wp2_with (go_at_call 8; refine (LA _ HB1.out).out.mono ?_; rintro e w4 ⟨rfl, hB4⟩; obtain ⟨hc, hf⟩ := bcell hB4; have HB4 := Lib.hid hB4; clear hB4)
                  go_ret
                  exact ⟨ret_bool HE.out.symm, below_step HB1.out HB4.out⟩
            · have HE := Lib.hid (eqB_no (fun e : Ex.mk op n s pa ps o ks = Ex.mk op n s pa2 ps2 o ks2 => l1 (congrArg List.length (mk_inj.1 e).2.2.2.2.1)))
              have g1 : ((ps.length : Int) != (ps2.length : Int)) = true := by simpa using (show ¬ (ps.length : Int) = ps2.length by omega)
              clear l1
              cases o
              all_goals
                go_enter Try.func45, Try.ntmps45
                go_wp2_with (go_at_call 8; refine (LA _ HB1.out).out.mono ?_; rintro e w4 ⟨rfl, hB4⟩; obtain ⟨hc, hf⟩ := bcell hB4; have HB4 := Lib.hid hB4; clear hB4)
                go_ret
                exact ⟨ret_bool HE.out.symm, below_step HB1.out HB4.out⟩
        · have HE := Lib.hid (eqB_no (fun e : Ex.mk op n s pa ps o ks = Ex.mk op n s pa2 ps2 o2 ks2 => h3 (mk_inj.1 e).2.2.2.2.2.1))
          have e3 : (o == o2) = false := by simpa using h3
          have e4 : (o != o2) = true := by simpa using h3
          clear h3
          go_enter Try.func45, Try.ntmps45
          go_wp2_with fail
          go_ret
          exact ⟨ret_bool HE.out.symm, HB1.out⟩
    · have HE := Lib.hid (eqB_no (fun e : Ex.mk op n s pa ps o ks = Ex.mk op n2 s2 pa2 ps2 o2 ks2 => h2 (mk_inj.1 e).2.1))
      have e2 : (n != n2) = true := by simpa using h2
      clear h2
      go_enter Try.func45, Try.ntmps45
      go_wp2_with fail
      go_ret
      exact ⟨ret_bool HE.out.symm, HB1.out⟩
  · have HE := Lib.hid (eqB_no (fun e : Ex.mk op n s pa ps o ks = Ex.mk op2 n2 s2 pa2 ps2 o2 ks2 => h1 (mk_inj.1 e).1))
    have e1 : (op != op2) = true := by simpa using h1
    clear h1
    go_enter Try.func45, Try.ntmps45
    go_wp2_with fail
    go_ret
    exact ⟨ret_bool HE.out.symm, HB1.out⟩
theorem rsame_any (w0 : World) : ∀ (n m : Nat) (h h' : Hd) (x y : Ex) (w : World), InX w0 n h x → InX w0 m h' y → Below w0.heap.size w0 w → Calls Try.prog 45 #[h.agg, h'.agg] w (BoolP (eqB x y) w)
  | 0, _, _, _, _, _, _, h, _, _ => h.elim
  | _ + 1, 0, _, _, _, _, _, _, h, _ => h.elim
  | n + 1, m + 1, ⟨op, nn, s, p, pl, pc, q, ql, qc, o, k, kl, kc⟩, ⟨op2, nn2, s2, p2, pl2, pc2, q2, ql2, qc2, o2, k2, kl2, kc2⟩, .mk _ _ _ pa ps _ ks, .mk _ _ _ pa2 ps2 _ ks2, w, ⟨h1, h2, h3, h4, _, h5, h6, h7⟩, ⟨g1, g2, g3, g4, _, g5, g6, g7⟩, hb => by
    dsimp only at h1 h2 h3 h4 g1 g2 g3 g4
    subst h1 h2 h3 h4 g1 g2 g3 g4
    exact rsame_body w0 w (InX w0 n) (InX w0 m) (fun a b x y W ha hb hW => rsame_any w0 n m a b x y W ha hb hW) _ _ _ _ _ _ _ _ _ _ _ _ _ _ _ _ _ _ _ _ _ _ _ _ _ _ pa pa2 ps ps2 ks ks2
      (fun W hW => rsame_eq _ _ _ _ _ _ _ _ W (h5.below hW) (g5.below hW)) h6 g6 h7 g7 hb
end Go.Proofs.Ytngnegnofmpgkaa
