/- WALK of the law's spoil. -/
import Derived.Test.YtngikbimlhoigaaDoorXa
import Derived.Test.YtngikbimlhoigaaDoorTd
namespace Go.Proofs.YtngikbimlhoigaaDoor
open Go.RowKit
/-- What spoil leaves behind. -/
def SpoilP (B : Nat) (w : World) (e : Ending) (w' : World) : Prop := (∃ v, e = .returned v) ∧ Kin B w w'
set_option maxRecDepth 100000 in
set_option maxHeartbeats 8000000 in
theorem spoil_step (n : Nat) (ih : ∀ (B : Nat) (W : World) (h : Hd) (d : Int), B ≤ W.heap.size → ShX W B n h → 0 ≤ d → d ≤ 30 → Calls Tryd.prog 24 #[h.agg, .int .i64 d] W (SpoilP B W))
    (B : Nat) (w : World) (h : Hd) (d : Int) (hBw : B ≤ w.heap.size) (hs : ShX w B (n + 1) h) (d0 : 0 ≤ d) (d1 : d ≤ 30) : Calls Tryd.prog 24 #[h.agg, .int .i64 d] w (SpoilP B w) := by
  obtain ⟨op, nn, s, p, pl, pc, q, ql, qc, o, k, kl, kc⟩ := h
  have IH := Lib.hid ih
  clear ih
  obtain ⟨W1, hW1⟩ : ∃ W1, w.alloc (.cells #[.int .i64 op, .int .i64 nn, .string s, .slice p pl pc, .slice q ql qc, .bool o, .slice k kl kc] 26) = W1 := ⟨_, rfl⟩
  have k0 : Kin B w W1 := Kin.of_below hBw (by rw [← hW1]; exact (Below.refl _ w).alloc (Nat.le_refl _) _)
  have hbx : BoxH W1 w.heap.size ⟨op, nn, s, p, pl, pc, q, ql, qc, o, k, kl, kc⟩ := by rw [← hW1]; exact World.alloc_heap_new w _
  have hB1 : B ≤ W1.heap.size := Nat.le_trans hBw k0.low.size
  have hs1 := hs.kin k0
  obtain ⟨⟨m1, m2, m3⟩, -, -, -⟩ := hs
  dsimp only at m1 m2 m3
  have box : ∀ X, Kin B W1 X → X.cell? ⟨w.heap.size, 3, none⟩ = some (.slice p pl pc) ∧ X.cell? ⟨w.heap.size, 4, none⟩ = some (.slice q ql qc) ∧ X.cell? ⟨w.heap.size, 6, none⟩ = some (.slice k kl kc) := fun X hX => by
    obtain ⟨-, -, -, c3, c4, -, c6⟩ := hbx.cells
    exact ⟨hX.sli _ _ _ _ _ hbx.lt (by simpa using c3), hX.sli _ _ _ _ _ hbx.lt (by simpa using c4), hX.sli _ _ _ _ _ hbx.lt (by simpa using c6)⟩
  have HBOX := Lib.hid box
  have HS := Lib.hid hs1
  have HK0 := Lib.hid k0
  have HB1 := Lib.hid hB1
  clear box hs1 k0 hB1 hbx hBw
  unfold Hd.agg
  dsimp only
  go_enter Tryd.func24, Tryd.ntmps24
  go_wp2_with fail
  clear hW1
  go_loopw [4] (fun i wr => ∃ j : Nat, j ≤ pl ∧ i = .int .i64 j ∧ Hid (Kin B W1 wr)) (fun i _ => pl - (intOf i).toNat)
  case atStart => exact ⟨0, Nat.zero_le _, rfl, Kin.refl _ _⟩
  case round =>
    obtain ⟨j, hj, rfl, hK⟩ := hrel
    rename World => wr
    obtain ⟨c3, c4, c6⟩ := HBOX.out wr hK.out
    by_cases hlt : j < pl
    · have hki : (j : Int) < (pl : Int) := by omega
      have hk0 : (0 : Int) ≤ (j : Int) := by omega
      obtain ⟨b, e, hb, hl, hf, hc⟩ := (HS.out.kin hK.out).2.1 (by show 0 < pl; omega)
      dsimp only at e hc
      subst e
      obtain ⟨t, ht⟩ := hc j hlt
      have fz := hf j
      have HX := Lib.hid (hK.out.trans (kin_str (t := ⟨#[115, 112, 111, 105, 108, 116]⟩) hb ht))
      clear hc hf hb
      go_wp2_with fail
      go_roundw
      case rel => exact ⟨j + 1, by omega, by go_num, HX.out⟩
      case measure => simp [intOf]; omega
    · obtain rfl : j = pl := by omega
      clear hlt hj
      go_wp2_with fail
      go_loopw [5] (fun i wq => ∃ j : Nat, j ≤ ql ∧ i = .int .i64 j ∧ Hid (Kin B W1 wq)) (fun i _ => ql - (intOf i).toNat)
      case atStart => exact ⟨0, Nat.zero_le _, rfl, hK⟩
      case round =>
        obtain ⟨j2, hj2, rfl, hK2⟩ := hrel
        rename World => wq
        obtain ⟨c3, c4, c6⟩ := HBOX.out wq hK2.out
        by_cases hlt : j2 < ql
        · have hki : (j2 : Int) < (ql : Int) := by omega
          have hk0 : (0 : Int) ≤ (j2 : Int) := by omega
          by_cases hd : 0 < d
          · obtain ⟨b, e, hb, hl, hf, hc⟩ := (HS.out.kin hK2.out).2.2.1 (by show 0 < ql; omega)
            dsimp only at e hc
            subst e
            obtain ⟨t, x, ht, hx, hI⟩ := hc j2 hlt
            obtain ⟨op2, nn2, s2, p2, pl2, pc2, q2, ql2, qc2, o2, k2, kl2, kc2⟩ := x
            have KI := Lib.hid (IH.out B wq ⟨op2, nn2, s2, p2, pl2, pc2, q2, ql2, qc2, o2, k2, kl2, kc2⟩ (d - 1) (Nat.le_trans HB1.out hK2.out.low.size) hI (by omega) (by omega))
            unfold Hd.agg at KI
            have HX := Lib.hid hx
            have HFB := Lib.hid (And.intro hb (And.intro hl hf))
            have HT := Lib.hid ht
            obtain ⟨a0, a1, a2, a3, a4, a5, a6⟩ := hx
            dsimp only at a0 a1 a2 a3 a4 a5 a6 KI
            clear hc hf hI hb hl ht
            go_wp2_with (go_at_call 24; refine KI.out.mono ?_; rintro e w5 ⟨⟨v5, rfl⟩, hk5⟩; have HK5 := Lib.hid (hK2.out.trans hk5); obtain ⟨e3, e4, e6⟩ := HBOX.out w5 HK5.out; obtain ⟨t5, ht5⟩ := hk5.str b (j2 * 8) t HFB.out.2.1 HT.out; have fz5 := (hk5.frz b (j2 * 8) HFB.out.2.1).trans (HFB.out.2.2 _); have HS5 := Lib.hid (HK5.out.trans (kin_str (t := ⟨#[115, 112, 111, 105, 108, 116]⟩) HFB.out.1 ht5)); clear hk5)
            go_roundw
            case rel => exact ⟨j2 + 1, by omega, by go_num, HS5.out⟩
            case measure => simp [intOf]; omega
          · have hd2 : d ≤ 0 := by omega
            clear hd
            go_wp2_with fail
            go_loopw [6] (fun i wk => ∃ j : Nat, j ≤ kl ∧ i = .int .i64 j ∧ Hid (Kin B W1 wk)) (fun i _ => kl - (intOf i).toNat)
            case atStart => exact ⟨0, Nat.zero_le _, rfl, hK2⟩
            case round =>
              obtain ⟨j3, hj3, rfl, hK3⟩ := hrel
              rename World => wk
              obtain ⟨c3, c4, c6⟩ := HBOX.out wk hK3.out
              by_cases hlt : j3 < kl
              · have hki : (j3 : Int) < (kl : Int) := by omega
                have hk0 : (0 : Int) ≤ (j3 : Int) := by omega
                go_wp2_with fail
                exact ⟨rfl, .tuple #[], by simp [results, Tryd.results24], ⟨_, rfl⟩, HK0.out.trans hK3.out⟩
              · obtain rfl : j3 = kl := by omega
                clear hlt
                go_wp2_with fail
                exact ⟨rfl, .tuple #[], by simp [results, Tryd.results24], ⟨_, rfl⟩, HK0.out.trans hK3.out⟩
        · obtain rfl : j2 = ql := by omega
          clear hlt
          go_wp2_with fail
          go_loopw [6] (fun i wk => ∃ j : Nat, j ≤ kl ∧ i = .int .i64 j ∧ Hid (Kin B W1 wk)) (fun i _ => kl - (intOf i).toNat)
          case atStart => exact ⟨0, Nat.zero_le _, rfl, hK2⟩
          case round =>
            obtain ⟨j3, hj3, rfl, hK3⟩ := hrel
            rename World => wk
            obtain ⟨c3, c4, c6⟩ := HBOX.out wk hK3.out
            by_cases hlt : j3 < kl
            · have hki : (j3 : Int) < (kl : Int) := by omega
              have hk0 : (0 : Int) ≤ (j3 : Int) := by omega
              by_cases hd : 0 < d
              · obtain ⟨b, e, hb, hl, hf, hc⟩ := (HS.out.kin hK3.out).2.2.2 (by show 0 < kl; omega)
                dsimp only at e hc
                subst e
                obtain ⟨x, hx, hI⟩ := hc j3 hlt
                obtain ⟨op2, nn2, s2, p2, pl2, pc2, q2, ql2, qc2, o2, k2, kl2, kc2⟩ := x
                have KI := Lib.hid (IH.out B wk ⟨op2, nn2, s2, p2, pl2, pc2, q2, ql2, qc2, o2, k2, kl2, kc2⟩ (d - 1) (Nat.le_trans HB1.out hK3.out.low.size) hI (by omega) (by omega))
                unfold Hd.agg at KI
                have HX := Lib.hid hx
                have HFB := Lib.hid (And.intro hb (And.intro hl hf))
                obtain ⟨a0, a1, a2, a3, a4, a5, a6⟩ := hx
                dsimp only at a0 a1 a2 a3 a4 a5 a6 KI
                clear hc hf hI hb hl
                go_wp2_with (go_at_call 24; refine KI.out.mono ?_; rintro e w5 ⟨⟨v5, rfl⟩, hk5⟩; have HK5 := Lib.hid (hK3.out.trans hk5); obtain ⟨e3, e4, e6⟩ := HBOX.out w5 HK5.out; obtain ⟨t5, ht5⟩ := hk5.int b (j3 * 7) op2 HFB.out.2.1 HX.out.c0; have fz5 := (hk5.frz b (j3 * 7) HFB.out.2.1).trans (HFB.out.2.2 _); have HS5 := Lib.hid (HK5.out.trans (kin_int (t := 99) HFB.out.1 ht5)); clear hk5)
                go_roundw
                case rel => exact ⟨j3 + 1, by omega, by go_num, HS5.out⟩
                case measure => simp [intOf]; omega
              · have hd2 : d ≤ 0 := by omega
                clear hd
                go_wp2_with fail
                exact ⟨rfl, .tuple #[], by simp [results, Tryd.results24], ⟨_, rfl⟩, HK0.out.trans hK3.out⟩
            · obtain rfl : j3 = kl := by omega
              clear hlt
              go_wp2_with fail
              exact ⟨rfl, .tuple #[], by simp [results, Tryd.results24], ⟨_, rfl⟩, HK0.out.trans hK3.out⟩
theorem spoil_any : ∀ (n : Nat) (B : Nat) (W : World) (h : Hd) (d : Int), B ≤ W.heap.size → ShX W B n h → 0 ≤ d → d ≤ 30 → Calls Tryd.prog 24 #[h.agg, .int .i64 d] W (SpoilP B W)
  | 0, _, _, _, _, _, h, _, _ => h.elim
  | n + 1, B, W, h, d, hB, hs, h0, h1 => spoil_step n (spoil_any n) B W h d hB hs h0 h1
end Go.Proofs.YtngikbimlhoigaaDoor
