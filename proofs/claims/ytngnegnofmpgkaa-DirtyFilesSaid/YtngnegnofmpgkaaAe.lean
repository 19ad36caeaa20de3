/- WALK of the reference's Same of nodes. -/
import Derived.Test.YtngnegnofmpgkaaAd
namespace Go.Proofs.Ytngnegnofmpgkaa.Gr
open Go.RowKit Go.Maps Go.Sort
open Go.Proofs.Ytngnegnofmpgkaa.Nm (StrRow)
set_option maxRecDepth 100000 in
set_option maxHeartbeats 8000000 in
theorem rsameN_any (w0 : World) (n : Nat) (s : ByteArray) (rs : Bool) (a : Option Addr) (dl dc : Nat) (rs2 : Bool) (a2 : Option Addr) (dl2 dc2 : Nat) (ds ds2 : List Ex) (w : World) (h1 : InKs (InX w0 n) w0 a dl ds) (h2 : InKs (InX w0 n) w0 a2 dl2 ds2) (hb : Below w0.heap.size w0 w) :
    Calls Try.prog 31 #[.agg #[.string s, .bool rs, .slice a dl dc], .agg #[.string s, .bool rs2, .slice a2 dl2 dc2]] w (BoolP (eqB ds ds2) w) := by
  have m1 := h1.max
  have m2 := h2.max
  have k1 := h1.count
  have k2 := h2.count
  have HS := fun h h' x y W hx hy hB => Lib.hid (rsame_any w0 n n h h' x y W hx hy hB)
  have H1 := Lib.hid h1
  have H2 := Lib.hid h2
  have HB := Lib.hid hb
  clear h1 h2 hb
  obtain ⟨W2, hW2⟩ : ∃ W2, W2 = (w.alloc (.cells #[.string s, .bool rs, .slice a dl dc] 40)).alloc (.cells #[.string s, .bool rs2, .slice a2 dl2 dc2] 40) := ⟨_, rfl⟩
  have d1 : W2.heap[w.heap.size]? = some (.cells #[.string s, .bool rs, .slice a dl dc] 40) := by rw [hW2]; exact (Below.heap_alloc _ _ _ (by simp)).trans (World.alloc_heap_new _ _)
  have d2 : W2.heap[w.heap.size + 1]? = some (.cells #[.string s, .bool rs2, .slice a2 dl2 dc2] 40) := by
    rw [hW2]
    have := World.alloc_heap_new (w.alloc (.cells #[.string s, .bool rs, .slice a dl dc] 40)) (.cells #[.string s, .bool rs2, .slice a2 dl2 dc2] 40)
    simpa only [World.size_alloc] using this
  have q0 : W2.cell? ⟨w.heap.size, 0, none⟩ = some (.string s) := by simp [World.cell?, d1]
  have q2 : W2.cell? ⟨w.heap.size, 2, none⟩ = some (.slice a dl dc) := by simp [World.cell?, d1]
  have r0 : W2.cell? ⟨w.heap.size + 1, 0, none⟩ = some (.string s) := by simp [World.cell?, d2]
  have r2 : W2.cell? ⟨w.heap.size + 1, 2, none⟩ = some (.slice a2 dl2 dc2) := by simp [World.cell?, d2]
  have HBW := Lib.hid (show Below w.heap.size w W2 by rw [hW2]; exact ((Below.refl _ _).alloc (Nat.le_refl _) _).alloc (by simp) _)
  have hz2 : W2.heap.size = w.heap.size + 2 := by rw [hW2]; simp
  have HZ2 := Lib.hid hz2
  have HW2 := Lib.hid hW2
  clear d1 d2 hz2 hW2
  by_cases hd : dl = dl2
  · subst hd
    have HQ2 := Lib.hid q2
    have HR2 := Lib.hid r2
    go_enter Try.func31, Try.ntmps31
    go_upto_region 1 with fail
    rw [← HW2.out]
    go_upto_region 4 with fail
    clear q0 q2 r0 r2
    go_loopw [5] (fun i wr => ∃ (j : Nat), j ≤ dl ∧ i = .int .i64 j ∧ Hid (ds.take j = ds2.take j) ∧ Hid (Below W2.heap.size W2 wr)) (fun i _ => dl - (intOf i).toNat)
    case atStart => exact ⟨0, by omega, rfl, Lib.hid rfl, Lib.hid (Below.refl _ _)⟩
    case round =>
      obtain ⟨j, hj, rfl, hT, hBr⟩ := hrel
      rename World => wr
      have HT := Lib.hid hT.out
      have HBr := Lib.hid hBr.out
      clear hT hBr
      have q2 : wr.cell? ⟨w.heap.size, 2, none⟩ = some (.slice a dl dc) := (HBr.out.cell (p := ⟨w.heap.size, 2, none⟩) (by have := HZ2.out; simp; omega)).trans HQ2.out
      have r2 : wr.cell? ⟨w.heap.size + 1, 2, none⟩ = some (.slice a2 dl dc2) := (HBr.out.cell (p := ⟨w.heap.size + 1, 2, none⟩) (by have := HZ2.out; simp; omega)).trans HR2.out
      have HBA := Lib.hid (below_step HBW.out HBr.out)
      by_cases hlt : j < dl
      · have l1 : j < ds.length := by omega
        have l2 : j < ds2.length := by omega
        obtain ⟨b, off, y, rfl, lt, hy, hI⟩ := H1.out.at_ j l1
        obtain ⟨b2, off2, y2, rfl, lt2, hy2, hI2⟩ := H2.out.at_ j l2
        have hB0 := HB.out.trans (HBA.out.mono HB.out.size)
        obtain ⟨x, hx⟩ : ∃ x, ds[j] = x := ⟨_, rfl⟩
        obtain ⟨x2, hx2⟩ : ∃ x2, ds2[j] = x2 := ⟨_, rfl⟩
        rw [hx] at hI
        rw [hx2] at hI2
        have HC := fun W (hW : Below wr.heap.size wr W) => Lib.hid ((HS y y2 x x2 W hI hI2 (hB0.trans (hW.mono hB0.size))).out)
        have HX := Lib.hid hx
        have HX2 := Lib.hid hx2
        have hye := hy.below hB0 lt
        have hye2 := hy2.below hB0 lt2
        have ltr : b < wr.heap.size := Nat.lt_of_lt_of_le lt hB0.size
        have ltr2 : b2 < wr.heap.size := Nat.lt_of_lt_of_le lt2 hB0.size
        have ltw : w.heap.size < wr.heap.size := by have := HBr.out.size; have := HZ2.out; omega
        have ltw2 : w.heap.size + 1 < wr.heap.size := by have := HBr.out.size; have := HZ2.out; omega
        obtain ⟨op, nn, t, p, pl, pc, u, ul, uc, o, k, kl, kc⟩ := y
        obtain ⟨op2, nn2, t2, p2, pl2, pc2, u2, ul2, uc2, o2, k2, kl2, kc2⟩ := y2
        obtain ⟨e0, e1, e2, e3, e4, e5, e6⟩ := hye
        obtain ⟨f0, f1, f2, f3, f4, f5, f6⟩ := hye2
        dsimp only at e0 e1 e2 e3 e4 e5 e6 f0 f1 f2 f3 f4 f5 f6
        unfold Hd.agg at HC
        dsimp only at HC
        obtain ⟨z, hz⟩ : ∃ z, eqB x x2 = z := ⟨_, rfl⟩
        rw [hz] at HC
        have HZ := Lib.hid hz
        have hk0 : (0 : Int) ≤ (j : Int) := by omega
        have hki : (j : Int) < (dl : Int) := by omega
        clear hy hy2 hI hI2 hB0 hx hx2 hz lt lt2 HS
        go_upto_region 6 with fail
        go_region_held3 (fun w' => ∀ bb o, bb < wr.heap.size → w'.cell? ⟨bb, o, none⟩ = wr.cell? ⟨bb, o, none⟩)
          (exact fun bb o h => (show RowKit.Below wr.heap.size wr _ from by first
            | exact (Below.refl _ _).drew
            | exact KW1.out).cell (p := ⟨bb, o, none⟩) h)
          (first
            | (go_at_call 45; (with_reducible refine (HC _ (Below.refl _ _).drew).out.mono ?_); rintro en w7 ⟨rfl, hB7⟩; have KW1 := Lib.hid (show RowKit.Below wr.heap.size wr w7 from below_step ((Below.refl _ _).drew) hB7); clear hB7))
        cases z
        · go_wp2
          go_ret
          refine ⟨by rw [eqB_no (fun e => not_eqB HZ.out (by rw [← HX.out, ← HX2.out]; simp only [e]))]; rfl, below_step HBA.out KW1.out⟩
        · go_wp2
          go_roundw
          case rel => exact ⟨j + 1, by omega, by go_num, Lib.hid (take_next l1 l2 HT.out (by rw [HX.out, HX2.out]; exact of_eqB HZ.out)), Lib.hid (below_step HBr.out KW1.out)⟩
          case measure => simp [intOf]; omega
      · have hki : ¬ (j : Int) < (dl : Int) := by omega
        obtain rfl : j = dl := by omega
        go_wp2
        go_ret
        refine ⟨by rw [eqB_yes (by have := HT.out; rwa [List.take_of_length_le (by omega), List.take_of_length_le (by omega)] at this)]; rfl, HBA.out⟩
  · have hdi : ((dl : Int) != (dl2 : Int)) = true := by simp; omega
    go_enter Try.func31, Try.ntmps31
    go_upto_region 1 with fail
    rw [← HW2.out]
    go_wp2
    go_ret
    exact ⟨by rw [eqB_no (fun e => hd (by rw [← k1, ← k2, e]))]; rfl, HBW.out⟩
end Go.Proofs.Ytngnegnofmpgkaa.Gr
