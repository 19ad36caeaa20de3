/- WALK of the law FrameTurned. -/
import Derived.Test.YtnejahfeafllkaaFh
import Derived.Test.YtnejahfeafllkaaFi
namespace Go.Proofs.Ytnejahfeafllkaa
open Go.RowKit
set_option maxHeartbeats 1000000 in
theorem turned_long (s : ByteArray) (at' mask : Int) (w : World) (h : 300 < s.size) :
    Calls Try.prog 8 #[.string s, .int .i64 at', .int .u32 mask] w fun e w' => e = .returned (.bool true) ∧ Below w.heap.size w w' := by
  have hi : (300 : Int) < (s.size : Int) := by omega
  clear h
  go_enter Try.func8, Try.ntmps8
  go_wp2_with (go_at_call 23; refine (fawake_any _).mono ?_; rintro e w' ⟨rfl, hB⟩)
  go_ret
  exact ⟨rfl, hB⟩
set_option maxRecDepth 100000 in
set_option maxHeartbeats 8000000 in
theorem turned_short (s : ByteArray) (at' : Int) (mask : Nat) (w : World) (hs : s.size ≤ 300) :
    Calls Try.prog 8 #[.string s, .int .i64 at', .int .u32 mask] w fun e w' => e = .returned (.bool true) ∧ Below w.heap.size w w' := by
  have H1 := fun w => Lib.hid (fput_any s w (by omega))
  obtain ⟨F, hF⟩ : ∃ F, F = frt s := ⟨_, rfl⟩
  have hFb := frt_bd s (by omega)
  obtain ⟨N, hN⟩ : ∃ N, N = F + s.size + 4 := ⟨_, rfl⟩
  have hm : (rec s).size = N := by rw [rec_size, hN, hF]; unfold frt; omega
  obtain ⟨b, hb⟩ : ∃ b, Hid (b = rec s) := ⟨_, rfl⟩
  rw [← hb.out] at H1 hm
  rw [← hF] at hFb
  have HF := Lib.hid hF
  have hF2 : 2 ≤ F := hFb.1
  have hF11 : F ≤ 11 := hFb.2
  clear hF hFb
  have HB := Lib.hid (Below.refl w.heap.size w)
  have hcv := fun W => Lib.run_convert_string_bytes (P := Try.prog) W 9 67 5 b (u := .string) (by kernel_rfl) (by kernel_rfl) (by kernel_rfl)
  obtain ⟨D, hD⟩ : ∃ D, D = F + 4 := ⟨_, rfl⟩
  have e1 : (N : Int) - (s.size : Int) = (D : Int) := by omega
  have e2 : (D : Int) - 4 = (F : Int) := by omega
  have hsi : (s.size : Int) ≤ 300 := by omega
  have h6 : ¬ (N : Int) < (s.size : Int) + 6 := by omega
  have hN315 : N ≤ 315 := by omega
  have HNN := Lib.hid hN
  have HS := Lib.hid hs
  clear hN hD hs
  cases hm0 : ((mask : Int) == 0)
  all_goals
    go_enter Try.func8, Try.ntmps8
    go_wp2_with (first
      | (go_at_call 24; refine (H1 _).out.mono ?_; rintro e w1 ⟨rfl, hB⟩; replace HB := below_step2 HB hB; clear hB))
    obtain ⟨B, hBB⟩ : ∃ B, B = w1.heap.size := ⟨_, rfl⟩
    have HZ : w.heap.size ≤ B := by rw [hBB]; exact HB.out.size
    have HK := Lib.hid (Blk.first w1 b)
    replace HB := Lib.hid (below_bytes HB b)
    rw [← hBB] at HK ⊢
    clear hcv hBB
    generalize Lib.bytesWorld w1 5 b = w2 at *
    generalize grownCap w1 N 0 5 = cap at *
    obtain ⟨f0, hf0, he⟩ := from_is at' s.size (by have := HS.out; omega)
    rw [he]
    clear he
    obtain ⟨f, hff⟩ : ∃ f, f = 8 * F + f0 := ⟨_, rfl⟩
    have hfw : wrap64 (8 * (F : Int) + (f0 : Int)) = (f : Int) := by have := HS.out; unfold wrap64; omega
    rw [hfw]
    have hf : f < 8 * N := by have := HNN.out; omega
    have hfF : 8 * F ≤ f := by omega
    clear hfw hf0 hff
    clear e1 e2 h6
    have HM := Lib.hid hm
    clear hm
    go_loopw [12, 13] (fun t i wr => ∃ (k m : Nat) (tt : Bool) (L : List UInt8), k ≤ 32 ∧ t = .bool tt ∧ i = .int .i64 k ∧ (tt = true → 0 < m) ∧ (tt = false → L = b.data.toList) ∧ Turned b.data.toList L f k m ∧ Blk wr B L ∧ Below w.heap.size w wr) (fun _ i _ => 32 - (intOf i).toNat)
    case atStart => exact ⟨0, 0, false, _, by omega, rfl, rfl, (fun h => by cases h), (fun _ => rfl), Turned.first _ _, HK.out, HB.out⟩
    case round =>
      obtain ⟨k, m, tt, L, hk, rfl, rfl, htt, hff, hT, hBl, hBe⟩ := hrel
      rename World => wr
      have HT := Lib.hid hT
      have HL := Lib.hid hBl
      have HE := Lib.hid hBe
      have HTT := Lib.hid htt
      have HFF := Lib.hid hff
      have hlen : L.length = N := by rw [hT.len, ← HM.out]; simp
      clear hT hBl hBe htt hff
      by_cases hlt : k < 32
      · by_cases hbt : f + k < 8 * N
        · obtain ⟨t, ht⟩ : ∃ t, t = f + k := ⟨_, rfl⟩
          have hadd : (f : Int) + (k : Int) = (t : Int) := by omega
          have htb : (t : Int) < 8 * (N : Int) := by omega
          obtain ⟨q, hq⟩ : ∃ q, q = t / 8 := ⟨_, rfl⟩
          obtain ⟨r, hr⟩ : ∃ r, r = t % 8 := ⟨_, rfl⟩
          have hq' : (t : Int) / 8 = (q : Int) := by omega
          have hr' : (t : Int) % 8 = (r : Int) := by omega
          have hqL : q < L.length := by omega
          have hq4 : (q : Int) < (N : Int) := by omega
          have hcell := HL.out.cell q hqL
          have hfro := HL.out.fro q hqL
          have hr8 : r < 8 := by omega
          have HQ := Lib.hid (show f + k = 8 * q + r by omega)
          have HLen := Lib.hid hlen
          generalize hcc : L[q].toNat = c at hcell
          have hc8 : c < 256 := by rw [← hcc]; exact L[q].toNat_lt
          have hc : Hid (∀ h : q < L.length, (L[q]'h).toNat = c) := fun _ => hcc
          have HqL := Lib.hid hqL
          clear ht hq hr hlen hcc
          clear hqL
          go_wp2
          · obtain ⟨d, hd1, hd2⟩ := turn_val c r hc8 hr8
            have HD1 := Lib.hid hd1
            have HD2 := Lib.hid hd2
            clear hd1 hd2
            go_region
            all_goals go_wp2
            all_goals go_roundw
            case rel => exact ⟨k + 1, m + 2 ^ k, true, _, by omega, rfl, by go_num, (fun _ => by have := Nat.pow_pos (n := k) (show 0 < 2 by decide); omega), (fun h => by cases h), HT.out.turn HQ.out HqL.out (by rw [hc.out HqL.out]; exact HD2.out), HL.out.turn HqL.out HD1.out, (HE.out.setCell (p := ⟨B, q, none⟩) HZ _).drew⟩
            case measure => simp [intOf]; omega
          · go_roundw
            case rel => exact ⟨k + 1, m, tt, L, by omega, rfl, by go_num, HTT.out, HFF.out, HT.out.stay, HL.out, HE.out⟩
            case measure => simp [intOf]; omega
        · have hbt2 : ¬ (f : Int) + (k : Int) < 8 * (N : Int) := by omega
          go_wp2
          all_goals go_roundw
          all_goals first
            | exact ⟨k + 1, m, tt, L, by omega, rfl, by go_num, HTT.out, HFF.out, HT.out.stay, HL.out, HE.out⟩
            | (simp [intOf]; omega)
      · obtain rfl : k = 32 := by omega
        have hcv2 := Lib.hid (conv_cells wr B cap L fun j hj => HL.out.cell j hj)
        have hcv3 := hcv2.out
        rw [hlen] at hcv3
        have HN := fun W => Lib.hid (next_any ⟨L.toArray⟩ 0 W (by simp [ByteArray.size]; omega) (Nat.zero_le _))
        unfold NextIs at HN
        cases tt
        · have hLb : (⟨L.toArray⟩ : ByteArray) = b := by
            rw [HFF.out rfl]
          rw [hLb] at hcv3 HN
          have hnx : nx b 0 = (s, N, 0) := by
            have := nx_own s (by have := HS.out; omega)
            rw [← hb.out, HM.out] at this; exact this
          rw [hnx] at HN
          have hbi : ((b.size : Nat) : Int) = (N : Int) := by rw [HM.out]
          clear hnx hLb hlen
          go_wp2_with (first
            | (go_at_call 23; refine (fawake_any _).mono ?_; rintro e w5 ⟨rfl, hB⟩; replace HE := below_step2 HE hB; clear hB)
            | (go_at_call 25; refine (HN _).out.mono ?_; rintro e w6 ⟨rfl, hB⟩; replace HE := below_step2 HE hB; clear hB))
          go_ret
          exact ⟨rfl, HE.out⟩
        · rw [nx_turned (by have := HS.out; omega) hb.out HT.out (HTT.out rfl) (by rw [← HF.out]; exact hfF)] at HN
          clear hlen
          go_wp2_with (first
            | (go_at_call 23; refine (fawake_any _).mono ?_; rintro e w5 ⟨rfl, hB⟩; replace HE := below_step2 HE hB; clear hB)
            | (go_at_call 25; refine (HN _).out.mono ?_; rintro e w6 ⟨rfl, hB⟩; replace HE := below_step2 HE hB; clear hB))
          go_ret
          exact ⟨rfl, HE.out⟩
theorem turned_walk (s : ByteArray) (at' mask : Int) (w : World) (hk : (Lit.int .u32 mask).wf = true) :
    Calls Try.prog 8 #[.string s, .int .i64 at', .int .u32 mask] w fun e w' => e = .returned (.bool true) ∧ Below w.heap.size w w' := by
  by_cases h : 300 < s.size
  · exact turned_long s at' mask w h
  · obtain ⟨M, rfl⟩ := Int.eq_ofNat_of_zero_le (bounds_u32 hk).1
    exact turned_short s at' M w (by omega)
end Go.Proofs.Ytnejahfeafllkaa
