/- WALK of the law CrcFinds. -/
import Derived.Test.YtmfikjpmieoikaaF
import Derived.Lib.ConvBytes
import Derived.Laws.ShiftsVarLaws
import Derived.OpenShut
namespace Go.Proofs.Ytmfikjpmieoikaa
open Go.RowKit
theorem shl_xor (a b k : Nat) : (a ^^^ b) * 2 ^ k = a * 2 ^ k ^^^ b * 2 ^ k := by
  rw [← Nat.shiftLeft_eq, ← Nat.shiftLeft_eq, ← Nat.shiftLeft_eq, Nat.shiftLeft_xor_distrib]
theorem leN_cons (c : UInt8) (T : List UInt8) : leN (c :: T) = c.toNat ^^^ leN T * 2 ^ 8 := by
  rw [leN, Nat.mul_comm (leN T)]; exact add_xor (k := 8) c.toNat_lt
theorem leN_set : ∀ (L : List UInt8) (k : Nat) (h : k < L.length) (v : Nat) (c : UInt8), c.toNat = L[k].toNat ^^^ v → leN (L.set k c) = leN L ^^^ v * 2 ^ (8 * k)
  | [], k, h, _, _, _ => absurd h (by simp)
  | d :: T, 0, _, v, c, e => by
    rw [List.set_cons_zero, leN_cons, leN_cons, e]
    simp only [List.getElem_cons_zero, Nat.mul_zero, Nat.pow_zero, Nat.mul_one]
    rw [Nat.xor_assoc, Nat.xor_assoc, Nat.xor_comm v]
  | d :: T, k + 1, h, v, c, e => by
    rw [List.set_cons_succ, leN_cons, leN_cons, leN_set T k (by simpa using h) v c (by simpa using e), shl_xor, Nat.xor_assoc,
      show 8 * (k + 1) = 8 * k + 8 by omega, Nat.pow_add, Nat.mul_assoc]
/-- The block that the law turns: which bytes stand there. -/
structure Blk (w : World) (B : Nat) (L : List UInt8) : Prop where
  cell : ∀ i (h : i < L.length), w.cell? ⟨B, i, none⟩ = some (.int .u8 (L[i].toNat : Int))
  fro : ∀ i, i < L.length → w.frozen? ⟨B, i, none⟩ = false
theorem Blk.first (w : World) (b : ByteArray) : Blk (Lib.bytesWorld w 5 b) w.heap.size b.data.toList := by
  refine ⟨fun i h => ?_, fun i h => ?_⟩
  · rw [Lib.bytesWorld_cell w 5 b i (by simpa using h)]
    simp [List.getD, List.getElem?_eq_getElem h]
  · have h1 := Lib.bytesWorld_at_new w 5 b
    have h2 : i < (Lib.bytesCells w 5 b).size := by
      simp at h
      simp [Lib.bytesCells]; omega
    simp [World.frozen?, h1]; omega
theorem below_bytes {w0 w : World} (h : Hid (Below w0.heap.size w0 w)) (b : ByteArray) : Below w0.heap.size w0 (Lib.bytesWorld w 5 b) :=
  h.out.trans ⟨rfl, rfl, rfl, by rw [Lib.bytesWorld_size]; omega, fun k hk => Lib.bytesWorld_at_old w 5 b k (by have := h.out.size; omega)⟩
/-- Bit t of a text turned. -/
structure Turned (L0 L : List UInt8) (f k m : Nat) : Prop where
  len : L.length = L0.length
  num : leN L = leN L0 ^^^ m * 2 ^ f
  lt : m < 2 ^ k
theorem Turned.stay {L0 L : List UInt8} {f k m : Nat} (h : Turned L0 L f k m) : Turned L0 L f (k + 1) m :=
  ⟨h.len, h.num, Nat.lt_trans h.lt (Nat.pow_lt_pow_right (by decide) (Nat.lt_succ_self k))⟩
theorem Turned.turn {L0 L : List UInt8} {f k m q r : Nat} {c : UInt8} (h : Turned L0 L f k m) (ht : f + k = 8 * q + r) (hq : q < L.length) (hc : c.toNat = L[q].toNat ^^^ 2 ^ r) : Turned L0 (L.set q c) f (k + 1) (m + 2 ^ k) := by
  have hx : m + 2 ^ k = m ^^^ 2 ^ k := by
    have := add_xor (b := 1) h.lt
    simpa using this
  refine ⟨by rw [List.length_set, h.len], ?_, by rw [Nat.pow_succ]; have := h.lt; omega⟩
  rw [leN_set L q hq (2 ^ r) c hc, h.num, hx, shl_xor, Nat.xor_assoc, ← Nat.pow_add, ← Nat.pow_add, show r + 8 * q = k + f by omega]
theorem Blk.turn {w : World} {B q : Nat} {L : List UInt8} {c : UInt8} {v : Int} (h : Blk w B L) (hq : q < L.length) (hv : v = (c.toNat : Int)) : Blk (w.setCell ⟨B, q, none⟩ (.int .u8 v)).drew B (L.set q c) := by
  subst hv
  refine ⟨fun i hi => ?_, fun i hi => ?_⟩
  · show (w.setCell ⟨B, q, none⟩ _).cell? ⟨B, i, none⟩ = _
    rw [List.length_set] at hi
    by_cases e : q = i
    · subst e
      rw [World.cell?_setCell_same (h := h.cell q hq)]; simp
    · rw [World.cell?_setCell_other (h := by intro x; injection x with _ x; exact e x), h.cell i hi]
      simp [e]
  · show (w.setCell ⟨B, q, none⟩ _).frozen? ⟨B, i, none⟩ = _
    rw [World.frozen?_setCell]
    exact h.fro i (by simpa using hi)
theorem turn_val (c r : Nat) (hc : c < 256) (hr : r < 8) : ∃ d : UInt8, bits .xor .u8 (c : Int) (2 ^ r % 256) = (d.toNat : Int) ∧ d.toNat = c ^^^ 2 ^ r := by
  have h2 : ∀ r : Nat, r < 8 → 2 ^ r < 256 ∧ (2 : Int) ^ r % 256 = ((2 ^ r : Nat) : Int) := by decide +kernel
  obtain ⟨a1, a2⟩ := h2 r hr
  have hx : c ^^^ 2 ^ r < 256 := Nat.xor_lt_two_pow (n := 8) hc a1
  refine ⟨UInt8.ofNat (c ^^^ 2 ^ r), ?_, ?_⟩
  · rw [a2, u8_xor_nat c _ hc a1, UInt8.toNat_ofNat']
    omega
  · rw [UInt8.toNat_ofNat']; omega
theorem opn_turned {s b : ByteArray} {L : List UInt8} {f m : Nat} (hb : b = s ++ markS s) (h : Turned b.data.toList L f 32 m) (hm : 0 < m) : opn ⟨L.toArray⟩ = (⟨#[]⟩, 7) := by
  subst hb
  have hlb : (s ++ markS s).data.toList = s.data.toList ++ markL (sm s.data.toList) := by simp [markS]
  have hlen : L.length = s.data.toList.length + 4 := by rw [h.len, hlb, List.length_append]; rfl
  have hsz : (⟨L.toArray⟩ : ByteArray).size = L.length := by simp [ByteArray.size]
  have hls : s.data.toList.length = s.size := by simp
  unfold opn
  rw [if_neg (by omega)]
  rw [if_neg]
  intro e
  have e2 : (markS (frontS ⟨L.toArray⟩)).data.toList = (tailS ⟨L.toArray⟩).data.toList := by rw [e]
  have hF : (frontS ⟨L.toArray⟩).data.toList = L.take s.data.toList.length := by
    unfold frontS
    rw [Lib.extract_data, hsz, hlen]
    simp
  have hT : (tailS ⟨L.toArray⟩).data.toList = L.drop s.data.toList.length := by
    unfold tailS
    rw [Lib.extract_data, hsz, hlen, Nat.add_sub_cancel]
    exact List.take_of_length_le (by simp; omega)
  have e3 : markL (sm (L.take s.data.toList.length)) = L.drop s.data.toList.length := by rw [← hT, ← e2, ← hF]; simp [markS]
  have := burst (A := s.data.toList) (A' := L.take s.data.toList.length) (S := markL (sm s.data.toList)) (S' := L.drop s.data.toList.length) (m := m) (f := f)
    (by simp; omega) (leN_mark (sm_lt _)) (by rw [← e3, leN_mark (sm_lt _)]) h.lt (by rw [List.take_append_drop, h.num, hlb])
  omega
theorem Turned.first (L : List UInt8) (f : Nat) : Turned L L f 0 0 := ⟨rfl, by simp, by simp⟩
theorem from_is (a : Int) (n : Nat) (hn : n ≤ 400) : ∃ f : Nat, f < 8 * (n + 4) ∧ wrap64 ((IntKind.u64.wrap a).tmod (8 * ((n : Int) + 4))) = (f : Int) := by
  rw [IntKind.wrap_u64]
  generalize hx : a % 18446744073709551616 = x
  have hx0 : 0 ≤ x := by omega
  have h1 := Int.emod_nonneg x (b := 8 * ((n : Int) + 4)) (by omega)
  have h2 := Int.emod_lt_of_pos x (b := 8 * ((n : Int) + 4)) (by omega)
  rw [Int.tmod_eq_emod_of_nonneg hx0]
  generalize x % (8 * ((n : Int) + 4)) = y at *
  refine ⟨y.toNat, by omega, ?_⟩
  have : wrap64 y = y := by unfold wrap64; omega
  rw [this]; omega
set_option maxRecDepth 100000 in
set_option maxHeartbeats 2000000 in
theorem finds_short (s : ByteArray) (at' : Int) (mask : Nat) (w : World) (hs : s.size ≤ 400) :
    Calls Try.prog 8 #[.string s, .int .i64 at', .int .u32 mask] w fun e w' => e = .returned (.bool true) ∧ Below w.heap.size w w' := by
  have H1 := fun w => Lib.hid (Seal_any s w (by omega))
  have hm : (s ++ markS s).size = s.size + 4 := by rw [ByteArray.size_append, markS_size]
  obtain ⟨b, hb⟩ : ∃ b, Hid (b = s ++ markS s) := ⟨_, rfl⟩
  rw [← hb.out] at H1 hm
  have HB := Lib.hid (Below.refl w.heap.size w)
  have hcv := fun W => Lib.run_convert_string_bytes (P := Try.prog) W 9 22 5 b (u := .string) (by kernel_rfl) (by kernel_rfl) (by kernel_rfl)
  cases hm0 : ((mask : Int) == 0)
  all_goals
    go_enter Try.func8, Try.ntmps8
    go_wp2_with (first
      | (go_at_call 34; refine (H1 _).out.mono ?_; rintro e w1 ⟨rfl, hB⟩; replace HB := below_step HB hB; clear hB))
    obtain ⟨B, hBB⟩ : ∃ B, B = w1.heap.size := ⟨_, rfl⟩
    have HZ : w.heap.size ≤ B := by rw [hBB]; exact HB.out.size
    have HK := Lib.hid (Blk.first w1 b)
    replace HB := Lib.hid (below_bytes HB b)
    rw [← hBB] at HK ⊢
    clear hcv hBB
    generalize Lib.bytesWorld w1 5 b = w2 at *
    generalize grownCap w1 (s.size + 4) 0 5 = cap at *
    obtain ⟨f, hf, he⟩ := from_is at' s.size hs
    rw [he]
    clear he
    go_loopw [9, 10] (fun t i wr => ∃ (k m : Nat) (tt : Bool) (L : List UInt8), k ≤ 32 ∧ t = .bool tt ∧ i = .int .i64 k ∧ (tt = true → 0 < m) ∧ Turned b.data.toList L f k m ∧ Blk wr B L ∧ Below w.heap.size w wr) (fun _ i _ => 32 - (intOf i).toNat)
    case atStart => exact ⟨0, 0, false, _, by omega, rfl, rfl, (fun h => by cases h), Turned.first _ _, HK.out, HB.out⟩
    case round =>
      obtain ⟨k, m, tt, L, hk, rfl, rfl, htt, hT, hBl, hBe⟩ := hrel
      rename World => wr
      have HT := Lib.hid hT
      have HL := Lib.hid hBl
      have HE := Lib.hid hBe
      have HTT := Lib.hid htt
      have hlen : L.length = s.size + 4 := by rw [hT.len, ← hm]; simp
      clear hT hBl hBe htt
      by_cases hlt : k < 32
      · by_cases hbt : f + k < 8 * (s.size + 4)
        · obtain ⟨t, ht⟩ : ∃ t, t = f + k := ⟨_, rfl⟩
          have hadd : (f : Int) + (k : Int) = (t : Int) := by omega
          have htb : (t : Int) < 8 * ((s.size : Int) + 4) := by omega
          obtain ⟨q, hq⟩ : ∃ q, q = t / 8 := ⟨_, rfl⟩
          obtain ⟨r, hr⟩ : ∃ r, r = t % 8 := ⟨_, rfl⟩
          have hq' : (t : Int) / 8 = (q : Int) := by omega
          have hr' : (t : Int) % 8 = (r : Int) := by omega
          have hqL : q < L.length := by omega
          have hq4 : (q : Int) < (s.size : Int) + 4 := by omega
          have hcell := HL.out.cell q hqL
          have hfro := HL.out.fro q hqL
          have hr8 : r < 8 := by omega
          have HQ := Lib.hid (show f + k = 8 * q + r by omega)
          have HLen := Lib.hid hlen
          generalize hcc : L[q].toNat = c at hcell
          have hc8 : c < 256 := by rw [← hcc]; exact L[q].toNat_lt
          have hc : Hid (∀ h : q < L.length, (L[q]'h).toNat = c) := fun _ => hcc
          have HqL := Lib.hid hqL
          clear ht hq hr hlen hcc
          clear hqL
          go_wp2
          · obtain ⟨d, hd1, hd2⟩ := turn_val c r hc8 hr8
            have HD1 := Lib.hid hd1
            have HD2 := Lib.hid hd2
            clear hd1 hd2
            go_region
            all_goals go_wp2
            all_goals go_roundw
            case rel => exact ⟨k + 1, m + 2 ^ k, true, _, by omega, rfl, by go_num, (fun _ => by have := Nat.pow_pos (n := k) (show 0 < 2 by decide); omega), HT.out.turn HQ.out HqL.out (by rw [hc.out HqL.out]; exact HD2.out), HL.out.turn HqL.out HD1.out, (HE.out.setCell (p := ⟨B, q, none⟩) HZ _).drew⟩
            case measure => simp [intOf]; omega
          · go_roundw
            case rel => exact ⟨k + 1, m, tt, L, by omega, rfl, by go_num, HTT.out, HT.out.stay, HL.out, HE.out⟩
            case measure => simp [intOf]; omega
        · have hbt2 : ¬ (f : Int) + (k : Int) < 8 * ((s.size : Int) + 4) := by omega
          go_wp2
          all_goals go_roundw
          all_goals first
            | exact ⟨k + 1, m, tt, L, by omega, rfl, by go_num, HTT.out, HT.out.stay, HL.out, HE.out⟩
            | (simp [intOf]; omega)
      · obtain rfl : k = 32 := by omega
        have hcv2 := Lib.hid (conv_cells wr B cap L fun j hj => HL.out.cell j hj)
        cases tt
        · go_wp2_with (go_at_call 29; refine (awake_any _).mono ?_; rintro e w5 ⟨rfl, hB⟩; replace HE := below_step HE hB; clear hB)
          go_ret
          exact ⟨rfl, HE.out⟩
        · have hcv3 := hcv2.out
          rw [hlen] at hcv3
          have HO := fun w => Lib.hid (open_any ⟨L.toArray⟩ w (by simp [ByteArray.size]; omega))
          rw [opn_turned hb.out HT.out (HTT.out rfl)] at HO
          go_wp2_with (first
            | (go_at_call 29; refine (awake_any _).mono ?_; rintro e w5 ⟨rfl, hB⟩; replace HE := below_step HE hB; clear hB)
            | (go_at_call 32; refine (HO _).out.mono ?_; rintro e w6 ⟨rfl, hB⟩; replace HE := below_step HE hB; clear hB))
          go_ret
          exact ⟨rfl, HE.out⟩
set_option maxHeartbeats 1000000 in
theorem finds_long (s : ByteArray) (at' mask : Int) (w : World) (hs : s.size ≤ maxLen) (h : 400 < s.size) :
    Calls Try.prog 8 #[.string s, .int .i64 at', .int .u32 mask] w fun e w' => e = .returned (.bool true) ∧ Below w.heap.size w w' := by
  unfold maxLen at hs
  go_enter Try.func8, Try.ntmps8
  go_wp2_with (go_at_call 29; refine (awake_any _).mono ?_; rintro e w' ⟨rfl, hB⟩)
  go_ret
  exact ⟨rfl, hB⟩
theorem finds_walk (s : ByteArray) (at' mask : Int) (w : World) (hs : s.size ≤ maxLen) (hk : (Lit.int .u32 mask).wf = true) :
    Calls Try.prog 8 #[.string s, .int .i64 at', .int .u32 mask] w fun e w' => e = .returned (.bool true) ∧ Below w.heap.size w w' := by
  by_cases h : 400 < s.size
  · exact finds_long s at' mask w hs h
  · obtain ⟨M, rfl⟩ := Int.eq_ofNat_of_zero_le (bounds_u32 hk).1
    exact finds_short s at' M w (by omega)
end Go.Proofs.Ytmfikjpmieoikaa
