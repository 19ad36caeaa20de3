/- WALKS of the reference's Of, of crc.sealOf, of the reference's Mark. -/
import Derived.Test.YtnejahfeafllkaaC
namespace Go.Proofs.Ytnejahfeafllkaa
open Go.RowKit
theorem xor_byte (n c : Nat) (hn : n < 4294967296) (hc : c < 256) : bits .xor .u32 (n : Int) (c : Int) = ((n ^^^ c : Nat) : Int) := u32_xor_nat n c hn (by omega)
theorem stK_succ (j n : Nat) : stK (j + 1) n = st (stK j n) := by rw [stK_add j 1]; rfl
theorem val_odd {n m : Nat} (h : n < 4294967296) (h1 : ((n : Int) % 2 == 1) = true) (e : m = st n) : Value.int .u32 (bits .xor .u32 ((n : Int) / 2) 2197175160) = .int .u32 (m : Int) := by
  rw [st_odd h h1, e]
theorem val_even {n m : Nat} (h1 : ((n : Int) % 2 == 1) = false) (e : m = st n) : Value.int .u32 ((n : Int) / 2) = .int .u32 (m : Int) := by
  rw [st_even h1, e]
theorem not32' (n : Nat) (h : n < 4294967296) : bits .xor .u32 (n : Int) 4294967295 = ((n ^^^ 4294967295 : Nat) : Int) := u32_xor_nat n 4294967295 h (by decide)
set_option maxHeartbeats 1000000 in
theorem rof_any (s : ByteArray) (w : World) (hs : s.size ≤ 140737488355328) : Calls Try.prog 70 #[.string s] w fun e w' => e = .returned (.int .u32 ((sm s.data.toList : Nat) : Int)) ∧ w = w' := by
  go_enter Try.func70, Try.ntmps70
  go_wp2
  go_loop [3, 4] (fun x i => ∃ (k n : Nat), k ≤ s.size ∧ i = .int .i64 k ∧ x = .int .u32 n ∧ n = cr 4294967295 (s.data.toList.take k)) (fun _ i => s.size - (intOf i).toNat)
  case atStart => exact ⟨0, 4294967295, by omega, rfl, rfl, rfl⟩
  case round =>
    obtain ⟨k, n, hk, rfl, rfl, hn⟩ := hrel
    have HN := Lib.hid hn
    have hn32 : n < 4294967296 := by rw [hn]; exact cr_lt _ _ (by decide)
    clear hn
    by_cases hlt : k < s.size
    · have hsb := s[k].toNat_lt
      have HI := Lib.hid (cr_snoc 4294967295 (s.data.toList.take k) s[k])
      rw [← take_at s k hlt, ← HN.out] at HI
      have hx := xor_byte n s[k].toNat hn32 (by omega)
      have hy : n ^^^ s[k].toNat < 4294967296 := Nat.xor_lt_two_pow (n := 32) (by omega) (by omega)
      generalize hyy : n ^^^ s[k].toNat = y at *
      clear hyy
      go_wp2
      go_loop [3, 5] (fun x j => ∃ (i m : Nat), i ≤ 8 ∧ j = .int .i64 i ∧ x = .int .u32 m ∧ m = stK i y) (fun _ j => 8 - (intOf j).toNat)
      case atStart => exact ⟨0, y, by omega, rfl, rfl, rfl⟩
      case round =>
        obtain ⟨i, m, hi, rfl, rfl, hm⟩ := hrel
        have HM := Lib.hid hm
        have hm32 : m < 4294967296 := by rw [hm]; exact stK_lt _ hy
        clear hm
        by_cases hli : i < 8
        · cases h1 : ((m : Int) % 2 == 1)
          · have HV := Lib.hid h1
            go_wp2
            go_round
            case rel => exact ⟨i + 1, st m, by omega, by go_num, val_even HV.out rfl, by rw [stK_succ, HM.out]⟩
            case measure => simp [intOf]; omega
          · have HV := Lib.hid h1
            go_wp2
            go_round
            case rel => exact ⟨i + 1, st m, by omega, by go_num, val_odd hm32 HV.out rfl, by rw [stK_succ, HM.out]⟩
            case measure => simp [intOf]; omega
        · obtain rfl : i = 8 := by omega
          go_wp2
          go_round
          case rel => exact ⟨k + 1, m, by omega, by go_num, rfl, by rw [HI.out, HM.out]; rfl⟩
          case measure => simp [intOf]; omega
    · obtain rfl : k = s.size := by omega
      have hx := not32' n hn32
      go_wp2
      go_ret
      exact ⟨ret_int (by rw [sm, HN.out, List.take_of_length_le (by simp)]), rfl⟩
theorem StrRow.one (w : World) (s : ByteArray) (hs : s.size ≤ 140737488355328) : StrRow (w.alloc (.cells #[.string s] 9)) (some ⟨w.heap.size, 0, none⟩) 1 [s] :=
  ⟨rfl, by decide, fun i x h => by
    cases i with
    | zero => simp at h; subst h; exact hs
    | succ i => simp at h, fun _ => ⟨w.heap.size, 0, rfl, by simp, fun i x h => by
    cases i with
    | zero => simp at h; subst h; rw [cell_of_row _ _ _ _ 9 (0, 0) (heap_alloc_new w _)]; rfl
    | succ i => simp at h⟩⟩
theorem of_one (s : ByteArray) (w : World) (hs : s.size ≤ 140737488355328) : Calls Try.prog 97 #[.slice (some ⟨w.heap.size, 0, none⟩) 1 1] (w.alloc (.cells #[.string s] 9)) fun e w' => e = .returned (.int .u32 ((sm s.data.toList : Nat) : Int)) ∧ Below w.heap.size w w' :=
  (of_row _ 1 1 [s] _ (StrRow.one w s hs)).mono fun e w' ⟨he, hb⟩ => ⟨by rw [he]; simp [flat], ((Below.refl _ w).alloc (Nat.le_refl _) _).trans (hb.mono (by simp))⟩
/-- A number's four bytes, the lowest first; and a text's seal. -/
def markL (n : Nat) : List UInt8 := [UInt8.ofNat n, UInt8.ofNat (n / 256), UInt8.ofNat (n / 65536), UInt8.ofNat (n / 16777216)]
def markS (s : ByteArray) : ByteArray := ⟨(markL (sm s.data.toList)).toArray⟩
theorem markS_size (s : ByteArray) : (markS s).size = 4 := rfl
theorem leN_mark {n : Nat} (h : n < 4294967296) : leN (markL n) = n := by
  simp only [markL, leN, UInt8.toNat_ofNat']
  omega
theorem ofNat_int (n : Nat) : ((UInt8.ofNat n).toNat : Int) = (n : Int) % 256 := by
  rw [UInt8.toNat_ofNat']; omega
theorem conv_cells (W : World) (b cap : Nat) (L : List UInt8) (h : ∀ j (hj : j < L.length), W.cell? ⟨b, j, none⟩ = some (.int .u8 (L[j].toNat : Int))) :
    (convert 67 9 (.slice (some ⟨b, 0, none⟩) L.length cap)).run Try.prog W = .ok (.string ⟨L.toArray⟩) W :=
  run_convert_bytes_back W 67 9 5 ⟨b, 0, none⟩ cap L (by kernel_rfl) (by kernel_rfl) (by kernel_rfl) fun j hj => by
    rw [show (⟨b, 0, none⟩ : Addr).add j = ⟨b, j, none⟩ by unfold Addr.add; split <;> simp_all]
    exact h j hj
theorem conv_four (W : World) (x : Nat) (hx : x < 4294967296) :
    (convert 67 9 (.slice (some ⟨W.heap.size, 0, none⟩) 4 4)).run Try.prog (W.alloc (.cells #[.int .u8 ((x : Int) % 256), .int .u8 ((x : Int) / 256 % 256), .int .u8 ((x : Int) / 65536 % 256), .int .u8 ((x : Int) / 16777216)] 5))
      = .ok (.string ⟨(markL x).toArray⟩) (W.alloc (.cells #[.int .u8 ((x : Int) % 256), .int .u8 ((x : Int) / 256 % 256), .int .u8 ((x : Int) / 65536 % 256), .int .u8 ((x : Int) / 16777216)] 5)) := by
  refine conv_cells _ _ 4 (markL x) fun j hj => ?_
  rw [cell_of_row _ _ _ _ 5 (0, 0) (heap_alloc_new W _)]
  have hj4 : j < 4 := hj
  have e0 : ((UInt8.ofNat x).toNat : Int) = (x : Int) % 256 := ofNat_int _
  have e1 : ((UInt8.ofNat (x / 256)).toNat : Int) = (x : Int) / 256 % 256 := by rw [ofNat_int]; omega
  have e2 : ((UInt8.ofNat (x / 65536)).toNat : Int) = (x : Int) / 65536 % 256 := by rw [ofNat_int]; omega
  have e3 : ((UInt8.ofNat (x / 16777216)).toNat : Int) = (x : Int) / 16777216 := by rw [ofNat_int]; omega
  rw [← e0, ← e1, ← e2, ← e3]
  match j, hj4 with
  | 0, _ => rfl
  | 1, _ => rfl
  | 2, _ => rfl
  | 3, _ => rfl
set_option maxHeartbeats 1000000 in
theorem seal_of (s : ByteArray) (w : World) (hs : s.size ≤ 140737488355328) : Calls Try.prog 63 #[.string s] w fun e w' => e = .returned (.string (markS s)) ∧ Below w.heap.size w w' := by
  have hsm : sm s.data.toList < 4294967296 := sm_lt _
  have HO := Lib.hid (of_one s w hs)
  unfold markS
  generalize sm s.data.toList = x at *
  have hcv := fun W => conv_four W x hsm
  go_enter Try.func63, Try.ntmps63
  go_wp2_with (go_at_call 97; refine HO.out.mono ?_; rintro e w1 ⟨rfl, hB⟩; have HB := Lib.hid hB; have hz1 := hB.size; clear hB)
  go_ret
  exact ⟨rfl, HB.out.alloc hz1 _⟩
theorem conv_one (W : World) (B : Nat) (v : Int) (c : UInt8) (hv : (c.toNat : Int) = v) (h : W.cell? ⟨B, 0, none⟩ = some (.int .u8 v)) :
    (convert 67 9 (.slice (some ⟨B, 0, none⟩) 1 1)).run Try.prog W = .ok (.string ⟨#[c]⟩) W := by
  subst hv
  refine conv_cells W B 1 [c] fun j hj => ?_
  obtain rfl : j = 0 := by simpa using hj
  exact h
theorem markL_get (n k : Nat) (h : k < 4) : (markL n)[k]? = some (UInt8.ofNat (n / 256 ^ k)) := by
  match k, h with
  | 0, _ => simp [markL]
  | 1, _ => rfl
  | 2, _ => rfl
  | 3, _ => rfl
theorem markL_take (n k : Nat) (h : k < 4) : (⟨((markL n).take k).toArray⟩ ++ ⟨#[UInt8.ofNat (n / 256 ^ k)]⟩ : ByteArray) = ⟨((markL n).take (k + 1)).toArray⟩ := by
  have e := markL_get n k h
  obtain ⟨hl, e2⟩ := List.getElem?_eq_some_iff.1 e
  rw [List.take_succ_eq_append_getElem hl, e2]
  exact ByteArray.mk_append_mk ((markL n).take k) [UInt8.ofNat (n / 256 ^ k)] |>.trans rfl
set_option maxHeartbeats 1000000 in
theorem mark_any (s : ByteArray) (w : World) (hs : s.size ≤ 140737488355328) : Calls Try.prog 46 #[.string s] w fun e w' => e = .returned (.string (markS s)) ∧ Below w.heap.size w w' := by
  have hsm : sm s.data.toList < 4294967296 := sm_lt _
  have HO := Lib.hid (rof_any s w hs)
  unfold markS
  generalize sm s.data.toList = x at *
  go_enter Try.func46, Try.ntmps46
  go_wp2_with (go_at_call 70; refine HO.out.mono ?_; rintro e w1 ⟨rfl, rfl⟩)
  go_loopw [3, 4, 5] (fun n o i wr => ∃ (k m : Nat) (t : ByteArray), k ≤ 4 ∧ i = .int .i64 k ∧ n = .int .u32 m ∧ o = .string t ∧ m = x / 256 ^ k ∧ t = ⟨((markL x).take k).toArray⟩ ∧ Below w.heap.size w wr) (fun _ _ i _ => 4 - (intOf i).toNat)
  case atStart => exact ⟨0, x, ⟨#[]⟩, by omega, rfl, rfl, rfl, by simp, rfl, Below.refl _ _⟩
  case round =>
    obtain ⟨k, m, t, hk, rfl, rfl, rfl, hm, ht, hB⟩ := hrel
    rename World => wr
    have hz1 := hB.size
    have HB := Lib.hid hB
    have HT := Lib.hid ht
    have HM := Lib.hid hm
    have hts : t.size ≤ 4 := by rw [ht]; show (List.take k (markL x)).toArray.size ≤ 4; simp; omega
    have hm32 : m < 4294967296 := by rw [hm]; exact Nat.lt_of_le_of_lt (Nat.div_le_self _ _) hsm
    clear hB hm ht
    by_cases hlt : k < 4
    · have hcv := fun W B => conv_one W B ((m : Int) % 256) (UInt8.ofNat m) (ofNat_int m)
      have HU := markL_take x k hlt
      rw [← HM.out] at HU
      have HU := Lib.hid HU
      generalize UInt8.ofNat m = c at *
      go_wp2
      go_roundw
      case rel => exact ⟨k + 1, m / 256, _, by omega, by go_num, by go_num, rfl, by rw [HM.out, Nat.div_div_eq_div_mul, Nat.pow_succ], by rw [HT.out]; exact HU.out, HB.out.alloc hz1 _⟩
      case measure => simp [intOf]; omega
    · obtain rfl : k = 4 := by omega
      go_wp2
      go_ret
      exact ⟨ret_str HT.out, HB.out⟩
end Go.Proofs.Ytnejahfeafllkaa
