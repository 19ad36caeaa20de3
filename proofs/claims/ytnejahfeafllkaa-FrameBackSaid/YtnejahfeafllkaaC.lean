/- WALKS of crc.Of and of the reference's Of. -/
import Derived.Test.YtnejahfeafllkaaB
namespace Go.Proofs.Ytnejahfeafllkaa
open Go.RowKit
/-- The bytes of the texts. -/
def flat (xs : List ByteArray) : List UInt8 := (xs.map (·.data.toList)).flatten
/-- A slice of texts that came in or that the call made: where its texts lie. -/
structure StrRow (w : World) (a : Option Addr) (len : Nat) (xs : List ByteArray) : Prop where
  count : xs.length = len
  max : len ≤ 140737488355328
  fits : ∀ (i : Nat) (x : ByteArray), xs[i]? = some x → x.size ≤ 140737488355328
  at_ : 0 < len → ∃ b off, a = some ⟨b, off, none⟩ ∧ b < w.heap.size ∧ ∀ (i : Nat) (x : ByteArray), xs[i]? = some x → w.cell? ⟨b, off + i, none⟩ = some (.string x)

theorem StrRow.below {w w' : World} {a : Option Addr} {len : Nat} {xs : List ByteArray} (h : StrRow w a len xs) (hb : Below w.heap.size w w') : StrRow w' a len xs :=
  ⟨h.count, h.max, h.fits, fun h0 => by
    obtain ⟨b, off, e, hlt, hc⟩ := h.at_ h0
    exact ⟨b, off, e, Nat.lt_of_lt_of_le hlt hb.size, fun i x hx => by rw [hb.cell (p := ⟨b, off + i, none⟩) hlt]; exact hc i x hx⟩⟩
theorem flat_succ {xs : List ByteArray} {s : ByteArray} {k : Nat} (h : xs[k]? = some s) : flat (xs.take (k + 1)) = flat (xs.take k) ++ s.data.toList := by
  obtain ⟨hl, e⟩ := List.getElem?_eq_some_iff.1 h
  rw [List.take_succ_eq_append_getElem hl, e]; simp [flat]
theorem byte_xor (m c : Nat) (h : c < 256) : bits .xor .u8 ((m : Int) % 256) (c : Int) = ((m % 256 ^^^ c : Nat) : Int) := by
  rw [show (m : Int) % 256 = ((m % 256 : Nat) : Int) by omega]
  exact u8_xor_nat _ _ (by omega) h
theorem val_xor (t m : Nat) (ht : t < 4294967296) (hm : m < 4294967296) : Value.int .u32 (bits .xor .u32 (t : Int) ((m : Int) / 256)) = .int .u32 ((t ^^^ m / 256 : Nat) : Int) := by
  rw [show (m : Int) / 256 = ((m / 256 : Nat) : Int) by omega, u32_xor_nat _ _ ht (by omega)]
theorem drop_at (s : ByteArray) (i : Nat) (h : i < s.size) : s.data.toList.drop i = s[i] :: s.data.toList.drop (i + 1) := by
  have hl : i < s.data.toList.length := by simpa using h
  rw [List.drop_eq_getElem_cons hl]; rfl
theorem take_at (s : ByteArray) (i : Nat) (h : i < s.size) : s.data.toList.take (i + 1) = s.data.toList.take i ++ [s[i]] := by
  have hl : i < s.data.toList.length := by simpa using h
  rw [List.take_succ_eq_append_getElem hl]; rfl
theorem cr_snoc (x : Nat) (L : List UInt8) (c : UInt8) : cr x (L ++ [c]) = tb (cr x L ^^^ c.toNat) := by
  rw [cr_app, cr_cons, cr_nil]
theorem not32 (n : Nat) (h : n < 4294967296) : bits .xor .u32 4294967295 (n : Int) = ((n ^^^ 4294967295 : Nat) : Int) := by
  rw [Nat.xor_comm]; exact u32_xor_nat 4294967295 n (by decide) h
set_option maxRecDepth 100000 in
set_option maxHeartbeats 1000000 in
theorem of_row (a : Option Addr) (len cap : Nat) (xs : List ByteArray) (w : World) (hS : StrRow w a len xs) : Calls Try.prog 97 #[.slice a len cap] w fun e w' => e = .returned (.int .u32 ((sm (flat xs) : Nat) : Int)) ∧ Below w.heap.size w w' := by
  have hmax := hS.max
  have HS := Lib.hid hS
  clear hS
  go_enter Try.func97, Try.ntmps97
  go_wp2_with (first
    | (go_at_call 108; refine (steps_any _).mono ?_; rintro e w1 ⟨cs, rfl, hT, hB⟩; have HT := Lib.hid hT; have HB := Lib.hid hB; have hs2 := hT.size; have hz1 := hB.size; clear hT hB)
    | (refine wpList_alloc256 rfl rfl ?_)
    | (refine wpList_store_row rfl 160 (.tmp 3) (.tmp 8) rfl w1.heap.size cs rfl rfl 160 zero256 (heap_alloc_new w1 _) (size160 hs2) (by rw [hs2]; kernel_rfl) (tab_ones HT.out) ?_))
  have HB2 := Lib.hid (below_setRow (HB.out.alloc hz1 (.cells zero256 160)) hz1 cs)
  have HC := Lib.hid (show ∀ j, j < 256 → ((w1.alloc (.cells zero256 160)).setRow w1.heap.size cs).cell? ⟨w1.heap.size, j, none⟩ = some (.int .u32 ((tb j : Nat) : Int)) from fun j hj => by
    rw [cell_setRow_same _ _ _ zero256 cs 160 _ (heap_alloc_new w1 _)]; exact HT.out.at_ j hj (.inl hj))
  have HS2 := Lib.hid (HS.out.below HB2.out)
  clear HB HT HS hs2 hz1
  generalize (w1.alloc (.cells zero256 160)).setRow w1.heap.size cs = w2 at *
  go_loop [4, 11] (fun x i => ∃ (k n : Nat), k ≤ len ∧ i = .int .i64 k ∧ x = .int .u32 n ∧ n = cr 4294967295 (flat (xs.take k))) (fun _ i => len - (intOf i).toNat)
  case atStart => exact ⟨0, 4294967295, by omega, rfl, rfl, rfl⟩
  case round =>
    obtain ⟨k, n, hk, rfl, rfl, hn⟩ := hrel
    have HN := Lib.hid hn
    have hn32 : n < 4294967296 := by rw [hn]; exact cr_lt _ _ (by decide)
    clear hn
    by_cases hlt : k < len
    · obtain ⟨b, off, rfl, _, hc⟩ := HS2.out.at_ (by omega)
      obtain ⟨s, hs⟩ : ∃ s, xs[k]? = some s := ⟨xs[k]'(by rw [HS2.out.count]; exact hlt), List.getElem?_eq_getElem _⟩
      have hcell := hc k s hs
      have hfit := HS2.out.fits k s hs
      have HF := Lib.hid (flat_succ hs)
      clear hc hs
      go_wp2
      go_loop [4, 17] (fun x j => ∃ (i m : Nat), i ≤ s.size ∧ j = .int .i64 i ∧ x = .int .u32 m ∧ m = cr n (s.data.toList.take i)) (fun _ j => s.size - (intOf j).toNat)
      case atStart => exact ⟨0, n, by omega, rfl, rfl, rfl⟩
      case round =>
        obtain ⟨i, m, hi, rfl, rfl, hm⟩ := hrel
        have HM := Lib.hid hm
        have hm32 : m < 4294967296 := by rw [hm]; exact cr_lt _ _ hn32
        clear hm
        by_cases hli : i < s.size
        · have hsb := s[i].toNat_lt
          have HI := Lib.hid (cr_snoc n (s.data.toList.take i) s[i])
          rw [← take_at s i hli] at HI
          have hx := byte_xor m s[i].toNat (by omega)
          have hq : m % 256 ^^^ s[i].toNat < 256 := Nat.xor_lt_two_pow (n := 8) (by omega) (by omega)
          have hcq := HC.out _ hq
          have HT := Lib.hid (tb_step m s[i].toNat)
          have ht := tb_lt (n := m % 256 ^^^ s[i].toNat) (by omega)
          generalize hqq : m % 256 ^^^ s[i].toNat = q at *
          generalize tb q = t at *
          clear hqq
          go_wp2
          go_round
          case rel => exact ⟨i + 1, t ^^^ m / 256, by omega, by go_num, val_xor t m ht hm32, by rw [HI.out, HT.out, HM.out]⟩
          case measure => simp [intOf]; omega
        · obtain rfl : i = s.size := by omega
          go_wp2
          go_round
          case rel => exact ⟨k + 1, m, by omega, by go_num, rfl, by rw [HM.out, HF.out, cr_app, ← HN.out, List.take_of_length_le (by simp)]⟩
          case measure => simp [intOf]; omega
    · obtain rfl : k = len := by omega
      have hx := not32 n hn32
      have hsg : IntKind.u32.signed = false := rfl
      have hmx : IntKind.u32.max = 4294967295 := by decide
      go_wp2
      go_ret
      exact ⟨ret_int (by rw [sm, HN.out, List.take_of_length_le (by rw [HS2.out.count]; exact Nat.le_refl _)]), HB2.out⟩
theorem sm_lt (L : List UInt8) : sm L < 4294967296 := Nat.xor_lt_two_pow (n := 32) (cr_lt L _ (by decide)) (by decide)
end Go.Proofs.Ytnejahfeafllkaa
