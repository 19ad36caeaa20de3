/- WALKS of the reference's Num and Text, of the page's examples. -/
import Derived.Test.YtddleeenlpigfaaGreatDoorVd
namespace Go.Proofs.YtddleeenlpigfaaGreatDoor.Vn
open Go.RowKit
theorem conv_row {w : World} {a : Option Addr} {L : List UInt8} (c : Nat) (h : SRow w a L) : (convert 74 9 (.slice a L.length c)).run Tryz.prog w = .ok (.string ⟨L.toArray⟩) w := by
  rcases h with ⟨rfl, rfl⟩ | ⟨ad, rfl, _, h2⟩
  · exact run_convert_bytes_nil w 74 5 Tryz.underlying74 Tryz.underlying5 0 c 9 Tryz.underlying9
  · exact run_convert_bytes_back w 74 9 5 ad c L Tryz.underlying74 Tryz.underlying5 Tryz.underlying9 h2
theorem conv_one (W : World) (B : Nat) (v : Int) (c : UInt8) (hv : (c.toNat : Int) = v) (h : W.cell? ⟨B, 0, none⟩ = some (.int .u8 v)) :
    (convert 74 9 (.slice (some ⟨B, 0, none⟩) 1 1)).run Tryz.prog W = .ok (.string ⟨#[c]⟩) W := by
  subst hv
  refine conv_row (L := [c]) 1 (.inr ⟨⟨B, 0, none⟩, rfl, fun _ => World.block_lt_of_cell? _ _ h, fun j hj => ?_⟩)
  obtain rfl : j = 0 := by simpa using hj
  exact h
def numS (n : Nat) : ByteArray := ⟨(nb n).toArray⟩
theorem cons_app (c : UInt8) (L : List UInt8) : (⟨#[c]⟩ ++ ⟨L.toArray⟩ : ByteArray) = ⟨(c :: L).toArray⟩ := ByteArray.mk_append_mk [c] L
/-- The reference's way: k rounds are done. -/
structure NumAt (N : List UInt8) (k m : Nat) (L : List UInt8) : Prop where
  lt : m / 128 < 128 ^ (9 - k)
  len : L.length ≤ k + 1
  is : hi (9 - k) (m / 128) ++ L = N
theorem NumAt.first {n : Nat} (h : n < 18446744073709551616) : NumAt (nb n) 0 n [UInt8.ofNat (n % 128)] := ⟨by omega, by simp, rfl⟩
theorem NumAt.next {N L : List UInt8} {k m : Nat} (h : NumAt N k m L) (hk : k < 9) (hm : 0 < m / 128) : NumAt N (k + 1) (m / 128) (UInt8.ofNat (m / 128 % 128 + 128) :: L) := by
  obtain ⟨f, hf⟩ : ∃ f, 9 - k = f + 1 := ⟨8 - k, by omega⟩
  obtain ⟨h1, h2, h3⟩ := h
  rw [hf] at h1 h3
  refine ⟨?_, by simp; omega, ?_⟩
  · rw [show 9 - (k + 1) = f by omega]; rw [Nat.pow_succ] at h1; omega
  · rw [show 9 - (k + 1) = f by omega]; exact hi_step hm h3
theorem NumAt.stay {N L : List UInt8} {k m : Nat} (h : NumAt N k m L) (hm : m / 128 = 0) : NumAt N (k + 1) (m / 128) L := by
  obtain ⟨h1, h2, h3⟩ := h
  rw [hm] at h3 ⊢
  refine ⟨by simp; exact Nat.pow_pos (by decide), by omega, ?_⟩
  rw [show 0 / 128 = 0 by rfl, ← hi_stop h3]
  cases 9 - (k + 1) <;> simp [hi]
theorem NumAt.last {N L : List UInt8} {m : Nat} (h : NumAt N 9 m L) : L = N := by simpa [hi] using h.is
theorem ofNat_hi' (m : Nat) : ((UInt8.ofNat (m % 128 + 128)).toNat : Int) = (m : Int) % 128 + 128 := ofNat_hi m
set_option maxHeartbeats 1000000 in
theorem num_any (n : Nat) (w : World) (hn : n < 18446744073709551616) : Calls Tryz.prog 98 #[.int .u64 n] w fun e w' => e = .returned (.string (numS n)) ∧ Below w.heap.size w w' := by
  have hcv := fun W B => conv_one W B ((n : Int) % 128) (UInt8.ofNat (n % 128)) (ofNat_lo n)
  have H0 := Lib.hid (NumAt.first hn)
  generalize UInt8.ofNat (n % 128) = c0 at *
  unfold numS
  generalize nb n = N at *
  go_enter Tryz.func98, Tryz.ntmps98
  go_wp2
  clear hcv
  go_loopw [0, 3, 4] (fun v o i wr => ∃ (k m : Nat) (L : List UInt8) (t : ByteArray), k ≤ 9 ∧ m < 18446744073709551616 ∧ i = .int .i64 k ∧ v = .int .u64 m ∧ o = .string t ∧ t = ⟨L.toArray⟩ ∧ NumAt N k m L ∧ Below w.heap.size w wr) (fun _ _ i _ => 9 - (intOf i).toNat)
  case atStart => exact ⟨0, n, [c0], _, by omega, hn, rfl, rfl, rfl, rfl, H0.out, (Below.refl _ w).alloc (Nat.le_refl _) _⟩
  case round =>
    obtain ⟨k, m, L, t, hk, hm64, rfl, rfl, rfl, ht, hA, hB⟩ := hrel
    rename World => wr
    have hz1 := hB.size
    have HB := Lib.hid hB
    have HA := Lib.hid hA
    have hts : t.size ≤ 10 := by rw [ht]; have := hA.len; show L.toArray.size ≤ 10; simp; omega
    have HT := Lib.hid ht
    clear hB ht hA
    by_cases hlt : k < 9
    · obtain ⟨x, hx⟩ : ∃ x, x = m / 128 := ⟨_, rfl⟩
      have hx' : (m : Int) / 128 = (x : Int) := by omega
      by_cases hx0 : 0 < x
      · have hcv := fun W B => conv_one W B ((x : Int) % 128 + 128) (UInt8.ofNat (x % 128 + 128)) (ofNat_hi x)
        have HN := Lib.hid (by rw [hx]; exact HA.out.next hlt (by omega) : NumAt N (k + 1) x (UInt8.ofNat (x % 128 + 128) :: L))
        generalize UInt8.ofNat (x % 128 + 128) = c at *
        have HX := Lib.hid (show x < 18446744073709551616 by omega)
        have HC := Lib.hid (cons_app c L)
        clear hx
        go_wp2
        go_roundw
        case rel => exact ⟨k + 1, x, _, _, by omega, HX.out, by go_num, rfl, rfl, by rw [HT.out]; exact HC.out, HN.out, HB.out.alloc hz1 _⟩
        case measure => simp [intOf]; omega
      · obtain rfl : x = 0 := by omega
        have HN := Lib.hid (HA.out.stay hx.symm)
        have HX := Lib.hid hx
        clear hx
        go_wp2
        go_roundw
        case rel => exact ⟨k + 1, m / 128, L, t, by omega, by omega, by go_num, by rw [← HX.out]; rfl, rfl, HT.out, HN.out, HB.out⟩
        case measure => simp [intOf]; omega
    · obtain rfl : k = 9 := by omega
      have HN := Lib.hid HA.out.last
      go_wp2
      go_ret
      exact ⟨ret_str (by rw [HT.out, HN.out]), HB.out⟩
theorem numS_size (n : Nat) (h : n < 18446744073709551616) : (numS n).size ≤ 10 := (nb_len n h).1
def txtS (s : ByteArray) : ByteArray := numS s.size ++ s
theorem txtS_is (s : ByteArray) : txtS s = ⟨(txt s).toArray⟩ := by
  apply ByteArray.ext
  apply Array.toList_inj.1
  simp [txtS, txt, numS]
set_option maxHeartbeats 1000000 in
theorem rtext_any (s : ByteArray) (w : World) (hs : s.size ≤ 70368744177000) : Calls Tryz.prog 100 #[.string s] w fun e w' => e = .returned (.string (txtS s)) ∧ Below w.heap.size w w' := by
  have H := Lib.hid (num_any s.size w (by omega))
  have hz := numS_size s.size (by omega)
  unfold txtS
  generalize numS s.size = t at *
  go_enter Tryz.func100, Tryz.ntmps100
  go_wp2_with (go_at_call 98; refine H.out.mono ?_; rintro e w1 ⟨rfl, hB⟩; have HB := Lib.hid hB; clear hB)
  go_ret
  exact ⟨rfl, HB.out⟩
end Go.Proofs.YtddleeenlpigfaaGreatDoor.Vn
