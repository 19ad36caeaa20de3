/- WALKS of vint.PutInt, vint.PutText, of the reference's Num and Text, of the page's examples. -/
import Derived.Test.YtddleeenlpigfaaGreatDoorVc
namespace Go.Proofs.YtddleeenlpigfaaGreatDoor.Vn
open Go.RowKit
set_option maxHeartbeats 1000000 in
theorem putint_any (a : Option Addr) (cap q : Nat) (n : Int) (L0 : List UInt8) (w : World) (hq : L0.length = q) (hR : SRow w a L0) (hnil : a = none → cap = 0) (hq47 : q ≤ 70368744177664) (h1 : -9223372036854775808 ≤ n) (h2 : n ≤ 9223372036854775807) :
    Calls Tryz.prog 95 #[.slice a q cap, .int .i64 n] w (PutsS (L0 ++ nb (sgn n)) w) := by
  have H := Lib.hid (put_any a cap q (sgn n) L0 w hq hR hnil hq47 (sgn_lt h1 h2))
  have HU := Lib.hid (unsigned_any n w h1 h2)
  generalize L0 ++ nb (sgn n) = N at *
  generalize sgn n = m at *
  clear hR hnil hq
  go_enter Tryz.func95, Tryz.ntmps95
  go_wp2_with (first
    | (go_at_call 129; refine HU.out.mono ?_; rintro e w1 ⟨rfl, rfl⟩)
    | (go_at_call 93; refine H.out.mono ?_; rintro e w1 ⟨a1, c1, rfl, hR1, hn1, hB1⟩; have HR1 := Lib.hid hR1; have HN1 := Lib.hid hn1; have HB1 := Lib.hid hB1; clear hR1 hn1 hB1))
  go_ret
  exact ⟨a1, c1, rfl, HR1.out, HN1.out, HB1.out⟩
theorem below_bw (w : World) (b : ByteArray) : Below w.heap.size w (Lib.bytesWorld w 5 b) :=
  ⟨rfl, rfl, rfl, by rw [Lib.bytesWorld_size]; omega, fun k hk => Lib.bytesWorld_at_old w 5 b k hk⟩
theorem bw_row (w : World) (s : ByteArray) : SRow (Lib.bytesWorld w 5 s) (some ⟨w.heap.size, 0, none⟩) s.data.toList := by
  refine .inr ⟨_, rfl, fun _ => by rw [Lib.bytesWorld_size]; simp, fun j hj => ?_⟩
  have ha : (⟨w.heap.size, 0, none⟩ : Addr).add j = ⟨w.heap.size, j, none⟩ := by unfold Addr.add; split <;> simp_all
  rw [ha, Lib.bytesWorld_cell w 5 s j (by simpa using hj)]
  simp [List.getD, List.getElem?_eq_getElem hj]
def txt (s : ByteArray) : List UInt8 := nb s.size ++ s.data.toList
theorem nb_len (n : Nat) (h : n < 18446744073709551616) : (nb n).length ≤ 10 ∧ 0 < (nb n).length := by
  obtain ⟨_, _, c, _⟩ := hi_props 9 (n / 128) (by omega)
  unfold nb
  rw [List.length_append, List.length_singleton]; omega
/-- The three slices that PutText puts together. -/
theorem text_concat (a a1 : Option Addr) (cap c1 c2 q n1 : Nat) (L0 : List UInt8) (s : ByteArray) (w w1 : World) (hq : L0.length = q) (hR : SRow w1 a L0) (hnil : a = none → cap = 0) (hR1 : SRow w1 a1 (nb s.size)) (hnil1 : a1 = none → c1 = 0) (hn1 : (nb s.size).length = n1)
    (hq47 : q ≤ 70368744177664) (hs : s.size ≤ 70368744177000) (hB : Below w.heap.size w w1) :
    Calls Tryz.prog 128 #[.slice (some ⟨(Lib.bytesWorld w1 5 s).heap.size, 0, none⟩) 3 3] ((Lib.bytesWorld w1 5 s).alloc (.cells #[.slice a q cap, .slice a1 n1 c1, .slice (some ⟨w1.heap.size, 0, none⟩) s.size c2] 74)) (PutsS (L0 ++ txt s) w) := by
  have hb := below_bw w1 s
  have hS := three_segs (c3 := c2) (v1 := .slice a q cap) (v2 := .slice a1 n1 c1) (v3 := .slice (some ⟨w1.heap.size, 0, none⟩) s.size c2) (hR.below hb) (hR1.below hb) (bw_row w1 s) hnil hnil1 (fun h => by cases h) (by rw [hq]) (by rw [hn1]) (by simp)
  have htot : tot [(a, cap, L0), (a1, c1, nb s.size), (some ⟨w1.heap.size, 0, none⟩, c2, s.data.toList)] = L0 ++ txt s := by simp [tot, txt]
  obtain ⟨l1, l2⟩ := nb_len s.size (by omega)
  have hlen : (L0 ++ txt s).length = q + (n1 + s.size) := by simp [txt, hq, hn1]
  have hc := concat_any _ 0 3 3 _ _ rfl (by decide) hS (by rw [htot, hlen]; omega) (by rw [htot, hlen]; omega)
  rw [htot] at hc
  refine hc.mono fun e w' ⟨a', c', he, hR', hB'⟩ => ⟨a', c', he, hR', fun e0 => ?_, ?_⟩
  · subst e0
    have := SRow.none_ hR'
    rw [this] at hlen; simp at hlen; omega
  · refine (hB.trans (hb.mono hB.size)).trans ?_
    exact (((Below.refl _ _).alloc (Nat.le_refl _) _).trans (hB'.mono (by simp))).mono (by rw [Lib.bytesWorld_size]; have := hB.size; omega)
set_option maxHeartbeats 1000000 in
theorem puttext_any (a : Option Addr) (cap q : Nat) (s : ByteArray) (L0 : List UInt8) (w : World) (hq : L0.length = q) (hR : SRow w a L0) (hnil : a = none → cap = 0) (hq47 : q ≤ 70368744177664) (hs : s.size ≤ 70368744177000) :
    Calls Tryz.prog 96 #[.slice a q cap, .string s] w (PutsS (L0 ++ txt s) w) := by
  have H := Lib.hid (put_any none 0 0 s.size [] w rfl (.inl ⟨rfl, rfl⟩) (fun _ => rfl) (by decide) (by omega))
  obtain ⟨n1, hn1⟩ : ∃ n1, (nb s.size).length = n1 := ⟨_, rfl⟩
  have HT := fun a1 c1 w1 x y z b => Lib.hid (text_concat a a1 cap c1 (grownCap w1 s.size 0 5) q n1 L0 s w w1 hq x hnil y z hn1 hq47 hs b)
  have HR := Lib.hid hR
  unfold PutsS at H
  rw [List.nil_append, hn1] at H
  clear hn1
  have hcv := fun W => Lib.run_convert_string_bytes (P := Tryz.prog) W 9 74 5 s (u := .string) (by kernel_rfl) (by kernel_rfl) (by kernel_rfl)
  generalize L0 ++ txt s = N at *
  clear hR hnil hq
  go_enter Tryz.func96, Tryz.ntmps96
  go_wp2_with (first
    | (go_at_call 93; refine H.out.mono ?_; rintro e w1 ⟨a1, c1, rfl, hR1, hn1, hB1⟩; have HR1 := Lib.hid hR1; have HN1 := Lib.hid hn1; have HB1 := Lib.hid hB1; clear hR1 hn1 hB1)
    | (go_at_call 128; refine (HT a1 c1 w1 (HR.out.below HB1.out) HR1.out HN1.out HB1.out).out.mono ?_; rintro e w2 ⟨a2, c2, rfl, hR2, hn2, hB2⟩; have HR2 := Lib.hid hR2; have HN2 := Lib.hid hn2; have HB2 := Lib.hid hB2; clear hR2 hn2 hB2))
  go_ret
  exact ⟨a2, c2, rfl, HR2.out, HN2.out, HB2.out⟩
end Go.Proofs.YtddleeenlpigfaaGreatDoor.Vn
