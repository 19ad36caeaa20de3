/- WALK of the law VintPuts. -/
import Derived.Test.YtmfikjpmieoikaaL
import Derived.Deep.RegionWith
import Derived.Deep.RegionHeld3
import Derived.Outline
namespace Go.Proofs.Ytmfikjpmieoikaa
open Go.RowKit
theorem w64_lo (n : Nat) : -9223372036854775808 ≤ wrap64 (n : Int) := by unfold wrap64; omega
theorem w64_hi (n : Nat) : wrap64 (n : Int) ≤ 9223372036854775807 := by unfold wrap64; omega
theorem own_open {W : World} {base q : Nat} {v : Value} {L : List UInt8} (h : W.ownsRow base 5 1 v (q + 1) (u8s L ++ [.int .u8 7])) (hL : L.length = q) :
    ∃ g cap, v = .slice (some ⟨g, 0, none⟩) (q + 1) cap ∧ q + 1 ≤ cap ∧ cap ≤ maxLen ∧ g < W.heap.size ∧ SRow W (some ⟨g, 0, none⟩) L ∧ W.cell? ⟨g, q, none⟩ = some (.int .u8 7) := by
  rcases h.2 with ⟨_, hn0⟩ | ⟨g, cap, cur, rfl, hb, hg, hcap, hm, hsz, htake⟩
  · omega
  · have hget : ∀ j u, (u8s L ++ [Value.int .u8 7])[j]? = some u → W.cell? ⟨g, j, none⟩ = some u := fun j u hj => by
      have hl : j < (u8s L ++ [Value.int .u8 7]).length := (List.getElem?_eq_some_iff.1 hj).1
      have hl2 : j < q + 1 := by simpa [u8s, hL] using hl
      rw [← htake, Nat.mul_one, List.getElem?_take_of_lt (by omega)] at hj
      rw [cell_of_row _ _ _ _ 5 (0, 0) hg]
      simpa using hj
    refine ⟨g, cap, rfl, hcap, hm, (Array.getElem?_eq_some_iff.1 hg).1, .inr ⟨_, rfl, fun _ => (Array.getElem?_eq_some_iff.1 hg).1, fun j hj => ?_⟩, hget q _ ?_⟩
    · have ha : (⟨g, 0, none⟩ : Addr).add j = ⟨g, j, none⟩ := by unfold Addr.add; split <;> simp_all
      rw [ha]
      refine hget j _ ?_
      rw [List.getElem?_append_left (by simpa [u8s] using hj)]
      simp [u8s, List.getElem?_eq_getElem hj]
    · rw [List.getElem?_append_right (by simp [u8s, hL])]
      simp [u8s, hL]
/-- What holds of the law's own slice from then on. -/
structure Own (w0 w : World) (g q : Nat) (L : List UInt8) : Prop where
  below : Below w0.heap.size w0 w
  row : SRow w (some ⟨g, 0, none⟩) L
  last : w.cell? ⟨g, q, none⟩ = some (.int .u8 7)
  lt : g < w.heap.size
theorem Own.drew {w0 w : World} {g q : Nat} {L : List UInt8} (h : Own w0 w g q L) : Own w0 w.drew g q L := ⟨h.below.drew, h.row, h.last, h.lt⟩
theorem Own.step {w0 w w' : World} {g q : Nat} {L : List UInt8} (h : Own w0 w g q L) (hb : Below w.heap.size w w') : Own w0 w' g q L :=
  ⟨h.below.trans (hb.mono h.below.size), h.row.below hb, (hb.cell (p := ⟨g, q, none⟩) h.lt).trans h.last, Nat.lt_of_lt_of_le h.lt hb.size⟩
/-- A call whose answer is a slice of m bytes, these. -/
def PutsM (N : List UInt8) (m : Nat) (w : World) (e : Ending) (w' : World) : Prop := ∃ a c, e = .returned (.slice a m c) ∧ SRow w' a N ∧ Below w.heap.size w w'
def ConvM (N : List UInt8) (m : Nat) (S : ByteArray) : Prop := ∀ (W : World) (a : Option Addr) (c : Nat), SRow W a N → (convert 22 9 (.slice a m c)).run Try.prog W = .ok (.string S) W
set_option maxRecDepth 100000 in
set_option maxHeartbeats 4000000 in
theorem puts_core (a : Option Addr) (q cap n k m1 m2 m3 : Nat) (L N1 N2 N3 : List UInt8) (F S1 S2 S3 T1 T2 T3 s : ByteArray) (w : World) (hL : Hid (L.length = q)) (hR : Hid (SRow w a L)) (hnil : Hid (a = none → cap = 0)) (hq : q ≤ 300) (hs : s.size ≤ 300)
    (CF : Hid (ConvM L q F)) (C1 : Hid (ConvM N1 m1 S1)) (C2 : Hid (ConvM N2 m2 S2)) (C3 : Hid (ConvM N3 m3 S3))
    (P1 : Hid (∀ W g cp, SRow W (some ⟨g, 0, none⟩) L → Calls Try.prog 10 #[.slice (some ⟨g, 0, none⟩) q cp, .int .u64 n] W (PutsM N1 m1 W)))
    (P2 : Hid (∀ W g cp, SRow W (some ⟨g, 0, none⟩) L → Calls Try.prog 11 #[.slice (some ⟨g, 0, none⟩) q cp, .int .i64 (IntKind.i64.wrap (n : Int))] W (PutsM N2 m2 W)))
    (P3 : Hid (∀ W g cp, SRow W (some ⟨g, 0, none⟩) L → Calls Try.prog 12 #[.slice (some ⟨g, 0, none⟩) q cp, .string s] W (PutsM N3 m3 W)))
    (Q1 : Hid (∀ W, Calls Try.prog 13 #[.int .u64 n] W fun e w' => e = .returned (.string T1) ∧ Below W.heap.size W w'))
    (Q2 : Hid (∀ W, Calls Try.prog 14 #[.int .i64 (IntKind.i64.wrap (n : Int))] W fun e w' => e = .returned (.int .u64 k) ∧ W = w'))
    (Q3 : Hid (∀ W, Calls Try.prog 13 #[.int .u64 k] W fun e w' => e = .returned (.string T2) ∧ Below W.heap.size W w'))
    (Q4 : Hid (∀ W, Calls Try.prog 15 #[.string s] W fun e w' => e = .returned (.string T3) ∧ Below W.heap.size W w'))
    (e1 : F ++ T1 = S1) (e2 : F ++ T2 = S2) (e3 : F ++ T3 = S3) (b0 : F.size ≤ 300) (b1 : T1.size ≤ 10) (b2 : T2.size ≤ 10) (b3 : T3.size ≤ 310) :
    Calls Try.prog 3 #[.slice a q cap, .int .u64 n, .string s] w fun e w' => e = .returned (.bool true) ∧ Below w.heap.size w w' := by
  have hcv0 := CF.out w a cap hR.out
  obtain ⟨i0, hi, hz0, hz1, hz2⟩ := info_parts Try.info5
  have HI := Lib.hid hi
  have HZ0 := Lib.hid hz0
  have HZ1 := Lib.hid hz1
  have HZ2 := Lib.hid hz2
  clear hi hz0 hz1 hz2
  rcases a with _ | ad
  case' none =>
    have hL0 : L = [] := SRow.none_ hR.out
    have HQ0 := Lib.hid (show q = 0 by rw [← hL.out, hL0]; rfl)
    have HC0 := Lib.hid (hnil.out rfl)
    have HL0 := Lib.hid hL0
    have HX := Lib.hid (show Value.slice none q cap = .slice none 0 0 by rw [HQ0.out, HC0.out])
    clear hnil hL0
    go_enter Try.func3, Try.ntmps3
    go_wp2_with (first
      | (at_builtin; refine wpList_append_own_none rfl (.tmp 23) (.tmp 24) 22 rfl w.heap.size 5 i0 1 Try.underlying22 HI.out _ 0 [] rfl (World.ownsRow_lit w #[] 0 (Nat.le_refl _) (by decide) rfl) HX.out ?_)
      | (at_builtin; refine wpList_append_own _ rfl (.tmp 26) (.tmp 27) 22 rfl w.heap.size 5 i0 (.int .u8 0) 1 1 Try.underlying22 HI.out HZ0.out HZ1.out HZ2.out rfl (by decide) _ 0 [] rfl ((World.ownsRow_lit w #[] 0 (Nat.le_refl _) (by decide) rfl).alloc _) ⟨w.heap.size + 1, 0, none⟩ 1 1 [.int .u8 7] rfl rfl (by have := cell_one_new (w.alloc (.cells #[] 5)) (.int .u8 7) 5; simpa using this) (fun x hx => by simp at hx; subst hx; rfl) (by decide) (by decide) (by simp; omega) ?_; intro v' w4 hown' hgrow4 hnil4; have B4 := Lib.hid ((((Below.refl _ w).alloc (Nat.le_refl _) _).alloc (by simp) _).grown hgrow4 (by simp; omega) (fun k hk => by cases hk; exact Nat.le_refl _)); obtain ⟨g, cp, rfl, hc1, hc2, hg, hS, hcell7⟩ := own_open (q := q) (L := L) (by rw [HQ0.out, HL0.out]; exact hown') hL.out; have OW := Lib.hid (Own.mk B4.out hS hcell7 hg); clear hown' hgrow4 hnil4 hS hg hcell7 B4))
    clear HX HQ0 HC0 HL0
  case' some =>
    have HC : Hid (∀ (w' : World), Below w.heap.size w w' → ∀ i u, (u8s L)[i]? = some u → w'.cell? (ad.add i) = some u) := fun w' hb i u hu => by
      rcases hR.out.below hb with h | ⟨ad2, h, _, h2⟩
      · cases h.1
      · cases h
        obtain ⟨hl, e⟩ := List.getElem?_eq_some_iff.1 hu
        have hl2 : i < L.length := by simpa [u8s] using hl
        rw [h2 i hl2, ← e]; simp [u8s]
    go_enter Try.func3, Try.ntmps3
    go_wp2_with (first
      | (at_builtin; refine wpList_append_own _ rfl (.tmp 23) (.tmp 24) 22 rfl w.heap.size 5 i0 (.int .u8 0) 1 1 Try.underlying22 HI.out HZ0.out HZ1.out HZ2.out rfl (by decide) _ 0 [] rfl (World.ownsRow_lit w #[] 0 (Nat.le_refl _) (by decide) rfl) ad q cap (u8s L) rfl (by simp [u8s, hL.out]) (HC.out _ ((Below.refl _ w).alloc (Nat.le_refl _) _)) (fun x hx => by simp [u8s] at hx; obtain ⟨d, _, rfl⟩ := hx; rfl) (by unfold maxLen; omega) (by omega) (by simp) ?_; intro v' w3 hown' hgrow3 hnil3; simp only [Nat.zero_add, List.nil_append] at hown'; have OW3 := Lib.hid hown'; have B3 := Lib.hid (((Below.refl _ w).alloc (Nat.le_refl _) _).grown hgrow3 (by simp) (fun k hk => by cases hk; exact Nat.le_refl _)); clear hown' hgrow3 hnil3)
      | (at_builtin; refine wpList_append_own _ rfl (.tmp 26) (.tmp 27) 22 rfl w.heap.size 5 i0 (.int .u8 0) 1 1 Try.underlying22 HI.out HZ0.out HZ1.out HZ2.out rfl (by decide) _ _ _ rfl (OW3.out.alloc _) ⟨w3.heap.size, 0, none⟩ 1 1 [.int .u8 7] rfl rfl (cell_one_new _ _ _) (fun x hx => by simp at hx; subst hx; rfl) (by unfold maxLen; omega) (by omega) (by have := B3.out.size; simp; omega) ?_; intro v' w4 hown' hgrow4 hnil4; have B4 := Lib.hid ((B3.out.alloc B3.out.size _).grown hgrow4 (by have := B3.out.size; simp; omega) (own_base OW3.out)); obtain ⟨g, cp, rfl, hc1, hc2, hg, hS, hcell7⟩ := own_open hown' hL.out; have OW := Lib.hid (Own.mk B4.out hS hcell7 hg); clear hown' hgrow4 hnil4 hS hg hcell7 B4))
    clear HC OW3 B3
  all_goals
    have hqc : q ≤ cp := by omega
    clear HI HZ0 HZ1 HZ2 hcv0
    go_region_with (first
      | (go_at_call 10; (with_reducible refine (P1.out _ g cp ?_).mono ?_); (exact OW.out.drew.row); rintro e w5 ⟨a1, c1, rfl, hR1, hB⟩; replace OW := Lib.hid (OW.out.drew.step hB); have R1 := Lib.hid hR1; clear hR1 hB)
      | (go_at_call 11; (with_reducible refine (P2.out _ g cp ?_).mono ?_); (exact OW.out.row); rintro e w6 ⟨a2, c2, rfl, hR2, hB⟩; replace OW := Lib.hid (OW.out.step hB); replace R1 := Lib.hid (R1.out.below hB); have R2 := Lib.hid hR2; clear hR2 hB)
      | (go_at_call 12; (with_reducible refine (P3.out _ g cp ?_).mono ?_); (exact OW.out.row); rintro e w7 ⟨a3, c3, rfl, hR3, hB⟩; replace OW := Lib.hid (OW.out.step hB); replace R1 := Lib.hid (R1.out.below hB); replace R2 := Lib.hid (R2.out.below hB); have R3 := Lib.hid hR3; clear hR3 hB))
  all_goals
    go_wp2
    replace OW := Lib.hid OW.out.drew
    replace R1 := Lib.hid (show SRow w7.drew a1 N1 from R1.out)
    replace R2 := Lib.hid (show SRow w7.drew a2 N2 from R2.out)
    replace R3 := Lib.hid (show SRow w7.drew a3 N3 from R3.out)
    have z1 : ¬ 9223372036854775807 < F.size + T1.size := by omega
    have z2 : ¬ 9223372036854775807 < F.size + T2.size := by omega
    have z3 : ¬ 9223372036854775807 < F.size + T3.size := by omega
    go_region_held3 (fun w' => (convert 22 9 (.slice a1 m1 c1)).run Try.prog w' = .ok (.string S1) w' ∧ (convert 22 9 (.slice a2 m2 c2)).run Try.prog w' = .ok (.string S2) w' ∧ (convert 22 9 (.slice a3 m3 c3)).run Try.prog w' = .ok (.string S3) w')
      (first | exact ⟨C1.out _ _ _ R1.out, C2.out _ _ _ R2.out, C3.out _ _ _ R3.out⟩)
      (first
      | (go_at_call 13; (with_reducible refine (Q1.out _).mono ?_); rintro e w8 ⟨rfl, hB⟩; replace OW := Lib.hid (OW.out.step hB); replace R1 := Lib.hid (R1.out.below hB); replace R2 := Lib.hid (R2.out.below hB); replace R3 := Lib.hid (R3.out.below hB); clear hB)
      | (go_at_call 14; (with_reducible refine (Q2.out _).mono ?_); rintro e w9 ⟨rfl, rfl⟩)
      | (go_at_call 13; (with_reducible refine (Q3.out _).mono ?_); rintro e w10 ⟨rfl, hB⟩; replace OW := Lib.hid (OW.out.step hB); replace R1 := Lib.hid (R1.out.below hB); replace R2 := Lib.hid (R2.out.below hB); replace R3 := Lib.hid (R3.out.below hB); clear hB)
      | (go_at_call 15; (with_reducible refine (Q4.out _).mono ?_); rintro e w11 ⟨rfl, hB⟩; replace OW := Lib.hid (OW.out.step hB); replace R1 := Lib.hid (R1.out.below hB); replace R2 := Lib.hid (R2.out.below hB); replace R3 := Lib.hid (R3.out.below hB); clear hB))
  all_goals
    go_wp2_with (go_at_call 9; refine (vawake_any _).mono ?_; rintro e w12 ⟨rfl, hB⟩; replace OW := Lib.hid (OW.out.step hB); have kf := CF.out _ _ cp OW.out.row; have kl := OW.out.last; clear hB)
    go_ret
    exact ⟨rfl, OW.out.below⟩
end Go.Proofs.Ytmfikjpmieoikaa
