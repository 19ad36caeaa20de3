/- WALKS of take at texts, GetText. -/
import Derived.Test.YtmfikjpmieoikaaU
namespace Go.Proofs.Ytmfikjpmieoikaa
open Go.RowKit
def nxtT (p e : Nat) (g : Nat × ByteArray × Nat) : ByteArray × Nat × Nat := if e ≠ 0 then (⟨#[]⟩, p, e) else if g.1 = 0 then (g.2.1, p + g.2.2, 0) else (⟨#[]⟩, p, g.1)
theorem nxtT_err {p e : Nat} {g : Nat × ByteArray × Nat} (h : e ≠ 0) : nxtT p e g = (⟨#[]⟩, p, e) := by unfold nxtT; rw [if_pos h]
theorem nxtT_ok {p a c : Nat} {b : ByteArray} (h : a = 0) : nxtT p 0 (a, b, c) = (b, p + c, 0) := by unfold nxtT; rw [if_neg (by simp), if_pos h]
theorem nxtT_no {p a c : Nat} {b : ByteArray} (h : a ≠ 0) : nxtT p 0 (a, b, c) = (⟨#[]⟩, p, a) := by unfold nxtT; rw [if_neg (by simp), if_neg h]
theorem RdPost.toT {B : Nat} {s : ByteArray} {x : ByteArray × Nat × Nat} {a : ByteArray} {b c : Nat} {w w' : World} {en : Ending} (hx : x = (a, b, c)) (he : en = .returned (.string a)) (hr : Rd w' B s b c) (hk : Keep B w w') : RdPost B s (.string x.1) x.2.1 x.2.2 w en w' := by
  subst hx; exact ⟨he, hr, hk⟩
set_option maxHeartbeats 1000000 in
theorem takeT_any (B : Nat) (s : ByteArray) (p e most : Nat) (L : List UInt8) (w : World) (h : Rd w B s p e) (hL : L = s.data.toList.drop p) (hp : p ≤ s.size) (hs : s.size ≤ 140737488355328) (hm : most < 18446744073709551616) :
    Calls Try.prog 42 #[.pointer (some ⟨B, 0, none⟩), .func (.func 43) #[.pointer (some ⟨B, 0, none⟩)] #[], .int .u64 most] w (RdPost B s (.string (nxtT p e (textR s p (mostR most L))).1) (nxtT p e (textR s p (mostR most L))).2.1 (nxtT p e (textR s p (mostR most L))).2.2 w) := by
  obtain ⟨c0, c1, c2, f1, f2⟩ := h.cells
  have HE := Lib.hid (err_any B s p e w h)
  have H := Lib.hid h
  by_cases h0 : e = 0
  · subst h0
    have HN := Lib.hid (text_any B s p most L w h hL hp hs hm)
    obtain ⟨⟨a, b, c⟩, hg⟩ : ∃ g, g = textR s p (mostR most L) := ⟨_, rfl⟩
    rw [← hg] at HN ⊢
    clear h hL hg
    unfold TextPost at HN
    by_cases ha : a = 0
    · have HA := Lib.hid (nxtT_ok (p := p) (b := b) (c := c) ha)
      have HP := Lib.hid ha
      have ha2 : ((a : Int) != 0) = false := by simp; exact ha
      clear ha
      go_enter Try.func42, Try.ntmps42
      go_wp2_with (first
        | (go_at_call 25; refine HE.out.mono ?_; rintro e w1 ⟨rfl, rfl⟩)
        | (go_at_call 43; refine HN.out.mono ?_; rintro e w2 ⟨rfl, hR, hK⟩; have HR := Lib.hid hR; have HK := Lib.hid hK; clear hR hK))
      go_ret
      obtain ⟨p', hr, hp'⟩ := HR.out
      rw [hp' HP.out] at hr
      exact RdPost.toT HA.out rfl hr HK.out
    · have HA := Lib.hid (nxtT_no (p := p) (b := b) (c := c) ha)
      have ha2 : ((a : Int) != 0) = true := by simp; exact ha
      clear ha
      go_enter Try.func42, Try.ntmps42
      go_wp2_with (first
        | (go_at_call 25; refine HE.out.mono ?_; rintro e w1 ⟨rfl, rfl⟩)
        | (go_at_call 43; refine HN.out.mono ?_; rintro e w2 ⟨rfl, ⟨p', hR, _⟩, hK⟩; obtain ⟨d0, d1, d2, g1, g2⟩ := hR.cells; have HR := Lib.hid hR; have HK := Lib.hid hK; clear hR hK))
      go_ret
      exact RdPost.toT HA.out rfl ((HR.out.setAt rfl).setErr rfl) ((HK.out.set _ _).set _ _)
  · have HA := Lib.hid (nxtT_err (p := p) (g := textR s p (mostR most L)) h0)
    have he : ((e : Int) != 0) = true := by simp; exact h0
    clear h h0 hL
    go_enter Try.func42, Try.ntmps42
    go_wp2_with (go_at_call 25; refine HE.out.mono ?_; rintro e w1 ⟨rfl, rfl⟩)
    go_ret
    exact RdPost.toT HA.out rfl H.out (Keep.refl _ _)
/-- The greatest length that GetText lets by. -/
def mostOf (m : Int) : Nat := m.toNat
set_option maxHeartbeats 1000000 in
theorem gettext_any (B : Nat) (s : ByteArray) (p e : Nat) (m : Int) (L : List UInt8) (w : World) (h : Rd w B s p e) (hL : L = s.data.toList.drop p) (hp : p ≤ s.size) (hs : s.size ≤ 140737488355328) (hm : m ≤ 9223372036854775807) :
    Calls Try.prog 24 #[.pointer (some ⟨B, 0, none⟩), .int .i64 m] w (RdPost B s (.string (nxtT p e (textR s p (mostR (mostOf m) L))).1) (nxtT p e (textR s p (mostR (mostOf m) L))).2.1 (nxtT p e (textR s p (mostR (mostOf m) L))).2.2 w) := by
  have H := Lib.hid (takeT_any B s p e (mostOf m) L w h hL hp hs (by unfold mostOf; omega))
  generalize nxtT p e (textR s p (mostR (mostOf m) L)) = x at *
  clear h hL
  have e0 : ((mostOf m : Nat) : Int) = max m 0 := by unfold mostOf; omega
  rw [e0] at H
  clear e0
  go_enter Try.func24, Try.ntmps24
  go_wp2_with (go_at_call 42; refine H.out.mono ?_; rintro e w1 ⟨rfl, hR, hK⟩; have HR := Lib.hid hR; have HK := Lib.hid hK; clear hR hK)
  go_ret
  exact ⟨rfl, HR.out, HK.out⟩
end Go.Proofs.Ytmfikjpmieoikaa
