/- WALKS of the reader's calls: take, Get, Most, GetInt, New, End. -/
import Derived.Test.YtnejahfeafllkaaQ
namespace Go.Proofs.Ytnejahfeafllkaa
open Go.RowKit
/-- What a call answers, and where the reader stands then: nothing behind an error; nothing, and the place where it began, where this call is refused. -/
def nxt (p e : Nat) (g : Nat × Nat × Nat) : Nat × Nat × Nat := if e ≠ 0 then (0, p, e) else if g.1 = 0 then (g.2.1, p + g.2.2, 0) else (0, p, g.1)
theorem nxt_err {p e : Nat} {g : Nat × Nat × Nat} (h : e ≠ 0) : nxt p e g = (0, p, e) := by unfold nxt; rw [if_pos h]
theorem nxt_ok {p a b c : Nat} (h : a = 0) : nxt p 0 (a, b, c) = (b, p + c, 0) := by unfold nxt; rw [if_neg (by simp), if_pos h]
theorem nxt_no {p a b c : Nat} (h : a ≠ 0) : nxt p 0 (a, b, c) = (0, p, a) := by unfold nxt; rw [if_neg (by simp), if_neg h]
theorem RdPost.to {B : Nat} {s : ByteArray} {x : Nat × Nat × Nat} {a b c : Nat} {w w' : World} {en : Ending} (hx : x = (a, b, c)) (he : en = .returned (.int .u64 (a : Int))) (hr : Rd w' B s b c) (hk : Keep B w w') : RdPost B s (.int .u64 (x.1 : Int)) x.2.1 x.2.2 w en w' := by
  subst hx; exact ⟨he, hr, hk⟩
set_option maxHeartbeats 1000000 in
theorem take_any (B : Nat) (s : ByteArray) (p e most : Nat) (M : Int) (L : List UInt8) (w : World) (h : Rd w B s p e) (hL : L = s.data.toList.drop p) (hp : p ≤ s.size) (hs : s.size ≤ 140737488355328) (hm : most < 18446744073709551616) (hM : M = (most : Int)) :
    Calls Try.prog 66 #[.pointer (some ⟨B, 0, none⟩), .func (.func 67) #[.pointer (some ⟨B, 0, none⟩)] #[], .int .u64 M] w (RdPost B s (.int .u64 ((nxt p e (mostR most L)).1 : Int)) (nxt p e (mostR most L)).2.1 (nxt p e (mostR most L)).2.2 w) := by
  obtain ⟨c0, c1, c2, f1, f2⟩ := h.cells
  have HE := Lib.hid (err_any B s p e w h)
  have H := Lib.hid h
  by_cases h0 : e = 0
  · subst h0
    have HN := Lib.hid (number_any B s p most L w h hL hp hs hm)
    rw [← hM] at HN
    obtain ⟨⟨a, b, c⟩, hg⟩ : ∃ g, g = mostR most L := ⟨_, rfl⟩
    rw [← hg] at HN ⊢
    clear h hL hM hg
    unfold NumPost at HN
    by_cases ha : a = 0
    · have HA := Lib.hid (nxt_ok (p := p) (b := b) (c := c) ha)
      have HP := Lib.hid ha
      have ha2 : ((a : Int) != 0) = false := by simp; exact ha
      clear ha
      go_enter Try.func66, Try.ntmps66
      go_wp2_with (first
        | (go_at_call 42; refine HE.out.mono ?_; rintro e w1 ⟨rfl, rfl⟩)
        | (go_at_call 67; refine HN.out.mono ?_; rintro e w2 ⟨rfl, hR, hK⟩; have HR := Lib.hid hR; have HK := Lib.hid hK; clear hR hK))
      go_ret
      obtain ⟨p', hr, hp'⟩ := HR.out
      rw [hp' HP.out] at hr
      exact RdPost.to HA.out rfl hr HK.out
    · have HA := Lib.hid (nxt_no (p := p) (b := b) (c := c) ha)
      have ha2 : ((a : Int) != 0) = true := by simp; exact ha
      clear ha
      go_enter Try.func66, Try.ntmps66
      go_wp2_with (first
        | (go_at_call 42; refine HE.out.mono ?_; rintro e w1 ⟨rfl, rfl⟩)
        | (go_at_call 67; refine HN.out.mono ?_; rintro e w2 ⟨rfl, ⟨p', hR, _⟩, hK⟩; obtain ⟨d0, d1, d2, g1, g2⟩ := hR.cells; have HR := Lib.hid hR; have HK := Lib.hid hK; clear hR hK))
      go_ret
      exact RdPost.to HA.out rfl ((HR.out.setAt rfl).setErr rfl) ((HK.out.set _ _).set _ _)
  · have HA := Lib.hid (nxt_err (p := p) (g := mostR most L) h0)
    have he : ((e : Int) != 0) = true := by simp; exact h0
    clear h h0 hL hM
    go_enter Try.func66, Try.ntmps66
    go_wp2_with (go_at_call 42; refine HE.out.mono ?_; rintro e w1 ⟨rfl, rfl⟩)
    go_ret
    exact RdPost.to HA.out rfl H.out (Keep.refl _ _)
theorem mostR_top {L : List UInt8} : mostR 18446744073709551615 L = gets L := by
  unfold mostR
  rw [if_neg]
  rintro ⟨h1, h2⟩
  obtain ⟨⟨a, b, c⟩, hg⟩ : ∃ g, gets L = g := ⟨_, rfl⟩
  rw [hg] at h1 h2
  simp at h1; subst h1
  have := (gets_back hg).2.1
  simp at h2; omega
set_option maxHeartbeats 1000000 in
theorem get_any (B : Nat) (s : ByteArray) (p e : Nat) (L : List UInt8) (w : World) (h : Rd w B s p e) (hL : L = s.data.toList.drop p) (hp : p ≤ s.size) (hs : s.size ≤ 140737488355328) :
    Calls Try.prog 41 #[.pointer (some ⟨B, 0, none⟩)] w (RdPost B s (.int .u64 ((nxt p e (gets L)).1 : Int)) (nxt p e (gets L)).2.1 (nxt p e (gets L)).2.2 w) := by
  have H := Lib.hid (take_any B s p e 18446744073709551615 18446744073709551615 L w h hL hp hs (by decide) rfl)
  rw [mostR_top] at H
  generalize nxt p e (gets L) = x at *
  clear h hL
  go_enter Try.func41, Try.ntmps41
  go_wp2_with (go_at_call 66; refine H.out.mono ?_; rintro e w1 ⟨rfl, hR, hK⟩; have HR := Lib.hid hR; have HK := Lib.hid hK; clear hR hK)
  go_ret
  exact ⟨rfl, HR.out, HK.out⟩
theorem usg_odd {n : Nat} (h : ((n : Int) % 2 == 1) = true) : -((n : Int) / 2) - 1 = usg n := by
  unfold usg; rw [if_pos (by simp at h; omega)]; omega
theorem usg_even {n : Nat} (h : ((n : Int) % 2 == 1) = false) : (n : Int) / 2 = usg n := by
  unfold usg; rw [if_neg (by simp at h; omega)]; omega
theorem nxt_lt {p e : Nat} {L : List UInt8} : (nxt p e (gets L)).1 < 18446744073709551616 := by
  unfold nxt
  split
  · show 0 < 18446744073709551616
    decide
  · split
    · rename_i h
      obtain ⟨⟨a, b, c⟩, hg⟩ : ∃ g, gets L = g := ⟨_, rfl⟩
      rw [hg] at h ⊢
      simp at h; subst h
      exact (gets_back hg).2.1
    · show 0 < 18446744073709551616
      decide
set_option maxHeartbeats 1000000 in
theorem new_any (s : ByteArray) (w : World) : Calls Try.prog 40 #[.string s] w fun e w' => e = .returned (.pointer (some ⟨w.heap.size, 0, none⟩)) ∧ Rd w' w.heap.size s 0 0 ∧ Below w.heap.size w w' ∧ w.heap.size < w'.heap.size := by
  go_enter Try.func40, Try.ntmps40
  go_wp2
  go_ret
  exact ⟨rfl, heap_alloc_new w _, (Below.refl _ w).alloc (Nat.le_refl _) _, by simp⟩
/-- What End tells. -/
def endE (s : ByteArray) (p e : Nat) : Nat := if e ≠ 0 then e else if p < s.size then 4 else 0
end Go.Proofs.Ytnejahfeafllkaa
