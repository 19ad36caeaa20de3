/- WALKS of the reader's text, take at texts, GetText. -/
import Derived.Test.YtmfikjpmieoikaaT
import Derived.Test.YtmfikjpmieoikaaE
namespace Go.Proofs.Ytmfikjpmieoikaa
open Go.RowKit
/-- What text tells: the error, the text, how many bytes it went on. -/
def textR (s : ByteArray) (p : Nat) (g : Nat × Nat × Nat) : Nat × ByteArray × Nat :=
  if g.1 ≠ 0 then (g.1, ⟨#[]⟩, 0) else if s.size - (p + g.2.2) < g.2.1 then (3, ⟨#[]⟩, 0) else (0, s.extract (p + g.2.2) (p + g.2.2 + g.2.1), g.2.2 + g.2.1)
def TextPost (B : Nat) (s : ByteArray) (p : Nat) (g : Nat × ByteArray × Nat) (w : World) (en : Ending) (w' : World) : Prop :=
  en = .returned (.tuple #[.string g.2.1, .int .i64 (g.1 : Int)]) ∧ (∃ p', Rd w' B s p' 0 ∧ (g.1 = 0 → p' = p + g.2.2)) ∧ Keep B w w'
theorem TextPost.mk' {B : Nat} {s t : ByteArray} {p p' a c : Nat} {g : Nat × ByteArray × Nat} {w w' : World} {en : Ending} (hg : g = (a, t, c)) (he : en = .returned (.tuple #[.string t, .int .i64 (a : Int)])) (hr : Rd w' B s p' 0) (hp : a = 0 → p' = p + c) (hk : Keep B w w') : TextPost B s p g w en w' := by
  subst hg; exact ⟨he, ⟨p', hr, hp⟩, hk⟩
theorem mostR_le {most : Nat} {L : List UInt8} {b c : Nat} (h : mostR most L = (0, b, c)) : gets L = (0, b, c) ∧ b ≤ most := by
  unfold mostR at h
  split at h
  · cases h
  · rename_i h2
    refine ⟨h, ?_⟩
    rw [h] at h2
    simp at h2; omega
theorem Rd.below {w w' : World} {B : Nat} {s : ByteArray} {p e : Nat} (h : Rd w B s p e) (hb : Below w.heap.size w w') : Rd w' B s p e := (hb.block B h.lt).trans h
set_option maxRecDepth 100000 in
set_option maxHeartbeats 2000000 in
theorem text_any (B : Nat) (s : ByteArray) (p most : Nat) (L : List UInt8) (w : World) (h : Rd w B s p 0) (hL : L = s.data.toList.drop p) (hp : p ≤ s.size) (hs : s.size ≤ 140737488355328) (hm : most < 18446744073709551616) :
    Calls Try.prog 43 #[.pointer (some ⟨B, 0, none⟩), .int .u64 most] w (TextPost B s p (textR s p (mostR most L)) w) := by
  have HN := Lib.hid (number_any B s p most L w h hL hp hs hm)
  have hlen : L.length = s.size - p := by rw [hL]; simp
  obtain ⟨⟨a, b, c⟩, hg⟩ : ∃ g, mostR most L = g := ⟨_, rfl⟩
  rw [hg] at HN ⊢
  unfold NumPost at HN
  by_cases ha : a = 0
  · subst ha
    obtain ⟨g1, g2⟩ := mostR_le hg
    obtain ⟨_, hb64, hcl⟩ := gets_back g1
    have hpc : p + c ≤ s.size := by omega
    clear h hL hg g1 hlen
    by_cases hfit : s.size - (p + c) < b
    · have HT := Lib.hid (show textR s p (0, b, c) = (3, ⟨#[]⟩, 0) by unfold textR; rw [if_neg (by simp), if_pos hfit])
      have hfi : ((s.size - (p + c) : Nat) : Int) < (b : Int) := by omega
      have HLf := fun w h => Lib.hid (left_any B s (p + c) 0 w h hpc hs)
      have hr47 : ((s.size - (p + c) : Nat) : Int) ≤ 140737488355328 := by omega
      generalize s.size - (p + c) = r at *
      go_enter Try.func43, Try.ntmps43
      go_wp2_with (first
        | (go_at_call 40; refine HN.out.mono ?_; rintro e w2 ⟨rfl, ⟨p', hR, hp'⟩, hK⟩; obtain rfl : p' = p + c := hp' rfl; have HR := Lib.hid hR; have HK := Lib.hid hK; clear hR hK hp')
        | (go_at_call 26; refine (HLf _ HR.out).out.mono ?_; rintro e w3 ⟨rfl, hR, hK⟩; have HR2 := Lib.hid hR; have HK2 := Lib.hid hK; clear hR hK))
      go_ret2
      exact TextPost.mk' HT.out rfl HR2.out (fun e => by cases e) (HK.out.trans HK2.out)
    · have HT := Lib.hid (show textR s p (0, b, c) = (0, s.extract (p + c) (p + c + b), c + b) by unfold textR; rw [if_neg (by simp), if_neg hfit])
      have hfi : ¬ ((s.size - (p + c) : Nat) : Int) < (b : Int) := by omega
      have HLf := fun w h => Lib.hid (left_any B s (p + c) 0 w h hpc hs)
      obtain ⟨r, hr⟩ : ∃ r, r = s.size - (p + c) := ⟨_, rfl⟩
      rw [← hr] at HLf hfi hfit
      obtain ⟨q, hq⟩ : ∃ q, q = p + c := ⟨_, rfl⟩
      obtain ⟨z, hz⟩ : ∃ z, z = q + b := ⟨_, rfl⟩
      have hz1 : (q : Int) + (b : Int) = (z : Int) := by omega
      have hz2 : (q : Int) ≤ (z : Int) := by omega
      have hz3 : (z : Int) ≤ (s.size : Int) := by omega
      have hz4 : z ≤ 140737488355328 := by omega
      have hbb : (b : Int) ≤ 140737488355328 := by omega
      rw [← hq] at HLf HT
      rw [← hz] at HT
      have HC := fun w => Lib.hid (clone_any (s.extract q z) w (by rw [ByteArray.size_extract]; omega))
      have HQ := Lib.hid hq
      have HZ := Lib.hid hz
      have hr47 : (r : Int) ≤ 140737488355328 := by omega
      clear hr hq hz
      go_enter Try.func43, Try.ntmps43
      go_wp2_with (first
        | (go_at_call 40; refine HN.out.mono ?_; rintro e w2 ⟨rfl, ⟨p', hR, hp'⟩, hK⟩; obtain rfl : p' = q := (hp' rfl).trans HQ.out.symm; have HR := Lib.hid hR; have HK := Lib.hid hK; clear hR hK hp')
        | (go_at_call 26; refine (HLf _ HR.out).out.mono ?_; rintro e w3 ⟨rfl, hR, hK⟩; obtain ⟨d0, d1, d2, k1, k2⟩ := hR.cells; have HR2 := Lib.hid hR; have HK2 := Lib.hid hK; clear hR hK))
      have HR3 := Lib.hid (Rd.setAt (v := (z : Int)) HR2.out rfl)
      have HK3 := Lib.hid ((HK.out.trans HK2.out).set 1 (.int .i64 (z : Int)))
      clear HR2 HK2 HK d0 d1 d2 k1 k2
      generalize w3.setCell ⟨B, 1, none⟩ (.int .i64 (z : Int)) = w4 at *
      obtain ⟨d0, d1, d2, k1, k2⟩ := HR3.out.cells
      go_region_with ((go_at_call 46; refine (HC _).out.mono ?_; rintro e w5 ⟨rfl, hB⟩; have HB := Lib.hid hB; clear hB))
      all_goals go_wp2
      all_goals go_ret2
      all_goals exact TextPost.mk' HT.out rfl (Rd.below (w := w4.drew) HR3.out HB.out) (fun _ => by have := HQ.out; have := HZ.out; omega) (HK3.out.drew.trans (Keep.of_below HB.out))
  · have HT := Lib.hid (show textR s p (a, b, c) = (a, ⟨#[]⟩, 0) by unfold textR; rw [if_pos ha])
    have HA := Lib.hid ha
    have hai : ((a : Int) != 0) = true := by simp; exact ha
    clear h hL hg ha
    go_enter Try.func43, Try.ntmps43
    go_wp2_with (go_at_call 40; refine HN.out.mono ?_; rintro e w2 ⟨rfl, ⟨p', hR, hp'⟩, hK⟩; have HR := Lib.hid hR; have HK := Lib.hid hK; clear hR hK hp')
    go_ret2
    exact TextPost.mk' HT.out rfl HR.out (fun e => absurd e HA.out) HK.out
end Go.Proofs.Ytmfikjpmieoikaa
