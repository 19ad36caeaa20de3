/- WALKS of the reference's Most, GetInt. -/
import Derived.Test.YtmfikjpmieoikaaCa
namespace Go.Proofs.Ytmfikjpmieoikaa
open Go.RowKit
theorem nxt_most {p e most : Nat} {L : List UInt8} : nxt p e (mostR most L) = if (nxt p e (gets L)).2.2 = 0 ∧ most < (nxt p e (gets L)).1 then (0, p, 9) else nxt p e (gets L) := by
  by_cases h0 : e = 0
  · subst h0
    obtain ⟨⟨a, b, c⟩, hg⟩ : ∃ g, gets L = g := ⟨_, rfl⟩
    by_cases ha : a = 0
    · subst ha
      rw [hg, nxt_ok rfl]
      by_cases hb : most < b
      · rw [mostR_far hg hb, nxt_no (by decide), if_pos ⟨rfl, hb⟩]
      · rw [mostR_ok hg (by omega), nxt_ok rfl, if_neg (by rintro ⟨_, h⟩; exact hb h)]
    · rw [mostR_err hg ha, hg, nxt_no ha, if_neg (by rintro ⟨h, _⟩; exact ha h)]
  · rw [nxt_err h0, nxt_err h0, if_neg (by rintro ⟨h, _⟩; exact h0 h)]
theorem below6 {w w1 w2 : World} {A C D : Obj} (h : Below ((w.alloc A).alloc C).heap.size ((w.alloc A).alloc C) w1) (h2 : Below (w1.alloc D).heap.size (w1.alloc D) w2) (x y z : Value) :
    Below w.heap.size w (((w2.setCell ⟨w.heap.size + 1, 0, none⟩ x).setCell ⟨w.heap.size + 1, 1, none⟩ y).setCell ⟨w.heap.size + 1, 2, none⟩ z) := by
  have h0 : Below w.heap.size w w1 := ((((Below.refl _ w).alloc (Nat.le_refl _) A).alloc (by simp) C).trans (h.mono (by simp; omega)))
  have h1 : Below w.heap.size w w2 := (h0.alloc h0.size D).trans (h2.mono (by have := h0.size; simp; omega))
  exact ((h1.setCell (p := ⟨w.heap.size + 1, 0, none⟩) (by simp) x).setCell (p := ⟨w.heap.size + 1, 1, none⟩) (by simp) y).setCell (p := ⟨w.heap.size + 1, 2, none⟩) (by simp) z
theorem below5 {w w1 : World} {A C D : Obj} (h : Below ((w.alloc A).alloc C).heap.size ((w.alloc A).alloc C) w1) (x y z : Value) :
    Below w.heap.size w ((((w1.setCell ⟨w.heap.size + 1, 0, none⟩ x).setCell ⟨w.heap.size + 1, 1, none⟩ y).setCell ⟨w.heap.size + 1, 2, none⟩ z).alloc D) := by
  have := below3 h x y z
  exact this.alloc this.size D
set_option maxRecDepth 100000 in
set_option maxHeartbeats 2000000 in
theorem rmost_any (s : ByteArray) (p e most : Nat) (L : List UInt8) (w : World) (hL : L = s.data.toList.drop p) (hp : p ≤ s.size) (hs : s.size ≤ 140737488355328) :
    Calls Try.prog 19 #[refR s p e, .int .u64 most] w (GetPost s (.int .u64 ((nxt p e (mostR most L)).1 : Int)) (nxt p e (mostR most L)).2.1 (nxt p e (mostR most L)).2.2 w) := by
  have HG := fun w => Lib.hid (rget_any s p e L w hL hp hs)
  have hx := nxt_lt (p := p) (e := e) (L := L)
  rw [nxt_most]
  obtain ⟨⟨n, p1, e1⟩, hg⟩ : ∃ g, nxt p e (gets L) = g := ⟨_, rfl⟩
  rw [hg] at HG hx ⊢
  unfold GetPost refR at HG
  unfold refR
  clear hg hL
  by_cases h1 : e1 = 0 ∧ most < n
  · rw [if_pos (show (n, p1, e1).2.2 = 0 ∧ most < (n, p1, e1).1 from h1)]
    obtain ⟨rfl, h2⟩ := h1
    have h2i : (most : Int) < (n : Int) := by omega
    clear h2
    go_enter Try.func19, Try.ntmps19
    go_wp2_with (first
      | (go_at_call 17; refine (HG _).out.mono ?_; rintro e w1 ⟨rfl, hB⟩; obtain ⟨hc, hf⟩ := bcell hB; have HB := Lib.hid hB; have hz : w.heap.size + 1 < w1.heap.size := (by have := hB.size; simp at this; omega); have hz0 : w.heap.size < w1.heap.size := (by omega); clear hB)
      | (go_at_call 38; refine (fail_any _ _ _ _ _ _).mono ?_; rintro e w2 ⟨rfl, hB⟩; obtain ⟨hc2, hf2⟩ := bcell hB; have HB2 := Lib.hid hB; clear hB))
    exact bodyPost_ret (v := .tuple #[.agg #[.string s, .int .i64 p, .int .i64 9], .int .u64 0]) (by simp [results, Try.results19, go_sem, hc, hc2, hz, hz0]) rfl ⟨rfl, below6 HB.out HB2.out _ _ _⟩
  · rw [if_neg (show ¬ ((n, p1, e1).2.2 = 0 ∧ most < (n, p1, e1).1) from h1)]
    have h2 : ((e1 : Int) == 0) = false ∨ (((e1 : Int) == 0) = true ∧ ¬ (most : Int) < (n : Int)) := by
      by_cases h0 : e1 = 0
      · exact .inr ⟨by simp; omega, by omega⟩
      · exact .inl (by simp; omega)
    clear h1
    rcases h2 with h2 | ⟨h2, h3⟩
    all_goals
      go_enter Try.func19, Try.ntmps19
      go_wp2_with (go_at_call 17; refine (HG _).out.mono ?_; rintro e w1 ⟨rfl, hB⟩; obtain ⟨hc, hf⟩ := bcell hB; have HB := Lib.hid hB; have hz : w.heap.size + 1 < w1.heap.size := (by have := hB.size; simp at this; omega); have hz0 : w.heap.size < w1.heap.size := (by omega); clear hB)
      exact bodyPost_ret (v := .tuple #[.agg #[.string s, .int .i64 p1, .int .i64 e1], .int .u64 n]) (by simp [results, Try.results19, go_sem, hc, hz]) rfl ⟨rfl, below5 HB.out _ _ _⟩
set_option maxRecDepth 100000 in
set_option maxHeartbeats 2000000 in
theorem rgetint_any (s : ByteArray) (p e : Nat) (L : List UInt8) (w : World) (hL : L = s.data.toList.drop p) (hp : p ≤ s.size) (hs : s.size ≤ 140737488355328) :
    Calls Try.prog 21 #[refR s p e] w (GetPost s (.int .i64 (usg (nxt p e (gets L)).1)) (nxt p e (gets L)).2.1 (nxt p e (gets L)).2.2 w) := by
  have HG := fun w => Lib.hid (rget_any s p e L w hL hp hs)
  have hx := nxt_lt (p := p) (e := e) (L := L)
  obtain ⟨⟨n, p1, e1⟩, hg⟩ : ∃ g, nxt p e (gets L) = g := ⟨_, rfl⟩
  rw [hg] at HG hx ⊢
  have hn : n < 18446744073709551616 := hx
  unfold GetPost refR at HG
  unfold refR
  clear hg hL hx
  cases h1 : ((n : Int) % 2 == 1)
  · have HU := Lib.hid (usg_even h1)
    go_enter Try.func21, Try.ntmps21
    go_wp2_with (go_at_call 17; refine (HG _).out.mono ?_; rintro e w1 ⟨rfl, hB⟩; obtain ⟨hc, hf⟩ := bcell hB; have HB := Lib.hid hB; have hz : w.heap.size + 1 < w1.heap.size := (by have := hB.size; simp at this; omega); have hz0 : w.heap.size < w1.heap.size := (by omega); clear hB)
    refine bodyPost_ret (v := .tuple #[.agg #[.string s, .int .i64 p1, .int .i64 e1], .int .i64 ((n : Int) / 2)]) (by simp [results, Try.results21, go_sem, hc, hz]) rfl ⟨?_, below5 HB.out _ _ _⟩
    rw [HU.out]; rfl
  · have HU := Lib.hid (usg_odd h1)
    go_enter Try.func21, Try.ntmps21
    go_wp2_with (go_at_call 17; refine (HG _).out.mono ?_; rintro e w1 ⟨rfl, hB⟩; obtain ⟨hc, hf⟩ := bcell hB; have HB := Lib.hid hB; have hz : w.heap.size + 1 < w1.heap.size := (by have := hB.size; simp at this; omega); have hz0 : w.heap.size < w1.heap.size := (by omega); clear hB)
    refine bodyPost_ret (v := .tuple #[.agg #[.string s, .int .i64 p1, .int .i64 e1], .int .i64 (-((n : Int) / 2) - 1)]) (by simp [results, Try.results21, go_sem, hc, hz]) rfl ⟨?_, below5 HB.out _ _ _⟩
    rw [HU.out]; rfl
end Go.Proofs.Ytmfikjpmieoikaa
