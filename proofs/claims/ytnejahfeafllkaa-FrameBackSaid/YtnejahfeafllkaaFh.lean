/- WALKS of the page's example and of the law FramePuts. -/
import Derived.Test.YtnejahfeafllkaaFf
import Derived.Test.YtnejahfeafllkaaFg
namespace Go.Proofs.Ytnejahfeafllkaa
open Go.RowKit
theorem below_step2 {w a b : World} (h : Hid (Below w.heap.size w a)) (k : Below a.heap.size a b) : Hid (Below w.heap.size w b) := h.out.trans (k.mono h.out.size)
set_option maxRecDepth 100000 in
set_option maxHeartbeats 2000000 in
theorem fawake_any (w : World) : Calls Try.prog 23 #[] w fun e w' => e = .returned (.bool true) ∧ Below w.heap.size w w' := by
  have HP := fun W => Lib.hid (fput_any ⟨#[]⟩ W (by decide))
  have HN := fun W => Lib.hid (next_any (rec ⟨#[]⟩) 0 W (by rw [rec_size, show (⟨#[]⟩ : ByteArray).size = 0 from rfl, nb_zero]; decide) (Nat.zero_le _))
  rw [nx_own _ (by decide)] at HN
  rw [rec_size, show (⟨#[]⟩ : ByteArray).size = 0 from rfl, nb_zero] at HN
  unfold NextIs at HN
  obtain ⟨a, b, c, d, hr⟩ := rec_empty
  rw [hr] at HP HN
  clear hr
  have HB := Lib.hid (Below.refl w.heap.size w)
  go_enter Try.func23, Try.ntmps23
  go_wp2_with (first
    | (go_at_call 24; refine (HP _).out.mono ?_; rintro e w1 ⟨rfl, hB1⟩; replace HB := below_step2 HB hB1; clear hB1)
    | (go_at_call 25; refine (HN _).out.mono ?_; rintro e w2 ⟨rfl, hB2⟩; replace HB := below_step2 HB hB2; clear hB2))
  go_ret
  exact ⟨rfl, HB.out⟩
set_option maxRecDepth 100000 in
set_option maxHeartbeats 2000000 in
theorem fputs_awake (s t : ByteArray) (at' : Int) (w : World) (h : 400 < t.size ∨ t.size ≤ 400 ∧ 400 < s.size ∧ s.size ≤ 65536) :
    Calls Try.prog 5 #[.string s, .string t, .int .i64 at'] w fun e w' => e = .returned (.bool true) ∧ Below w.heap.size w w' := by
  have HA := fun W => Lib.hid (fawake_any W)
  rcases h with h | ⟨h1, h2, h3⟩
  · have hi : (400 : Int) < (t.size : Int) := by omega
    clear h
    go_enter Try.func5, Try.ntmps5
    go_wp2_with ((go_at_call 23; refine (HA _).out.mono ?_; rintro e w1 ⟨rfl, hB1⟩; have HB := Lib.hid hB1; clear hB1))
    go_ret
    exact ⟨rfl, HB.out⟩
  · have hi1 : ¬ (400 : Int) < (t.size : Int) := by omega
    have hi2 : (400 : Int) < (s.size : Int) := by omega
    have hi3 : (s.size : Int) ≤ 65536 := by omega
    clear h1 h2 h3
    go_enter Try.func5, Try.ntmps5
    go_wp2_with ((go_at_call 23; refine (HA _).out.mono ?_; rintro e w1 ⟨rfl, hB1⟩; have HB := Lib.hid hB1; clear hB1))
    go_ret
    exact ⟨rfl, HB.out⟩
set_option maxRecDepth 100000 in
set_option maxHeartbeats 2000000 in
theorem fputs_long (s t : ByteArray) (at' : Int) (w : World) (ht : t.size ≤ 400) (hs : s.size ≤ maxLen) (h : 65536 < s.size) :
    Calls Try.prog 5 #[.string s, .string t, .int .i64 at'] w fun e w' => e = .returned (.bool true) ∧ Below w.heap.size w w' := by
  have HA := fun W => Lib.hid (fawake_any W)
  have HP := fun W => Lib.hid (fput_long s W hs h)
  have hi1 : ¬ (400 : Int) < (t.size : Int) := by omega
  have hi2 : (400 : Int) < (s.size : Int) := by omega
  have hi3 : ¬ (s.size : Int) ≤ 65536 := by omega
  have hi4 : (65536 : Int) < (s.size : Int) := by omega
  clear ht hs h
  go_enter Try.func5, Try.ntmps5
  go_wp2_with (first
    | (go_at_call 24; refine (HP _).out.mono ?_; rintro e w1 ⟨rfl, rfl⟩)
    | (go_at_call 23; refine (HA _).out.mono ?_; rintro e w1 ⟨rfl, hB1⟩; have HB := Lib.hid hB1; clear hB1))
  go_ret
  exact ⟨rfl, HB.out⟩
set_option maxRecDepth 100000 in
set_option maxHeartbeats 2000000 in
theorem fputs_short (s t : ByteArray) (at' : Int) (X : ByteArray × Nat × Nat) (w : World) (ht : t.size ≤ 400) (hs : s.size ≤ 400)
    (hN : ∀ W, Calls Try.prog 25 #[.string t, .int .i64 at'] W (NextIs W X)) (hR : ∀ W, Calls Try.prog 26 #[.string t, .int .i64 at'] W (NextIs W X)) :
    Calls Try.prog 5 #[.string s, .string t, .int .i64 at'] w fun e w' => e = .returned (.bool true) ∧ Below w.heap.size w w' := by
  have HA := fun W => Lib.hid (fawake_any W)
  have HP := fun W => Lib.hid (fput_any s W (by omega))
  have HO := fun W => Lib.hid (rrec_any s W (by omega))
  obtain ⟨x1, x2, x3⟩ := X
  have HN := fun W => Lib.hid (hN W)
  have HR := fun W => Lib.hid (hR W)
  unfold NextIs at HN HR
  generalize rec s = r at *
  have hi1 : ¬ (400 : Int) < (t.size : Int) := by omega
  have hi2 : ¬ (400 : Int) < (s.size : Int) := by omega
  have hi4 : ¬ (65536 : Int) < (s.size : Int) := by omega
  clear ht hs hN hR
  have HB := Lib.hid (Below.refl w.heap.size w)
  go_enter Try.func5, Try.ntmps5
  go_wp2_with (first
    | (go_at_call 24; refine (HP _).out.mono ?_; rintro e w1 ⟨rfl, hB1⟩; replace HB := below_step2 HB hB1; clear hB1)
    | (go_at_call 25; refine (HN _).out.mono ?_; rintro e w1 ⟨rfl, hB1⟩; replace HB := below_step2 HB hB1; clear hB1)
    | (go_at_call 26; refine (HR _).out.mono ?_; rintro e w1 ⟨rfl, hB1⟩; replace HB := below_step2 HB hB1; clear hB1)
    | (go_at_call 27; refine (HO _).out.mono ?_; rintro e w1 ⟨rfl, hB1⟩; replace HB := below_step2 HB hB1; clear hB1)
    | (go_at_call 23; refine (HA _).out.mono ?_; rintro e w1 ⟨rfl, hB1⟩; replace HB := below_step2 HB hB1; clear hB1))
  go_ret
  exact ⟨rfl, HB.out⟩
theorem fputs_walk (s t : ByteArray) (at' : Int) (w : World) (hs : s.size ≤ maxLen) :
    Calls Try.prog 5 #[.string s, .string t, .int .i64 at'] w fun e w' => e = .returned (.bool true) ∧ Below w.heap.size w w' := by
  by_cases ht : 400 < t.size
  · exact fputs_awake s t at' w (.inl ht)
  · by_cases h1 : s.size ≤ 400
    · by_cases ho : at' < 0 ∨ 0 ≤ at' ∧ (t.size : Int) < at'
      · exact fputs_short s t at' _ w (by omega) h1 (fun W => next_out t at' W ho) (fun W => rnext_out t at' W ho)
      · obtain ⟨p, rfl⟩ := Int.eq_ofNat_of_zero_le (show 0 ≤ at' by omega)
        exact fputs_short s t p _ w (by omega) h1 (fun W => next_any t p W (by omega) (by omega)) (fun W => rnext_any t p W (by omega) (by omega))
    · by_cases h2 : s.size ≤ 65536
      · exact fputs_awake s t at' w (.inr ⟨by omega, by omega, h2⟩)
      · exact fputs_long s t at' w (by omega) hs (by omega)
end Go.Proofs.Ytnejahfeafllkaa
