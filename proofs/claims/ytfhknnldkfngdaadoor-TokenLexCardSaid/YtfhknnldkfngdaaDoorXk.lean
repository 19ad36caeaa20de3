/- WALK of TokenLex. -/
import Derived.Test.YtfhknnldkfngdaaDoorXj
import Derived.Deep.RegionHeld3
namespace Go.Proofs.YtfhknnldkfngdaaDoor
open Go.RowKit
set_option maxRecDepth 100000 in
set_option maxHeartbeats 1000000 in
theorem lex_long (s : ByteArray) (w : World) (hs : 4096 < s.size) : Calls Tryd.prog 10 #[.string s] w fun e w' => e = .returned (.tuple #[.slice none 0 0, .int .i64 0, .int .i64 4]) ∧ w = w' := by
  go_enter Tryd.func10, Tryd.ntmps10
  go_wp2_with fail
  go_ret3
  exact ⟨rfl, rfl⟩
theorem lexF_len (L : List UInt8) : ∀ (f p : Nat) (acc : List Tok), acc.length ≤ p → p ≤ L.length → (lexF f L p acc).1.length ≤ L.length
  | 0, _, _, _, _ => Nat.zero_le _
  | f + 1, p, acc, h, hp => by
    rw [lexF]
    split
    · exact Nat.zero_le _
    · split
      · exact Nat.le_trans h hp
      · rename_i h0 hk
        have h2 := nextL_le hp
        exact lexF_len L f _ _ (by rw [List.length_append]; have := h2.2 (by simpa using h0) hk; simp; omega) h2.1
theorem lexL_len (L : List UInt8) : (lexL L).1.length ≤ L.length := lexF_len L _ 0 [] (Nat.le_refl _) (Nat.zero_le _)
/-- A list of tokens behind a call. -/
def LxC (L : List Tok) (n : Nat) (z : Nat) (E : Int) (w : World) (e : Ending) (w' : World) : Prop := ∃ a cap, e = .returned (.tuple #[.slice a n cap, .int .i64 (z : Int), .int .i64 E]) ∧ TRow w' a L ∧ Below w.heap.size w w'
theorem LexP.c {L : List Tok} {n z : Nat} {E : Int} {w w' : World} {e : Ending} (h : LexP (L, z, E) w e w') (hn : L.length = n) : LxC L n z E w e w' := by
  obtain ⟨a, m, cap, rfl, he, hT, hB⟩ := h
  subst hn
  exact ⟨a, cap, he, hT, hB⟩
set_option maxRecDepth 100000 in
set_option maxHeartbeats 4000000 in
theorem tlex_walk (s : ByteArray) (w : World) (hE : Ent w) (hs : s.size ≤ 140737488355328) : Calls Tryd.prog 4 #[.string s] w fun e w' => e = .returned (.bool true) ∧ Below w.heap.size w w' := by
  have HE := Lib.hid hE
  by_cases h4 : 4096 < s.size
  · clear hE
    go_enter Tryd.func4, Tryd.ntmps4
    go_wp2_with (first | (go_at_call 10; ((with_reducible refine (lex_long _ _ h4).mono ?_); rintro e w' ⟨rfl, rfl⟩)) | (go_at_call 6; ((with_reducible refine (awake_out _ HE).mono ?_); rintro e w1 ⟨rfl, hb⟩; have HB := Lib.hid hb; clear hb)))
    go_ret
    exact ⟨rfl, HB.out⟩
  · by_cases h8 : 800 < s.size
    · clear hE
      go_enter Tryd.func4, Tryd.ntmps4
      go_wp2_with (go_at_call 6; ((with_reducible refine (awake_out _ HE).mono ?_); rintro e w1 ⟨rfl, hb⟩; have HB := Lib.hid hb; clear hb))
      go_ret
      exact ⟨rfl, HB.out⟩
    · obtain ⟨⟨L, z, E⟩, hr⟩ : ∃ R, lexL s.toList = R := ⟨_, rfl⟩
      have hL : L.length ≤ 9223372036854775807 := by
        have h := lexL_len s.toList
        rw [hr, ← Nm.size_list] at h
        have h : L.length ≤ s.size := h
        omega
      obtain ⟨n, hn⟩ : ∃ n, L.length = n := ⟨_, rfl⟩
      have H10 := Lib.hid (show ∀ W, Below w.heap.size w W → Calls Tryd.prog 10 #[.string s] W (LxC L n z E W) from fun W hW => (lex_any s W (hE.below hW) (by omega)).mono fun _ _ h => by rw [hr] at h; exact h.c hn)
      have H11 := Lib.hid (show ∀ W, Calls Tryd.prog 11 #[.string s] W (LxC L n z E W) from fun W => (rlex_any s W (by omega)).mono fun _ _ h => by rw [hr] at h; exact h.c hn)
      rw [hn] at hL
      have HN := Lib.hid hn
      clear hE hr hn
      go_enter Tryd.func4, Tryd.ntmps4
      go_wp2_with (first
        | (go_at_call 10; refine (H10.out _ (Below.refl _ _)).mono ?_; rintro e w1 ⟨a1, cp1, rfl, hT1, hb⟩; have HB1 := Lib.hid hb; have HT1 := Lib.hid hT1; clear hb hT1)
        | (go_at_call 11; refine (H11.out _).mono ?_; rintro e w2 ⟨a2, cp2, rfl, hT2, hb⟩; have HB2 := Lib.hid (bl_step HB1.out hb); have HT2 := Lib.hid hT2; replace HT1 := Lib.hid (HT1.out.below hb); clear hb hT2))
      go_loopw [12] (fun i wr => ∃ k : Nat, k ≤ n ∧ i = .int .i64 k ∧ Hid (Below w2.heap.size w2 wr)) (fun i _ => n - (intOf i).toNat)
      case atStart => exact ⟨0, Nat.zero_le _, rfl, Lib.hid (Below.refl _ _)⟩
      case round =>
        obtain ⟨k, hk, rfl, hB⟩ := hrel
        rename World => wr
        by_cases hlt : k < n
        · obtain ⟨⟨⟨tk, tn, tt⟩, ta⟩, hg⟩ : ∃ t, L[k]'(by rw [HN.out]; exact hlt) = t := ⟨_, rfl⟩
          obtain ⟨b1, off1, rfl, l1, x0, x1, x2, x3⟩ := (HT1.out.below hB.out) k (by rw [HN.out]; exact hlt)
          obtain ⟨b2, off2, rfl, l2, y0, y1, y2, y3⟩ := (HT2.out.below hB.out) k (by rw [HN.out]; exact hlt)
          rw [hg] at x0 x1 x2 x3 y0 y1 y2 y3
          have hki : (k : Int) < (n : Int) := by omega
          have hk0 : (0 : Int) ≤ (k : Int) := by omega
          clear hg
          go_wp2_with fail
          go_region_held3 (fun w' => ∀ b o, b < wr.heap.size → w'.cell? ⟨b, o, none⟩ = wr.cell? ⟨b, o, none⟩)
            (exact fun b o h => (show Below wr.heap.size wr _ from by first | exact (Below.refl _ _).drew | exact KW.out).cell (p := ⟨b, o, none⟩) h)
            ((go_at_call 9; (with_reducible refine (like_same _ _ _ _ _).mono ?_); rintro e w4 ⟨rfl, hb⟩; have KW := Lib.hid (bl_step ((Below.refl wr.heap.size wr).drew) hb); clear hb))
          go_wp2_with fail
          go_roundw
          case rel => exact ⟨k + 1, by omega, by go_num, Lib.hid (bl_step hB.out KW.out)⟩
          case measure => simp [intOf]; omega
        · obtain rfl : k = n := by omega
          go_wp2_with (go_at_call 6; ((with_reducible refine (awake_out _ (Lib.hid (HE.out.below (bl_step HB2.out hB.out)))).mono ?_); rintro e w3 ⟨rfl, hb⟩; have HB3 := Lib.hid (bl_step (bl_step HB2.out hB.out) hb); clear hb))
          go_ret
          exact ⟨rfl, HB3.out⟩
end Go.Proofs.YtfhknnldkfngdaaDoor
