/- WALK of the reference's Lex. -/
import Derived.Test.YtfhknnldkfngdaaDoorXg
namespace Go.Proofs.YtfhknnldkfngdaaDoor
open Go.RowKit
theorem rnext_as (s : ByteArray) (p : Nat) (E : Int) (k n a : Int) (t : ByteArray) (z : Nat) (w : World) (hs : s.size ≤ 140737488355328) (hp : p ≤ s.size) (hr : Hid (nextL s.toList p = (E, ⟨⟨k, n, t.toList⟩, a⟩, z))) :
    Calls Tryd.prog 8 #[.string s, .int .i64 (p : Int)] w fun e w' => e = .returned (.tuple #[.agg #[.int .i64 k, .int .i64 n, .string t, .int .i64 a], .int .i64 (z : Int), .int .i64 E]) ∧ Below w.heap.size w w' := by
  have h := rnext_any s p w hs hp
  rw [hr.out] at h
  refine h.mono fun e w' ⟨he, hb⟩ => ⟨?_, hb⟩
  rw [he]; dsimp only [Tok.v]; rw [bs_of]
set_option maxRecDepth 100000 in
set_option maxHeartbeats 4000000 in
theorem rlex_any (s : ByteArray) (w : World) (hs : s.size ≤ 4096) : Calls Tryd.prog 11 #[.string s] w (LexP (lexL s.toList) w) := by
  obtain ⟨R, hR⟩ : ∃ R, lexL s.toList = R := ⟨_, rfl⟩
  have HX : Hid (LxAt s R 0 []) := Lib.hid (by rw [← hR]; exact LxAt.first)
  rw [hR]
  clear hR
  obtain ⟨i0, hi, hz0, hz1, hz2⟩ := info_parts Tryd.info28
  have HI := Lib.hid hi
  have HZ0 := Lib.hid hz0
  have HZ1 := Lib.hid hz1
  have HZ2 := Lib.hid hz2
  clear hi hz0 hz1 hz2
  go_enter Tryd.func11, Tryd.ntmps11
  go_wp2_with fail
  go_loopw [5, 6, 7] (fun v i j wr => ∃ (k : Nat) (acc : List Tok) (a : Option Addr) (cp : Nat) (jj : Nat), jj ≤ k ∧ j = .int .i64 jj ∧ k ≤ s.size ∧ i = .int .i64 k ∧ acc.length ≤ k ∧ v = .slice a acc.length cp ∧ Hid (wr.ownsRow w.heap.size 28 4 (.slice a acc.length cp) acc.length (encs acc)) ∧ Hid (LxAt s R k acc) ∧ Hid (Below (w.heap.size) w wr)) (fun _ i _ _ => s.size - (intOf i).toNat)
  case atStart => exact ⟨0, [], none, 0, 0, by omega, rfl, by omega, rfl, by decide, rfl, Lib.hid (World.ownsRow_nil _ _ _ _), HX, Lib.hid (Below.refl _ _)⟩
  case round =>
    obtain ⟨k, acc, a, cp, jj, hjk, rfl, hk, rfl, hak, rfl, hO, hX, hB⟩ := hrel
    rename World => wr
    obtain ⟨⟨E, ⟨⟨tk, tn, tt⟩, ta⟩, z⟩, hr⟩ : ∃ r, nextL s.toList k = r := ⟨_, rfl⟩
    have HR : Hid (nextL s.toList k = (E, ⟨⟨tk, tn, (bs tt).toList⟩, ta⟩, z)) := Lib.hid (by rw [bs_list]; exact hr)
    by_cases hE0 : E = 0
    · subst hE0
      by_cases hk0 : tk = 0
      · subst hk0
        have HRR := Lib.hid (hX.out.end_ hr rfl rfl)
        clear hr
        go_wp2_with (go_at_call 8; ((with_reducible refine (rnext_as s k 0 0 tn ta (bs tt) z _ (by omega) hk HR).mono ?_); rintro e w1 ⟨rfl, hb⟩; have HO := Lib.hid (owns_below hO.out hb); have HB := Lib.hid (bl_step hB.out hb); clear hb))
        obtain ⟨a', c', e1, hT⟩ := trow_own HO.out rfl
        cases e1
        go_ret3
        rw [HRR.out]
        exact ⟨a, acc.length, cp, rfl, rfl, hT.below (bl_alloc (Below.refl _ _)), bl_alloc HB.out⟩
      · have hk1 : (tk == 0) = false := by simpa using hk0
        obtain ⟨s1, s2, s3⟩ := hX.out.step hr hk rfl hk0
        have HXS := Lib.hid s3
        have HU := Lib.hid (encs_app acc ⟨⟨tk, tn, tt⟩, ta⟩)
        have HLL : Hid ((acc ++ [(⟨⟨tk, tn, tt⟩, ta⟩ : Tok)]).length = acc.length + 1) := Lib.hid (by rw [List.length_append]; rfl)
        have hacc : acc.length ≤ 4096 := by omega
        clear hr hk0 s3
        generalize hL : acc.length = m at *
        have HL := Lib.hid hL
        clear hL
        go_wp2_with (first | (go_at_call 8; ((with_reducible refine (rnext_as s k 0 tk tn ta (bs tt) z _ (by omega) hk HR).mono ?_); rintro e w1 ⟨rfl, hb⟩; have HO := Lib.hid (owns_below hO.out (bl_alloc (o := .cells #[.int .i64 tk, .int .i64 tn, .string (bs tt), .int .i64 ta] 28) hb)); have HB := Lib.hid (bl_step hB.out hb); clear hb)) | (at_builtin; refine wpList_append_own _ rfl _ _ 36 rfl w.heap.size 28 i0 (.agg #[.int .i64 0, .int .i64 0, .string ByteArray.empty, .int .i64 0]) 4 40 Tryd.underlying36 HI.out HZ0.out HZ1.out HZ2.out rfl (by decide) _ _ _ rfl (HO.out.alloc _) ⟨w1.heap.size + 1, 0, none⟩ 1 1 [.int .i64 tk, .int .i64 tn, .string (bs tt), .int .i64 ta] rfl rfl ?q2 ?q3 (by unfold maxLen; omega) (by omega) ?q5 ?_))
        case q2 =>
          intro i u hu
          have e : (w1.alloc (.cells #[.int .i64 tk, .int .i64 tn, .string (bs tt), .int .i64 ta] 28)).heap.size = w1.heap.size + 1 := by simp
          rw [← e]
          exact new4 _ hu
        case q3 =>
          intro u hu
          simp only [List.mem_cons, List.not_mem_nil, or_false] at hu
          rcases hu with rfl | rfl | rfl | rfl <;> rfl
        case q5 => have := HB.out.size; simp; omega
        intro v' w4 hown' hgrow4 hnil4
        have hOW : w4.ownsRow w.heap.size 28 4 v' (m + 1) (encs (acc ++ [⟨⟨tk, tn, tt⟩, ta⟩])) := by rw [HU.out]; exact hown'
        have hB4 := (bl_alloc (bl_alloc HB.out)).grown hgrow4 (by have := HB.out.size; simp; omega) (own_base HO.out)
        obtain ⟨a', c', e1, hT⟩ := trow_own hOW HLL.out.symm
        subst e1
        have HOW := Lib.hid hOW
        have HB4 := Lib.hid hB4
        clear hOW hB4 hT hown' hgrow4 hnil4
        go_wp2_with fail
        go_roundw
        case rel => exact ⟨z, acc ++ [⟨⟨tk, tn, tt⟩, ta⟩], a', c', jj + 1, by omega, by go_num, s2, rfl, by rw [HLL.out]; omega, by rw [HLL.out], by rw [HLL.out]; exact HOW, HXS, HB4⟩
        case measure => simp [intOf]; omega
    · have hE1 : (E != 0) = true := by simpa using hE0
      have HRR := Lib.hid (hX.out.bad hr hE0)
      clear hr hE0
      go_wp2_with (go_at_call 8; ((with_reducible refine (rnext_as s k E tk tn ta (bs tt) z _ (by omega) hk HR).mono ?_); rintro e w1 ⟨rfl, hb⟩; have HB := Lib.hid (bl_step hB.out hb); clear hb))
      go_ret3
      rw [HRR.out]
      exact ⟨none, 0, 0, rfl, rfl, fun j hj => absurd hj (Nat.not_lt_zero _), bl_alloc HB.out⟩
end Go.Proofs.YtfhknnldkfngdaaDoor
