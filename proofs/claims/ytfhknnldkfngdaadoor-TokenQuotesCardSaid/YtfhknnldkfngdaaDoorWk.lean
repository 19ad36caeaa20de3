/- WALK of Next. -/
import Derived.Test.YtfhknnldkfngdaaDoorWj
import Derived.Test.YtfhknnldkfngdaaDoorMb
namespace Go.Proofs.YtfhknnldkfngdaaDoor
open Go.RowKit
/-- What Next answers: the error, the token, the place. -/
def NxP (r : Int × Tok × Nat) (w : World) (e : Ending) (w' : World) : Prop := e = .returned (.tuple #[r.2.1.v, .int .i64 (r.2.2 : Int), .int .i64 r.1]) ∧ Below w.heap.size w w'
theorem skAt_of {s : ByteArray} {p : Nat} : SkAt s false p (p + skN false (s.toList.drop p)) := rfl
theorem skAt_le {s : ByteArray} {p q : Nat} (hp : p ≤ s.size) (h : SkAt s false p q) : p ≤ q ∧ q ≤ s.size := by
  unfold SkAt at h
  have := skN_le false (s.toList.drop p)
  rw [drop_len] at this
  omega
theorem nextL_end {s : ByteArray} {p q : Nat} (h : SkAt s false p q) (hq : q = s.size) : nextL s.toList p = (0, ⟨⟨0, 0, []⟩, q⟩, q) := by
  unfold SkAt at h
  unfold nextL
  dsimp only
  rw [h, if_pos (by rw [← Nm.size_list]; exact hq)]
theorem nextL_mid {s : ByteArray} {p q : Nat} (h : SkAt s false p q) (hq : q ≠ s.size) : nextL s.toList p = if (firstL (s.toList.drop q)).1 = 0 then (0, ⟨(firstL (s.toList.drop q)).2.1, q⟩, q + (firstL (s.toList.drop q)).2.2) else ((firstL (s.toList.drop q)).1, tok0, q) := by
  unfold SkAt at h
  unfold nextL
  dsimp only
  rw [h, if_neg (by rw [← Nm.size_list]; exact hq)]
theorem skip_as (s : ByteArray) (p q : Nat) (w : World) (hs : s.size ≤ 140737488355328) (hp : p ≤ s.size) (hn : Hid (SkAt s false p q)) : Calls Tryd.prog 14 #[.string s, .int .i64 (p : Int)] w fun e w' => e = .returned (.int .i64 (q : Int)) ∧ w = w' := skip_any s p q w hs hp hn.out
theorem set5 {W : World} {g : Nat} {u0 u1 u2 u3 : Value} (v3 : Value) (c0 : W.cell? ⟨g, 0, none⟩ = some u0) (c1 : W.cell? ⟨g, 1, none⟩ = some u1) (c2 : W.cell? ⟨g, 2, none⟩ = some u2) (c3 : W.cell? ⟨g, 3, none⟩ = some u3) :
    (W.setCell ⟨g, 3, none⟩ v3).cell? ⟨g, 0, none⟩ = some u0 ∧ (W.setCell ⟨g, 3, none⟩ v3).cell? ⟨g, 1, none⟩ = some u1 ∧ (W.setCell ⟨g, 3, none⟩ v3).cell? ⟨g, 2, none⟩ = some u2 ∧ (W.setCell ⟨g, 3, none⟩ v3).cell? ⟨g, 3, none⟩ = some v3 :=
  ⟨by rw [set_far (.inr (by decide)), c0], by rw [set_far (.inr (by decide)), c1], by rw [set_far (.inr (by decide)), c2], set_here c3⟩
set_option maxRecDepth 100000 in
set_option maxHeartbeats 2000000 in
theorem next_any (s : ByteArray) (p : Nat) (w : World) (hE : Ent w) (hs : s.size ≤ 140737488355328) (hp : p ≤ s.size) : Calls Tryd.prog 7 #[.string s, .int .i64 (p : Int)] w (NxP (nextL s.toList p) w) := by
  obtain ⟨q, hq⟩ : ∃ q, SkAt s false p q := ⟨_, skAt_of⟩
  obtain ⟨hpq, hqs⟩ := skAt_le hp hq
  have HQ := Lib.hid hq
  have HE := Lib.hid hE
  clear hE
  by_cases he : q = s.size
  · have HV := Lib.hid (nextL_end hq he)
    have e1 : (q == s.size) = true := by simpa using he
    have e2 : ((q : Int) == (s.size : Int)) = true := by simp; omega
    clear he hq
    go_enter Tryd.func7, Tryd.ntmps7
    go_wp2_with (go_at_call 14; ((with_reducible refine (skip_as s p q _ hs hp HQ).mono ?_); rintro e w' ⟨rfl, rfl⟩))
    exact bodyPost_ret (v := .tuple #[.agg #[.int .i64 0, .int .i64 0, .string ⟨#[]⟩, .int .i64 (q : Int)], .int .i64 (q : Int), .int .i64 0]) (by simp [results, Tryd.results7, go_sem]) rfl ⟨by rw [HV.out]; rfl, bl_alloc (Below.refl _ _)⟩
  · have hlt : q < s.size := by omega
    have HV := Lib.hid (nextL_mid hq he)
    obtain ⟨⟨E, ⟨k, n, t⟩, z⟩, hr⟩ : ∃ r, firstL (s.toList.drop q) = r := ⟨_, rfl⟩
    rw [hr] at HV
    dsimp only at HV
    have HF : Hid (∀ W, Below w.heap.size w W → Calls Tryd.prog 15 #[.string (s.extract q s.size)] W fun e w' => e = .returned (.tuple #[.agg #[.int .i64 k, .int .i64 n, .string (bs t), .int .i64 0], .int .i64 (z : Int), .int .i64 E]) ∧ Below W.heap.size W w') := Lib.hid (fun W hW => first_any _ k n E (bs t) z W (HE.out.below hW) (by simp; omega) (by simp; omega) (by rw [ext_drop, bs_list]; exact hr))
    have HZ : Hid (q + z ≤ 281474976710656) := Lib.hid (by
      have hne : s.toList.drop q ≠ [] := by rw [drop_at s q hlt]; simp
      have h := (firstL_le hne).1
      rw [hr, drop_len] at h
      have h : z ≤ s.size - q := h
      omega)
    have e1 : (q == s.size) = false := by simpa using he
    have e2 : ((q : Int) == (s.size : Int)) = false := by simp; omega
    clear he hq hr
    by_cases h0 : E = 0
    · subst h0
      replace HV := Lib.hid (HV.out.trans (if_pos rfl))
      have hz := HZ.out
      go_enter Tryd.func7, Tryd.ntmps7
      go_wp2_with (first | (go_at_call 14; ((with_reducible refine (skip_as s p q _ hs hp HQ).mono ?_); rintro e w' ⟨rfl, rfl⟩)) | (go_at_call 15; ((with_reducible refine (HF.out _ (bl_alloc (Below.refl _ _))).mono ?_); rintro e w1 ⟨rfl, hb⟩; obtain ⟨hz, hf, c0, c1, c2, c3⟩ := (Tz.new w).later hb; obtain ⟨k0, k1, k2, k3⟩ := set4 (.int .i64 k) (.int .i64 n) (.string (bs t)) (.int .i64 0) c0 c1 c2 c3; obtain ⟨j0, j1, j2, j3⟩ := set5 (.int .i64 (q : Int)) k0 k1 k2 k3; have HB := Lib.hid (bl_step (bl_alloc (Below.refl w.heap.size w)) hb); clear hb)))
      obtain ⟨i0, i1, i2, i3⟩ := set4 (.int .i64 k) (.int .i64 n) (.string (bs t)) (.int .i64 (q : Int)) j0 j1 j2 j3
      exact bodyPost_ret (v := .tuple #[.agg #[.int .i64 k, .int .i64 n, .string (bs t), .int .i64 (q : Int)], .int .i64 ((q : Int) + (z : Int)), .int .i64 0]) (by simp [results, Tryd.results7, go_sem, i0, i1, i2, i3]) rfl ⟨by rw [HV.out]; rfl, bl_set4 (bl_set (bl_set4 HB.out (Nat.le_refl _)) (Nat.le_refl _)) (Nat.le_refl _)⟩
    · replace HV := Lib.hid (HV.out.trans (if_neg h0))
      have h1 : (E != 0) = true := by simpa using h0
      clear h0
      go_enter Tryd.func7, Tryd.ntmps7
      go_wp2_with (first | (go_at_call 14; ((with_reducible refine (skip_as s p q _ hs hp HQ).mono ?_); rintro e w' ⟨rfl, rfl⟩)) | (go_at_call 15; ((with_reducible refine (HF.out _ (bl_alloc (Below.refl _ _))).mono ?_); rintro e w1 ⟨rfl, hb⟩; obtain ⟨hz, hf, c0, c1, c2, c3⟩ := (Tz.new w).later hb; obtain ⟨k0, k1, k2, k3⟩ := set4 (.int .i64 k) (.int .i64 n) (.string (bs t)) (.int .i64 0) c0 c1 c2 c3; have HB := Lib.hid (bl_step (bl_alloc (Below.refl w.heap.size w)) hb); clear hb)))
      obtain ⟨i0, i1, i2, i3⟩ := set4 (.int .i64 0) (.int .i64 0) (.string ⟨#[]⟩) (.int .i64 0) k0 k1 k2 k3
      exact bodyPost_ret (v := .tuple #[.agg #[.int .i64 0, .int .i64 0, .string ⟨#[]⟩, .int .i64 0], .int .i64 (q : Int), .int .i64 E]) (by simp [results, Tryd.results7, go_sem, i0, i1, i2, i3]) rfl ⟨by rw [HV.out]; rfl, bl_set4 (bl_set4 HB.out (Nat.le_refl _)) (Nat.le_refl _)⟩
set_option maxRecDepth 100000 in
set_option maxHeartbeats 1000000 in
theorem next_out (s : ByteArray) (a : Int) (w : World) (h : a < 0 ∨ (¬ a < 0 ∧ (s.size : Int) < a)) : Calls Tryd.prog 7 #[.string s, .int .i64 a] w (NxP (1, tok0, 0) w) := by
  rcases h with h | ⟨h, h2⟩
  all_goals
    go_enter Tryd.func7, Tryd.ntmps7
    go_wp2_with fail
    exact bodyPost_ret (v := .tuple #[.agg #[.int .i64 0, .int .i64 0, .string ⟨#[]⟩, .int .i64 0], .int .i64 0, .int .i64 1]) (by simp [results, Tryd.results7, go_sem]) rfl ⟨rfl, bl_alloc (Below.refl _ _)⟩
end Go.Proofs.YtfhknnldkfngdaaDoor
