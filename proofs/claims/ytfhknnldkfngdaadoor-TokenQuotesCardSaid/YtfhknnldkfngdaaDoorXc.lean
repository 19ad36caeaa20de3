/- WALK of the reference's Next. -/
import Derived.Test.YtfhknnldkfngdaaDoorXb
namespace Go.Proofs.YtfhknnldkfngdaaDoor
open Go.RowKit
theorem rskip_as (s : ByteArray) (p q : Nat) (w : World) (hs : s.size ≤ 140737488355328) (hp : p ≤ s.size) (hn : Hid (SkAt s false p q)) : Calls Tryd.prog 16 #[.string s, .int .i64 (p : Int)] w fun e w' => e = .returned (.int .i64 (q : Int)) ∧ w = w' := rskip_any s p q w hs hp hn.out
theorem readE_cases (D : List UInt8) : Nu.readE false D = 0 ∨ Nu.readE false D = 2 ∨ Nu.readE false D = 25 := by
  unfold Nu.readE Nu.outE
  cases Nu.formOk false D
  · exact .inr (.inl rfl)
  · simp only [cond_true]
    split
    · exact .inr (.inr rfl)
    · cases Nu.inB (Nu.sgnV false (Nu.vr D))
      · exact .inr (.inr rfl)
      · exact .inl rfl
/-- So many are left of a row that begins at q. -/
def RwAt (s : ByteArray) (p : UInt8 → Bool) (q m k : Nat) : Prop := q ≤ k ∧ k + rowN p (s.toList.drop k) = q + m
theorem RwAt.first {s : ByteArray} {p : UInt8 → Bool} {q : Nat} : RwAt s p q (rowN p (s.toList.drop q)) q := ⟨Nat.le_refl _, rfl⟩
theorem RwAt.step {s : ByteArray} {p : UInt8 → Bool} {q m k : Nat} (h : RwAt s p q m k) (hk : k < s.size) (hp : p s[k] = true) : RwAt s p q m (k + 1) := by
  obtain ⟨h1, h2⟩ := h
  rw [drop_at s k hk, rowN_yes hp] at h2
  exact ⟨by omega, by omega⟩
theorem RwAt.stop {s : ByteArray} {p : UInt8 → Bool} {q m k : Nat} (h : RwAt s p q m k) (hk : k < s.size) (hp : p s[k] = false) : k = q + m := by
  have h2 := h.2
  rw [drop_at s k hk, rowN_no hp] at h2
  omega
theorem RwAt.end_ {s : ByteArray} {p : UInt8 → Bool} {q m k : Nat} (h : RwAt s p q m k) (hk : ¬ k < s.size) : k = q + m := by
  have h2 := h.2
  rw [drop_end s k hk] at h2
  simp only [rowN] at h2; omega
theorem rread_front (t : ByteArray) (D : List UInt8) (V E : Int) (w : World) (ht : Hid (t = bs D)) (hn : Hid (Nu.negS t = false)) (hs : t.size ≤ maxLen) (hV : Hid (Nu.readV false D = V)) (hE : Hid (Nu.readE false D = E)) : Calls Tryd.prog 19 #[.string t] w fun e w' => e = .returned (.tuple #[.int .i64 V, .int .i64 E]) ∧ w = w' := by
  have h := Nu.rread_any t w hs
  rw [Nu.trim_pos hn.out, hn.out, ht.out, ← Lib.toList_data, bs_list, hV.out, hE.out] at h
  rw [ht.out]; exact h
theorem rnright_as (t : ByteArray) (b : Bool) (w : World) (hs : t.size ≤ maxLen) (hb : Hid (Nm.rightL t.toList = b)) : Calls Tryd.prog 21 #[.string t] w fun e w' => e = .returned (.bool b) ∧ w = w' := by rw [← hb.out]; exact Nm.rright_any t w hs
theorem rnword_as (t : ByteArray) (v : Int) (w : World) (hb : Hid (Nm.wordN t.toList = v)) : Calls Tryd.prog 22 #[.string t] w fun e w' => e = .returned (.int .i64 v) ∧ w = w' := by rw [← hb.out]; exact Nm.rword_any t w
theorem rletter_as (c : UInt8) (b : Bool) (w : World) (h : Hid (nmB c = b)) : Calls Tryd.prog 20 #[.int .u8 (c.toNat : Int)] w fun e w' => e = .returned (.bool b) ∧ w = w' := by rw [← h.out]; exact rletter_any c w
theorem firstL_at {s : ByteArray} {q : Nat} (hq : q < s.size) : firstL (s.toList.drop q) = if dgB s[q] = true then numberL (s.toList.drop q) else if lwB s[q] = true then wordL (s.toList.drop q) else if (s[q].toNat : Int) = 34 then textL (s.toList.drop q) else signR (s.toList.drop q) := by
  rw [drop_at s q hq, firstL_cons]
theorem negS_at {s : ByteArray} {q m : Nat} (hq : q < s.size) (hd : dgB s[q] = true) (hm : 0 < m) : Nu.negS (s.extract q (q + m)) = false := by
  unfold Nu.negS
  rw [← Lib.toList_data, ext_cut, drop_at s q hq]
  cases m
  · omega
  · simp only [List.take_succ_cons, List.head?_cons]
    have := dgB_head hd
    simp
    intro e; rw [e] at this; exact this rfl
set_option maxRecDepth 100000 in
set_option maxHeartbeats 2000000 in
theorem rnext_end (s : ByteArray) (p q : Nat) (w : World) (hs : s.size ≤ 140737488355328) (hp : p ≤ s.size) (hq : SkAt s false p q) (he : q = s.size) : Calls Tryd.prog 8 #[.string s, .int .i64 (p : Int)] w (NxP (nextL s.toList p) w) := by
  have HQ := Lib.hid hq
  have HV := Lib.hid (nextL_end hq he)
  have e1 : (q == s.size) = true := by simpa using he
  have e2 : ((q : Int) == (s.size : Int)) = true := by simp; omega
  clear he hq
  go_enter Tryd.func8, Tryd.ntmps8
  go_wp2_with (go_at_call 16; ((with_reducible refine (rskip_as s p q _ hs hp HQ).mono ?_); rintro e w' ⟨rfl, rfl⟩))
  exact bodyPost_ret (v := .tuple #[.agg #[.int .i64 0, .int .i64 0, .string ⟨#[]⟩, .int .i64 (q : Int)], .int .i64 (q : Int), .int .i64 0]) (by simp [results, Tryd.results8, go_sem]) rfl ⟨by rw [HV.out]; rfl, bl_alloc (Below.refl _ _)⟩
set_option maxRecDepth 100000 in
set_option maxHeartbeats 2000000 in
theorem rnext_text (s : ByteArray) (p q : Nat) (w : World) (hs : s.size ≤ 140737488355328) (hp : p ≤ s.size) (hq : SkAt s false p q) (hlt : q < s.size) (h34 : (s[q].toNat : Int) = 34) : Calls Tryd.prog 8 #[.string s, .int .i64 (p : Int)] w (NxP (nextL s.toList p) w) := by
  have HQ := Lib.hid hq
  have hf : firstL (s.toList.drop q) = textL (s.toList.drop q) := by
    rw [firstL_at hlt, if_neg (by unfold dgB; rw [h34]; decide), if_neg (by unfold lwB; rw [h34]; decide), if_pos h34]
  have hn := nextL_mid hq (by omega)
  rw [hf] at hn
  have HT := Lib.hid (fun W => rtext_any s q W hs hlt)
  have e1 : (q == s.size) = false := by simp; omega
  have e2 : ((q : Int) == (s.size : Int)) = false := by simp; omega
  unfold RfP at HT
  rw [← hn] at HT
  obtain ⟨⟨E, ⟨⟨k, n, t⟩, a⟩, z⟩, hr⟩ : ∃ r, nextL s.toList p = r := ⟨_, rfl⟩
  rw [hr] at HT ⊢
  clear hq hf hn hr
  go_enter Tryd.func8, Tryd.ntmps8
  go_wp2_with (first | (go_at_call 16; ((with_reducible refine (rskip_as s p q _ hs hp HQ).mono ?_); rintro e w' ⟨rfl, rfl⟩)) | (go_at_call 17; ((with_reducible refine (HT.out _).mono ?_); rintro e w1 ⟨rfl, hb⟩; obtain ⟨hz, hf, c0, c1, c2, c3⟩ := (Tz.fresh w 28).later hb; have HB := Lib.hid (bl_step (bl_alloc (Below.refl w.heap.size w)) hb); clear hb; dsimp only [Tok.v])))
  obtain ⟨k0, k1, k2, k3⟩ := set4 (.int .i64 k) (.int .i64 n) (.string (bs t)) (.int .i64 a) c0 c1 c2 c3
  exact bodyPost_ret (v := .tuple #[.agg #[.int .i64 k, .int .i64 n, .string (bs t), .int .i64 a], .int .i64 (z : Int), .int .i64 E]) (by simp [results, Tryd.results8, go_sem, k0, k1, k2, k3]) rfl ⟨rfl, bl_set4 HB.out (Nat.le_refl _)⟩
end Go.Proofs.YtfhknnldkfngdaaDoor
