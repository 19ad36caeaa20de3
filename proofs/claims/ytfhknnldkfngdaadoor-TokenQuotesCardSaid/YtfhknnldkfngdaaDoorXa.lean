/- WALK of the reference's text. -/
import Derived.Test.YtfhknnldkfngdaaDoorWk
namespace Go.Proofs.YtfhknnldkfngdaaDoor
open Go.RowKit
theorem Tz.fresh (w : World) (ty : TypeId) : Tz (w.alloc (.cells #[.int .i64 0, .int .i64 0, .string { data := #[] }, .int .i64 0] ty)) w.heap.size := ⟨by simp, fun _ => World.frozen?_alloc_new .., by simp, by simp, by simp, by simp⟩
/-- What the reference answers of a token at a place. -/
def RfP (r : Int × Tk × Nat) (q : Nat) (w : World) (e : Ending) (w' : World) : Prop := NxP (if r.1 = 0 then (0, ⟨r.2.1, q⟩, q + r.2.2) else (r.1, tok0, q)) w e w'
theorem RfP.yes {k n : Int} {t : List UInt8} {z q : Nat} {P : Int} {S : ByteArray} {w w' : World} (hS : S = bs t) (hP : P = (q : Int) + (z : Int)) (hb : Below w.heap.size w w') : RfP (0, ⟨k, n, t⟩, z) q w (.returned (.tuple #[.agg #[.int .i64 k, .int .i64 n, .string S, .int .i64 (q : Int)], .int .i64 P, .int .i64 0])) w' := by
  subst hS hP; exact ⟨rfl, hb⟩
theorem RfP.no {E : Int} {x : Tk × Nat} {q : Nat} {w w' : World} (hE : E ≠ 0) (hb : Below w.heap.size w w') : RfP (E, x) q w (.returned (.tuple #[.agg #[.int .i64 0, .int .i64 0, .string ⟨#[]⟩, .int .i64 0], .int .i64 (q : Int), .int .i64 E])) w' := by
  unfold RfP; rw [if_neg hE]; exact ⟨rfl, hb⟩
def TxQ (s : ByteArray) (q : Nat) (R : Option (List UInt8 × Nat)) (k : Nat) (acc : List UInt8) : Prop := ∃ f, s.size - k < f ∧ txF f (s.toList.drop k) acc (k - q) = R
section
variable {s : ByteArray} {q : Nat} {R : Option (List UInt8 × Nat)} {k : Nat} {acc : List UInt8} (h : TxQ s q R k acc)
include h
theorem TxQ.quote (hk : k < s.size) (hq : (s[k].toNat : Int) = 34) : R = some (acc, k - q) := by
  obtain ⟨f, hf, h⟩ := h
  rw [drop_at s k hk, txF_quote (by omega) hq] at h; exact h.symm
theorem TxQ.end_ (hk : ¬ k < s.size) : R = none := by
  obtain ⟨f, hf, h⟩ := h
  rw [drop_end s k hk, txF_nil] at h; exact h.symm
theorem TxQ.bad (hk : k < s.size) (hq : ¬ (s[k].toNat : Int) = 34) (hp : (partL (s.toList.drop k)).2 = 0) : R = none := by
  obtain ⟨f, hf, h⟩ := h
  rw [drop_at s k hk] at h hp
  rw [txF_bad hq hp] at h; exact h.symm
theorem TxQ.step {n : Nat} {c : Int} (hqk : q ≤ k) (hk : k < s.size) (hq : ¬ (s[k].toNat : Int) = 34) (hp : partL (s.toList.drop k) = (c, n)) (hn : n ≠ 0) : TxQ s q R (k + n) (acc ++ [UInt8.ofNat c.toNat]) := by
  obtain ⟨f, hf, h⟩ := h
  cases f
  · omega
  · rename_i f
    rw [drop_at s k hk] at h hp
    rw [txF_step hq (by rw [hp]; exact hn), hp] at h
    refine ⟨f, by omega, ?_⟩
    rw [← h, ← drop_at s k hk, List.drop_drop, show k + n - q = k - q + n by omega]
end
theorem rpart_bl (s : ByteArray) (k : Nat) (c : Int) (n : Nat) (w : World) (hs : s.size ≤ 140737488355328) (hk : k < s.size) (hr : Hid (partL (s.toList.drop k) = (c, n))) : Calls Tryd.prog 33 #[.string s, .int .i64 (k : Int)] w fun e w' => e = .returned (.tuple #[.int .u8 c, .int .i64 (n : Int)]) ∧ Below w.heap.size w w' := by
  have h := rpart_any s k w hs hk
  rw [hr.out] at h
  exact h.mono fun e w' ⟨he, q, hw⟩ => ⟨he, by subst hw; exact bl_drewN _ _⟩
theorem bs_app (x y : List UInt8) : bs x ++ ⟨y.toArray⟩ = bs (x ++ y) := ByteArray.mk_append_mk x y
theorem conv_one (W : World) (c : Int) (h0 : 0 ≤ c) (h1 : c ≤ 255) : (convert 49 9 (.slice (some ⟨W.heap.size, 0, none⟩) 1 1)).run Tryd.prog (W.alloc (.cells #[.int .u8 c] 5)) = .ok (.string ⟨#[UInt8.ofNat c.toNat]⟩) (W.alloc (.cells #[.int .u8 c] 5)) :=
  conv_row (L := [UInt8.ofNat c.toNat]) 1 (.inr ⟨_, rfl, fun _ => by simp, fun j hj => by
    obtain rfl : j = 0 := by simp at hj; omega
    simp [Addr.add]
    omega⟩)
theorem qtext_none {s : ByteArray} {q : Nat} {R : Option (List UInt8 × Nat)} (h : txF ((s.toList.drop q).length + 1) ((s.toList.drop q).drop 1) [] 1 = R) (hR : R = none) : textL (s.toList.drop q) = (20, ⟨0, 0, []⟩, 0) := by
  unfold textL; rw [h, hR]
theorem qtext_long {s : ByteArray} {q : Nat} {R : Option (List UInt8 × Nat)} {acc : List UInt8} {k : Nat} (h : txF ((s.toList.drop q).length + 1) ((s.toList.drop q).drop 1) [] 1 = R) (hR : R = some (acc, k)) (hl : 256 < acc.length) : textL (s.toList.drop q) = (4, ⟨0, 0, []⟩, 0) := by
  unfold textL; rw [h, hR]; exact if_pos hl
theorem qtext_yes {s : ByteArray} {q : Nat} {R : Option (List UInt8 × Nat)} {acc : List UInt8} {k : Nat} (h : txF ((s.toList.drop q).length + 1) ((s.toList.drop q).drop 1) [] 1 = R) (hR : R = some (acc, k)) (hl : ¬ 256 < acc.length) : textL (s.toList.drop q) = (0, ⟨3, 0, acc⟩, k + 1) := by
  unfold textL; rw [h, hR]; exact if_neg hl
set_option maxRecDepth 100000 in
set_option maxHeartbeats 4000000 in
theorem rtext_any (s : ByteArray) (q : Nat) (w : World) (hs : s.size ≤ 140737488355328) (hq : q < s.size) : Calls Tryd.prog 17 #[.string s, .int .i64 (q : Int)] w (RfP (textL (s.toList.drop q)) q w) := by
  obtain ⟨R, hR⟩ : ∃ R, txF ((s.toList.drop q).length + 1) ((s.toList.drop q).drop 1) [] 1 = R := ⟨_, rfl⟩
  have HT : Hid (TxQ s q R (q + 1) []) := Lib.hid ⟨(s.toList.drop q).length + 1, by rw [drop_len]; omega, by rw [← hR, List.drop_drop, show q + 1 - q = 1 by omega]⟩
  have HR := Lib.hid hR
  clear hR
  go_enter Tryd.func17, Tryd.ntmps17
  go_wp2_with fail
  go_loopw [7, 8] (fun v i wr => ∃ (k : Nat) (acc : List UInt8), k ≤ s.size ∧ q + 1 ≤ k ∧ i = .int .i64 k ∧ acc.length ≤ k ∧ v = .string (bs acc) ∧ Hid (TxQ s q R k acc) ∧ Hid (Tz wr w.heap.size) ∧ Hid (Below (w.heap.size) w wr)) (fun _ i _ => s.size - (intOf i).toNat)
  case atStart => exact ⟨q + 1, [], by omega, by omega, by go_num, by simp, rfl, HT, Lib.hid (Tz.fresh w 28), Lib.hid (bl_alloc (Below.refl _ _))⟩
  case round =>
    obtain ⟨k, acc, hk, hqk, rfl, hak, rfl, hX, hZ, hB⟩ := hrel
    rename World => wr
    have hbs : (bs acc).size = acc.length := bs_size acc
    by_cases hlt : k < s.size
    · obtain ⟨d, hd⟩ : ∃ d : Int, (s[k].toNat : Int) = d := ⟨_, rfl⟩
      have HD := Lib.hid hd
      cases hne : (d != 34)
      · obtain rfl : d = 34 := by simpa using hne
        clear hne
        have HRR := Lib.hid (hX.out.quote hlt hd)
        obtain ⟨hz, hf, c0, c1, c2, c3⟩ := hZ.out
        by_cases hl : 256 < acc.length
        · have HV := Lib.hid (qtext_long HR.out HRR.out hl)
          have hl' : 256 < (bs acc).size := by omega
          clear hbs
          go_wp2_with fail
          obtain ⟨k0, k1, k2, k3⟩ := set4 (.int .i64 0) (.int .i64 0) (.string ⟨#[]⟩) (.int .i64 0) c0 c1 c2 c3
          refine bodyPost_ret (v := .tuple #[.agg #[.int .i64 0, .int .i64 0, .string ⟨#[]⟩, .int .i64 0], .int .i64 (q : Int), .int .i64 4]) (by simp [results, Tryd.results17, go_sem, k0, k1, k2, k3]) rfl ?_
          rw [HV.out]; exact RfP.no (by decide) (bl_set4 hB.out (Nat.le_refl _))
        · have HV := Lib.hid (qtext_yes HR.out HRR.out hl)
          have hl' : ¬ 256 < (bs acc).size := by omega
          clear hbs
          go_wp2_with fail
          obtain ⟨k0, k1, k2, k3⟩ := set4 (.int .i64 3) (.int .i64 0) (.string (bs acc)) (.int .i64 (q : Int)) c0 c1 c2 c3
          refine bodyPost_ret (v := .tuple #[.agg #[.int .i64 3, .int .i64 0, .string (bs acc), .int .i64 (q : Int)], .int .i64 ((k : Int) + 1), .int .i64 0]) (by simp [results, Tryd.results17, go_sem, k0, k1, k2, k3]) rfl ?_
          rw [HV.out]; exact RfP.yes rfl (by omega) (bl_set4 hB.out (Nat.le_refl _))
      · have hq34 : ¬ d = 34 := by simpa using hne
        obtain ⟨⟨c, n⟩, hp⟩ : ∃ r, partL (s.toList.drop k) = r := ⟨_, rfl⟩
        have HP := Lib.hid hp
        obtain ⟨hn1, hc0, hc1⟩ := part_bd hp
        rw [drop_len] at hn1
        by_cases hn : n = 0
        · subst hn
          have HRR := Lib.hid (hX.out.bad hlt (by rw [hd]; exact hq34) (by rw [hp]))
          have HV := Lib.hid (qtext_none HR.out HRR.out)
          clear hp hq34 hbs
          go_wp2_with (go_at_call 33; ((with_reducible refine (rpart_bl s k c 0 _ hs hlt HP).mono ?_); rintro e w1 ⟨rfl, hb⟩; obtain ⟨hz, hf, c0, c1, c2, c3⟩ := hZ.out.later hb; have HB := Lib.hid (bl_step hB.out hb); clear hb))
          obtain ⟨k0, k1, k2, k3⟩ := set4 (.int .i64 0) (.int .i64 0) (.string ⟨#[]⟩) (.int .i64 0) c0 c1 c2 c3
          refine bodyPost_ret (v := .tuple #[.agg #[.int .i64 0, .int .i64 0, .string ⟨#[]⟩, .int .i64 0], .int .i64 (q : Int), .int .i64 20]) (by simp [results, Tryd.results17, go_sem, k0, k1, k2, k3]) rfl ?_
          rw [HV.out]; exact RfP.no (by decide) (bl_set4 HB.out (Nat.le_refl _))
        · have HXS := Lib.hid (hX.out.step (by omega) hlt (by rw [hd]; exact hq34) hp hn)
          have hkn : k + n ≤ s.size := by omega
          have hcv := fun W => conv_one W c hc0 hc1
          have hb1 : (bs acc).size + 1 ≤ 140737488355329 := by omega
          have HBS : Hid (bs acc ++ ⟨#[UInt8.ofNat c.toNat]⟩ = bs (acc ++ [UInt8.ofNat c.toNat])) := Lib.hid (bs_app acc [UInt8.ofNat c.toNat])
          have HLL : Hid ((acc ++ [UInt8.ofNat c.toNat]).length = acc.length + 1) := Lib.hid (by rw [List.length_append]; rfl)
          clear hp hq34 hbs
          go_wp2_with (go_at_call 33; ((with_reducible refine (rpart_bl s k c n _ hs hlt HP).mono ?_); rintro e w1 ⟨rfl, hb⟩; have HZ := Lib.hid (hZ.out.later hb); have HB := Lib.hid (bl_step hB.out hb); clear hb))
          go_roundw
          case rel => exact ⟨k + n, acc ++ [UInt8.ofNat c.toNat], hkn, by omega, by go_num, by rw [HLL.out]; omega, by rw [← HBS.out], HXS, Lib.hid (HZ.out.later (bl_alloc (Below.refl _ _))), Lib.hid (bl_alloc HB.out)⟩
          case measure => simp [intOf]; omega
    · have HRR := Lib.hid (hX.out.end_ hlt)
      have HV := Lib.hid (qtext_none HR.out HRR.out)
      obtain ⟨hz, hf, c0, c1, c2, c3⟩ := hZ.out
      clear hbs
      go_wp2_with fail
      obtain ⟨k0, k1, k2, k3⟩ := set4 (.int .i64 0) (.int .i64 0) (.string ⟨#[]⟩) (.int .i64 0) c0 c1 c2 c3
      refine bodyPost_ret (v := .tuple #[.agg #[.int .i64 0, .int .i64 0, .string ⟨#[]⟩, .int .i64 0], .int .i64 (q : Int), .int .i64 20]) (by simp [results, Tryd.results17, go_sem, k0, k1, k2, k3]) rfl ?_
      rw [HV.out]; exact RfP.no (by decide) (bl_set4 hB.out (Nat.le_refl _))
end Go.Proofs.YtfhknnldkfngdaaDoor
