/- WALK of the reader's number. -/
import Derived.Test.YtnejahfeafllkaaO
namespace Go.Proofs.Ytnejahfeafllkaa
open Go.RowKit
def mostR (most : Nat) (L : List UInt8) : Nat × Nat × Nat := if (gets L).1 = 0 ∧ most < (gets L).2.1 then (9, 0, 0) else gets L
/-- What number answers: the number and the error; where it was right, the reader stands behind it, else somewhere. -/
def NumPost (B : Nat) (s : ByteArray) (p : Nat) (g : Nat × Nat × Nat) (w : World) (en : Ending) (w' : World) : Prop :=
  en = .returned (.tuple #[.int .u64 (g.2.1 : Int), .int .i64 (g.1 : Int)]) ∧ (∃ p', Rd w' B s p' 0 ∧ (g.1 = 0 → p' = p + g.2.2)) ∧ Keep B w w'
theorem NumPost.mk' {B : Nat} {s : ByteArray} {p p' a b c : Nat} {g : Nat × Nat × Nat} {w w' : World} {en : Ending} (hg : g = (a, b, c)) (he : en = .returned (.tuple #[.int .u64 (b : Int), .int .i64 (a : Int)])) (hr : Rd w' B s p' 0) (hp : a = 0 → p' = p + c) (hk : Keep B w w') : NumPost B s p g w en w' := by
  subst hg; exact ⟨he, ⟨p', hr, hp⟩, hk⟩
theorem mostR_err {L : List UInt8} {most a b c : Nat} (h : gets L = (a, b, c)) (ha : a ≠ 0) : mostR most L = (a, b, c) := by
  unfold mostR; rw [h, if_neg (by simp [ha])]
theorem mostR_ok {L : List UInt8} {most b c : Nat} (h : gets L = (0, b, c)) (hb : b ≤ most) : mostR most L = (0, b, c) := by
  unfold mostR; rw [h, if_neg (by simp; omega)]
theorem mostR_far {L : List UInt8} {most b c : Nat} (h : gets L = (0, b, c)) (hb : most < b) : mostR most L = (9, 0, 0) := by
  unfold mostR; rw [h, if_pos ⟨rfl, hb⟩]
/-- k groups are read. -/
structure Goes (L : List UInt8) (k n : Nat) : Prop where
  le : k ≤ L.length
  high : High (L.take k)
  is : n = vl (L.take k)
  first : 0 < k → L.head? ≠ some 128
  small : k < 10 → n < 9223372036854775808
theorem Goes.start (L : List UInt8) : Goes L 0 0 := ⟨by omega, by simp [High], rfl, fun h => by omega, fun _ => by decide⟩
theorem head_take {L : List UInt8} {k : Nat} (h : (L.take k).head? = some 128) : L.head? = some 128 := by
  cases k with
  | zero => simp at h
  | succ k =>
    cases L with
    | nil => simp at h
    | cons a L => exact h
theorem Goes.ten {L : List UInt8} {n : Nat} (h : Goes L 10 n) : gets L = (2, 0, 0) := by
  rw [← List.take_append_drop 10 L]
  exact gets_ten h.high (by rw [List.length_take]; have := h.le; omega)
theorem Goes.short {L : List UInt8} {k n : Nat} (h : Goes L k n) (hk : k < 10) (hl : k = L.length) : gets L = (3, 0, 0) := by
  have ht : L.take k = L := by rw [hl]; exact List.take_length
  have hh := h.high
  rw [ht] at hh
  refine gets_short hh (by omega) fun e => ?_
  by_cases h0 : 0 < k
  · exact h.first h0 e
  · cases L with
    | nil => simp at e
    | cons a L => simp at hl; omega
theorem split_at {L : List UInt8} {k : Nat} (hk : k < L.length) : L = L.take k ++ L[k] :: L.drop (k + 1) := by
  rw [← List.drop_eq_getElem_cons hk, List.take_append_drop]
theorem headD_take {L : List UInt8} {k : Nat} (h : 0 < k) : (L.take k).headD 0 = L.headD 0 := by
  obtain ⟨j, rfl⟩ : ∃ j, k = j + 1 := ⟨k - 1, by omega⟩
  cases L <;> rfl
theorem Goes.wide {L : List UInt8} {k n : Nat} (h : Goes L k n) (hk : k < 10) (hl : k < L.length) (hn : 144115188075855871 < n) : k = 9 ∧ gets L = (2, 0, 0) := by
  have hlen : (L.take k).length = k := by rw [List.length_take]; omega
  have h9 : k = 9 := by
    have h1 := vl_lt (L.take k)
    rw [hlen, ← h.is] at h1
    by_cases h8 : k ≤ 8
    · have := Nat.pow_le_pow_right (n := 128) (by decide) h8
      omega
    · omega
  subst h9
  refine ⟨rfl, ?_⟩
  rw [split_at hl]
  refine gets_wide h.high hlen ?_
  have h2 := (wide_of hlen).2
  rw [← h.is] at h2
  have h3 := ((L.take 9).headD 0).toNat_lt
  have h4 : 128 ≤ ((L.take 9).headD 0).toNat := by
    have hm := h.high
    cases ht : L.take 9 with
    | nil => rw [ht] at hlen; simp at hlen
    | cons a T => rw [ht] at hm; exact hm a (by simp)
  generalize ((L.take 9).headD 0).toNat = x at *
  omega
theorem Goes.ok {L : List UInt8} {k n b : Nat} (h : Goes L k n) (hk : k < 10) (hl : k < L.length) (hb : L[k].toNat = b) (hlow : b < 128) (h128 : ¬ (k = 0 ∧ b = 128)) (hn : n ≤ 144115188075855871) : gets L = (0, n * 128 + b, k + 1) := by
  subst hb
  have hlen : (L.take k).length = k := by rw [List.length_take]; omega
  conv => lhs; rw [split_at hl]
  rw [gets_ok h.high hlow (by omega) ?_ ?_, ← h.is, hlen]
  · intro e
    by_cases h0 : 0 < k
    · exact h.first h0 (head_take e)
    · obtain rfl : k = 0 := by omega
      simp at e
  · intro e
    have h2 := (wide_of (show (L.take k).length = 9 by omega)).1
    rw [← h.is] at h2
    have h4 : 128 ≤ ((L.take k).headD 0).toNat := by
      have hm := h.high
      cases ht : L.take k with
      | nil => rw [ht] at e; simp at e
      | cons a T => rw [ht] at hm; exact hm a (by simp)
    have h3 := ((L.take k).headD 0).toNat_lt
    generalize ((L.take k).headD 0).toNat = x at *
    omega
theorem Goes.more {L : List UInt8} {k n b : Nat} (h : Goes L k n) (hk : k < 10) (hl : k < L.length) (hb : L[k].toNat = b) (hhigh : 128 ≤ b) (h128 : ¬ (k = 0 ∧ b = 128)) : Goes L (k + 1) (n * 128 + b % 128) := by
  subst hb
  have ht : L.take (k + 1) = L.take k ++ [L[k]] := by rw [List.take_succ_eq_append_getElem hl]
  refine ⟨by omega, ?_, ?_, fun _ e => ?_, fun hk9 => ?_⟩
  · rw [ht]
    intro c hc
    rcases List.mem_append.1 hc with hc | hc
    · exact h.high c hc
    · rw [List.mem_singleton.1 hc]; exact hhigh
  · rw [ht, vl_snoc, ← h.is]
  · by_cases h0 : 0 < k
    · exact h.first h0 e
    · obtain rfl : k = 0 := by omega
      apply h128
      refine ⟨rfl, ?_⟩
      cases L with
      | nil => simp at hl
      | cons a L => simp at e; subst e; rfl
  · have h1 := vl_lt (L.take k ++ [L[k]])
    rw [vl_snoc, ← h.is] at h1
    rw [List.length_append, List.length_take, List.length_singleton] at h1
    have h2 := Nat.pow_le_pow_right (n := 128) (by decide) (show min k L.length + 1 ≤ 9 by omega)
    omega
theorem num_goal {n b : Nat} : ((n : Int) * 128 + (b : Int) % 128) = ((n * 128 + b % 128 : Nat) : Int) := by omega
theorem ret_num {a b : Int} (h : a = b) : Ending.returned (.tuple #[.int .u64 a, .int .i64 0]) = .returned (.tuple #[.int .u64 b, .int .i64 ((0 : Nat) : Int)]) := by rw [h]; rfl
set_option maxRecDepth 100000 in
set_option maxHeartbeats 4000000 in
theorem number_any (B : Nat) (s : ByteArray) (p most : Nat) (L : List UInt8) (w : World) (h : Rd w B s p 0) (hL : L = s.data.toList.drop p) (hp : p ≤ s.size) (hs : s.size ≤ 140737488355328) (hm : most < 18446744073709551616) :
    Calls Try.prog 67 #[.pointer (some ⟨B, 0, none⟩), .int .u64 most] w (NumPost B s p (mostR most L) w) := by
  have H := Lib.hid h
  have HL := Lib.hid hL
  have hlen : L.length = s.size - p := by rw [hL]; simp
  have HLen := Lib.hid hlen
  clear h hL hlen
  go_enter Try.func67, Try.ntmps67
  go_wp2
  go_loopw [6, 9] (fun v i wr => ∃ (k n : Nat), k ≤ 10 ∧ i = .int .i64 k ∧ v = .int .u64 n ∧ Goes L k n ∧ Rd wr B s (p + k) 0 ∧ Keep B w wr) (fun _ i _ => 10 - (intOf i).toNat)
  case atStart => exact ⟨0, 0, by omega, rfl, rfl, Goes.start L, H.out, Keep.refl B w⟩
  case round =>
    obtain ⟨k, n, hk, rfl, rfl, hG, hR, hK⟩ := hrel
    rename World => wr
    have HG := Lib.hid hG
    have HR := Lib.hid hR
    have HK := Lib.hid hK
    clear hG hR hK
    by_cases hlt : k < 10
    · have hsm := HG.out.small hlt
      obtain ⟨r, hr⟩ : ∃ r, r = s.size - (p + k) := ⟨_, rfl⟩
      have hle : p + k ≤ s.size := by have := HG.out.le; have := HLen.out; omega
      have HLeft := Lib.hid (left_any B s (p + k) 0 wr HR.out hle hs)
      rw [← hr] at HLeft
      by_cases h0 : r = 0
      · subst h0
        have HS := Lib.hid (HG.out.short hlt (by have := HLen.out; omega))
        clear hr
        go_wp2_with (go_at_call 43; refine HLeft.out.mono ?_; rintro e w1 ⟨rfl, hR1, hK1⟩; have HR1 := Lib.hid hR1; have HK1 := Lib.hid hK1; clear hR1 hK1)
        go_ret2
        exact NumPost.mk' (mostR_err HS.out (by decide)) rfl HR1.out (fun e => by cases e) (HK.out.trans HK1.out)
      · have hkL : k < L.length := by have := HLen.out; omega
        obtain ⟨pp, hpp⟩ : ∃ pp, pp = p + k := ⟨_, rfl⟩
        have hpps : pp < s.size := by omega
        obtain ⟨b, hb⟩ : ∃ b, s[pp].toNat = b := ⟨_, rfl⟩
        have hb8 : b < 256 := by rw [← hb]; exact s[pp].toNat_lt
        have hLb : L[k].toNat = b := by
          rw [← hb]
          have e1 : L[k]? = some s[pp] := by
            rw [HL.out, List.getElem?_drop, ← hpp]
            exact List.getElem?_eq_getElem (show pp < s.data.toList.length by simpa using hpps)
          rw [List.getElem?_eq_getElem hkL] at e1
          rw [Option.some.inj e1]
        rw [← hpp] at HLeft
        have hbi : (s[pp].toNat : Int) = (b : Int) := by rw [hb]
        have HLb : Hid (∀ h : k < L.length, (L[k]'h).toNat = b) := fun _ => hLb
        have HkL := Lib.hid hkL
        have HPP := Lib.hid hpp
        clear hr hb hLb hpp hkL
        by_cases hD1 : k = 0 ∧ b = 128
        · obtain ⟨rfl, rfl⟩ := hD1
          have HE := Lib.hid (gets_first (L := L) (by
            cases L with
            | nil => have := HkL.out; simp at this
            | cons a T => have := HLb.out HkL.out; simp at this; have h2 : a = 128 := UInt8.toNat.inj this; rw [h2]; rfl))
          go_wp2_with (go_at_call 43; refine HLeft.out.mono ?_; rintro e w1 ⟨rfl, hR1, hK1⟩; have HR1 := Lib.hid hR1; have HK1 := Lib.hid hK1; obtain ⟨c0, c1, c2, f1, f2⟩ := hR1.cells; clear hR1 hK1)
          go_quiet (fail)
          go_wp2
          go_ret2
          exact NumPost.mk' (mostR_err HE.out (by decide)) rfl (Rd.setAt (w := w1.drewN _) (p' := pp + 1) HR1.out (by omega)) (fun e => by cases e) (((HK.out.trans HK1.out).trans (Keep.drewN _ _ _)).set _ _)
        · have HD1 := Lib.hid hD1
          have hG : (k ≠ 0 ∧ ((k : Int) == 0) = false) ∨ (k = 0 ∧ ((b : Int) == 128) = false) := by
            by_cases hk0 : k = 0
            · right; refine ⟨hk0, ?_⟩
              have : b ≠ 128 := fun e => hD1 ⟨hk0, e⟩
              simp; omega
            · left; refine ⟨hk0, ?_⟩; simp; exact hk0
          clear hD1
          by_cases hn : 144115188075855871 < n
          · obtain ⟨rfl, hw⟩ := HG.out.wide hlt HkL.out hn
            have HE := Lib.hid hw
            clear hw hG
            go_wp2_with (go_at_call 43; refine HLeft.out.mono ?_; rintro e w1 ⟨rfl, hR1, hK1⟩; have HR1 := Lib.hid hR1; have HK1 := Lib.hid hK1; obtain ⟨c0, c1, c2, f1, f2⟩ := hR1.cells; clear hR1 hK1)
            go_quiet (fail)
            go_wp2
            go_ret2
            exact NumPost.mk' (mostR_err HE.out (by decide)) rfl (Rd.setAt (w := w1.drewN _) (p' := pp + 1) HR1.out (by omega)) (fun e => by cases e) (((HK.out.trans HK1.out).trans (Keep.drewN _ _ _)).set _ _)
          · by_cases hb : 128 ≤ b
            · have HM := Lib.hid (HG.out.more hlt HkL.out (HLb.out HkL.out) hb HD1.out)
              rcases hG with ⟨_, hg⟩ | ⟨rfl, hg⟩
              all_goals
                go_wp2_with (go_at_call 43; refine HLeft.out.mono ?_; rintro e w1 ⟨rfl, hR1, hK1⟩; have HR1 := Lib.hid hR1; have HK1 := Lib.hid hK1; obtain ⟨c0, c1, c2, f1, f2⟩ := hR1.cells; clear hR1 hK1)
                go_quiet (fail)
                go_wp2
                go_roundw
              all_goals first
                | exact ⟨k + 1, n * 128 + b % 128, hlt, by go_num, by go_num, HM.out, by rw [show p + (k + 1) = pp + 1 by have := HPP.out; omega]; exact Rd.setAt (w := w1.drewN _) (p' := pp + 1) HR1.out (by omega), ((HK.out.trans HK1.out).trans (Keep.drewN _ _ _)).set _ _⟩
                | exact ⟨0 + 1, n * 128 + b % 128, hlt, by first | rfl | go_num, by go_num, HM.out, by rw [show p + (0 + 1) = pp + 1 by have := HPP.out; omega]; exact Rd.setAt (w := w1.drewN _) (p' := pp + 1) HR1.out (by omega), ((HK.out.trans HK1.out).trans (Keep.drewN _ _ _)).set _ _⟩
                | (simp [intOf]; omega)
                | simp [intOf]
            · have HO := Lib.hid (HG.out.ok hlt HkL.out (HLb.out HkL.out) (by omega) HD1.out (by omega))
              have hbm : (b : Int) % 128 = (b : Int) := by omega
              by_cases hmost : most < n * 128 + b
              · have hmi : (most : Int) < (n : Int) * 128 + (b : Int) := by omega
                rcases hG with ⟨_, hg⟩ | ⟨rfl, hg⟩
                all_goals
                  go_wp2_with (go_at_call 43; refine HLeft.out.mono ?_; rintro e w1 ⟨rfl, hR1, hK1⟩; have HR1 := Lib.hid hR1; have HK1 := Lib.hid hK1; obtain ⟨c0, c1, c2, f1, f2⟩ := hR1.cells; clear hR1 hK1)
                  go_quiet (fail)
                  go_wp2
                  go_ret2
                  exact NumPost.mk' (mostR_far HO.out hmost) rfl (Rd.setAt (w := w1.drewN _) (p' := pp + 1) HR1.out (by omega)) (fun e => by cases e) (((HK.out.trans HK1.out).trans (Keep.drewN _ _ _)).set _ _)
              · have hmi : ¬ (most : Int) < (n : Int) * 128 + (b : Int) := by omega
                rcases hG with ⟨_, hg⟩ | ⟨rfl, hg⟩
                all_goals
                  go_wp2_with (go_at_call 43; refine HLeft.out.mono ?_; rintro e w1 ⟨rfl, hR1, hK1⟩; have HR1 := Lib.hid hR1; have HK1 := Lib.hid hK1; obtain ⟨c0, c1, c2, f1, f2⟩ := hR1.cells; clear hR1 hK1)
                  go_quiet (fail)
                  go_wp2
                  go_ret2
                  exact NumPost.mk' (mostR_ok HO.out (by omega)) (ret_num (by omega)) (Rd.setAt (w := w1.drewN _) (p' := pp + 1) HR1.out (by omega)) (fun _ => by have := HPP.out; omega) (((HK.out.trans HK1.out).trans (Keep.drewN _ _ _)).set _ _)
    · obtain rfl : k = 10 := by omega
      have HT := Lib.hid HG.out.ten
      go_wp2
      go_ret2
      exact NumPost.mk' (mostR_err HT.out (by decide)) rfl HR.out (fun e => by cases e) HK.out
end Go.Proofs.Ytnejahfeafllkaa
