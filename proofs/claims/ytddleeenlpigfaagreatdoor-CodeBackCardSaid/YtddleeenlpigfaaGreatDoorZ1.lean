/- Vf, Vg, Vh, Vs, Vi, Vj, Vk, Vl, Vm -/
import Derived.Test.YtddleeenlpigfaaGreatDoorChecked
import Derived.WalkKit
import Derived.WalkSpells
import Derived.WalkLawsBesides
import Derived.Lib.Hide
import Derived.Laws.Rows
import Derived.Laws.CopyOwn
import Derived.RegionTactic
import Derived.BigRegion
import Derived.Test.YtddleeenlpigfaaGreatDoorZ0
import Derived.Deep.QuietTactic
import Derived.BigQuiet
import Derived.Outline
import Derived.Shelf.LaysM
import Derived.Shelf.Strconv.Clone
/- WALKS of the reader: Err, Left, End, number. -/
namespace Go.Proofs.YtddleeenlpigfaaGreatDoor.Vn
open Go.RowKit
/-- A reader in block B: at this place of the text, with this error. -/
def Rd (w : World) (B : Nat) (s : ByteArray) (p e : Nat) : Prop := w.heap[B]? = some (.cells #[.string s, .int .i64 (p : Int), .int .i64 (e : Int)] 122 (0, 0))
/-- Whatever block there was stands as it was, but block B. -/
structure Keep (B : Nat) (w w' : World) : Prop where
  os : w'.os = w.os
  tape : w'.tape = w.tape
  output : w'.output = w.output
  size : w.heap.size ≤ w'.heap.size
  block : ∀ k, k < w.heap.size → k ≠ B → w'.heap[k]? = w.heap[k]?
theorem Keep.refl (B : Nat) (w : World) : Keep B w w := ⟨rfl, rfl, rfl, Nat.le_refl _, fun _ _ _ => rfl⟩
theorem Keep.trans {B : Nat} {a b c : World} (h : Keep B a b) (k : Keep B b c) : Keep B a c :=
  ⟨k.os.trans h.os, k.tape.trans h.tape, k.output.trans h.output, Nat.le_trans h.size k.size, fun i hi hB => (k.block i (Nat.lt_of_lt_of_le hi h.size) hB).trans (h.block i hi hB)⟩
theorem Keep.drew {B : Nat} {a w : World} (h : Keep B a w) : Keep B a w.drew := ⟨h.os, h.tape, h.output, h.size, h.block⟩
theorem Keep.of_below {B : Nat} {w w' : World} (h : Below w.heap.size w w') : Keep B w w' := ⟨h.os, h.tape, h.output, h.size, fun k hk _ => h.block k hk⟩
theorem Keep.set {B : Nat} {a w : World} (h : Keep B a w) (i : Nat) (v : Value) : Keep B a (w.setCell ⟨B, i, none⟩ v) :=
  ⟨h.os, h.tape, h.output, by rw [show (w.setCell ⟨B, i, none⟩ v).heap.size = w.heap.size by simp [World.setCell]]; exact h.size, fun k hk hB => by
    rw [Below.heap_setCell w ⟨B, i, none⟩ v k hB]; exact h.block k hk hB⟩
theorem Keep.below {B N : Nat} {w0 w w' : World} (h : Below N w0 w) (k : Keep B w w') (hB : N ≤ B) (hN : N ≤ w.heap.size) : Below N w0 w' :=
  h.trans ⟨k.os, k.tape, k.output, k.size, fun i hi => k.block i (by omega) (by omega)⟩
theorem Rd.cells {w : World} {B : Nat} {s : ByteArray} {p e : Nat} (h : Rd w B s p e) :
    w.cell? ⟨B, 0, none⟩ = some (.string s) ∧ w.cell? ⟨B, 1, none⟩ = some (.int .i64 (p : Int)) ∧ w.cell? ⟨B, 2, none⟩ = some (.int .i64 (e : Int)) ∧ w.frozen? ⟨B, 1, none⟩ = false ∧ w.frozen? ⟨B, 2, none⟩ = false := by
  unfold Rd at h
  refine ⟨?_, ?_, ?_, ?_, ?_⟩ <;> simp [World.cell?, World.frozen?, h]
theorem set_heap {w : World} {B i : Nat} {cs : Array Value} {t : TypeId} {v : Value} (h : w.heap[B]? = some (.cells cs t (0, 0))) : (w.setCell ⟨B, i, none⟩ v).heap[B]? = some (.cells (cs.setIfInBounds i v) t (0, 0)) := by
  have := setCell_eq_setRow w B i cs t (0, 0) v h
  rw [this]
  exact setRow_heap w B cs _ t _ h
theorem Rd.setAt {w : World} {B : Nat} {s : ByteArray} {p e p' : Nat} {v : Int} (h : Rd w B s p e) (hv : v = (p' : Int)) : Rd (w.setCell ⟨B, 1, none⟩ (.int .i64 v)) B s p' e := by
  subst hv; exact set_heap h
theorem Rd.setErr {w : World} {B : Nat} {s : ByteArray} {p e e' : Nat} {v : Int} (h : Rd w B s p e) (hv : v = (e' : Int)) : Rd (w.setCell ⟨B, 2, none⟩ (.int .i64 v)) B s p e' := by
  subst hv; exact set_heap h
theorem Rd.lt {w : World} {B : Nat} {s : ByteArray} {p e : Nat} (h : Rd w B s p e) : B < w.heap.size := (Array.getElem?_eq_some_iff.1 h).1
/-- What a call of the reader answers, and where the reader stands then. -/
def RdPost (B : Nat) (s : ByteArray) (v : Value) (p e : Nat) (w : World) (en : Ending) (w' : World) : Prop := en = .returned v ∧ Rd w' B s p e ∧ Keep B w w'
set_option maxHeartbeats 400000 in
theorem err_any (B : Nat) (s : ByteArray) (p e : Nat) (w : World) (h : Rd w B s p e) : Calls Tryz.prog 102 #[.pointer (some ⟨B, 0, none⟩)] w fun en w' => en = .returned (.int .i64 (e : Int)) ∧ w = w' := by
  obtain ⟨h0, h1, h2, _, _⟩ := h.cells
  go_enter Tryz.func102, Tryz.ntmps102
  go_wp2
  go_ret
  exact ⟨rfl, rfl⟩
theorem Keep.drewN (B : Nat) (w : World) (n : Nat) : Keep B w (w.drewN n) := ⟨rfl, rfl, rfl, Nat.le_refl _, fun _ _ _ => rfl⟩
set_option maxHeartbeats 400000 in
theorem left_any (B : Nat) (s : ByteArray) (p e : Nat) (w : World) (h : Rd w B s p e) (hp : p ≤ s.size) (hs : s.size ≤ 140737488355328) : Calls Tryz.prog 104 #[.pointer (some ⟨B, 0, none⟩)] w (RdPost B s (.int .i64 ((s.size - p : Nat) : Int)) p e w) := by
  obtain ⟨h0, h1, h2, _, _⟩ := h.cells
  have hw : IntKind.i64.wrap ((s.size : Int) - (p : Int)) = ((s.size - p : Nat) : Int) := by rw [IntKind.wrap_i64]; omega
  have H := Lib.hid h
  clear h
  go_enter Tryz.func104, Tryz.ntmps104
  go_wp2
  go_quiet (fail)
  go_wp2
  go_ret
  exact ⟨rfl, H.out, Keep.drewN _ _ _⟩
set_option maxHeartbeats 400000 in
theorem left_nil (w : World) : Calls Tryz.prog 104 #[.pointer none] w fun en w' => en = .returned (.int .i64 0) ∧ w = w' := by
  go_enter Tryz.func104, Tryz.ntmps104
  go_wp2
  go_ret
  exact ⟨rfl, rfl⟩
end Go.Proofs.YtddleeenlpigfaaGreatDoor.Vn
/- WALK of the reader's number. -/
namespace Go.Proofs.YtddleeenlpigfaaGreatDoor.Vn
open Go.RowKit
def mostR (most : Nat) (L : List UInt8) : Nat × Nat × Nat := if (gets L).1 = 0 ∧ most < (gets L).2.1 then (9, 0, 0) else gets L
/-- What number answers: the number and the error; where it was right, the reader stands behind it, else somewhere. -/
def NumPost (B : Nat) (s : ByteArray) (p : Nat) (g : Nat × Nat × Nat) (w : World) (en : Ending) (w' : World) : Prop :=
  en = .returned (.tuple #[.int .u64 (g.2.1 : Int), .int .i64 (g.1 : Int)]) ∧ (∃ p', Rd w' B s p' 0 ∧ (g.1 = 0 → p' = p + g.2.2)) ∧ Keep B w w'
theorem NumPost.mk' {B : Nat} {s : ByteArray} {p p' a b c : Nat} {g : Nat × Nat × Nat} {w w' : World} {en : Ending} (hg : g = (a, b, c)) (he : en = .returned (.tuple #[.int .u64 (b : Int), .int .i64 (a : Int)])) (hr : Rd w' B s p' 0) (hp : a = 0 → p' = p + c) (hk : Keep B w w') : NumPost B s p g w en w' := by
  subst hg; exact ⟨he, ⟨p', hr, hp⟩, hk⟩
theorem mostR_err {L : List UInt8} {most a b c : Nat} (h : gets L = (a, b, c)) (ha : a ≠ 0) : mostR most L = (a, b, c) := by
  unfold mostR; rw [h, if_neg (by simp [ha])]
theorem mostR_ok {L : List UInt8} {most b c : Nat} (h : gets L = (0, b, c)) (hb : b ≤ most) : mostR most L = (0, b, c) := by
  unfold mostR; rw [h, if_neg (by simp; omega)]
theorem mostR_far {L : List UInt8} {most b c : Nat} (h : gets L = (0, b, c)) (hb : most < b) : mostR most L = (9, 0, 0) := by
  unfold mostR; rw [h, if_pos ⟨rfl, hb⟩]
/-- k groups are read. -/
structure Goes (L : List UInt8) (k n : Nat) : Prop where
  le : k ≤ L.length
  high : High (L.take k)
  is : n = vl (L.take k)
  first : 0 < k → L.head? ≠ some 128
  small : k < 10 → n < 9223372036854775808
theorem Goes.start (L : List UInt8) : Goes L 0 0 := ⟨by omega, by simp [High], rfl, fun h => by omega, fun _ => by decide⟩
theorem head_take {L : List UInt8} {k : Nat} (h : (L.take k).head? = some 128) : L.head? = some 128 := by
  cases k with
  | zero => simp at h
  | succ k =>
    cases L with
    | nil => simp at h
    | cons a L => exact h
theorem Goes.ten {L : List UInt8} {n : Nat} (h : Goes L 10 n) : gets L = (2, 0, 0) := by
  rw [← List.take_append_drop 10 L]
  exact gets_ten h.high (by rw [List.length_take]; have := h.le; omega)
theorem Goes.short {L : List UInt8} {k n : Nat} (h : Goes L k n) (hk : k < 10) (hl : k = L.length) : gets L = (3, 0, 0) := by
  have ht : L.take k = L := by rw [hl]; exact List.take_length
  have hh := h.high
  rw [ht] at hh
  refine gets_short hh (by omega) fun e => ?_
  by_cases h0 : 0 < k
  · exact h.first h0 e
  · cases L with
    | nil => simp at e
    | cons a L => simp at hl; omega
theorem split_at {L : List UInt8} {k : Nat} (hk : k < L.length) : L = L.take k ++ L[k] :: L.drop (k + 1) := by
  rw [← List.drop_eq_getElem_cons hk, List.take_append_drop]
theorem headD_take {L : List UInt8} {k : Nat} (h : 0 < k) : (L.take k).headD 0 = L.headD 0 := by
  obtain ⟨j, rfl⟩ : ∃ j, k = j + 1 := ⟨k - 1, by omega⟩
  cases L <;> rfl
theorem Goes.wide {L : List UInt8} {k n : Nat} (h : Goes L k n) (hk : k < 10) (hl : k < L.length) (hn : 144115188075855871 < n) : k = 9 ∧ gets L = (2, 0, 0) := by
  have hlen : (L.take k).length = k := by rw [List.length_take]; omega
  have h9 : k = 9 := by
    have h1 := vl_lt (L.take k)
    rw [hlen, ← h.is] at h1
    by_cases h8 : k ≤ 8
    · have := Nat.pow_le_pow_right (n := 128) (by decide) h8
      omega
    · omega
  subst h9
  refine ⟨rfl, ?_⟩
  rw [split_at hl]
  refine gets_wide h.high hlen ?_
  have h2 := (wide_of hlen).2
  rw [← h.is] at h2
  have h3 := ((L.take 9).headD 0).toNat_lt
  have h4 : 128 ≤ ((L.take 9).headD 0).toNat := by
    have hm := h.high
    cases ht : L.take 9 with
    | nil => rw [ht] at hlen; simp at hlen
    | cons a T => rw [ht] at hm; exact hm a (by simp)
  generalize ((L.take 9).headD 0).toNat = x at *
  omega
theorem Goes.ok {L : List UInt8} {k n b : Nat} (h : Goes L k n) (hk : k < 10) (hl : k < L.length) (hb : L[k].toNat = b) (hlow : b < 128) (h128 : ¬ (k = 0 ∧ b = 128)) (hn : n ≤ 144115188075855871) : gets L = (0, n * 128 + b, k + 1) := by
  subst hb
  have hlen : (L.take k).length = k := by rw [List.length_take]; omega
  conv => lhs; rw [split_at hl]
  rw [gets_ok h.high hlow (by omega) ?_ ?_, ← h.is, hlen]
  · intro e
    by_cases h0 : 0 < k
    · exact h.first h0 (head_take e)
    · obtain rfl : k = 0 := by omega
      simp at e
  · intro e
    have h2 := (wide_of (show (L.take k).length = 9 by omega)).1
    rw [← h.is] at h2
    have h4 : 128 ≤ ((L.take k).headD 0).toNat := by
      have hm := h.high
      cases ht : L.take k with
      | nil => rw [ht] at e; simp at e
      | cons a T => rw [ht] at hm; exact hm a (by simp)
    have h3 := ((L.take k).headD 0).toNat_lt
    generalize ((L.take k).headD 0).toNat = x at *
    omega
theorem Goes.more {L : List UInt8} {k n b : Nat} (h : Goes L k n) (hk : k < 10) (hl : k < L.length) (hb : L[k].toNat = b) (hhigh : 128 ≤ b) (h128 : ¬ (k = 0 ∧ b = 128)) : Goes L (k + 1) (n * 128 + b % 128) := by
  subst hb
  have ht : L.take (k + 1) = L.take k ++ [L[k]] := by rw [List.take_succ_eq_append_getElem hl]
  refine ⟨by omega, ?_, ?_, fun _ e => ?_, fun hk9 => ?_⟩
  · rw [ht]
    intro c hc
    rcases List.mem_append.1 hc with hc | hc
    · exact h.high c hc
    · rw [List.mem_singleton.1 hc]; exact hhigh
  · rw [ht, vl_snoc, ← h.is]
  · by_cases h0 : 0 < k
    · exact h.first h0 e
    · obtain rfl : k = 0 := by omega
      apply h128
      refine ⟨rfl, ?_⟩
      cases L with
      | nil => simp at hl
      | cons a L => simp at e; subst e; rfl
  · have h1 := vl_lt (L.take k ++ [L[k]])
    rw [vl_snoc, ← h.is] at h1
    rw [List.length_append, List.length_take, List.length_singleton] at h1
    have h2 := Nat.pow_le_pow_right (n := 128) (by decide) (show min k L.length + 1 ≤ 9 by omega)
    omega
theorem ret_num {a b : Int} (h : a = b) : Ending.returned (.tuple #[.int .u64 a, .int .i64 0]) = .returned (.tuple #[.int .u64 b, .int .i64 ((0 : Nat) : Int)]) := by rw [h]; rfl
set_option maxRecDepth 100000 in
set_option maxHeartbeats 4000000 in
theorem number_any (B : Nat) (s : ByteArray) (p most : Nat) (L : List UInt8) (w : World) (h : Rd w B s p 0) (hL : L = s.data.toList.drop p) (hp : p ≤ s.size) (hs : s.size ≤ 140737488355328) (hm : most < 18446744073709551616) :
    Calls Tryz.prog 131 #[.pointer (some ⟨B, 0, none⟩), .int .u64 most] w (NumPost B s p (mostR most L) w) := by
  have H := Lib.hid h
  have HL := Lib.hid hL
  have hlen : L.length = s.size - p := by rw [hL]; simp
  have HLen := Lib.hid hlen
  clear h hL hlen
  go_enter Tryz.func131, Tryz.ntmps131
  go_wp2
  go_loopw [6, 9] (fun v i wr => ∃ (k n : Nat), k ≤ 10 ∧ i = .int .i64 k ∧ v = .int .u64 n ∧ Goes L k n ∧ Rd wr B s (p + k) 0 ∧ Keep B w wr) (fun _ i _ => 10 - (intOf i).toNat)
  case atStart => exact ⟨0, 0, by omega, rfl, rfl, Goes.start L, H.out, Keep.refl B w⟩
  case round =>
    obtain ⟨k, n, hk, rfl, rfl, hG, hR, hK⟩ := hrel
    rename World => wr
    have HG := Lib.hid hG
    have HR := Lib.hid hR
    have HK := Lib.hid hK
    clear hG hR hK
    by_cases hlt : k < 10
    · have hsm := HG.out.small hlt
      obtain ⟨r, hr⟩ : ∃ r, r = s.size - (p + k) := ⟨_, rfl⟩
      have hle : p + k ≤ s.size := by have := HG.out.le; have := HLen.out; omega
      have HLeft := Lib.hid (left_any B s (p + k) 0 wr HR.out hle hs)
      rw [← hr] at HLeft
      by_cases h0 : r = 0
      · subst h0
        have HS := Lib.hid (HG.out.short hlt (by have := HLen.out; omega))
        clear hr
        go_wp2_with (go_at_call 104; refine HLeft.out.mono ?_; rintro e w1 ⟨rfl, hR1, hK1⟩; have HR1 := Lib.hid hR1; have HK1 := Lib.hid hK1; clear hR1 hK1)
        go_ret2
        exact NumPost.mk' (mostR_err HS.out (by decide)) rfl HR1.out (fun e => by cases e) (HK.out.trans HK1.out)
      · have hkL : k < L.length := by have := HLen.out; omega
        obtain ⟨pp, hpp⟩ : ∃ pp, pp = p + k := ⟨_, rfl⟩
        have hpps : pp < s.size := by omega
        obtain ⟨b, hb⟩ : ∃ b, s[pp].toNat = b := ⟨_, rfl⟩
        have hb8 : b < 256 := by rw [← hb]; exact s[pp].toNat_lt
        have hLb : L[k].toNat = b := by
          rw [← hb]
          have e1 : L[k]? = some s[pp] := by
            rw [HL.out, List.getElem?_drop, ← hpp]
            exact List.getElem?_eq_getElem (show pp < s.data.toList.length by simpa using hpps)
          rw [List.getElem?_eq_getElem hkL] at e1
          rw [Option.some.inj e1]
        rw [← hpp] at HLeft
        have hbi : (s[pp].toNat : Int) = (b : Int) := by rw [hb]
        have HLb : Hid (∀ h : k < L.length, (L[k]'h).toNat = b) := fun _ => hLb
        have HkL := Lib.hid hkL
        have HPP := Lib.hid hpp
        clear hr hb hLb hpp hkL
        by_cases hD1 : k = 0 ∧ b = 128
        · obtain ⟨rfl, rfl⟩ := hD1
          have HE := Lib.hid (gets_first (L := L) (by
            cases L with
            | nil => have := HkL.out; simp at this
            | cons a T => have := HLb.out HkL.out; simp at this; have h2 : a = 128 := UInt8.toNat.inj this; rw [h2]; rfl))
          go_wp2_with (go_at_call 104; refine HLeft.out.mono ?_; rintro e w1 ⟨rfl, hR1, hK1⟩; have HR1 := Lib.hid hR1; have HK1 := Lib.hid hK1; obtain ⟨c0, c1, c2, f1, f2⟩ := hR1.cells; clear hR1 hK1)
          go_quiet (fail)
          go_wp2
          go_ret2
          exact NumPost.mk' (mostR_err HE.out (by decide)) rfl (Rd.setAt (w := w1.drewN _) (p' := pp + 1) HR1.out (by omega)) (fun e => by cases e) (((HK.out.trans HK1.out).trans (Keep.drewN _ _ _)).set _ _)
        · have HD1 := Lib.hid hD1
          have hG : (k ≠ 0 ∧ ((k : Int) == 0) = false) ∨ (k = 0 ∧ ((b : Int) == 128) = false) := by
            by_cases hk0 : k = 0
            · right; refine ⟨hk0, ?_⟩
              have : b ≠ 128 := fun e => hD1 ⟨hk0, e⟩
              simp; omega
            · left; refine ⟨hk0, ?_⟩; simp; exact hk0
          clear hD1
          by_cases hn : 144115188075855871 < n
          · obtain ⟨rfl, hw⟩ := HG.out.wide hlt HkL.out hn
            have HE := Lib.hid hw
            clear hw hG
            go_wp2_with (go_at_call 104; refine HLeft.out.mono ?_; rintro e w1 ⟨rfl, hR1, hK1⟩; have HR1 := Lib.hid hR1; have HK1 := Lib.hid hK1; obtain ⟨c0, c1, c2, f1, f2⟩ := hR1.cells; clear hR1 hK1)
            go_quiet (fail)
            go_wp2
            go_ret2
            exact NumPost.mk' (mostR_err HE.out (by decide)) rfl (Rd.setAt (w := w1.drewN _) (p' := pp + 1) HR1.out (by omega)) (fun e => by cases e) (((HK.out.trans HK1.out).trans (Keep.drewN _ _ _)).set _ _)
          · by_cases hb : 128 ≤ b
            · have HM := Lib.hid (HG.out.more hlt HkL.out (HLb.out HkL.out) hb HD1.out)
              rcases hG with ⟨_, hg⟩ | ⟨rfl, hg⟩
              all_goals
                go_wp2_with (go_at_call 104; refine HLeft.out.mono ?_; rintro e w1 ⟨rfl, hR1, hK1⟩; have HR1 := Lib.hid hR1; have HK1 := Lib.hid hK1; obtain ⟨c0, c1, c2, f1, f2⟩ := hR1.cells; clear hR1 hK1)
                go_quiet (fail)
                go_wp2
                go_roundw
              all_goals first
                | exact ⟨k + 1, n * 128 + b % 128, hlt, by go_num, by go_num, HM.out, by rw [show p + (k + 1) = pp + 1 by have := HPP.out; omega]; exact Rd.setAt (w := w1.drewN _) (p' := pp + 1) HR1.out (by omega), ((HK.out.trans HK1.out).trans (Keep.drewN _ _ _)).set _ _⟩
                | exact ⟨0 + 1, n * 128 + b % 128, hlt, by first | rfl | go_num, by go_num, HM.out, by rw [show p + (0 + 1) = pp + 1 by have := HPP.out; omega]; exact Rd.setAt (w := w1.drewN _) (p' := pp + 1) HR1.out (by omega), ((HK.out.trans HK1.out).trans (Keep.drewN _ _ _)).set _ _⟩
                | (simp [intOf]; omega)
                | simp [intOf]
            · have HO := Lib.hid (HG.out.ok hlt HkL.out (HLb.out HkL.out) (by omega) HD1.out (by omega))
              have hbm : (b : Int) % 128 = (b : Int) := by omega
              by_cases hmost : most < n * 128 + b
              · have hmi : (most : Int) < (n : Int) * 128 + (b : Int) := by omega
                rcases hG with ⟨_, hg⟩ | ⟨rfl, hg⟩
                all_goals
                  go_wp2_with (go_at_call 104; refine HLeft.out.mono ?_; rintro e w1 ⟨rfl, hR1, hK1⟩; have HR1 := Lib.hid hR1; have HK1 := Lib.hid hK1; obtain ⟨c0, c1, c2, f1, f2⟩ := hR1.cells; clear hR1 hK1)
                  go_quiet (fail)
                  go_wp2
                  go_ret2
                  exact NumPost.mk' (mostR_far HO.out hmost) rfl (Rd.setAt (w := w1.drewN _) (p' := pp + 1) HR1.out (by omega)) (fun e => by cases e) (((HK.out.trans HK1.out).trans (Keep.drewN _ _ _)).set _ _)
              · have hmi : ¬ (most : Int) < (n : Int) * 128 + (b : Int) := by omega
                rcases hG with ⟨_, hg⟩ | ⟨rfl, hg⟩
                all_goals
                  go_wp2_with (go_at_call 104; refine HLeft.out.mono ?_; rintro e w1 ⟨rfl, hR1, hK1⟩; have HR1 := Lib.hid hR1; have HK1 := Lib.hid hK1; obtain ⟨c0, c1, c2, f1, f2⟩ := hR1.cells; clear hR1 hK1)
                  go_quiet (fail)
                  go_wp2
                  go_ret2
                  exact NumPost.mk' (mostR_ok HO.out (by omega)) (ret_num (by omega)) (Rd.setAt (w := w1.drewN _) (p' := pp + 1) HR1.out (by omega)) (fun _ => by have := HPP.out; omega) (((HK.out.trans HK1.out).trans (Keep.drewN _ _ _)).set _ _)
    · obtain rfl : k = 10 := by omega
      have HT := Lib.hid HG.out.ten
      go_wp2
      go_ret2
      exact NumPost.mk' (mostR_err HT.out (by decide)) rfl HR.out (fun e => by cases e) HK.out
end Go.Proofs.YtddleeenlpigfaaGreatDoor.Vn
/- WALKS of the reader's calls: take, Get, Most, GetInt, New, End. -/
namespace Go.Proofs.YtddleeenlpigfaaGreatDoor.Vn
open Go.RowKit
/-- What a call answers, and where the reader stands then: nothing behind an error; nothing, and the place where it began, where this call is refused. -/
def nxt (p e : Nat) (g : Nat × Nat × Nat) : Nat × Nat × Nat := if e ≠ 0 then (0, p, e) else if g.1 = 0 then (g.2.1, p + g.2.2, 0) else (0, p, g.1)
theorem nxt_err {p e : Nat} {g : Nat × Nat × Nat} (h : e ≠ 0) : nxt p e g = (0, p, e) := by unfold nxt; rw [if_pos h]
theorem nxt_ok {p a b c : Nat} (h : a = 0) : nxt p 0 (a, b, c) = (b, p + c, 0) := by unfold nxt; rw [if_neg (by simp), if_pos h]
theorem nxt_no {p a b c : Nat} (h : a ≠ 0) : nxt p 0 (a, b, c) = (0, p, a) := by unfold nxt; rw [if_neg (by simp), if_neg h]
theorem RdPost.to {B : Nat} {s : ByteArray} {x : Nat × Nat × Nat} {a b c : Nat} {w w' : World} {en : Ending} (hx : x = (a, b, c)) (he : en = .returned (.int .u64 (a : Int))) (hr : Rd w' B s b c) (hk : Keep B w w') : RdPost B s (.int .u64 (x.1 : Int)) x.2.1 x.2.2 w en w' := by
  subst hx; exact ⟨he, hr, hk⟩
set_option maxHeartbeats 1000000 in
theorem take_any (B : Nat) (s : ByteArray) (p e most : Nat) (M : Int) (L : List UInt8) (w : World) (h : Rd w B s p e) (hL : L = s.data.toList.drop p) (hp : p ≤ s.size) (hs : s.size ≤ 140737488355328) (hm : most < 18446744073709551616) (hM : M = (most : Int)) :
    Calls Tryz.prog 130 #[.pointer (some ⟨B, 0, none⟩), .func (.func 131) #[.pointer (some ⟨B, 0, none⟩)] #[], .int .u64 M] w (RdPost B s (.int .u64 ((nxt p e (mostR most L)).1 : Int)) (nxt p e (mostR most L)).2.1 (nxt p e (mostR most L)).2.2 w) := by
  obtain ⟨c0, c1, c2, f1, f2⟩ := h.cells
  have HE := Lib.hid (err_any B s p e w h)
  have H := Lib.hid h
  by_cases h0 : e = 0
  · subst h0
    have HN := Lib.hid (number_any B s p most L w h hL hp hs hm)
    rw [← hM] at HN
    obtain ⟨⟨a, b, c⟩, hg⟩ : ∃ g, g = mostR most L := ⟨_, rfl⟩
    rw [← hg] at HN ⊢
    clear h hL hM hg
    unfold NumPost at HN
    by_cases ha : a = 0
    · have HA := Lib.hid (nxt_ok (p := p) (b := b) (c := c) ha)
      have HP := Lib.hid ha
      have ha2 : ((a : Int) != 0) = false := by simp; exact ha
      clear ha
      go_enter Tryz.func130, Tryz.ntmps130
      go_wp2_with (first
        | (go_at_call 102; refine HE.out.mono ?_; rintro e w1 ⟨rfl, rfl⟩)
        | (go_at_call 131; refine HN.out.mono ?_; rintro e w2 ⟨rfl, hR, hK⟩; have HR := Lib.hid hR; have HK := Lib.hid hK; clear hR hK))
      go_ret
      obtain ⟨p', hr, hp'⟩ := HR.out
      rw [hp' HP.out] at hr
      exact RdPost.to HA.out rfl hr HK.out
    · have HA := Lib.hid (nxt_no (p := p) (b := b) (c := c) ha)
      have ha2 : ((a : Int) != 0) = true := by simp; exact ha
      clear ha
      go_enter Tryz.func130, Tryz.ntmps130
      go_wp2_with (first
        | (go_at_call 102; refine HE.out.mono ?_; rintro e w1 ⟨rfl, rfl⟩)
        | (go_at_call 131; refine HN.out.mono ?_; rintro e w2 ⟨rfl, ⟨p', hR, _⟩, hK⟩; obtain ⟨d0, d1, d2, g1, g2⟩ := hR.cells; have HR := Lib.hid hR; have HK := Lib.hid hK; clear hR hK))
      go_ret
      exact RdPost.to HA.out rfl ((HR.out.setAt rfl).setErr rfl) ((HK.out.set _ _).set _ _)
  · have HA := Lib.hid (nxt_err (p := p) (g := mostR most L) h0)
    have he : ((e : Int) != 0) = true := by simp; exact h0
    clear h h0 hL hM
    go_enter Tryz.func130, Tryz.ntmps130
    go_wp2_with (go_at_call 102; refine HE.out.mono ?_; rintro e w1 ⟨rfl, rfl⟩)
    go_ret
    exact RdPost.to HA.out rfl H.out (Keep.refl _ _)
theorem mostR_top {L : List UInt8} : mostR 18446744073709551615 L = gets L := by
  unfold mostR
  rw [if_neg]
  rintro ⟨h1, h2⟩
  obtain ⟨⟨a, b, c⟩, hg⟩ : ∃ g, gets L = g := ⟨_, rfl⟩
  rw [hg] at h1 h2
  simp at h1; subst h1
  have := (gets_back hg).2.1
  simp at h2; omega
set_option maxHeartbeats 1000000 in
theorem get_any (B : Nat) (s : ByteArray) (p e : Nat) (L : List UInt8) (w : World) (h : Rd w B s p e) (hL : L = s.data.toList.drop p) (hp : p ≤ s.size) (hs : s.size ≤ 140737488355328) :
    Calls Tryz.prog 132 #[.pointer (some ⟨B, 0, none⟩)] w (RdPost B s (.int .u64 ((nxt p e (gets L)).1 : Int)) (nxt p e (gets L)).2.1 (nxt p e (gets L)).2.2 w) := by
  have H := Lib.hid (take_any B s p e 18446744073709551615 18446744073709551615 L w h hL hp hs (by decide) rfl)
  rw [mostR_top] at H
  generalize nxt p e (gets L) = x at *
  clear h hL
  go_enter Tryz.func132, Tryz.ntmps132
  go_wp2_with (go_at_call 130; refine H.out.mono ?_; rintro e w1 ⟨rfl, hR, hK⟩; have HR := Lib.hid hR; have HK := Lib.hid hK; clear hR hK)
  go_ret
  exact ⟨rfl, HR.out, HK.out⟩
set_option maxHeartbeats 1000000 in
theorem most_any (B : Nat) (s : ByteArray) (p e most : Nat) (L : List UInt8) (w : World) (h : Rd w B s p e) (hL : L = s.data.toList.drop p) (hp : p ≤ s.size) (hs : s.size ≤ 140737488355328) (hm : most < 18446744073709551616) :
    Calls Tryz.prog 101 #[.pointer (some ⟨B, 0, none⟩), .int .u64 most] w (RdPost B s (.int .u64 ((nxt p e (mostR most L)).1 : Int)) (nxt p e (mostR most L)).2.1 (nxt p e (mostR most L)).2.2 w) := by
  have H := Lib.hid (take_any B s p e most most L w h hL hp hs hm rfl)
  generalize nxt p e (mostR most L) = x at *
  clear h hL
  go_enter Tryz.func101, Tryz.ntmps101
  go_wp2_with (go_at_call 130; refine H.out.mono ?_; rintro e w1 ⟨rfl, hR, hK⟩; have HR := Lib.hid hR; have HK := Lib.hid hK; clear hR hK)
  go_ret
  exact ⟨rfl, HR.out, HK.out⟩
theorem usg_odd {n : Nat} (h : ((n : Int) % 2 == 1) = true) : -((n : Int) / 2) - 1 = usg n := by
  unfold usg; rw [if_pos (by simp at h; omega)]; omega
theorem usg_even {n : Nat} (h : ((n : Int) % 2 == 1) = false) : (n : Int) / 2 = usg n := by
  unfold usg; rw [if_neg (by simp at h; omega)]; omega
set_option maxHeartbeats 1000000 in
theorem signed_any (n : Nat) (w : World) (hn : n < 18446744073709551616) : Calls Tryz.prog 163 #[.int .u64 n] w fun e w' => e = .returned (.int .i64 (usg n)) ∧ w = w' := by
  cases h : ((n : Int) % 2 == 1)
  · have H := Lib.hid (usg_even h)
    go_enter Tryz.func163, Tryz.ntmps163
    go_wp2
    go_ret
    exact ⟨ret_int H.out, rfl⟩
  · have H := Lib.hid (usg_odd h)
    go_enter Tryz.func163, Tryz.ntmps163
    go_wp2
    go_ret
    exact ⟨ret_int H.out, rfl⟩
theorem nxt_lt {p e : Nat} {L : List UInt8} : (nxt p e (gets L)).1 < 18446744073709551616 := by
  unfold nxt
  split
  · show 0 < 18446744073709551616
    decide
  · split
    · rename_i h
      obtain ⟨⟨a, b, c⟩, hg⟩ : ∃ g, gets L = g := ⟨_, rfl⟩
      rw [hg] at h ⊢
      simp at h; subst h
      exact (gets_back hg).2.1
    · show 0 < 18446744073709551616
      decide
set_option maxHeartbeats 1000000 in
theorem getint_any (B : Nat) (s : ByteArray) (p e : Nat) (L : List UInt8) (w : World) (h : Rd w B s p e) (hL : L = s.data.toList.drop p) (hp : p ≤ s.size) (hs : s.size ≤ 140737488355328) :
    Calls Tryz.prog 133 #[.pointer (some ⟨B, 0, none⟩)] w (RdPost B s (.int .i64 (usg (nxt p e (gets L)).1)) (nxt p e (gets L)).2.1 (nxt p e (gets L)).2.2 w) := by
  have H := Lib.hid (get_any B s p e L w h hL hp hs)
  have hx := nxt_lt (p := p) (e := e) (L := L)
  generalize nxt p e (gets L) = x at *
  have HS := fun w => Lib.hid (signed_any x.1 w hx)
  clear h hL
  go_enter Tryz.func133, Tryz.ntmps133
  go_wp2_with (first
    | (go_at_call 132; refine H.out.mono ?_; rintro e w1 ⟨rfl, hR, hK⟩; have HR := Lib.hid hR; have HK := Lib.hid hK; clear hR hK)
    | (go_at_call 163; refine (HS _).out.mono ?_; rintro e w2 ⟨rfl, rfl⟩))
  go_ret
  exact ⟨rfl, HR.out, HK.out⟩
set_option maxHeartbeats 1000000 in
theorem new_any (s : ByteArray) (w : World) : Calls Tryz.prog 59 #[.string s] w fun e w' => e = .returned (.pointer (some ⟨w.heap.size, 0, none⟩)) ∧ Rd w' w.heap.size s 0 0 ∧ Below w.heap.size w w' ∧ w.heap.size < w'.heap.size := by
  go_enter Tryz.func59, Tryz.ntmps59
  go_wp2
  go_ret
  exact ⟨rfl, heap_alloc_new w _, (Below.refl _ w).alloc (Nat.le_refl _) _, by simp⟩
/-- What End tells. -/
def endE (s : ByteArray) (p e : Nat) : Nat := if e ≠ 0 then e else if p < s.size then 4 else 0
set_option maxHeartbeats 1000000 in
theorem end_any (B : Nat) (s : ByteArray) (p e : Nat) (w : World) (h : Rd w B s p e) (hp : p ≤ s.size) (hs : s.size ≤ 140737488355328) :
    Calls Tryz.prog 61 #[.pointer (some ⟨B, 0, none⟩)] w (RdPost B s (.int .i64 (endE s p e : Int)) p e w) := by
  have HE := Lib.hid (err_any B s p e w h)
  have HL := Lib.hid (left_any B s p e w h hp hs)
  have H := Lib.hid h
  obtain ⟨r, hr⟩ : ∃ r, r = s.size - p := ⟨_, rfl⟩
  rw [← hr] at HL
  clear h
  by_cases h0 : e = 0
  · subst h0
    by_cases h1 : 0 < r
    · have e1 : endE s p 0 = 4 := by unfold endE; rw [if_neg (by simp), if_pos (by omega)]
      rw [e1]
      clear e1 hr
      go_enter Tryz.func61, Tryz.ntmps61
      go_wp2_with (first
        | (go_at_call 102; refine HE.out.mono ?_; rintro e w1 ⟨rfl, rfl⟩)
        | (go_at_call 104; refine HL.out.mono ?_; rintro e w2 ⟨rfl, hR, hK⟩; have HR := Lib.hid hR; have HK := Lib.hid hK; clear hR hK))
      go_ret
      exact ⟨rfl, HR.out, HK.out⟩
    · have e1 : endE s p 0 = 0 := by unfold endE; rw [if_neg (by simp), if_neg (by omega)]
      rw [e1]
      clear e1 hr
      go_enter Tryz.func61, Tryz.ntmps61
      go_wp2_with (first
        | (go_at_call 102; refine HE.out.mono ?_; rintro e w1 ⟨rfl, rfl⟩)
        | (go_at_call 104; refine HL.out.mono ?_; rintro e w2 ⟨rfl, hR, hK⟩; have HR := Lib.hid hR; have HK := Lib.hid hK; clear hR hK))
      go_ret
      exact ⟨rfl, HR.out, HK.out⟩
  · have e1 : endE s p e = e := by unfold endE; rw [if_pos h0]
    rw [e1]
    have he : ((e : Int) != 0) = true := by simp; exact h0
    clear e1 hr h0
    go_enter Tryz.func61, Tryz.ntmps61
    go_wp2_with (go_at_call 102; refine HE.out.mono ?_; rintro e w1 ⟨rfl, rfl⟩)
    go_ret
    exact ⟨rfl, H.out, Keep.refl _ _⟩
end Go.Proofs.YtddleeenlpigfaaGreatDoor.Vn
/- The library's contract of internal/stringslite.Clone at this program's own numbers, laid by the library's command and written out in plain words. -/
namespace Go.Proofs
open Go.Shelf
def Tryz.laysM316_ren : Go.Shelf.Ren := ⟨fun | 316 => 183 | n => n, fun | 9 => 9 | 3 => 3 | 4 => 4 | 37 => 74 | 0 => 0 | 127 => 194 | 5 => 5 | n => n, fun | n => n⟩
theorem Tryz.laysM316 : Go.Proofs.LaysM.n316 Tryz.prog Tryz.laysM316_ren := {
  mixed := by kernel_rfl
  f316 := Tryz.func183.trans (congrArg some (by kernel_rfl))
  t0 := Tryz.underlying0
  a0 := Tryz.isAgg0
  z0 := Tryz.sizeOf0
  v0 := Tryz.zeroValue0
  t3 := Tryz.underlying3
  a3 := Tryz.isAgg3
  z3 := Tryz.sizeOf3
  v3 := Tryz.zeroValue3
  t4 := Tryz.underlying4
  a4 := Tryz.isAgg4
  z4 := Tryz.sizeOf4
  v4 := Tryz.zeroValue4
  t9 := Tryz.underlying9
  a9 := Tryz.isAgg9
  z9 := Tryz.sizeOf9
  v9 := Tryz.zeroValue9
  t37 := Tryz.underlying74
  a37 := Tryz.isAgg74
  z37 := Tryz.sizeOf74
  v37 := Tryz.zeroValue74
  t127 := Tryz.underlying194
  a127 := Tryz.isAgg194
  z127 := Tryz.sizeOf194
  v127 := Tryz.zeroValue194
  t5 := Tryz.underlying5
  a5 := Tryz.isAgg5
  z5 := Tryz.sizeOf5
  v5 := Tryz.zeroValue5
  i0 := by kernel_rfl
  i3 := by kernel_rfl
  i4 := by kernel_rfl
  i5 := by kernel_rfl
  i9 := by kernel_rfl
  i37 := by kernel_rfl
  i127 := by kernel_rfl }
open Go.RowKit in
theorem Tryz.stringslite_Clone (s : ByteArray) (w : World) (hlim : s.size ≤ 281474976710656) :
    Calls Tryz.prog 183 #[.string s] w fun e w' => e = .returned (.string s) ∧ Below w.heap.size w w' := Any.stringslite_Clone Tryz.laysM316 s w hlim
end Go.Proofs

namespace Go.Proofs.YtddleeenlpigfaaGreatDoor.Vn
open Go.RowKit
theorem clone_any (s : ByteArray) (w : World) (hs : s.size ≤ 140737488355328) : Calls Tryz.prog 179 #[.string s] w fun e w' => e = .returned (.string s) ∧ Below w.heap.size w w' := by
  go_enter Tryz.func179, Tryz.ntmps179
  go_wp2_with (go_at_call 183; refine (Tryz.stringslite_Clone _ _ (by omega)).mono ?_; rintro e w1 ⟨rfl, hB⟩; have HB := Lib.hid hB; clear hB)
  go_ret
  exact ⟨rfl, HB.out⟩
end Go.Proofs.YtddleeenlpigfaaGreatDoor.Vn
/- WALKS of the reader's text, take at texts, GetText. -/
namespace Go.Proofs.YtddleeenlpigfaaGreatDoor.Vn
open Go.RowKit
/-- What text tells: the error, the text, how many bytes it went on. -/
def textR (s : ByteArray) (p : Nat) (g : Nat × Nat × Nat) : Nat × ByteArray × Nat :=
  if g.1 ≠ 0 then (g.1, ⟨#[]⟩, 0) else if s.size - (p + g.2.2) < g.2.1 then (3, ⟨#[]⟩, 0) else (0, s.extract (p + g.2.2) (p + g.2.2 + g.2.1), g.2.2 + g.2.1)
def TextPost (B : Nat) (s : ByteArray) (p : Nat) (g : Nat × ByteArray × Nat) (w : World) (en : Ending) (w' : World) : Prop :=
  en = .returned (.tuple #[.string g.2.1, .int .i64 (g.1 : Int)]) ∧ (∃ p', Rd w' B s p' 0 ∧ (g.1 = 0 → p' = p + g.2.2)) ∧ Keep B w w'
theorem TextPost.mk' {B : Nat} {s t : ByteArray} {p p' a c : Nat} {g : Nat × ByteArray × Nat} {w w' : World} {en : Ending} (hg : g = (a, t, c)) (he : en = .returned (.tuple #[.string t, .int .i64 (a : Int)])) (hr : Rd w' B s p' 0) (hp : a = 0 → p' = p + c) (hk : Keep B w w') : TextPost B s p g w en w' := by
  subst hg; exact ⟨he, ⟨p', hr, hp⟩, hk⟩
theorem mostR_le {most : Nat} {L : List UInt8} {b c : Nat} (h : mostR most L = (0, b, c)) : gets L = (0, b, c) ∧ b ≤ most := by
  unfold mostR at h
  split at h
  · cases h
  · rename_i h2
    refine ⟨h, ?_⟩
    rw [h] at h2
    simp at h2; omega
theorem Rd.below {w w' : World} {B : Nat} {s : ByteArray} {p e : Nat} (h : Rd w B s p e) (hb : Below w.heap.size w w') : Rd w' B s p e := (hb.block B h.lt).trans h
set_option maxRecDepth 100000 in
set_option maxHeartbeats 2000000 in
theorem text_any (B : Nat) (s : ByteArray) (p most : Nat) (L : List UInt8) (w : World) (h : Rd w B s p 0) (hL : L = s.data.toList.drop p) (hp : p ≤ s.size) (hs : s.size ≤ 140737488355328) (hm : most < 18446744073709551616) :
    Calls Tryz.prog 165 #[.pointer (some ⟨B, 0, none⟩), .int .u64 most] w (TextPost B s p (textR s p (mostR most L)) w) := by
  have HN := Lib.hid (number_any B s p most L w h hL hp hs hm)
  have hlen : L.length = s.size - p := by rw [hL]; simp
  obtain ⟨⟨a, b, c⟩, hg⟩ : ∃ g, mostR most L = g := ⟨_, rfl⟩
  rw [hg] at HN ⊢
  unfold NumPost at HN
  by_cases ha : a = 0
  · subst ha
    obtain ⟨g1, g2⟩ := mostR_le hg
    obtain ⟨_, hb64, hcl⟩ := gets_back g1
    have hpc : p + c ≤ s.size := by omega
    clear h hL hg g1 hlen
    by_cases hfit : s.size - (p + c) < b
    · have HT := Lib.hid (show textR s p (0, b, c) = (3, ⟨#[]⟩, 0) by unfold textR; rw [if_neg (by simp), if_pos hfit])
      have hfi : ((s.size - (p + c) : Nat) : Int) < (b : Int) := by omega
      have HLf := fun w h => Lib.hid (left_any B s (p + c) 0 w h hpc hs)
      have hr47 : ((s.size - (p + c) : Nat) : Int) ≤ 140737488355328 := by omega
      generalize s.size - (p + c) = r at *
      go_enter Tryz.func165, Tryz.ntmps165
      go_wp2_with (first
        | (go_at_call 131; refine HN.out.mono ?_; rintro e w2 ⟨rfl, ⟨p', hR, hp'⟩, hK⟩; obtain rfl : p' = p + c := hp' rfl; have HR := Lib.hid hR; have HK := Lib.hid hK; clear hR hK hp')
        | (go_at_call 104; refine (HLf _ HR.out).out.mono ?_; rintro e w3 ⟨rfl, hR, hK⟩; have HR2 := Lib.hid hR; have HK2 := Lib.hid hK; clear hR hK))
      go_ret2
      exact TextPost.mk' HT.out rfl HR2.out (fun e => by cases e) (HK.out.trans HK2.out)
    · have HT := Lib.hid (show textR s p (0, b, c) = (0, s.extract (p + c) (p + c + b), c + b) by unfold textR; rw [if_neg (by simp), if_neg hfit])
      have hfi : ¬ ((s.size - (p + c) : Nat) : Int) < (b : Int) := by omega
      have HLf := fun w h => Lib.hid (left_any B s (p + c) 0 w h hpc hs)
      obtain ⟨r, hr⟩ : ∃ r, r = s.size - (p + c) := ⟨_, rfl⟩
      rw [← hr] at HLf hfi hfit
      obtain ⟨q, hq⟩ : ∃ q, q = p + c := ⟨_, rfl⟩
      obtain ⟨z, hz⟩ : ∃ z, z = q + b := ⟨_, rfl⟩
      have hz1 : (q : Int) + (b : Int) = (z : Int) := by omega
      have hz2 : (q : Int) ≤ (z : Int) := by omega
      have hz3 : (z : Int) ≤ (s.size : Int) := by omega
      have hz4 : z ≤ 140737488355328 := by omega
      have hbb : (b : Int) ≤ 140737488355328 := by omega
      rw [← hq] at HLf HT
      rw [← hz] at HT
      have HC := fun w => Lib.hid (clone_any (s.extract q z) w (by rw [ByteArray.size_extract]; omega))
      have HQ := Lib.hid hq
      have HZ := Lib.hid hz
      have hr47 : (r : Int) ≤ 140737488355328 := by omega
      clear hr hq hz
      go_enter Tryz.func165, Tryz.ntmps165
      go_wp2_with (first
        | (go_at_call 131; refine HN.out.mono ?_; rintro e w2 ⟨rfl, ⟨p', hR, hp'⟩, hK⟩; obtain rfl : p' = q := (hp' rfl).trans HQ.out.symm; have HR := Lib.hid hR; have HK := Lib.hid hK; clear hR hK hp')
        | (go_at_call 104; refine (HLf _ HR.out).out.mono ?_; rintro e w3 ⟨rfl, hR, hK⟩; obtain ⟨d0, d1, d2, k1, k2⟩ := hR.cells; have HR2 := Lib.hid hR; have HK2 := Lib.hid hK; clear hR hK))
      have HR3 := Lib.hid (Rd.setAt (v := (z : Int)) HR2.out rfl)
      have HK3 := Lib.hid ((HK.out.trans HK2.out).set 1 (.int .i64 (z : Int)))
      clear HR2 HK2 HK d0 d1 d2 k1 k2
      generalize w3.setCell ⟨B, 1, none⟩ (.int .i64 (z : Int)) = w4 at *
      obtain ⟨d0, d1, d2, k1, k2⟩ := HR3.out.cells
      go_region_with ((go_at_call 179; refine (HC _).out.mono ?_; rintro e w5 ⟨rfl, hB⟩; have HB := Lib.hid hB; clear hB))
      all_goals go_wp2
      all_goals go_ret2
      all_goals exact TextPost.mk' HT.out rfl (Rd.below (w := w4.drew) HR3.out HB.out) (fun _ => by have := HQ.out; have := HZ.out; omega) (HK3.out.drew.trans (Keep.of_below HB.out))
  · have HT := Lib.hid (show textR s p (a, b, c) = (a, ⟨#[]⟩, 0) by unfold textR; rw [if_pos ha])
    have HA := Lib.hid ha
    have hai : ((a : Int) != 0) = true := by simp; exact ha
    clear h hL hg ha
    go_enter Tryz.func165, Tryz.ntmps165
    go_wp2_with (go_at_call 131; refine HN.out.mono ?_; rintro e w2 ⟨rfl, ⟨p', hR, hp'⟩, hK⟩; have HR := Lib.hid hR; have HK := Lib.hid hK; clear hR hK hp')
    go_ret2
    exact TextPost.mk' HT.out rfl HR.out (fun e => absurd e HA.out) HK.out
end Go.Proofs.YtddleeenlpigfaaGreatDoor.Vn
/- WALKS of take at texts, GetText. -/
namespace Go.Proofs.YtddleeenlpigfaaGreatDoor.Vn
open Go.RowKit
def nxtT (p e : Nat) (g : Nat × ByteArray × Nat) : ByteArray × Nat × Nat := if e ≠ 0 then (⟨#[]⟩, p, e) else if g.1 = 0 then (g.2.1, p + g.2.2, 0) else (⟨#[]⟩, p, g.1)
theorem nxtT_err {p e : Nat} {g : Nat × ByteArray × Nat} (h : e ≠ 0) : nxtT p e g = (⟨#[]⟩, p, e) := by unfold nxtT; rw [if_pos h]
theorem nxtT_ok {p a c : Nat} {b : ByteArray} (h : a = 0) : nxtT p 0 (a, b, c) = (b, p + c, 0) := by unfold nxtT; rw [if_neg (by simp), if_pos h]
theorem nxtT_no {p a c : Nat} {b : ByteArray} (h : a ≠ 0) : nxtT p 0 (a, b, c) = (⟨#[]⟩, p, a) := by unfold nxtT; rw [if_neg (by simp), if_neg h]
theorem RdPost.toT {B : Nat} {s : ByteArray} {x : ByteArray × Nat × Nat} {a : ByteArray} {b c : Nat} {w w' : World} {en : Ending} (hx : x = (a, b, c)) (he : en = .returned (.string a)) (hr : Rd w' B s b c) (hk : Keep B w w') : RdPost B s (.string x.1) x.2.1 x.2.2 w en w' := by
  subst hx; exact ⟨he, hr, hk⟩
set_option maxHeartbeats 1000000 in
theorem takeT_any (B : Nat) (s : ByteArray) (p e most : Nat) (L : List UInt8) (w : World) (h : Rd w B s p e) (hL : L = s.data.toList.drop p) (hp : p ≤ s.size) (hs : s.size ≤ 140737488355328) (hm : most < 18446744073709551616) :
    Calls Tryz.prog 164 #[.pointer (some ⟨B, 0, none⟩), .func (.func 165) #[.pointer (some ⟨B, 0, none⟩)] #[], .int .u64 most] w (RdPost B s (.string (nxtT p e (textR s p (mostR most L))).1) (nxtT p e (textR s p (mostR most L))).2.1 (nxtT p e (textR s p (mostR most L))).2.2 w) := by
  obtain ⟨c0, c1, c2, f1, f2⟩ := h.cells
  have HE := Lib.hid (err_any B s p e w h)
  have H := Lib.hid h
  by_cases h0 : e = 0
  · subst h0
    have HN := Lib.hid (text_any B s p most L w h hL hp hs hm)
    obtain ⟨⟨a, b, c⟩, hg⟩ : ∃ g, g = textR s p (mostR most L) := ⟨_, rfl⟩
    rw [← hg] at HN ⊢
    clear h hL hg
    unfold TextPost at HN
    by_cases ha : a = 0
    · have HA := Lib.hid (nxtT_ok (p := p) (b := b) (c := c) ha)
      have HP := Lib.hid ha
      have ha2 : ((a : Int) != 0) = false := by simp; exact ha
      clear ha
      go_enter Tryz.func164, Tryz.ntmps164
      go_wp2_with (first
        | (go_at_call 102; refine HE.out.mono ?_; rintro e w1 ⟨rfl, rfl⟩)
        | (go_at_call 165; refine HN.out.mono ?_; rintro e w2 ⟨rfl, hR, hK⟩; have HR := Lib.hid hR; have HK := Lib.hid hK; clear hR hK))
      go_ret
      obtain ⟨p', hr, hp'⟩ := HR.out
      rw [hp' HP.out] at hr
      exact RdPost.toT HA.out rfl hr HK.out
    · have HA := Lib.hid (nxtT_no (p := p) (b := b) (c := c) ha)
      have ha2 : ((a : Int) != 0) = true := by simp; exact ha
      clear ha
      go_enter Tryz.func164, Tryz.ntmps164
      go_wp2_with (first
        | (go_at_call 102; refine HE.out.mono ?_; rintro e w1 ⟨rfl, rfl⟩)
        | (go_at_call 165; refine HN.out.mono ?_; rintro e w2 ⟨rfl, ⟨p', hR, _⟩, hK⟩; obtain ⟨d0, d1, d2, g1, g2⟩ := hR.cells; have HR := Lib.hid hR; have HK := Lib.hid hK; clear hR hK))
      go_ret
      exact RdPost.toT HA.out rfl ((HR.out.setAt rfl).setErr rfl) ((HK.out.set _ _).set _ _)
  · have HA := Lib.hid (nxtT_err (p := p) (g := textR s p (mostR most L)) h0)
    have he : ((e : Int) != 0) = true := by simp; exact h0
    clear h h0 hL
    go_enter Tryz.func164, Tryz.ntmps164
    go_wp2_with (go_at_call 102; refine HE.out.mono ?_; rintro e w1 ⟨rfl, rfl⟩)
    go_ret
    exact RdPost.toT HA.out rfl H.out (Keep.refl _ _)
/-- The greatest length that GetText lets by. -/
def mostOf (m : Int) : Nat := m.toNat
set_option maxHeartbeats 1000000 in
theorem gettext_any (B : Nat) (s : ByteArray) (p e : Nat) (m : Int) (L : List UInt8) (w : World) (h : Rd w B s p e) (hL : L = s.data.toList.drop p) (hp : p ≤ s.size) (hs : s.size ≤ 140737488355328) (hm : m ≤ 9223372036854775807) :
    Calls Tryz.prog 134 #[.pointer (some ⟨B, 0, none⟩), .int .i64 m] w (RdPost B s (.string (nxtT p e (textR s p (mostR (mostOf m) L))).1) (nxtT p e (textR s p (mostR (mostOf m) L))).2.1 (nxtT p e (textR s p (mostR (mostOf m) L))).2.2 w) := by
  have H := Lib.hid (takeT_any B s p e (mostOf m) L w h hL hp hs (by unfold mostOf; omega))
  generalize nxtT p e (textR s p (mostR (mostOf m) L)) = x at *
  clear h hL
  have e0 : ((mostOf m : Nat) : Int) = max m 0 := by unfold mostOf; omega
  rw [e0] at H
  clear e0
  go_enter Tryz.func134, Tryz.ntmps134
  go_wp2_with (go_at_call 164; refine H.out.mono ?_; rintro e w1 ⟨rfl, hR, hK⟩; have HR := Lib.hid hR; have HK := Lib.hid hK; clear hR hK)
  go_ret
  exact ⟨rfl, HR.out, HK.out⟩
end Go.Proofs.YtddleeenlpigfaaGreatDoor.Vn
/- WALKS of the reference's reader: fail, End, Get. -/
namespace Go.Proofs.YtddleeenlpigfaaGreatDoor.Vn
open Go.RowKit
/-- The reference's reader, as a value. -/
def refR (s : ByteArray) (p e : Nat) : Value := .agg #[.string s, .int .i64 (p : Int), .int .i64 (e : Int)]
set_option maxHeartbeats 1000000 in
theorem fail_any (s : ByteArray) (a b p e : Int) (w : World) : Calls Tryz.prog 137 #[.agg #[.string s, .int .i64 a, .int .i64 b], .int .i64 p, .int .i64 e] w fun en w' => en = .returned (.agg #[.string s, .int .i64 p, .int .i64 e]) ∧ Below w.heap.size w w' := by
  go_enter Tryz.func137, Tryz.ntmps137
  go_wp2
  exact bodyPost_ret (v := .agg #[.string s, .int .i64 p, .int .i64 e]) (by simp [results, Tryz.results137, go_sem]) rfl ⟨rfl, ((Below.refl _ w).alloc (Nat.le_refl _) _).alloc (by simp) _⟩
set_option maxHeartbeats 1000000 in
theorem rend_any (s : ByteArray) (p e : Nat) (w : World) : Calls Tryz.prog 63 #[refR s p e] w fun en w' => en = .returned (.int .i64 (endE s p e : Int)) ∧ Below w.heap.size w w' := by
  unfold refR
  by_cases h0 : e = 0
  · subst h0
    by_cases h1 : p < s.size
    · have e1 : endE s p 0 = 4 := by unfold endE; rw [if_neg (by simp), if_pos h1]
      rw [e1]
      clear e1
      go_enter Tryz.func63, Tryz.ntmps63
      go_wp2
      go_ret
      exact ⟨rfl, (Below.refl _ w).alloc (Nat.le_refl _) _⟩
    · have e1 : endE s p 0 = 0 := by unfold endE; rw [if_neg (by simp), if_neg h1]
      rw [e1]
      clear e1
      go_enter Tryz.func63, Tryz.ntmps63
      go_wp2
      go_ret
      exact ⟨rfl, (Below.refl _ w).alloc (Nat.le_refl _) _⟩
  · have e1 : endE s p e = e := by unfold endE; rw [if_pos h0]
    have he : ((e : Int) == 0) = false := by simp; exact h0
    rw [e1]
    clear e1 h0
    go_enter Tryz.func63, Tryz.ntmps63
    go_wp2
    go_ret
    exact ⟨rfl, (Below.refl _ w).alloc (Nat.le_refl _) _⟩
theorem bcell {W w1 : World} (hb : Below W.heap.size W w1) : (∀ b o, b < W.heap.size → w1.cell? ⟨b, o, none⟩ = W.cell? ⟨b, o, none⟩) ∧ (∀ b o, b < W.heap.size → w1.frozen? ⟨b, o, none⟩ = W.frozen? ⟨b, o, none⟩) :=
  ⟨fun b o h => hb.cell (p := ⟨b, o, none⟩) h, fun b o h => hb.frozen (p := ⟨b, o, none⟩) h⟩
theorem below3 {w w1 : World} {A C : Obj} (h : Below ((w.alloc A).alloc C).heap.size ((w.alloc A).alloc C) w1) (x y z : Value) :
    Below w.heap.size w (((w1.setCell ⟨w.heap.size + 1, 0, none⟩ x).setCell ⟨w.heap.size + 1, 1, none⟩ y).setCell ⟨w.heap.size + 1, 2, none⟩ z) := by
  have h0 : Below w.heap.size w w1 := ((((Below.refl _ w).alloc (Nat.le_refl _) A).alloc (by simp) C).trans (h.mono (by simp; omega)))
  exact ((h0.setCell (p := ⟨w.heap.size + 1, 0, none⟩) (by simp) x).setCell (p := ⟨w.heap.size + 1, 1, none⟩) (by simp) y).setCell (p := ⟨w.heap.size + 1, 2, none⟩) (by simp) z
theorem mkGoes {L : List UInt8} {k : Nat} (hl : k ≤ L.length) (hh : High (L.take k)) (h0 : ¬ L.head? = some 128) (_hk : k ≤ 10) : Goes L k (vl (L.take k)) := by
  refine ⟨hl, hh, rfl, fun _ => h0, fun h => ?_⟩
  have h1 := vl_lt (L.take k)
  rw [List.length_take] at h1
  have h2 := Nat.pow_le_pow_right (n := 128) (by decide) (show min k L.length ≤ 9 by omega)
  omega
theorem ref_wide {L : List UInt8} {n : Nat} {c : UInt8} (h : Goes L 9 n) (hl : 9 < L.length) (hc : L[0]? = some c) (h9 : 129 < c.toNat) : gets L = (2, 0, 0) := by
  rw [split_at hl]
  refine gets_wide h.high (by rw [List.length_take]; omega) ?_
  rw [headD_take (by decide)]
  cases L with
  | nil => simp at hc
  | cons a T => simp at hc; subst hc; exact h9
theorem ref_small {L : List UInt8} {k n : Nat} {c : UInt8} (h : Goes L k n) (hk : k < 10) (hl : k < L.length) (hc : L[0]? = some c) (hw : ¬ (k = 9 ∧ 129 < c.toNat)) : n ≤ 144115188075855871 := by
  by_cases hn : 144115188075855871 < n
  · obtain ⟨rfl, _⟩ := h.wide hk hl hn
    have h1 : c.toNat ≤ 129 := by omega
    have h2 := (wide_of (show (L.take 9).length = 9 by rw [List.length_take]; omega)).2
    rw [← h.is, headD_take (by decide)] at h2
    have h3 : (L.headD 0) = c := by
      cases L with
      | nil => simp at hc
      | cons a T => simp at hc; subst hc; rfl
    rw [h3] at h2
    have h4 := c.toNat_lt
    have h5 : 128 ≤ c.toNat := by
      have hm := h.high
      cases L with
      | nil => simp at hc
      | cons a T => simp at hc; subst hc; exact hm a (by simp)
    omega
  · omega
theorem ref_all {L : List UInt8} {j : Nat} (hj : vl (L.take j) ≤ 144115188075855871) (_hl : j ≤ L.length) (hlt : j < 10) : ∀ i, i ≤ j → vl (L.take i) ≤ 144115188075855871 := by
  intro i hi
  by_cases e : i = j
  · subst e; exact hj
  · have h1 := vl_lt (L.take i)
    rw [List.length_take] at h1
    have h2 := Nat.pow_le_pow_right (n := 128) (by decide) (show min i L.length ≤ 8 by omega)
    omega
def GetPost (s : ByteArray) (v : Value) (p e : Nat) (w : World) (en : Ending) (w' : World) : Prop := en = .returned (.tuple #[refR s p e, v]) ∧ Below w.heap.size w w'
theorem ret_ref {s : ByteArray} {a : Int} {b : Nat} {v : Value} (h : a = (b : Int)) : Ending.returned (.tuple #[.agg #[.string s, .int .i64 a, .int .i64 0], v]) = .returned (.tuple #[refR s b 0, v]) := by rw [h]; rfl
set_option maxRecDepth 100000 in
set_option maxHeartbeats 2000000 in
theorem rget_any (s : ByteArray) (p e : Nat) (L : List UInt8) (w : World) (hL : L = s.data.toList.drop p) (hp : p ≤ s.size) (hs : s.size ≤ 140737488355328) :
    Calls Tryz.prog 136 #[refR s p e] w (GetPost s (.int .u64 ((nxt p e (gets L)).1 : Int)) (nxt p e (gets L)).2.1 (nxt p e (gets L)).2.2 w) := by
  unfold refR
  by_cases h0 : e = 0
  · subst h0
    obtain ⟨R, hR⟩ : ∃ R, s.extract p s.size = R := ⟨_, rfl⟩
    have hRL : R.data.toList = L := by
      rw [← hR, Lib.extract_data, hL]
      exact List.take_of_length_le (by simp)
    have hRs : R.size = L.length := by rw [← hRL]; simp
    have HRL := Lib.hid hRL
    have HRs := Lib.hid hRs
    have hR47 : R.size ≤ 140737488355328 := by rw [← hR]; simp; omega
    have hget : ∀ j (h : j < R.size), L[j]? = some R[j] := fun j h => by
      rw [← hRL]; exact List.getElem?_eq_getElem (by simpa using h)
    have HGet := Lib.hid hget
    clear hRL hRs hget hL
    by_cases hA : L.head? = some 128
    · have HG := Lib.hid (show nxt p 0 (gets L) = (0, p, 2) by rw [gets_first hA]; exact nxt_no (by decide))
      have hlt : 0 < R.size := by
        rw [HRs.out]
        cases L with
        | nil => simp at hA
        | cons a T => simp
      have hb : ((R[0].toNat : Int) == 128) = true := by
        have := HGet.out 0 hlt
        rw [← List.head?_eq_getElem?, hA] at this
        rw [← Option.some.inj this]; decide
      have hlti : (0 : Int) < (R.size : Int) := by omega
      clear hA
      go_enter Tryz.func136, Tryz.ntmps136
      go_wp2_with (go_at_call 137; refine (fail_any _ _ _ _ _ _).mono ?_; rintro e w1 ⟨rfl, hB⟩; obtain ⟨hc, hf⟩ := bcell hB; have HB := Lib.hid hB; have hz := hB.size; clear hB)
      refine bodyPost_ret (v := .tuple #[.agg #[.string s, .int .i64 p, .int .i64 2], .int .u64 0]) (by simp [results, Tryz.results136, go_sem, hc]) rfl ⟨by rw [HG.out]; rfl, below3 HB.out _ _ _⟩
    · have HA := Lib.hid hA
      clear hA
      by_cases hZ : R.size = 0
      · have hL0 : L = [] := List.eq_nil_of_length_eq_zero (by rw [← HRs.out]; exact hZ)
        have HT := Lib.hid (show nxt p 0 (gets L) = (0, p, 3) by rw [hL0, gets_short (by simp [High]) (by simp) (by simp)]; exact nxt_no (by decide))
        have hz1 : (R.size : Int) = 0 := by omega
        go_enter Tryz.func136, Tryz.ntmps136
        go_wp2
        go_loop [5] (fun t => t = .int .i64 0) (fun _ => 0)
        case atStart => rfl
        case round =>
          obtain rfl := hrel
          go_wp2_with (go_at_call 137; refine (fail_any _ _ _ _ _ _).mono ?_; rintro e w1 ⟨rfl, hB⟩; obtain ⟨hc, hf⟩ := bcell hB; have HB := Lib.hid hB; have hz := hB.size; clear hB)
          all_goals refine bodyPost_ret (v := .tuple #[.agg #[.string s, .int .i64 p, .int .i64 3], .int .u64 0]) (by simp [results, Tryz.results136, go_sem, hc]) rfl ⟨by rw [HT.out]; rfl, below3 HB.out _ _ _⟩
      · have hlt0 : 0 < R.size := by omega
        have hb0 : ((R[0].toNat : Int) == 128) = false := by
          have := HGet.out 0 hlt0
          have h2 := HA.out
          rw [List.head?_eq_getElem?, this] at h2
          have h3 : R[0].toNat ≠ 128 := fun e => h2 (by rw [show R[0] = 128 from UInt8.toNat.inj e])
          simp; omega
        have hlti : (0 : Int) < (R.size : Int) := by omega
        clear hZ
        go_enter Tryz.func136, Tryz.ntmps136
        go_wp2
        go_loop [5] (fun t => ∃ j : Nat, j ≤ 10 ∧ j ≤ R.size ∧ t = .int .i64 j ∧ High (L.take j)) (fun t => 10 - (intOf t).toNat)
        case atStart => exact ⟨0, by omega, by omega, rfl, by simp [High]⟩
        case round =>
          obtain ⟨j, hj10, hjs, rfl, hH⟩ := hrel
          have HG := Lib.hid (mkGoes (by rw [← HRs.out]; exact hjs) hH HA.out hj10)
          clear hH
          by_cases hj : j = 10
          · subst hj
            have HT := Lib.hid (show nxt p 0 (gets L) = (0, p, 2) by rw [HG.out.ten]; exact nxt_no (by decide))
            go_wp2_with (go_at_call 137; refine (fail_any _ _ _ _ _ _).mono ?_; rintro e w1 ⟨rfl, hB⟩; obtain ⟨hc, hf⟩ := bcell hB; have HB := Lib.hid hB; have hz := hB.size; clear hB)
            all_goals refine bodyPost_ret (v := .tuple #[.agg #[.string s, .int .i64 p, .int .i64 2], .int .u64 0]) (by simp [results, Tryz.results136, go_sem, hc]) rfl ⟨by rw [HT.out]; rfl, below3 HB.out _ _ _⟩
          · have hjlt : j < 10 := by omega
            by_cases hjl : j = R.size
            · have HT := Lib.hid (show nxt p 0 (gets L) = (0, p, 3) by rw [HG.out.short hjlt (by rw [hjl, HRs.out])]; exact nxt_no (by decide))
              have hji : ¬ (j : Int) < (R.size : Int) := by omega
              have hje : ((j : Int) == (R.size : Int)) = true := by simp; omega
              have hj0 : ((j : Int) == 10) = false := by simp; omega
              clear hjl hj
              go_wp2_with (go_at_call 137; refine (fail_any _ _ _ _ _ _).mono ?_; rintro e w1 ⟨rfl, hB⟩; obtain ⟨hc, hf⟩ := bcell hB; have HB := Lib.hid hB; have hz := hB.size; clear hB)
              all_goals refine bodyPost_ret (v := .tuple #[.agg #[.string s, .int .i64 p, .int .i64 3], .int .u64 0]) (by simp [results, Tryz.results136, go_sem, hc]) rfl ⟨by rw [HT.out]; rfl, below3 HB.out _ _ _⟩
            · have hjr : j < R.size := by omega
              have hji : (j : Int) < (R.size : Int) := by omega
              have hje : ((j : Int) == (R.size : Int)) = false := by simp; omega
              have hj0 : ((j : Int) == 10) = false := by simp; omega
              have hjL : j < L.length := by rw [← HRs.out]; exact hjr
              have HGj := Lib.hid (HGet.out j hjr)
              clear hjl hj
              by_cases hbig : 128 ≤ R[j].toNat
              · have HN := Lib.hid (show High (L.take (j + 1)) by
                  rw [List.take_succ_eq_append_getElem hjL]
                  intro c hc
                  rcases List.mem_append.1 hc with hc | hc
                  · exact HG.out.high c hc
                  · have e2 := HGj.out
                    rw [List.getElem?_eq_getElem hjL] at e2
                    rw [List.mem_singleton.1 hc, Option.some.inj e2]; exact hbig)
                have hbi : (128 : Int) ≤ (R[j].toNat : Int) := by omega
                clear hjL
                go_wp2
                go_round
                case rel => exact ⟨j + 1, by omega, by omega, by go_num, HN.out⟩
                case measure => simp [intOf]; omega
              · have hbi : ¬ (128 : Int) ≤ (R[j].toNat : Int) := by omega
                have HL0 := Lib.hid (HGet.out 0 hlt0)
                by_cases hW : j = 9 ∧ 129 < R[0].toNat
                · obtain ⟨rfl, h129⟩ := hW
                  have HT := Lib.hid (show nxt p 0 (gets L) = (0, p, 2) by rw [ref_wide HG.out hjL HL0.out h129]; exact nxt_no (by decide))
                  have h129i : (129 : Int) < (R[0].toNat : Int) := by omega
                  clear hjL
                  go_wp2_with (go_at_call 137; refine (fail_any _ _ _ _ _ _).mono ?_; rintro e w1 ⟨rfl, hB⟩; obtain ⟨hc, hf⟩ := bcell hB; have HB := Lib.hid hB; have hz := hB.size; clear hB)
                  all_goals refine bodyPost_ret (v := .tuple #[.agg #[.string s, .int .i64 p, .int .i64 2], .int .u64 0]) (by simp [results, Tryz.results136, go_sem, hc]) rfl ⟨by rw [HT.out]; rfl, below3 HB.out _ _ _⟩
                · have hsm := ref_small HG.out hjlt hjL HL0.out hW
                  have HO := Lib.hid (HG.out.ok hjlt hjL (b := R[j].toNat) (by have e2 := HGj.out; rw [List.getElem?_eq_getElem hjL] at e2; rw [Option.some.inj e2]) (by omega) (by
                    rintro ⟨rfl, e⟩
                    apply HA.out
                    rw [List.head?_eq_getElem?, HL0.out, show R[0] = 128 from UInt8.toNat.inj e]) hsm)
                  have HS := Lib.hid (ref_all (L := L) hsm (by rw [← HRs.out]; exact hjs) hjlt)
                  have h9 : ((j : Int) == 9) = false ∨ (((j : Int) == 9) = true ∧ ¬ (129 : Int) < (R[0].toNat : Int)) := by
                    by_cases e9 : j = 9
                    · exact .inr ⟨by simp; omega, by omega⟩
                    · exact .inl (by simp; omega)
                  have HT := Lib.hid (show nxt p 0 (gets L) = (vl (L.take j) * 128 + R[j].toNat, p + (j + 1), 0) by rw [HO.out]; exact nxt_ok rfl)
                  have hsz : p + j + 1 ≤ s.size := by
                    have h1 : R.size ≤ s.size - p := by rw [← hR]; simp
                    omega
                  have HTk := Lib.hid (show vl (L.take (j + 1)) = vl (L.take j) * 128 + R[j].toNat by
                    have e2 := HGj.out
                    rw [List.getElem?_eq_getElem hjL] at e2
                    rw [List.take_succ_eq_append_getElem hjL, vl_snoc, Option.some.inj e2, Nat.mod_eq_of_lt (by omega)])
                  clear hW hjL hsm HO HG
                  rcases h9 with h9 | ⟨h9, h129⟩
                  case' inr => have H129 := Lib.hid h129
                  all_goals
                    go_wp2
                    clear hb0 hbi
                    go_loop [6, 7] (fun v i => ∃ (k n : Nat), k ≤ j + 1 ∧ i = .int .i64 k ∧ v = .int .u64 n ∧ n = vl (L.take k)) (fun _ i => j + 1 - (intOf i).toNat)
                    case atStart => exact ⟨0, 0, by omega, rfl, rfl, rfl⟩
                    case round =>
                      obtain ⟨k, n, hk, rfl, rfl, hn⟩ := hrel
                      rename @Eq World _ _ => hww
                      clear hww
                      try clear h129
                      by_cases hkj : k ≤ j
                      · have hn57 : (n : Int) ≤ 144115188075855871 := by have := HS.out k hkj; rw [← hn] at this; omega
                        have hkR : k < R.size := by omega
                        have hkRi : (k : Int) < (R.size : Int) := by omega
                        have hk8 : (R[k].toNat : Int) ≤ 255 := by have := R[k].toNat_lt; omega
                        have HN := Lib.hid (show n * 128 + R[k].toNat % 128 = vl (L.take (k + 1)) by
                          have e2 := HGet.out k hkR
                          have hkL : k < L.length := by rw [← HRs.out]; exact hkR
                          rw [List.getElem?_eq_getElem hkL] at e2
                          rw [List.take_succ_eq_append_getElem hkL, vl_snoc, Option.some.inj e2, hn])
                        clear hn
                        go_wp2
                        go_round
                        case rel => exact ⟨k + 1, n * 128 + R[k].toNat % 128, by omega, by go_num, by go_num, HN.out⟩
                        case measure => simp [intOf]; omega
                      · have hkj1 : k = j + 1 := by omega
                        have HN := Lib.hid (show n = vl (L.take j) * 128 + R[j].toNat by rw [hn, hkj1]; exact HTk.out)
                        have hki : ¬ (k : Int) ≤ (j : Int) := by omega
                        clear hn hkj1 hkj hk
                        have hpj : (p : Int) + (j : Int) + 1 ≤ 140737488355328 := by omega
                        go_wp2
                        refine bodyPost_ret (v := .tuple #[.agg #[.string s, .int .i64 ((p : Int) + (j : Int) + 1), .int .i64 0], .int .u64 (n : Int)]) (by simp [results, Tryz.results136, go_sem]) rfl ⟨?_, ?_⟩
                        · rw [HT.out, ← HN.out]; exact ret_ref (b := p + (j + 1)) (by omega)
                        · exact ((Below.refl _ w).alloc (Nat.le_refl _) _).alloc (by simp) _
  · have HA := Lib.hid (nxt_err (p := p) (g := gets L) h0)
    have he : ((e : Int) != 0) = true := by simp; exact h0
    clear h0 hL
    go_enter Tryz.func136, Tryz.ntmps136
    go_wp2
    refine bodyPost_ret (v := .tuple #[refR s p e, .int .u64 0]) (by simp [results, Tryz.results136, go_sem, refR]) rfl ?_
    rw [HA.out]
    exact ⟨rfl, ((Below.refl _ w).alloc (Nat.le_refl _) _).alloc (by simp) _⟩
end Go.Proofs.YtddleeenlpigfaaGreatDoor.Vn
/- WALKS of the reference's Most, GetInt. -/
namespace Go.Proofs.YtddleeenlpigfaaGreatDoor.Vn
open Go.RowKit
theorem nxt_most {p e most : Nat} {L : List UInt8} : nxt p e (mostR most L) = if (nxt p e (gets L)).2.2 = 0 ∧ most < (nxt p e (gets L)).1 then (0, p, 9) else nxt p e (gets L) := by
  by_cases h0 : e = 0
  · subst h0
    obtain ⟨⟨a, b, c⟩, hg⟩ : ∃ g, gets L = g := ⟨_, rfl⟩
    by_cases ha : a = 0
    · subst ha
      rw [hg, nxt_ok rfl]
      by_cases hb : most < b
      · rw [mostR_far hg hb, nxt_no (by decide), if_pos ⟨rfl, hb⟩]
      · rw [mostR_ok hg (by omega), nxt_ok rfl, if_neg (by rintro ⟨_, h⟩; exact hb h)]
    · rw [mostR_err hg ha, hg, nxt_no ha, if_neg (by rintro ⟨h, _⟩; exact ha h)]
  · rw [nxt_err h0, nxt_err h0, if_neg (by rintro ⟨h, _⟩; exact h0 h)]
theorem below6 {w w1 w2 : World} {A C D : Obj} (h : Below ((w.alloc A).alloc C).heap.size ((w.alloc A).alloc C) w1) (h2 : Below (w1.alloc D).heap.size (w1.alloc D) w2) (x y z : Value) :
    Below w.heap.size w (((w2.setCell ⟨w.heap.size + 1, 0, none⟩ x).setCell ⟨w.heap.size + 1, 1, none⟩ y).setCell ⟨w.heap.size + 1, 2, none⟩ z) := by
  have h0 : Below w.heap.size w w1 := ((((Below.refl _ w).alloc (Nat.le_refl _) A).alloc (by simp) C).trans (h.mono (by simp; omega)))
  have h1 : Below w.heap.size w w2 := (h0.alloc h0.size D).trans (h2.mono (by have := h0.size; simp; omega))
  exact ((h1.setCell (p := ⟨w.heap.size + 1, 0, none⟩) (by simp) x).setCell (p := ⟨w.heap.size + 1, 1, none⟩) (by simp) y).setCell (p := ⟨w.heap.size + 1, 2, none⟩) (by simp) z
theorem below5 {w w1 : World} {A C D : Obj} (h : Below ((w.alloc A).alloc C).heap.size ((w.alloc A).alloc C) w1) (x y z : Value) :
    Below w.heap.size w ((((w1.setCell ⟨w.heap.size + 1, 0, none⟩ x).setCell ⟨w.heap.size + 1, 1, none⟩ y).setCell ⟨w.heap.size + 1, 2, none⟩ z).alloc D) := by
  have := below3 h x y z
  exact this.alloc this.size D
set_option maxRecDepth 100000 in
set_option maxHeartbeats 2000000 in
theorem rmost_any (s : ByteArray) (p e most : Nat) (L : List UInt8) (w : World) (hL : L = s.data.toList.drop p) (hp : p ≤ s.size) (hs : s.size ≤ 140737488355328) :
    Calls Tryz.prog 105 #[refR s p e, .int .u64 most] w (GetPost s (.int .u64 ((nxt p e (mostR most L)).1 : Int)) (nxt p e (mostR most L)).2.1 (nxt p e (mostR most L)).2.2 w) := by
  have HG := fun w => Lib.hid (rget_any s p e L w hL hp hs)
  have hx := nxt_lt (p := p) (e := e) (L := L)
  rw [nxt_most]
  obtain ⟨⟨n, p1, e1⟩, hg⟩ : ∃ g, nxt p e (gets L) = g := ⟨_, rfl⟩
  rw [hg] at HG hx ⊢
  unfold GetPost refR at HG
  unfold refR
  clear hg hL
  by_cases h1 : e1 = 0 ∧ most < n
  · rw [if_pos (show (n, p1, e1).2.2 = 0 ∧ most < (n, p1, e1).1 from h1)]
    obtain ⟨rfl, h2⟩ := h1
    have h2i : (most : Int) < (n : Int) := by omega
    clear h2
    go_enter Tryz.func105, Tryz.ntmps105
    go_wp2_with (first
      | (go_at_call 136; refine (HG _).out.mono ?_; rintro e w1 ⟨rfl, hB⟩; obtain ⟨hc, hf⟩ := bcell hB; have HB := Lib.hid hB; have hz : w.heap.size + 1 < w1.heap.size := (by have := hB.size; simp at this; omega); have hz0 : w.heap.size < w1.heap.size := (by omega); clear hB)
      | (go_at_call 137; refine (fail_any _ _ _ _ _ _).mono ?_; rintro e w2 ⟨rfl, hB⟩; obtain ⟨hc2, hf2⟩ := bcell hB; have HB2 := Lib.hid hB; clear hB))
    exact bodyPost_ret (v := .tuple #[.agg #[.string s, .int .i64 p, .int .i64 9], .int .u64 0]) (by simp [results, Tryz.results105, go_sem, hc, hc2, hz, hz0]) rfl ⟨rfl, below6 HB.out HB2.out _ _ _⟩
  · rw [if_neg (show ¬ ((n, p1, e1).2.2 = 0 ∧ most < (n, p1, e1).1) from h1)]
    have h2 : ((e1 : Int) == 0) = false ∨ (((e1 : Int) == 0) = true ∧ ¬ (most : Int) < (n : Int)) := by
      by_cases h0 : e1 = 0
      · exact .inr ⟨by simp; omega, by omega⟩
      · exact .inl (by simp; omega)
    clear h1
    rcases h2 with h2 | ⟨h2, h3⟩
    all_goals
      go_enter Tryz.func105, Tryz.ntmps105
      go_wp2_with (go_at_call 136; refine (HG _).out.mono ?_; rintro e w1 ⟨rfl, hB⟩; obtain ⟨hc, hf⟩ := bcell hB; have HB := Lib.hid hB; have hz : w.heap.size + 1 < w1.heap.size := (by have := hB.size; simp at this; omega); have hz0 : w.heap.size < w1.heap.size := (by omega); clear hB)
      exact bodyPost_ret (v := .tuple #[.agg #[.string s, .int .i64 p1, .int .i64 e1], .int .u64 n]) (by simp [results, Tryz.results105, go_sem, hc, hz]) rfl ⟨rfl, below5 HB.out _ _ _⟩
set_option maxRecDepth 100000 in
set_option maxHeartbeats 2000000 in
theorem rgetint_any (s : ByteArray) (p e : Nat) (L : List UInt8) (w : World) (hL : L = s.data.toList.drop p) (hp : p ≤ s.size) (hs : s.size ≤ 140737488355328) :
    Calls Tryz.prog 106 #[refR s p e] w (GetPost s (.int .i64 (usg (nxt p e (gets L)).1)) (nxt p e (gets L)).2.1 (nxt p e (gets L)).2.2 w) := by
  have HG := fun w => Lib.hid (rget_any s p e L w hL hp hs)
  have hx := nxt_lt (p := p) (e := e) (L := L)
  obtain ⟨⟨n, p1, e1⟩, hg⟩ : ∃ g, nxt p e (gets L) = g := ⟨_, rfl⟩
  rw [hg] at HG hx ⊢
  have hn : n < 18446744073709551616 := hx
  unfold GetPost refR at HG
  unfold refR
  clear hg hL hx
  cases h1 : ((n : Int) % 2 == 1)
  · have HU := Lib.hid (usg_even h1)
    go_enter Tryz.func106, Tryz.ntmps106
    go_wp2_with (go_at_call 136; refine (HG _).out.mono ?_; rintro e w1 ⟨rfl, hB⟩; obtain ⟨hc, hf⟩ := bcell hB; have HB := Lib.hid hB; have hz : w.heap.size + 1 < w1.heap.size := (by have := hB.size; simp at this; omega); have hz0 : w.heap.size < w1.heap.size := (by omega); clear hB)
    refine bodyPost_ret (v := .tuple #[.agg #[.string s, .int .i64 p1, .int .i64 e1], .int .i64 ((n : Int) / 2)]) (by simp [results, Tryz.results106, go_sem, hc, hz]) rfl ⟨?_, below5 HB.out _ _ _⟩
    rw [HU.out]; rfl
  · have HU := Lib.hid (usg_odd h1)
    go_enter Tryz.func106, Tryz.ntmps106
    go_wp2_with (go_at_call 136; refine (HG _).out.mono ?_; rintro e w1 ⟨rfl, hB⟩; obtain ⟨hc, hf⟩ := bcell hB; have HB := Lib.hid hB; have hz : w.heap.size + 1 < w1.heap.size := (by have := hB.size; simp at this; omega); have hz0 : w.heap.size < w1.heap.size := (by omega); clear hB)
    refine bodyPost_ret (v := .tuple #[.agg #[.string s, .int .i64 p1, .int .i64 e1], .int .i64 (-((n : Int) / 2) - 1)]) (by simp [results, Tryz.results106, go_sem, hc, hz]) rfl ⟨?_, below5 HB.out _ _ _⟩
    rw [HU.out]; rfl
end Go.Proofs.YtddleeenlpigfaaGreatDoor.Vn
/- WALKS of the reference's GetText; of the nil reader. -/
namespace Go.Proofs.YtddleeenlpigfaaGreatDoor.Vn
open Go.RowKit
theorem nxtT_by (s : ByteArray) (p e : Nat) (g : Nat × Nat × Nat) : nxtT p e (textR s p g) =
    if (nxt p e g).2.2 ≠ 0 then (⟨#[]⟩, (nxt p e g).2.1, (nxt p e g).2.2) else if s.size - (nxt p e g).2.1 < (nxt p e g).1 then (⟨#[]⟩, p, 3) else (s.extract (nxt p e g).2.1 ((nxt p e g).2.1 + (nxt p e g).1), (nxt p e g).2.1 + (nxt p e g).1, 0) := by
  obtain ⟨a, b, c⟩ := g
  by_cases h0 : e = 0
  · subst h0
    by_cases ha : a = 0
    · subst ha
      rw [nxt_ok rfl, if_neg (by simp)]
      by_cases hb : s.size - (p + c) < b
      · rw [if_pos hb]
        have : textR s p (0, b, c) = (3, ⟨#[]⟩, 0) := by unfold textR; rw [if_neg (by simp), if_pos hb]
        rw [this, nxtT_no (by decide)]
      · rw [if_neg hb]
        have : textR s p (0, b, c) = (0, s.extract (p + c) (p + c + b), c + b) := by unfold textR; rw [if_neg (by simp), if_neg hb]
        rw [this, nxtT_ok rfl, Nat.add_assoc p c b]
    · rw [nxt_no ha, if_pos ha]
      have : textR s p (a, b, c) = (a, ⟨#[]⟩, 0) := by unfold textR; rw [if_pos ha]
      rw [this, nxtT_no ha]
  · rw [nxt_err h0, nxtT_err h0, if_pos h0]
theorem nxt_le {s : ByteArray} {p e most : Nat} {L : List UInt8} (hp : p ≤ s.size) (hl : L.length = s.size - p) : (nxt p e (mostR most L)).2.1 ≤ s.size ∧ (nxt p e (mostR most L)).1 < 18446744073709551616 := by
  by_cases h0 : e = 0
  · subst h0
    obtain ⟨⟨a, b, c⟩, hg⟩ : ∃ g, mostR most L = g := ⟨_, rfl⟩
    rw [hg]
    by_cases ha : a = 0
    · subst ha
      obtain ⟨g1, _⟩ := mostR_le hg
      obtain ⟨_, h64, hcl⟩ := gets_back g1
      rw [nxt_ok rfl]
      exact ⟨by show p + c ≤ s.size; omega, h64⟩
    · rw [nxt_no ha]; exact ⟨hp, by show 0 < 18446744073709551616; decide⟩
  · rw [nxt_err h0]; exact ⟨hp, by show 0 < 18446744073709551616; decide⟩
set_option maxRecDepth 100000 in
set_option maxHeartbeats 4000000 in
theorem rgettext_any (s : ByteArray) (p e : Nat) (m : Int) (L : List UInt8) (w : World) (hL : L = s.data.toList.drop p) (hp : p ≤ s.size) (hs : s.size ≤ 140737488355328) (hm : m ≤ 9223372036854775807) :
    Calls Tryz.prog 107 #[refR s p e, .int .i64 m] w (GetPost s (.string (nxtT p e (textR s p (mostR (mostOf m) L))).1) (nxtT p e (textR s p (mostR (mostOf m) L))).2.1 (nxtT p e (textR s p (mostR (mostOf m) L))).2.2 w) := by
  have HG := fun w => Lib.hid (rmost_any s p e (mostOf m) L w hL hp hs)
  obtain ⟨hle, h64⟩ := nxt_le (s := s) (p := p) (e := e) (most := mostOf m) (L := L) hp (by rw [hL]; simp)
  rw [nxtT_by]
  obtain ⟨⟨n, p1, e1⟩, hg⟩ : ∃ g, nxt p e (mostR (mostOf m) L) = g := ⟨_, rfl⟩
  rw [hg] at HG hle h64 ⊢
  have hle : p1 ≤ s.size := hle
  have h64 : n < 18446744073709551616 := h64
  unfold GetPost refR at HG
  unfold refR
  clear hg hL
  have hM : (m < 0 ∧ ((mostOf m : Nat) : Int) = 0) ∨ (¬ m < 0 ∧ ((mostOf m : Nat) : Int) = m) := by unfold mostOf; omega
  by_cases h1 : e1 ≠ 0
  · rw [if_pos (show (n, p1, e1).2.2 ≠ 0 from h1)]
    have h1i : ((e1 : Int) != 0) = true := by simp; exact h1
    clear h1
    rcases hM with ⟨hm0, hM⟩ | ⟨hm0, hM⟩
    all_goals
      rw [hM] at HG
      clear hM
      go_enter Tryz.func107, Tryz.ntmps107
      go_wp2_with (go_at_call 105; refine (HG _).out.mono ?_; rintro e w1 ⟨rfl, hB⟩; obtain ⟨hc, hf⟩ := bcell hB; have HB := Lib.hid hB; have hz : w.heap.size + 1 < w1.heap.size := (by have := hB.size; simp at this; omega); have hz0 : w.heap.size < w1.heap.size := (by omega); clear hB)
      exact bodyPost_ret (v := .tuple #[.agg #[.string s, .int .i64 p1, .int .i64 e1], .string ⟨#[]⟩]) (by simp [results, Tryz.results107, go_sem, hc, hz]) rfl ⟨rfl, below5 HB.out _ _ _⟩
  · obtain rfl : e1 = 0 := by omega
    rw [if_neg (show ¬ (n, p1, 0).2.2 ≠ 0 by simp)]
    by_cases h2 : s.size - p1 < n
    · rw [if_pos (show s.size - (n, p1, 0).2.1 < (n, p1, 0).1 from h2)]
      have h2i : (s.size : Int) - (p1 : Int) < (n : Int) := by omega
      have h2j : (0 : Int) ≤ (s.size : Int) - (p1 : Int) := by omega
      clear h2 h1
      rcases hM with ⟨hm0, hM⟩ | ⟨hm0, hM⟩
      all_goals
        rw [hM] at HG
        clear hM
        go_enter Tryz.func107, Tryz.ntmps107
        go_wp2_with (first
          | (go_at_call 105; refine (HG _).out.mono ?_; rintro e w1 ⟨rfl, hB⟩; obtain ⟨hc, hf⟩ := bcell hB; have HB := Lib.hid hB; have hz : w.heap.size + 1 < w1.heap.size := (by have := hB.size; simp at this; omega); have hz0 : w.heap.size < w1.heap.size := (by omega); clear hB)
          | (go_at_call 137; refine (fail_any _ _ _ _ _ _).mono ?_; rintro e w2 ⟨rfl, hB⟩; obtain ⟨hc2, hf2⟩ := bcell hB; have HB2 := Lib.hid hB; clear hB))
        exact bodyPost_ret (v := .tuple #[.agg #[.string s, .int .i64 p, .int .i64 3], .string ⟨#[]⟩]) (by simp [results, Tryz.results107, go_sem, hc, hc2, hz, hz0]) rfl ⟨rfl, below6 HB.out HB2.out _ _ _⟩
    · rw [if_neg (show ¬ s.size - (n, p1, 0).2.1 < (n, p1, 0).1 from h2)]
      have h2i : ¬ (s.size : Int) - (p1 : Int) < (n : Int) := by omega
      have h2j : (0 : Int) ≤ (s.size : Int) - (p1 : Int) := by omega
      have hn47 : (n : Int) ≤ 140737488355328 := by omega
      obtain ⟨z, hzz⟩ : ∃ z, z = p1 + n := ⟨_, rfl⟩
      have hz1 : (p1 : Int) + (n : Int) = (z : Int) := by omega
      have hz2 : (p1 : Int) ≤ (z : Int) := by omega
      have hz3 : (z : Int) ≤ (s.size : Int) := by omega
      have HZ := Lib.hid hzz
      clear h2 h1 hzz
      rcases hM with ⟨hm0, hM⟩ | ⟨hm0, hM⟩
      all_goals
        rw [hM] at HG
        clear hM
        go_enter Tryz.func107, Tryz.ntmps107
        go_wp2_with (go_at_call 105; refine (HG _).out.mono ?_; rintro e w1 ⟨rfl, hB⟩; obtain ⟨hc, hf⟩ := bcell hB; have HB := Lib.hid hB; have hz : w.heap.size + 1 < w1.heap.size := (by have := hB.size; simp at this; omega); have hz0 : w.heap.size < w1.heap.size := (by omega); clear hB)
        go_region
        all_goals go_wp2
        all_goals
          refine bodyPost_ret (v := .tuple #[.agg #[.string s, .int .i64 z, .int .i64 0], .string (s.extract p1 z)]) (by simp [results, Tryz.results107, go_sem, hc, hz]) rfl ⟨?_, (below5 HB.out _ _ _).drew⟩
          show Ending.returned _ = .returned (.tuple #[refR s (p1 + n) 0, .string (s.extract p1 (p1 + n))])
          rw [← HZ.out]; rfl
/-! ### the nil reader -/
end Go.Proofs.YtddleeenlpigfaaGreatDoor.Vn
