/- WALKS of the reference's reader: fail, End, Get. -/
import Derived.Test.YtnejahfeafllkaaT
namespace Go.Proofs.Ytnejahfeafllkaa
open Go.RowKit
/-- The reference's reader, as a value. -/
def refR (s : ByteArray) (p e : Nat) : Value := .agg #[.string s, .int .i64 (p : Int), .int .i64 (e : Int)]
set_option maxHeartbeats 1000000 in
theorem fail_any (s : ByteArray) (a b p e : Int) (w : World) : Calls Try.prog 69 #[.agg #[.string s, .int .i64 a, .int .i64 b], .int .i64 p, .int .i64 e] w fun en w' => en = .returned (.agg #[.string s, .int .i64 p, .int .i64 e]) ∧ Below w.heap.size w w' := by
  go_enter Try.func69, Try.ntmps69
  go_wp2
  exact bodyPost_ret (v := .agg #[.string s, .int .i64 p, .int .i64 e]) (by simp [results, Try.results69, go_sem]) rfl ⟨rfl, ((Below.refl _ w).alloc (Nat.le_refl _) _).alloc (by simp) _⟩
theorem bcell {W w1 : World} (hb : Below W.heap.size W w1) : (∀ b o, b < W.heap.size → w1.cell? ⟨b, o, none⟩ = W.cell? ⟨b, o, none⟩) ∧ (∀ b o, b < W.heap.size → w1.frozen? ⟨b, o, none⟩ = W.frozen? ⟨b, o, none⟩) :=
  ⟨fun b o h => hb.cell (p := ⟨b, o, none⟩) h, fun b o h => hb.frozen (p := ⟨b, o, none⟩) h⟩
theorem below3 {w w1 : World} {A C : Obj} (h : Below ((w.alloc A).alloc C).heap.size ((w.alloc A).alloc C) w1) (x y z : Value) :
    Below w.heap.size w (((w1.setCell ⟨w.heap.size + 1, 0, none⟩ x).setCell ⟨w.heap.size + 1, 1, none⟩ y).setCell ⟨w.heap.size + 1, 2, none⟩ z) := by
  have h0 : Below w.heap.size w w1 := ((((Below.refl _ w).alloc (Nat.le_refl _) A).alloc (by simp) C).trans (h.mono (by simp; omega)))
  exact ((h0.setCell (p := ⟨w.heap.size + 1, 0, none⟩) (by simp) x).setCell (p := ⟨w.heap.size + 1, 1, none⟩) (by simp) y).setCell (p := ⟨w.heap.size + 1, 2, none⟩) (by simp) z
theorem mkGoes {L : List UInt8} {k : Nat} (hl : k ≤ L.length) (hh : High (L.take k)) (h0 : ¬ L.head? = some 128) (_hk : k ≤ 10) : Goes L k (vl (L.take k)) := by
  refine ⟨hl, hh, rfl, fun _ => h0, fun h => ?_⟩
  have h1 := vl_lt (L.take k)
  rw [List.length_take] at h1
  have h2 := Nat.pow_le_pow_right (n := 128) (by decide) (show min k L.length ≤ 9 by omega)
  omega
theorem ref_wide {L : List UInt8} {n : Nat} {c : UInt8} (h : Goes L 9 n) (hl : 9 < L.length) (hc : L[0]? = some c) (h9 : 129 < c.toNat) : gets L = (2, 0, 0) := by
  rw [split_at hl]
  refine gets_wide h.high (by rw [List.length_take]; omega) ?_
  rw [headD_take (by decide)]
  cases L with
  | nil => simp at hc
  | cons a T => simp at hc; subst hc; exact h9
theorem ref_small {L : List UInt8} {k n : Nat} {c : UInt8} (h : Goes L k n) (hk : k < 10) (hl : k < L.length) (hc : L[0]? = some c) (hw : ¬ (k = 9 ∧ 129 < c.toNat)) : n ≤ 144115188075855871 := by
  by_cases hn : 144115188075855871 < n
  · obtain ⟨rfl, _⟩ := h.wide hk hl hn
    have h1 : c.toNat ≤ 129 := by omega
    have h2 := (wide_of (show (L.take 9).length = 9 by rw [List.length_take]; omega)).2
    rw [← h.is, headD_take (by decide)] at h2
    have h3 : (L.headD 0) = c := by
      cases L with
      | nil => simp at hc
      | cons a T => simp at hc; subst hc; rfl
    rw [h3] at h2
    have h4 := c.toNat_lt
    have h5 : 128 ≤ c.toNat := by
      have hm := h.high
      cases L with
      | nil => simp at hc
      | cons a T => simp at hc; subst hc; exact hm a (by simp)
    omega
  · omega
theorem ref_all {L : List UInt8} {j : Nat} (hj : vl (L.take j) ≤ 144115188075855871) (_hl : j ≤ L.length) (hlt : j < 10) : ∀ i, i ≤ j → vl (L.take i) ≤ 144115188075855871 := by
  intro i hi
  by_cases e : i = j
  · subst e; exact hj
  · have h1 := vl_lt (L.take i)
    rw [List.length_take] at h1
    have h2 := Nat.pow_le_pow_right (n := 128) (by decide) (show min i L.length ≤ 8 by omega)
    omega
def GetPost (s : ByteArray) (v : Value) (p e : Nat) (w : World) (en : Ending) (w' : World) : Prop := en = .returned (.tuple #[refR s p e, v]) ∧ Below w.heap.size w w'
theorem ret_ref {s : ByteArray} {a : Int} {b : Nat} {v : Value} (h : a = (b : Int)) : Ending.returned (.tuple #[.agg #[.string s, .int .i64 a, .int .i64 0], v]) = .returned (.tuple #[refR s b 0, v]) := by rw [h]; rfl
set_option maxRecDepth 100000 in
set_option maxHeartbeats 2000000 in
theorem rget_any (s : ByteArray) (p e : Nat) (L : List UInt8) (w : World) (hL : L = s.data.toList.drop p) (hp : p ≤ s.size) (hs : s.size ≤ 140737488355328) :
    Calls Try.prog 45 #[refR s p e] w (GetPost s (.int .u64 ((nxt p e (gets L)).1 : Int)) (nxt p e (gets L)).2.1 (nxt p e (gets L)).2.2 w) := by
  unfold refR
  by_cases h0 : e = 0
  · subst h0
    obtain ⟨R, hR⟩ : ∃ R, s.extract p s.size = R := ⟨_, rfl⟩
    have hRL : R.data.toList = L := by
      rw [← hR, Lib.extract_data, hL]
      exact List.take_of_length_le (by simp)
    have hRs : R.size = L.length := by rw [← hRL]; simp
    have HRL := Lib.hid hRL
    have HRs := Lib.hid hRs
    have hR47 : R.size ≤ 140737488355328 := by rw [← hR]; simp; omega
    have hget : ∀ j (h : j < R.size), L[j]? = some R[j] := fun j h => by
      rw [← hRL]; exact List.getElem?_eq_getElem (by simpa using h)
    have HGet := Lib.hid hget
    clear hRL hRs hget hL
    by_cases hA : L.head? = some 128
    · have HG := Lib.hid (show nxt p 0 (gets L) = (0, p, 2) by rw [gets_first hA]; exact nxt_no (by decide))
      have hlt : 0 < R.size := by
        rw [HRs.out]
        cases L with
        | nil => simp at hA
        | cons a T => simp
      have hb : ((R[0].toNat : Int) == 128) = true := by
        have := HGet.out 0 hlt
        rw [← List.head?_eq_getElem?, hA] at this
        rw [← Option.some.inj this]; decide
      have hlti : (0 : Int) < (R.size : Int) := by omega
      clear hA
      go_enter Try.func45, Try.ntmps45
      go_wp2_with (go_at_call 69; refine (fail_any _ _ _ _ _ _).mono ?_; rintro e w1 ⟨rfl, hB⟩; obtain ⟨hc, hf⟩ := bcell hB; have HB := Lib.hid hB; have hz := hB.size; clear hB)
      refine bodyPost_ret (v := .tuple #[.agg #[.string s, .int .i64 p, .int .i64 2], .int .u64 0]) (by simp [results, Try.results45, go_sem, hc]) rfl ⟨by rw [HG.out]; rfl, below3 HB.out _ _ _⟩
    · have HA := Lib.hid hA
      clear hA
      by_cases hZ : R.size = 0
      · have hL0 : L = [] := List.eq_nil_of_length_eq_zero (by rw [← HRs.out]; exact hZ)
        have HT := Lib.hid (show nxt p 0 (gets L) = (0, p, 3) by rw [hL0, gets_short (by simp [High]) (by simp) (by simp)]; exact nxt_no (by decide))
        have hz1 : (R.size : Int) = 0 := by omega
        go_enter Try.func45, Try.ntmps45
        go_wp2
        go_loop [5] (fun t => t = .int .i64 0) (fun _ => 0)
        case atStart => rfl
        case round =>
          obtain rfl := hrel
          go_wp2_with (go_at_call 69; refine (fail_any _ _ _ _ _ _).mono ?_; rintro e w1 ⟨rfl, hB⟩; obtain ⟨hc, hf⟩ := bcell hB; have HB := Lib.hid hB; have hz := hB.size; clear hB)
          all_goals refine bodyPost_ret (v := .tuple #[.agg #[.string s, .int .i64 p, .int .i64 3], .int .u64 0]) (by simp [results, Try.results45, go_sem, hc]) rfl ⟨by rw [HT.out]; rfl, below3 HB.out _ _ _⟩
      · have hlt0 : 0 < R.size := by omega
        have hb0 : ((R[0].toNat : Int) == 128) = false := by
          have := HGet.out 0 hlt0
          have h2 := HA.out
          rw [List.head?_eq_getElem?, this] at h2
          have h3 : R[0].toNat ≠ 128 := fun e => h2 (by rw [show R[0] = 128 from UInt8.toNat.inj e])
          simp; omega
        have hlti : (0 : Int) < (R.size : Int) := by omega
        clear hZ
        go_enter Try.func45, Try.ntmps45
        go_wp2
        go_loop [5] (fun t => ∃ j : Nat, j ≤ 10 ∧ j ≤ R.size ∧ t = .int .i64 j ∧ High (L.take j)) (fun t => 10 - (intOf t).toNat)
        case atStart => exact ⟨0, by omega, by omega, rfl, by simp [High]⟩
        case round =>
          obtain ⟨j, hj10, hjs, rfl, hH⟩ := hrel
          have HG := Lib.hid (mkGoes (by rw [← HRs.out]; exact hjs) hH HA.out hj10)
          clear hH
          by_cases hj : j = 10
          · subst hj
            have HT := Lib.hid (show nxt p 0 (gets L) = (0, p, 2) by rw [HG.out.ten]; exact nxt_no (by decide))
            go_wp2_with (go_at_call 69; refine (fail_any _ _ _ _ _ _).mono ?_; rintro e w1 ⟨rfl, hB⟩; obtain ⟨hc, hf⟩ := bcell hB; have HB := Lib.hid hB; have hz := hB.size; clear hB)
            all_goals refine bodyPost_ret (v := .tuple #[.agg #[.string s, .int .i64 p, .int .i64 2], .int .u64 0]) (by simp [results, Try.results45, go_sem, hc]) rfl ⟨by rw [HT.out]; rfl, below3 HB.out _ _ _⟩
          · have hjlt : j < 10 := by omega
            by_cases hjl : j = R.size
            · have HT := Lib.hid (show nxt p 0 (gets L) = (0, p, 3) by rw [HG.out.short hjlt (by rw [hjl, HRs.out])]; exact nxt_no (by decide))
              have hji : ¬ (j : Int) < (R.size : Int) := by omega
              have hje : ((j : Int) == (R.size : Int)) = true := by simp; omega
              have hj0 : ((j : Int) == 10) = false := by simp; omega
              clear hjl hj
              go_wp2_with (go_at_call 69; refine (fail_any _ _ _ _ _ _).mono ?_; rintro e w1 ⟨rfl, hB⟩; obtain ⟨hc, hf⟩ := bcell hB; have HB := Lib.hid hB; have hz := hB.size; clear hB)
              all_goals refine bodyPost_ret (v := .tuple #[.agg #[.string s, .int .i64 p, .int .i64 3], .int .u64 0]) (by simp [results, Try.results45, go_sem, hc]) rfl ⟨by rw [HT.out]; rfl, below3 HB.out _ _ _⟩
            · have hjr : j < R.size := by omega
              have hji : (j : Int) < (R.size : Int) := by omega
              have hje : ((j : Int) == (R.size : Int)) = false := by simp; omega
              have hj0 : ((j : Int) == 10) = false := by simp; omega
              have hjL : j < L.length := by rw [← HRs.out]; exact hjr
              have HGj := Lib.hid (HGet.out j hjr)
              clear hjl hj
              by_cases hbig : 128 ≤ R[j].toNat
              · have HN := Lib.hid (show High (L.take (j + 1)) by
                  rw [List.take_succ_eq_append_getElem hjL]
                  intro c hc
                  rcases List.mem_append.1 hc with hc | hc
                  · exact HG.out.high c hc
                  · have e2 := HGj.out
                    rw [List.getElem?_eq_getElem hjL] at e2
                    rw [List.mem_singleton.1 hc, Option.some.inj e2]; exact hbig)
                have hbi : (128 : Int) ≤ (R[j].toNat : Int) := by omega
                clear hjL
                go_wp2
                go_round
                case rel => exact ⟨j + 1, by omega, by omega, by go_num, HN.out⟩
                case measure => simp [intOf]; omega
              · have hbi : ¬ (128 : Int) ≤ (R[j].toNat : Int) := by omega
                have HL0 := Lib.hid (HGet.out 0 hlt0)
                by_cases hW : j = 9 ∧ 129 < R[0].toNat
                · obtain ⟨rfl, h129⟩ := hW
                  have HT := Lib.hid (show nxt p 0 (gets L) = (0, p, 2) by rw [ref_wide HG.out hjL HL0.out h129]; exact nxt_no (by decide))
                  have h129i : (129 : Int) < (R[0].toNat : Int) := by omega
                  clear hjL
                  go_wp2_with (go_at_call 69; refine (fail_any _ _ _ _ _ _).mono ?_; rintro e w1 ⟨rfl, hB⟩; obtain ⟨hc, hf⟩ := bcell hB; have HB := Lib.hid hB; have hz := hB.size; clear hB)
                  all_goals refine bodyPost_ret (v := .tuple #[.agg #[.string s, .int .i64 p, .int .i64 2], .int .u64 0]) (by simp [results, Try.results45, go_sem, hc]) rfl ⟨by rw [HT.out]; rfl, below3 HB.out _ _ _⟩
                · have hsm := ref_small HG.out hjlt hjL HL0.out hW
                  have HO := Lib.hid (HG.out.ok hjlt hjL (b := R[j].toNat) (by have e2 := HGj.out; rw [List.getElem?_eq_getElem hjL] at e2; rw [Option.some.inj e2]) (by omega) (by
                    rintro ⟨rfl, e⟩
                    apply HA.out
                    rw [List.head?_eq_getElem?, HL0.out, show R[0] = 128 from UInt8.toNat.inj e]) hsm)
                  have HS := Lib.hid (ref_all (L := L) hsm (by rw [← HRs.out]; exact hjs) hjlt)
                  have h9 : ((j : Int) == 9) = false ∨ (((j : Int) == 9) = true ∧ ¬ (129 : Int) < (R[0].toNat : Int)) := by
                    by_cases e9 : j = 9
                    · exact .inr ⟨by simp; omega, by omega⟩
                    · exact .inl (by simp; omega)
                  have HT := Lib.hid (show nxt p 0 (gets L) = (vl (L.take j) * 128 + R[j].toNat, p + (j + 1), 0) by rw [HO.out]; exact nxt_ok rfl)
                  have hsz : p + j + 1 ≤ s.size := by
                    have h1 : R.size ≤ s.size - p := by rw [← hR]; simp
                    omega
                  have HTk := Lib.hid (show vl (L.take (j + 1)) = vl (L.take j) * 128 + R[j].toNat by
                    have e2 := HGj.out
                    rw [List.getElem?_eq_getElem hjL] at e2
                    rw [List.take_succ_eq_append_getElem hjL, vl_snoc, Option.some.inj e2, Nat.mod_eq_of_lt (by omega)])
                  clear hW hjL hsm HO HG
                  rcases h9 with h9 | ⟨h9, h129⟩
                  case' inr => have H129 := Lib.hid h129
                  all_goals
                    go_wp2
                    clear hb0 hbi
                    go_loop [6, 7] (fun v i => ∃ (k n : Nat), k ≤ j + 1 ∧ i = .int .i64 k ∧ v = .int .u64 n ∧ n = vl (L.take k)) (fun _ i => j + 1 - (intOf i).toNat)
                    case atStart => exact ⟨0, 0, by omega, rfl, rfl, rfl⟩
                    case round =>
                      obtain ⟨k, n, hk, rfl, rfl, hn⟩ := hrel
                      rename @Eq World _ _ => hww
                      clear hww
                      try clear h129
                      by_cases hkj : k ≤ j
                      · have hn57 : (n : Int) ≤ 144115188075855871 := by have := HS.out k hkj; rw [← hn] at this; omega
                        have hkR : k < R.size := by omega
                        have hkRi : (k : Int) < (R.size : Int) := by omega
                        have hk8 : (R[k].toNat : Int) ≤ 255 := by have := R[k].toNat_lt; omega
                        have HN := Lib.hid (show n * 128 + R[k].toNat % 128 = vl (L.take (k + 1)) by
                          have e2 := HGet.out k hkR
                          have hkL : k < L.length := by rw [← HRs.out]; exact hkR
                          rw [List.getElem?_eq_getElem hkL] at e2
                          rw [List.take_succ_eq_append_getElem hkL, vl_snoc, Option.some.inj e2, hn])
                        clear hn
                        go_wp2
                        go_round
                        case rel => exact ⟨k + 1, n * 128 + R[k].toNat % 128, by omega, by go_num, by go_num, HN.out⟩
                        case measure => simp [intOf]; omega
                      · have hkj1 : k = j + 1 := by omega
                        have HN := Lib.hid (show n = vl (L.take j) * 128 + R[j].toNat by rw [hn, hkj1]; exact HTk.out)
                        have hki : ¬ (k : Int) ≤ (j : Int) := by omega
                        clear hn hkj1 hkj hk
                        have hpj : (p : Int) + (j : Int) + 1 ≤ 140737488355328 := by omega
                        go_wp2
                        refine bodyPost_ret (v := .tuple #[.agg #[.string s, .int .i64 ((p : Int) + (j : Int) + 1), .int .i64 0], .int .u64 (n : Int)]) (by simp [results, Try.results45, go_sem]) rfl ⟨?_, ?_⟩
                        · rw [HT.out, ← HN.out]; exact ret_ref (b := p + (j + 1)) (by omega)
                        · exact ((Below.refl _ w).alloc (Nat.le_refl _) _).alloc (by simp) _
  · have HA := Lib.hid (nxt_err (p := p) (g := gets L) h0)
    have he : ((e : Int) != 0) = true := by simp; exact h0
    clear h0 hL
    go_enter Try.func45, Try.ntmps45
    go_wp2
    refine bodyPost_ret (v := .tuple #[refR s p e, .int .u64 0]) (by simp [results, Try.results45, go_sem, refR]) rfl ?_
    rw [HA.out]
    exact ⟨rfl, ((Below.refl _ w).alloc (Nat.le_refl _) _).alloc (by simp) _⟩
end Go.Proofs.Ytnejahfeafllkaa
