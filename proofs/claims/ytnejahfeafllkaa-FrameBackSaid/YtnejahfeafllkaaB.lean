/- WALKS of crc.step, crc.steps. -/
import Derived.Test.YtnejahfeafllkaaRows
import Derived.Test.YtnejahfeafllkaaA
import Derived.WalkKit
import Derived.WalkSpells
import Derived.WalkLawsBesides
import Derived.Lib.Hide
import Derived.Laws.BitsAllLaws
import Derived.Laws.Rows
import Derived.Laws.CopyOwn
import Derived.RegionTactic
import Derived.BigRegion
namespace Go.Proofs.Ytnejahfeafllkaa
open Go.RowKit
theorem ret_int {k : IntKind} {a b : Int} (h : a = b) : Ending.returned (.int k a) = .returned (.int k b) := by rw [h]
theorem ret_bool {a b : Bool} (h : a = b) : Ending.returned (.bool a) = .returned (.bool b) := by rw [h]
theorem ret_str {a b : ByteArray} (h : a = b) : Ending.returned (.string a) = .returned (.string b) := by rw [h]

theorem st_odd {n : Nat} (h : n < 4294967296) (h1 : ((n : Int) % 2 == 1) = true) : bits .xor .u32 ((n : Int) / 2) 2197175160 = ((st n : Nat) : Int) := by
  have e : (n : Int) / 2 = ((n / 2 : Nat) : Int) := by omega
  rw [e]
  have := u32_xor_nat (n / 2) 2197175160 (by omega) (by decide)
  have h2 : n % 2 = 1 := by simp at h1; omega
  rw [st, if_pos h2]
  exact this
theorem st_even {n : Nat} (h1 : ((n : Int) % 2 == 1) = false) : (n : Int) / 2 = ((st n : Nat) : Int) := by
  have h2 : ¬ n % 2 = 1 := by simp at h1; omega
  rw [st, if_neg h2]; omega
set_option maxHeartbeats 400000 in
theorem step_any (n : Nat) (w : World) (h : n < 4294967296) : Calls Try.prog 120 #[.int .u32 n] w fun e w' => e = .returned (.int .u32 ((st n : Nat) : Int)) ∧ w = w' := by
  cases h1 : ((n : Int) % 2 == 1)
  · have H := Lib.hid (st_even h1)
    go_enter Try.func120, Try.ntmps120
    go_wp2
    go_ret
    exact ⟨ret_int H.out, rfl⟩
  · have H := Lib.hid (st_odd h h1)
    go_enter Try.func120, Try.ntmps120
    go_wp2
    go_ret
    exact ⟨ret_int H.out, rfl⟩

def zero256 : Array Value := Array.replicate 256 (.int .u32 0)
theorem wpList_alloc256 {ops : Array Oper} {rest : List Oper} {o : Oper} {a : Act} {w : World} {Q : Exit → Act → World → Prop} (hg : o.guard = none) (ho : o.op = .alloc 160)
    (h : wpList Try.prog ops Q rest (a.put o.dst (.pointer (some ⟨w.heap.size, 0, none⟩))) (w.alloc (.cells zero256 160))) : wpList Try.prog ops Q (o :: rest) a w := by
  refine wpList_plain hg fun K hK => ?_
  unfold Oper.wp
  have e : (execOp a.eval o).run Try.prog w = .ok (.value (.pointer (some ⟨w.heap.size, 0, none⟩))) (w.alloc (.cells zero256 160)) := by
    unfold execOp
    rw [ho]
    kernel_rfl
  rw [e, Oper.upon_value]
  exact hK _ _ h
/-- The table is filled at 0 and at the r highest powers of two. -/
structure Pw (cs : Array Value) (r : Nat) : Prop where
  size : cs.size = 256
  zero : cs[0]? = some (.int .u32 0)
  at_ : ∀ q, q < r → cs[128 / 2 ^ q]? = some (.int .u32 ((tb (128 / 2 ^ q) : Nat) : Int))
theorem Pw.first : Pw zero256 0 := ⟨by kernel_rfl, by kernel_rfl, fun q h => absurd h (by omega)⟩
theorem tb_pows : ∀ r, r < 8 → tb (128 / 2 ^ r) = stK r 2197175160 := by decide +kernel
theorem Pw.next {cs : Array Value} {r b : Nat} (h : Pw cs r) (hr : r < 8) (hb : 128 / 2 ^ r = b) : Pw (cs.setIfInBounds b (.int .u32 ((stK r 2197175160 : Nat) : Int))) (r + 1) := by
  subst hb
  have hp : ∀ q, q < 8 → 128 / 2 ^ q < 256 ∧ 0 < 128 / 2 ^ q := by decide +kernel
  have hd : ∀ q, q < 8 → ∀ r, r < 8 → q ≠ r → 128 / 2 ^ q ≠ 128 / 2 ^ r := by decide +kernel
  refine ⟨by simp [h.size], ?_, fun q hq => ?_⟩
  · rw [Array.getElem?_setIfInBounds_ne (by have := (hp r hr).2; omega)]; exact h.zero
  · by_cases e : q = r
    · subst e
      rw [Array.getElem?_setIfInBounds_self, if_pos (by rw [h.size]; exact (hp q hr).1), tb_pows q hr]
    · rw [Array.getElem?_setIfInBounds_ne (fun x => hd r hr q (by omega) (by omega) x)]
      exact h.at_ q (by omega)
def pw (j : Nat) : Bool := j == 0 || j == 1 || j == 2 || j == 4 || j == 8 || j == 16 || j == 32 || j == 64 || j == 128
/-- The table is right at the powers of two and below k. -/
structure Tab (cs : Array Value) (k : Nat) : Prop where
  size : cs.size = 256
  at_ : ∀ j, j < 256 → (j < k ∨ pw j = true) → cs[j]? = some (.int .u32 ((tb j : Nat) : Int))
theorem Tab.first {cs : Array Value} (h : Pw cs 8) : Tab cs 0 := by
  have hp : ∀ j, j < 256 → pw j = true → j ≠ 0 → ∃ q, q < 8 ∧ 128 / 2 ^ q = j := by decide +kernel
  refine ⟨h.size, fun j hj hw => ?_⟩
  by_cases h0 : j = 0
  · subst h0
    rw [h.zero, show tb 0 = 0 by decide +kernel]; rfl
  · obtain ⟨q, hq, rfl⟩ := hp j hj (by rcases hw with hw | hw; · omega
                                       · exact hw) h0
    exact h.at_ q hq
def lowN (k : Nat) : Nat := (bits .and .i64 (k : Int) (-(k : Int))).toNat
theorem low_is : ∀ k : Nat, k < 256 → bits .and .i64 (k : Int) (-(k : Int)) = (lowN k : Int) ∧ lowN k ≤ k ∧ (lowN k = k → pw k = true) ∧ (lowN k ≠ k → tb (lowN k) ^^^ tb (k - lowN k) = tb k ∧ lowN k < k ∧ 0 < lowN k) := by
  decide +kernel
theorem Tab.skip {cs : Array Value} {k : Nat} (h : Tab cs k) (hk : k < 256) (e : lowN k = k) : Tab cs (k + 1) := by
  refine ⟨h.size, fun j hj hw => ?_⟩
  by_cases hjk : j = k
  · subst hjk; exact h.at_ j hj (.inr ((low_is j hj).2.2.1 e))
  · exact h.at_ j hj (by rcases hw with hw | hw; · exact .inl (by omega)
                         · exact .inr hw)
theorem Tab.next {cs : Array Value} {k : Nat} {z : Int} (h : Tab cs k) (hk : k < 256) (e : z = ((tb k : Nat) : Int)) : Tab (cs.setIfInBounds k (.int .u32 z)) (k + 1) := by
  subst e
  refine ⟨by simp [h.size], fun j hj hw => ?_⟩
  by_cases hjk : j = k
  · subst hjk; rw [Array.getElem?_setIfInBounds_self, if_pos (by rw [h.size]; exact hk)]
  · rw [Array.getElem?_setIfInBounds_ne (by omega)]
    exact h.at_ j hj (by rcases hw with hw | hw; · exact .inl (by omega)
                         · exact .inr hw)
theorem tab_ones {cs : Array Value} (h : Tab cs 256) : cs.all (·.oneCell') = true := by
  rw [Array.all_eq_true]
  intro i hi
  have := h.at_ i (by rw [← h.size]; exact hi) (.inl (by rw [← h.size]; exact hi))
  rw [Array.getElem?_eq_getElem hi] at this
  rw [Option.some.inj this]
  rfl
theorem Try.under160 : Try.prog.underlying 160 = some (.array 256 66) := by kernel_rfl
theorem size160 {cs : Array Value} (h : cs.size = 256) : (Try.prog.info? 160).map (·.size) = some cs.size := by
  rw [h]; kernel_rfl
theorem half_pow (r : Nat) : 128 / 2 ^ r / 2 = 128 / 2 ^ (r + 1) := by rw [Nat.div_div_eq_div_mul, Nat.pow_succ]
theorem pow_pos8 : ∀ r, r < 8 → 0 < 128 / 2 ^ r ∧ 128 / 2 ^ r ≤ 128 := by decide +kernel
set_option maxHeartbeats 1000000 in
set_option maxRecDepth 100000 in
theorem steps_any (w : World) : Calls Try.prog 108 #[] w fun e w' => ∃ cs, e = .returned (.agg cs) ∧ Tab cs 256 ∧ Below w.heap.size w w' := by
  go_enter Try.func108, Try.ntmps108
  go_wp2_with (refine wpList_alloc256 rfl rfl ?_)
  go_loopw [2, 3] (fun x b wr => ∃ (r : Nat) (cs : Array Value), r ≤ 8 ∧ b = .int .i64 ((128 / 2 ^ r : Nat) : Int) ∧ x = .int .u32 ((stK r 2197175160 : Nat) : Int) ∧ wr = (w.alloc (.cells zero256 160)).alloc (.cells cs 160) ∧ Pw cs r) (fun _ b _ => (intOf b).toNat)
  case atStart => exact ⟨0, _, by omega, rfl, rfl, rfl, Pw.first⟩
  case round =>
    obtain ⟨r, cs, hr, rfl, rfl, rfl, hP⟩ := hrel
    by_cases h8 : r < 8
    · have hx := stK_lt r (n := 2197175160) (by decide)
      obtain ⟨hb0, hb1⟩ := pow_pos8 r h8
      have hh := half_pow r
      have HN := fun b => Lib.hid (fun e => hP.next (b := b) h8 e)
      have hs := hP.size
      have HX := Lib.hid (show st (stK r 2197175160) = stK (r + 1) 2197175160 by
        rw [stK_add r 1]; rfl)
      clear hP
      generalize hxx : stK r 2197175160 = x at *
      generalize hbb : 128 / 2 ^ r = b at *
      have H1 := Lib.hid hbb
      have H2 := Lib.hid hh
      obtain ⟨y, hy⟩ : ∃ y, cs[b]? = some y := ⟨cs[b], by rw [Array.getElem?_eq_getElem]⟩
      clear hbb hxx hh
      go_wp2_with (go_at_call 120; refine (step_any _ _ (by omega)).mono ?_; rintro e w' ⟨rfl, rfl⟩)
      go_roundw
      case rel => exact ⟨r + 1, _, by omega, by rw [← H2.out]; go_num, by rw [← HX.out], rfl, (HN b).out rfl⟩
      case measure => simp [intOf]; omega
    · obtain rfl : r = 8 := by omega
      have HT := Lib.hid (Tab.first hP)
      have hs := hP.size
      clear hP
      generalize hxx : stK 8 2197175160 = x at *
      clear hxx
      go_wp2
      go_loopw [15] (fun i wr => ∃ (k : Nat) (cs : Array Value), k ≤ 256 ∧ i = .int .i64 k ∧ (∃ wo : World, wr = (wo.alloc (.cells zero256 160)).alloc (.cells cs 160) ∧ Below w.heap.size w wo ∧ wo.heap.size = w.heap.size) ∧ Tab cs k) (fun i _ => 256 - (intOf i).toNat)
      case atStart => exact ⟨0, cs, by omega, rfl, ⟨w, rfl, Below.refl _ _, rfl⟩, HT.out⟩
      case round =>
        obtain ⟨k, cs, hk, rfl, ⟨wo, rfl, hB, hsz⟩, hT⟩ := hrel
        have HB := Lib.hid hB
        clear hB
        by_cases hlt : k < 256
        · obtain ⟨hl1, hl2, hl3, hl4⟩ := low_is k hlt
          by_cases he : lowN k = k
          · have HN := Lib.hid (hT.skip hlt he)
            rw [he] at hl1
            clear hT hl2 hl3 hl4 he
            go_wp2
            go_roundw
            case rel => exact ⟨k + 1, _, by omega, by go_num, ⟨wo, rfl, HB.out, hsz⟩, HN.out⟩
            case measure => simp [intOf]; omega
          · obtain ⟨e1, e2, e3⟩ := hl4 he
            have hs2 := hT.size
            have hc1 := hT.at_ (lowN k) (by omega) (.inl e2)
            have hc2 := hT.at_ (k - lowN k) (by omega) (.inl (by omega))
            have b1 := tb_lt (n := lowN k) (by omega)
            have b2 := tb_lt (n := k - lowN k) (by omega)
            have HX := Lib.hid ((u32_xor_nat _ _ b1 b2).trans (congrArg Nat.cast e1))
            have HN := Lib.hid (fun z e => hT.next (z := z) hlt e)
            clear hT hl3 hl4 e1
            generalize tb (lowN k) = t1 at *
            generalize hq : k - lowN k = q at *
            generalize lowN k = lo at *
            generalize tb q = t2 at *
            have hsub : (k : Int) - (lo : Int) = (q : Int) := by omega
            have hne : ((lo : Int) != (k : Int)) = true := by simp; omega
            have HQ := Lib.hid hq
            have hq0 : (q : Int) < 256 := by omega
            have hl0 : (lo : Int) < 256 := by omega
            obtain ⟨y, hy⟩ : ∃ y, cs[k]? = some y := ⟨cs[k], by rw [Array.getElem?_eq_getElem]⟩
            clear hq he hl2 
            go_wp2
            go_region
            all_goals go_wp2
            all_goals go_roundw
            case rel => exact ⟨k + 1, _, by omega, by go_num, ⟨wo.drew, rfl, HB.out.drew, hsz⟩, HN.out _ HX.out⟩
            case measure => simp [intOf]; omega
        · obtain rfl : k = 256 := by omega
          have HT2 := Lib.hid hT
          have hs2 := hT.size
          have HA := Lib.hid (tab_ones hT)
          clear hT hs
          go_wp2_with (first
            | (refine wpList_load_row rfl 160 (.tmp 1) rfl (w.heap.size + 1) rfl 160 cs (0, 0) _ (by rw [← hsz]; exact heap_alloc2_new wo _ _) Try.under160 rfl (size160 hs2) ?_)
            | (refine wpList_store_row rfl 160 (.tmp 0) (.tmp 37) rfl w.heap.size cs rfl rfl 160 zero256 (by rw [← hsz]; exact heap_alloc2_old wo _ _) (size160 hs2) (by rw [hs2]; kernel_rfl) HA.out ?_))
          refine bodyPost_ret (v := .agg cs) (results_cell_row Try.results108 _ _ w.heap.size 160 cs (0, 0) _ rfl (setRow_heap _ _ zero256 cs 160 _ (by rw [← hsz]; exact heap_alloc2_old wo _ _)) Try.under160 rfl (size160 hs2)) rfl ⟨cs, rfl, HT2.out, ?_⟩
          exact below_setRow (((HB.out.alloc (by omega) _)).alloc (by simp; omega) _) (Nat.le_refl _) _
end Go.Proofs.Ytnejahfeafllkaa
