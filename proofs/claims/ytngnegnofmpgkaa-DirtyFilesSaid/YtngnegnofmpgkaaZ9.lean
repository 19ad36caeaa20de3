/- Wg, Gc, Gd, Ge, Gf, Gg, Gh -/
import Derived.Sort.OwnSorted
import Derived.Maps.AppendAt
import Derived.OwnWalk
import Derived.Sort.KeysCollected
import Derived.Sort.Walk0
import Derived.Deep.RegionHeld3
import Derived.Test.YtngnegnofmpgkaaZ1
import Derived.Test.YtngnegnofmpgkaaZ2
import Derived.Test.YtngnegnofmpgkaaZ8
/- WALK of the reference's Refs. -/
namespace Go.Proofs.Ytngnegnofmpgkaa
open Go.RowKit
theorem ref1_of {x : Ex} (h : ¬ (x.op = 9 ∧ 0 < x.path.length)) : ref1 x = [] := by
  unfold ref1
  split
  · rename_i h9
    have h0 : x.path.length = 0 := by omega
    rw [List.length_eq_zero_iff.1 h0]; rfl
  · rfl
set_option maxRecDepth 100000 in
set_option maxHeartbeats 8000000 in
theorem rrefs_any (w0 w : World) (n : Nat) (h : Hd) (x : Ex) (hx : InX w0 n h x) (hb0 : Below w0.heap.size w0 w) (hsm : tN n x ≤ 1000000) : Calls Try.prog 93 #[h.agg] w (TxtsP (refsL (allN n x)) w) := by
  obtain ⟨i0, hi, hz0, hz1, hz2⟩ := info_parts info9
  have KA := fun (W : World) (hW : Below w.heap.size w W) => Lib.hid (all_any w0 n h x W hx (below_step hb0 hW) hsm)
  have HAL := Lib.hid (show (allN n x).length ≤ 1000000 from Nat.le_trans (allN_le n x) hsm)
  have HB0 := Lib.hid hb0
  obtain ⟨A, hA⟩ : ∃ A, allN n x = A := ⟨_, rfl⟩
  rw [hA] at KA HAL
  obtain ⟨op, nn, s, p, pl, pc, q, ql, qc, o, k, kl, kc⟩ := h
  unfold Hd.agg at KA
  unfold Hd.agg
  dsimp only at KA ⊢
  rw [hA]
  have HB1 : Hid (Below w.heap.size w (w.alloc (.cells #[.int .i64 op, .int .i64 nn, .string s, .slice p pl pc, .slice q ql qc, .bool o, .slice k kl kc] 38))) := below_alloc (Below.refl _ _) _
  clear hx hb0 hsm hA
  go_enter Try.func93, Try.ntmps93
  go_wp2_with (go_at_call 101; refine (KA _ HB1.out).out.mono ?_; rintro e w2 ⟨v, L, rfl, hO, hL, hI, hb2⟩; obtain ⟨a, c, rfl, hk⟩ := row_ks (I := fun h x => ∃ m, InX w0 m h x) hO rfl (by have h1 := congrArg List.length hL; rw [List.length_map] at h1; have := HAL.out; omega) hI; rw [hL] at hk; have hLl : L.length = A.length := by { rw [← hL, List.length_map] }; rw [hLl] at hk ⊢; have HK := Lib.hid hk; have HB2 := Lib.hid (below_step HB1.out hb2); clear hb2 hO hL hI hk hLl)
  have hAm := HAL.out
  go_loopw [3, 5] (fun u i wr => ∃ j : Nat, j ≤ A.length ∧ i = .int .i64 j ∧ Hid (wr.ownsRow w2.heap.size 9 1 u (refsL (A.take j)).length ((refsL (A.take j)).map Value.string)) ∧ Hid (Below w2.heap.size w2 wr)) (fun _ i _ => A.length - (intOf i).toNat)
  case atStart => exact ⟨0, Nat.zero_le _, rfl, World.ownsRow_nil _ _ _ _, Below.refl _ _⟩
  case round =>
    obtain ⟨j, hj, rfl, hO, hB⟩ := hrel
    rename World => wr
    by_cases hlt : j < A.length
    · have hki : (j : Int) < (A.length : Int) := by omega
      have hk0 : (0 : Int) ≤ (j : Int) := by omega
      obtain ⟨b, off, y, rfl, lt, hy2, m, hI⟩ := HK.out.at_ j hlt
      have HT : Hid (refsL (A.take (j + 1)) = refsL (A.take j) ++ ref1 A[j]) := by
        rw [List.take_succ_eq_append_getElem hlt, refsL_snoc]; rfl
      obtain ⟨xe, hxe⟩ : ∃ xe, A[j] = xe := ⟨_, rfl⟩
      rw [hxe] at hI HT
      obtain ⟨m, rfl⟩ := InX.pos hI
      obtain ⟨xop, xn, xs, pa, xps, xo, xks⟩ := xe
      obtain ⟨op2, nn2, s2, p2, pl2, pc2, q2, ql2, qc2, o2, k2, kl2, kc2⟩ := y
      obtain ⟨h1, -, -, -, -, hpa, -, -⟩ := hI
      dsimp only at h1 hpa
      subst h1
      obtain rfl := hpa.count
      obtain ⟨c0, c1, c2, c3, c4, c5, c6⟩ := hy2.below hB.out lt
      dsimp only at c0 c1 c2 c3 c4 c5 c6
      have HPA := Lib.hid (hpa.below (below_step HB0.out (below_step HB2.out hB.out)))
      have hrl := refsL_len (A.take j)
      rw [List.length_take] at hrl
      have hrl2 : (refsL (A.take j)).length ≤ 1000000 := by omega
      have hsz : w2.heap.size ≤ wr.heap.size := hB.out.size
      clear hpa hy2 hrl hxe
      by_cases h9 : op2 = 9 ∧ 0 < pa.length
      · obtain ⟨rfl, hp0⟩ := h9
        obtain ⟨nm, pa', rfl⟩ : ∃ nm pa', pa = nm :: pa' := by
          cases pa with
          | nil => exact absurd hp0 (by simp)
          | cons a l => exact ⟨a, l, rfl⟩
        obtain ⟨b3, off3, rfl, lt3, hcell⟩ := HPA.out.at_ hp0
        have hc0 := hcell 0 nm rfl
        simp only [Nat.add_zero] at hc0
        have hp1 : (0 : Int) < ((nm :: pa').length : Int) := by omega
        obtain ⟨z, hz⟩ : ∃ z, (nm :: pa').length = z := ⟨_, rfl⟩
        rw [hz] at hp1 hp0 c3
        have HR : Hid (ref1 (.mk 9 xn xs (nm :: pa') xps xo xks) = [nm]) := rfl
        have HCN : Hid (∀ r u, [Value.string nm][r]? = some u → (wr.alloc (.cells #[.string nm] 9)).cell? ((⟨wr.heap.size, 0, none⟩ : Addr).add r) = some u) := cell_one_new wr (.string nm) 9
        clear hcell hz
        go_wp2_with (at_builtin; refine wpList_append_own _ rfl _ _ 26 rfl w2.heap.size 9 i0 (.string ByteArray.empty) 1 16 Try.underlying26 hi hz0 hz1 hz2 rfl (by decide) _ _ _ rfl (hO.out.alloc _) ⟨wr.heap.size, 0, none⟩ 1 1 [.string nm] rfl rfl HCN.out (fun x hx => by simp at hx; subst hx; rfl) (by unfold maxLen; omega) (by omega) (by simp; omega) ?_; intro v' w3 hown' hgrow3 hnil3; have OW3 := Lib.hid hown'; have HB3 := Lib.hid ((hB.out.alloc hsz _).grown hgrow3 (by simp; omega) (own_base hO.out)); clear hown' hgrow3 hnil3)
        go_roundw
        case rel => exact ⟨j + 1, by omega, by go_num, by rw [HT.out, HR.out, List.length_append, List.map_append]; exact OW3.out, HB3.out⟩
        case measure => simp [intOf]; omega
      · have HR := Lib.hid (ref1_of (x := .mk op2 xn xs pa xps xo xks) h9)
        have fin : ∃ j' : Nat, j' ≤ A.length ∧ Value.int IntKind.i64 (j + 1 : Int) = .int .i64 (j' : Int) := ⟨j + 1, by omega, by go_num⟩
        by_cases h0 : op2 = 9
        · have hp0 : pa.length = 0 := by omega
          rw [hp0] at c3
          subst h0
          clear h9 fin
          go_wp2_with fail
          go_roundw
          case rel => exact ⟨j + 1, by omega, by go_num, by rw [HT.out, HR.out, List.append_nil]; exact hO.out, hB.out⟩
          case measure => simp [intOf]; omega
        · have h0b : (op2 == 9) = false := by simpa using h0
          clear h9 fin
          go_wp2_with fail
          go_roundw
          case rel => exact ⟨j + 1, by omega, by go_num, by rw [HT.out, HR.out, List.append_nil]; exact hO.out, hB.out⟩
          case measure => simp [intOf]; omega
    · obtain rfl : j = A.length := by omega
      rw [List.take_length] at hO
      go_wp2_with fail
      go_ret
      exact ⟨_, rfl, owns_up hO.out HB2.out.size, below_step HB2.out hB.out⟩
end Go.Proofs.Ytngnegnofmpgkaa
/- WALKS of graph's Points and To: a map's keys, collected and sorted. -/
namespace Go.Proofs.Ytngnegnofmpgkaa.Gr
open Go.RowKit Go.Maps Go.Sort
def mk (x : List UInt8) : ByteArray := ⟨x.toArray⟩
theorem mk_str (x : List UInt8) : Value.string (mk x) = encStr x := rfl
theorem mk_of (s : ByteArray) : mk s.data.toList = s := rfl
theorem of_mk (x : List UInt8) : (mk x).data.toList = x := rfl
/-- Texts that rise. -/
def Rise (l : List ByteArray) : Prop := l.Pairwise fun a b => a.data.toList < b.data.toList
/-- Just these texts, rising. -/
def SetL (P : ByteArray → Bool) (l : List ByteArray) : Prop := Rise l ∧ ∀ s, s ∈ l ↔ (okS s ∧ P s = true)
def SetR (P : ByteArray → Bool) (m : Nat) (w : World) (e : Ending) (w' : World) : Prop := ∃ l, TxtsP l w e w' ∧ SetL P l ∧ l.length ≤ m
theorem sorted_le (ss : List (List UInt8)) : (ss.mergeSort leB).Pairwise fun a b => a ≤ b := by
  have tr : ∀ a b c : List UInt8, leB a b = true → leB b c = true → leB a c = true := fun a b c h1 h2 => by simp only [leB, decide_eq_true_eq] at *; exact List.le_trans h1 h2
  have tq : ∀ a b : List UInt8, (leB a b || leB b a) = true := fun a b => by simp only [leB, Bool.or_eq_true, decide_eq_true_eq]; exact List.le_total a b
  exact (List.pairwise_mergeSort tr tq ss).imp fun h => by simpa [leB] using h
theorem set_of {D : DataW Value} {left : Lit → Bool} {ss : List (List UInt8)} {P : ByteArray → Bool} (hC : Collected D left ss) (hl : ∀ k, left k = false) (hh : ∀ s, okS s → Maps.has D (kS s) = P s) (hk : ∀ s, Maps.has D (kS s) = true → okS s) : SetL P ((ss.mergeSort leB).map mk) := by
  refine ⟨?_, fun s => ?_⟩
  · unfold Rise
    rw [List.pairwise_map]
    have hnd : (ss.mergeSort leB).Pairwise (· ≠ ·) := (List.mergeSort_perm ss leB).symm.nodup_iff.1 hC.1
    refine List.Pairwise.imp₂ (fun a b (h1 : a ≤ b) (h2 : a ≠ b) => ?_) (sorted_le ss) hnd
    rw [of_mk, of_mk]
    exact Classical.byContradiction fun h => h2 (List.le_antisymm h1 (List.not_lt.1 h))
  · rw [List.mem_map]
    constructor
    · rintro ⟨x, hx, rfl⟩
      have h1 := (hC.2 x).1 ((List.mergeSort_perm ss leB).mem_iff.1 hx)
      have h2 := hk (mk x) h1.1
      exact ⟨h2, by rw [← hh _ h2]; exact h1.1⟩
    · rintro ⟨h1, h2⟩
      exact ⟨s.data.toList, (List.mergeSort_perm ss leB).mem_iff.2 ((hC.2 _).2 ⟨by rw [← hh s h1] at h2; exact h2, hl _⟩), rfl⟩
theorem row_map (ts : List (List UInt8)) : ts.map encStr = (ts.map mk).map Value.string := by rw [List.map_map]; rfl
theorem grown_none {w a c : World} {r : Nat} (h : w.grownBy a none) (k : a.grownBy c (some r)) (hr : w.heap.size ≤ r) : w.grownBy c none :=
  ⟨k.os.trans h.os, k.tape.trans h.tape, k.output.trans h.output, Nat.le_trans h.size k.size, fun i hi _ => (k.block i (Nat.lt_of_lt_of_le hi h.size) (by intro e; injection e with e; omega)).trans (h.block i hi (by simp))⟩
theorem grown_row {w a c : World} {v : Value} (h : w.grownBy a none) (k : a.grownBy c v.ownBlock) (hr : ∀ g, v.ownBlock = some g → w.heap.size ≤ g) : w.grownBy c none :=
  ⟨k.os.trans h.os, k.tape.trans h.tape, k.output.trans h.output, Nat.le_trans h.size k.size, fun i hi _ => (k.block i (Nat.lt_of_lt_of_le hi h.size) (by intro e; have := hr i e.symm; omega)).trans (h.block i hi (by simp))⟩
theorem below_none {w c : World} (h : w.grownBy c none) : Below w.heap.size w c := ⟨h.os, h.tape, h.output, h.size, fun k hk => h.block k hk (by simp)⟩
set_option maxRecDepth 100000 in
set_option maxHeartbeats 8000000 in
theorem points_any {w : World} {base G m : Nat} {P : ByteArray → Bool} {L : ByteArray → ByteArray → Bool} (h : GR w base G m P L) (hm : m ≤ 1000000) : Calls Try.prog 72 #[.pointer (some ⟨G, 0, none⟩)] w (SetR P m w) := by
  obtain ⟨b, D, F, E, h⟩ := h
  have HH := fun W hc => Lib.hid (held_some G (.map (some b)) W hc)
  have c0 := h.cell
  have hown := h.own
  have hsz := h.siz
  have HG := Lib.hid h
  obtain ⟨i0, hi, hz0, hz1, hz2⟩ := info_parts info9
  clear h
  go_enter Try.func72, Try.ntmps72
  go_wp2_with (first
    | (go_at_call 91; refine (HH _ c0).out.mono ?_; rintro e w1 ⟨rfl, rfl⟩)
    | (at_range; refine wpList_range_own _ rfl _ 118 rfl 9 90 law9 Try.underlying118 _ b _ _ rfl hown ?_; intro w0 hrg0 hg0 hs0)
    | go_in)
  go_frame
  go_loopw [3] (fun v wr => ∃ (left : Lit → Bool) (cnt : Nat) (ss : List (List UInt8)), wr.ranges Try.prog 9 Rm b w1.heap.size (Maps.size D) D left cnt ∧ Hid (Collected D left ss) ∧ ss.length + cnt ≤ Maps.size D ∧ Hid (wr.ownsRow (w1.heap.size + 1) 9 1 v ss.length (ss.map encStr)) ∧ Hid (w1.grownBy wr none) ∧ w1.heap.size + 1 ≤ wr.heap.size)
    (fun _ wr => wr.rangeLeft b w1.heap.size)
  case atStart => exact ⟨_, _, [], hrg0, Lib.hid (Collected.start D), by simp, Lib.hid (World.ownsRow_nil _ _ _ _), Lib.hid hg0, by omega⟩
  case round =>
    obtain ⟨left, cnt, ss, hrg, hC, hn, hO, hG, hws⟩ := hrel
    have hlb : b < w1.heap.size := HG.out.own.lt
    go_wp2_with (first
      | (at_next; refine wpList_next_ranges _ rfl _ rfl 9 law9 Rm encStr (fun c : Option Nat => .map c) (fun key kl hk => by obtain ⟨x, hx, _⟩ := Maps.keyOf_str Try.underlying9 hk; exact ⟨x, hx⟩) (fun v y hv => (Rm_inv hv).1) b w1.heap.size _ _ _ _ rfl hrg ?_ ?_)
      | go_in)
    · intro _ hl0
      have hperm := hC.out.perm hown law9 Try.underlying9 hl0
      have hset := Lib.hid (set_of hC.out hl0 HG.out.has HG.out.kok)
      have hlen : ss.length ≤ m := by omega
      have HGO := Lib.hid hG.out
      rcases hO.out.2 with ⟨rfl, h0⟩ | ⟨g, cap, cur, rfl, hbase, hb, h1, h2, h3, h4⟩
      · obtain rfl : ss = [] := List.eq_nil_of_length_eq_zero h0
        clear hO hC hG hperm hrg
        go_wp2_with (go_at_call 35; refine (Try.slices_Sort_string_none _ _ _).mono ?_; rintro e w2 ⟨rfl, rfl⟩)
        go_ret
        exact ⟨[], ⟨_, rfl, World.ownsRow_nil _ _ _ _, below_none HGO.out⟩, by simpa using hset.out, by simp⟩
      · have hS := Lib.hid (Try.slices_Sort_string g 0 cap ss wr (holds_of_block hb (by simpa using h4)) (Array.getElem?_eq_some_iff.1 hb).1 (by omega))
        have HB := Lib.hid (And.intro hb (And.intro h1 (And.intro h2 h3)))
        clear hO hC hG hperm hrg hb h1 h2 h3 h4
        go_wp2_with (go_at_call 35; refine hS.out.mono ?_; rintro e w2 ⟨rfl, n, os, rfl⟩)
        go_ret
        have hl2 : (ss.mergeSort leB).length = ss.length := by simp
        have hrow := ownsRow_sorted (ts := ss.mergeSort leB) (n := n) (os := os) hl2 hbase HB.out.1 HB.out.2.1 HB.out.2.2.1 HB.out.2.2.2
        refine ⟨(ss.mergeSort leB).map mk, ⟨_, rfl, ?_, ?_⟩, hset.out, by simpa using hlen⟩
        · rw [← row_map, List.length_map, hl2]
          exact owns_up hrow (by omega)
        · exact below_none (grown_none HGO.out (grownBy_sorted _) (by omega))
    · intro x c kl yd yp w2 cnt1 hkey hlk hv hat hrg1 hlt hg1 hs1 hen
      obtain ⟨x', ex, rfl, hlx⟩ := Maps.keyOf_str Try.underlying9 hkey
      obtain rfl : x = x' := encStr_inj ex
      have HC1 := Lib.hid (hC.out.step hlk hat)
      have hri := row_ne_iter hO.out hrg
      have HO1 := Lib.hid (hO.out.kept hg1 (.inr hri.symm))
      have HG1 := Lib.hid (grown_none hG.out hg1 (Nat.le_refl _))
      have hrl := hrg.left_eq
      have hws2 : w1.heap.size + 1 ≤ w2.heap.size := by omega
      clear hs1 hws
      clear hkey hlk hv hat hrg hg1 hri ex hC hO hG
      go_wp2_with (at_builtin; refine wpList_append_own_at _ rfl _ _ 26 rfl (w1.heap.size + 1) 9 i0 (.string ByteArray.empty) 1 16 Try.underlying26 hi hz0 hz1 hz2 rfl (by decide) _ ss.length (ss.map encStr) rfl (HO1.out.alloc _) ⟨w2.heap.size, 0, none⟩ 1 1 [encStr x] rfl rfl (cell_one_new _ _ _) (by intro v hv; simp at hv; subst hv; rfl) (by unfold maxLen; omega) (by omega) (by simp; omega) ?_; intro v' w3 hown' hgrow3 hnil3 hat3; have HO3 := Lib.hid hown'; have HG3 := Lib.hid (grown_row ((HG1.out).andThen (World.grownBy_alloc _ _ none) (by simp)) hgrow3 (fun g hg => by have := ((HO1.out.alloc (.cells #[encStr x] 9)).lt g hg).1; omega)); have hrg3 := (hrg1.alloc (.cells #[encStr x] 9)).kept hgrow3 (row_ne_low (HO1.out.alloc (.cells #[encStr x] 9)) (by omega)) (row_ne_low (HO1.out.alloc (.cells #[encStr x] 9)) (by omega)); have hs3 := hgrow3.size; clear hown' hgrow3 hnil3 hat3 hrg1)
      go_roundw
      case rel => exact ⟨_, cnt1, ss ++ [x], hrg3, HC1, by simp; omega, by rw [List.length_append, List.map_append]; exact HO3, HG3, by simp at hs3; omega⟩
      case measure => rw [hrg3.left_eq, hrl]; exact hlt
end Go.Proofs.Ytngnegnofmpgkaa.Gr
/- WALK of graph's To. -/
namespace Go.Proofs.Ytngnegnofmpgkaa.Gr
open Go.RowKit Go.Maps Go.Sort
set_option maxRecDepth 100000 in
set_option maxHeartbeats 8000000 in
theorem to_any {w : World} {base G m : Nat} {P : ByteArray → Bool} {L : ByteArray → ByteArray → Bool} (h : GR w base G m P L) (hm : m ≤ 1000000) {k0 : ByteArray} (hk : okS k0) : Calls Try.prog 73 #[.pointer (some ⟨G, 0, none⟩), .string k0] w (SetR (fun t => L k0 t) m w) := by
  obtain ⟨b, D, F, E, h⟩ := h
  have HH := fun W hc => Lib.hid (held_some G (.map (some b)) W hc)
  have c0 := h.cell
  have hlk := h.look hk
  have HG := Lib.hid h
  cases hF : F k0 with
  | none =>
    rw [hF] at hlk
    have hPf : P k0 = false := by rw [← h.fp k0 hk, hF]; rfl
    have hset : Hid (SetL (fun t => L k0 t) []) := ⟨List.Pairwise.nil, fun s => by
      constructor
      · intro hs; exact absurd hs (by simp)
      · rintro ⟨h1, h2⟩
        have h2 : L k0 s = true := h2
        rw [h.non k0 s hk hPf] at h2
        exact absurd h2 (by decide)⟩
    have hrg := run_range_nilMap (P := Try.prog) w 90 9 4 Try.underlying90
    have hnx : ∀ ty, (Instr.next (.pointer (some ⟨w.heap.size, 0, none⟩)) false ty).run Try.prog (w.alloc (.mapIter none 0 #[] 0)) = _ := fun ty => run_next_nilMap w ty 0 0 #[]
    clear h hF hPf
    go_enter Try.func73, Try.ntmps73
    go_wp2_with (first
      | (go_at_call 91; refine (HH _ c0).out.mono ?_; rintro e w1 ⟨rfl, rfl⟩)
      | go_in)
    refine wp_loop_rounds 1 ?_
    rw [rounds_succ]
    go_wp2_with (go_at_call 35; refine (Try.slices_Sort_string_none _ _ _).mono ?_; rintro e w2 ⟨rfl, rfl⟩)
    go_ret
    exact ⟨[], ⟨_, rfl, World.ownsRow_nil _ _ _ _, (Below.refl _ _).alloc (Nat.le_refl _) _⟩, hset.out, by simp⟩
  | some c =>
  rw [hF] at hlk
  have hown := h.inn k0 c hk hF
  have hsz := h.szi k0 c hk hF
  have HL := Lib.hid (h.lin k0 c hk hF)
  have HK := Lib.hid (h.kin k0 c hk hF)
  have hbl := hown.lt
  obtain ⟨i0, hi, hz0, hz1, hz2⟩ := info_parts info9
  generalize E k0 = D0 at *
  clear h hF
  go_enter Try.func73, Try.ntmps73
  go_wp2_with (first
    | (go_at_call 91; refine (HH _ c0).out.mono ?_; rintro e w1 ⟨rfl, rfl⟩)
    | (at_range; refine wpList_range_own _ rfl _ 90 rfl 9 4 law9 Try.underlying90 _ c _ _ rfl hown ?_; intro w0 hrg0 hg0 hs0)
    | go_in)
  go_frame
  go_loopw [5] (fun v wr => ∃ (left : Lit → Bool) (cnt : Nat) (ss : List (List UInt8)), wr.ranges Try.prog 9 Re c w1.heap.size (Maps.size D0) D0 left cnt ∧ Hid (Collected D0 left ss) ∧ ss.length + cnt ≤ Maps.size D0 ∧ Hid (wr.ownsRow (w1.heap.size + 1) 9 1 v ss.length (ss.map encStr)) ∧ Hid (w1.grownBy wr none) ∧ w1.heap.size + 1 ≤ wr.heap.size)
    (fun _ wr => wr.rangeLeft c w1.heap.size)
  case atStart => exact ⟨_, _, [], hrg0, Lib.hid (Collected.start D0), by simp, Lib.hid (World.ownsRow_nil _ _ _ _), Lib.hid hg0, by omega⟩
  case round =>
    obtain ⟨left, cnt, ss, hrg, hC, hn, hO, hG, hws⟩ := hrel
    have hlb : c < w1.heap.size := hbl
    go_wp2_with (first
      | (at_next; refine wpList_next_ranges _ rfl _ rfl 9 law9 Re encStr (fun v : Value => v) (fun key kl hk => by obtain ⟨x, hx, _⟩ := Maps.keyOf_str Try.underlying9 hk; exact ⟨x, hx⟩) (fun v y _ => ⟨v, rfl⟩) c w1.heap.size _ _ _ _ rfl hrg ?_ ?_)
      | go_in)
    · intro _ hl0
      have hperm := hC.out.perm hown law9 Try.underlying9 hl0
      have hset := Lib.hid (set_of (P := fun t => L k0 t) hC.out hl0 HL.out HK.out)
      have hlen : ss.length ≤ m := by omega
      have HGO := Lib.hid hG.out
      rcases hO.out.2 with ⟨rfl, h0⟩ | ⟨g, cap, cur, rfl, hbase, hb, h1, h2, h3, h4⟩
      · obtain rfl : ss = [] := List.eq_nil_of_length_eq_zero h0
        clear hO hC hG hperm hrg
        go_wp2_with (go_at_call 35; refine (Try.slices_Sort_string_none _ _ _).mono ?_; rintro e w2 ⟨rfl, rfl⟩)
        go_ret
        exact ⟨[], ⟨_, rfl, World.ownsRow_nil _ _ _ _, below_none HGO.out⟩, by simpa using hset.out, by simp⟩
      · have hS := Lib.hid (Try.slices_Sort_string g 0 cap ss wr (holds_of_block hb (by simpa using h4)) (Array.getElem?_eq_some_iff.1 hb).1 (by omega))
        have HB := Lib.hid (And.intro hb (And.intro h1 (And.intro h2 h3)))
        clear hO hC hG hperm hrg hb h1 h2 h3 h4
        go_wp2_with (go_at_call 35; refine hS.out.mono ?_; rintro e w2 ⟨rfl, n, os, rfl⟩)
        go_ret
        have hl2 : (ss.mergeSort leB).length = ss.length := by simp
        have hrow := ownsRow_sorted (ts := ss.mergeSort leB) (n := n) (os := os) hl2 hbase HB.out.1 HB.out.2.1 HB.out.2.2.1 HB.out.2.2.2
        refine ⟨(ss.mergeSort leB).map mk, ⟨_, rfl, ?_, ?_⟩, hset.out, by simpa using hlen⟩
        · rw [← row_map, List.length_map, hl2]
          exact owns_up hrow (by omega)
        · exact below_none (grown_none HGO.out (grownBy_sorted _) (by omega))
    · intro x cb kl yd yp w2 cnt1 hkey hlk hv hat hrg1 hlt hg1 hs1 hen
      obtain ⟨x', ex, rfl, hlx⟩ := Maps.keyOf_str Try.underlying9 hkey
      obtain rfl : x = x' := encStr_inj ex
      have HC1 := Lib.hid (hC.out.step hlk hat)
      have hri := row_ne_iter hO.out hrg
      have HO1 := Lib.hid (hO.out.kept hg1 (.inr hri.symm))
      have HG1 := Lib.hid (grown_none hG.out hg1 (Nat.le_refl _))
      have hrl := hrg.left_eq
      have hws2 : w1.heap.size + 1 ≤ w2.heap.size := by omega
      clear hs1 hws
      clear hkey hlk hv hat hrg hg1 hri ex hC hO hG
      go_wp2_with (at_builtin; refine wpList_append_own_at _ rfl _ _ 26 rfl (w1.heap.size + 1) 9 i0 (.string ByteArray.empty) 1 16 Try.underlying26 hi hz0 hz1 hz2 rfl (by decide) _ ss.length (ss.map encStr) rfl (HO1.out.alloc _) ⟨w2.heap.size, 0, none⟩ 1 1 [encStr x] rfl rfl (cell_one_new _ _ _) (by intro v hv; simp at hv; subst hv; rfl) (by unfold maxLen; omega) (by omega) (by simp; omega) ?_; intro v' w3 hown' hgrow3 hnil3 hat3; have HO3 := Lib.hid hown'; have HG3 := Lib.hid (grown_row ((HG1.out).andThen (World.grownBy_alloc _ _ none) (by simp)) hgrow3 (fun g hg => by have := ((HO1.out.alloc (.cells #[encStr x] 9)).lt g hg).1; omega)); have hrg3 := (hrg1.alloc (.cells #[encStr x] 9)).kept hgrow3 (row_ne_low (HO1.out.alloc (.cells #[encStr x] 9)) (by omega)) (row_ne_low (HO1.out.alloc (.cells #[encStr x] 9)) (by omega)); have hs3 := hgrow3.size; clear hown' hgrow3 hnil3 hat3 hrg1)
      go_roundw
      case rel => exact ⟨_, cnt1, ss ++ [x], hrg3, HC1, by simp; omega, by rw [List.length_append, List.map_append]; exact HO3, HG3, by simp at hs3; omega⟩
      case measure => rw [hrg3.left_eq, hrl]; exact hlt
end Go.Proofs.Ytngnegnofmpgkaa.Gr
/- WALKS of the reference's Has and Put. -/
namespace Go.Proofs.Ytngnegnofmpgkaa.Gr
open Go.RowKit Go.Maps Go.Sort
open Go.Proofs.Ytngnegnofmpgkaa.Nm (StrRow)
/-- A list of texts is handed back. -/
def RowR (l : List ByteArray) (w : World) (e : Ending) (w' : World) : Prop := ∃ (a : Option Addr) (cap : Nat), e = .returned (.slice a l.length cap) ∧ StrRow w' a l.length l ∧ Below w.heap.size w w'
theorem row_of {l : List ByteArray} {w w' : World} {e : Ending} (h : TxtsP l w e w') (hl : l.length ≤ 140737488355328) (hs : ∀ y ∈ l, y.size ≤ 140737488355328) : RowR l w e w' := by
  obtain ⟨v, rfl, hr, hb⟩ := h
  obtain ⟨a, c, rfl, hS⟩ := str_row hr hl hs
  exact ⟨a, c, rfl, hS, hb⟩
def inB (s : ByteArray) (xs : List ByteArray) : Bool := xs.any fun x => decide (x = s)
theorem inB_iff {s : ByteArray} {xs : List ByteArray} : inB s xs = true ↔ s ∈ xs := by
  unfold inB
  rw [List.any_eq_true]
  exact ⟨fun ⟨x, hx, e⟩ => by rw [← of_decide_eq_true e]; exact hx, fun h => ⟨s, h, decide_eq_true rfl⟩⟩
def Nin (s : ByteArray) (xs : List ByteArray) (k : Nat) : Prop := ∀ (j : Nat) (x : ByteArray), xs[j]? = some x → j < k → (x.toList == s.toList) = false
theorem eq_list {x s : ByteArray} : (x.toList == s.toList) = true ↔ x = s := by
  rw [beq_iff_eq, Lib.toList_data, Lib.toList_data]
  exact ⟨fun e => ByteArray.ext (Array.toList_inj.1 e), fun e => by rw [e]⟩
theorem Nin.succ {s : ByteArray} {xs : List ByteArray} {k : Nat} {x : ByteArray} (h : Nin s xs k) (hx : xs[k]? = some x) (hr : (x.toList == s.toList) = false) : Nin s xs (k + 1) := fun j y hy hj => by
  by_cases e : j = k
  · subst e; rw [hx] at hy; injection hy with hy; subst hy; exact hr
  · exact h j y hy (by omega)
theorem nin_end {s : ByteArray} {xs : List ByteArray} (h : Nin s xs xs.length) : inB s xs = false := by
  rw [← Bool.not_eq_true, inB_iff]
  intro hm
  obtain ⟨j, hj, e⟩ := List.getElem_of_mem hm
  have := h j xs[j] (List.getElem?_eq_getElem hj) hj
  rw [eq_list.2 e] at this
  exact absurd this (by decide)
set_option maxRecDepth 100000 in
set_option maxHeartbeats 2000000 in
theorem rhas_any (a : Option Addr) (len cap : Nat) (xs : List ByteArray) (s : ByteArray) (w : World) (hS : StrRow w a len xs) : Calls Try.prog 36 #[.slice a len cap, .string s] w fun e w' => e = .returned (.bool (inB s xs)) ∧ w = w' := by
  have hmax := hS.max
  have HS := Lib.hid hS
  have HN0 := Lib.hid (show Nin s xs 0 from fun _ _ _ h => absurd h (by omega))
  clear hS
  by_cases h0 : 0 < len
  · obtain ⟨b, off, rfl, hb, hc⟩ := HS.out.at_ h0
    have HC := Lib.hid hc
    clear hc hb
    go_enter Try.func36, Try.ntmps36
    go_wp2
    go_loop [5] (fun i => ∃ k : Nat, k ≤ len ∧ i = .int .i64 k ∧ Hid (Nin s xs k)) (fun i => len - (intOf i).toNat)
    case atStart => exact ⟨0, by omega, rfl, HN0⟩
    case round =>
      obtain ⟨k, hk, rfl, hU⟩ := hrel
      by_cases hlt : k < len
      · obtain ⟨x, hx⟩ : ∃ x, xs[k]? = some x := ⟨xs[k]'(by rw [HS.out.count]; exact hlt), List.getElem?_eq_getElem _⟩
        have hcell : w.cell? ⟨b, off + k, none⟩ = some (.string x) := HC.out k x hx
        have HX := Lib.hid hx
        clear hx
        cases hr : (x.toList == s.toList)
        · have HR := Lib.hid hr
          go_wp2
          go_round
          case rel => exact ⟨k + 1, by omega, by go_num, Lib.hid (hU.out.succ HX.out HR.out)⟩
          case measure => simp [intOf]; omega
        · have HR := Lib.hid hr
          go_wp2
          go_ret
          have e := eq_list.1 HR.out
          subst e
          exact ⟨Nm.ret_bool (by rw [inB_iff.2 (List.mem_of_getElem? HX.out)]), rfl⟩
      · have hki : ¬ (k : Int) < (len : Int) := by omega
        obtain rfl : k = len := by omega
        go_wp2
        go_ret
        exact ⟨Nm.ret_bool (by rw [nin_end (by rw [HS.out.count]; exact hU.out)]), rfl⟩
  · obtain rfl : len = 0 := by omega
    have hx : xs = [] := List.eq_nil_of_length_eq_zero HS.out.count
    subst hx
    go_enter Try.func36, Try.ntmps36
    go_wp2
    refine wp_loop_rounds 1 ?_
    rw [rounds_succ]
    go_wp2
    go_ret
    exact ⟨rfl, rfl⟩
end Go.Proofs.Ytngnegnofmpgkaa.Gr
/- WALK of the reference's Put. -/
namespace Go.Proofs.Ytngnegnofmpgkaa.Gr
open Go.RowKit Go.Maps Go.Sort
open Go.Proofs.Ytngnegnofmpgkaa.Nm (StrRow)
/-- A text among others, ahead of the first one that is greater. -/
def insS (s : ByteArray) : List ByteArray → List ByteArray
  | [] => [s]
  | x :: xs => if Op.bytesLess s.toList x.toList = true then s :: x :: xs else x :: insS s xs
def putL (s : ByteArray) (xs : List ByteArray) : List ByteArray := if inB s xs = true then xs else insS s xs
theorem insS_len (s : ByteArray) : ∀ xs : List ByteArray, (insS s xs).length = xs.length + 1
  | [] => rfl
  | x :: xs => by
    unfold insS
    split
    · rfl
    · rw [List.length_cons, insS_len s xs, List.length_cons]
theorem putL_len (s : ByteArray) (xs : List ByteArray) : (putL s xs).length ≤ xs.length + 1 := by
  unfold putL
  split
  · omega
  · rw [insS_len]; omega
theorem insS_mem (s t : ByteArray) : ∀ xs : List ByteArray, t ∈ insS s xs ↔ t = s ∨ t ∈ xs
  | [] => by simp [insS]
  | x :: xs => by
    unfold insS
    split
    · simp
    · rw [List.mem_cons, insS_mem s t xs, List.mem_cons]
      constructor
      · rintro (h | h | h)
        · exact .inr (.inl h)
        · exact .inl h
        · exact .inr (.inr h)
      · rintro (h | h | h)
        · exact .inr (.inl h)
        · exact .inl h
        · exact .inr (.inr h)
theorem putL_mem (s t : ByteArray) (xs : List ByteArray) : t ∈ putL s xs ↔ t = s ∨ t ∈ xs := by
  unfold putL
  split
  · rename_i h
    have := inB_iff.1 h
    constructor
    · exact .inr
    · rintro (rfl | h)
      · exact this
      · exact h
  · exact insS_mem s t xs
theorem less_iff (a b : ByteArray) : Op.bytesLess a.toList b.toList = true ↔ a.data.toList < b.data.toList := by
  rw [bytesLess_eq, Lib.toList_data, Lib.toList_data, decide_eq_true_iff]
theorem insS_rise (s : ByteArray) : ∀ xs : List ByteArray, Rise xs → s ∉ xs → Rise (insS s xs)
  | [], _, _ => List.pairwise_singleton _ _
  | x :: xs, h, hn => by
    obtain ⟨h1, h2⟩ := List.pairwise_cons.1 h
    unfold insS
    split
    · rename_i hl
      have hl := (less_iff _ _).1 hl
      refine List.pairwise_cons.2 ⟨fun y hy => ?_, h⟩
      rcases List.mem_cons.1 hy with rfl | hy
      · exact hl
      · exact List.lt_trans hl (h1 y hy)
    · rename_i hl
      have hl : ¬ s.data.toList < x.data.toList := fun e => hl ((less_iff _ _).2 e)
      have hxs : x.data.toList < s.data.toList := by
        refine Classical.byContradiction fun e => hn ?_
        have e1 := List.le_antisymm (List.not_lt.1 hl) (List.not_lt.1 e)
        have : x = s := ByteArray.ext (Array.toList_inj.1 e1)
        rw [this]; exact List.mem_cons_self
      refine List.pairwise_cons.2 ⟨fun y hy => ?_, insS_rise s xs h2 fun e => hn (List.mem_cons_of_mem _ e)⟩
      rcases (insS_mem s y xs).1 hy with rfl | hy
      · exact hxs
      · exact h1 y hy
theorem putL_rise (s : ByteArray) (xs : List ByteArray) (h : Rise xs) : Rise (putL s xs) := by
  unfold putL
  split
  · exact h
  · rename_i hn
    exact insS_rise s xs h fun e => hn (inB_iff.2 e)
/-- Between two rounds of Put. -/
def PI (s : ByteArray) (xs : List ByteArray) (k : Nat) (b : Bool) (out : List ByteArray) : Prop :=
  (b = false → out = xs.take k ∧ insS s xs = xs.take k ++ insS s (xs.drop k)) ∧ (b = true → out ++ xs.drop k = insS s xs) ∧ out.length ≤ k + 1
theorem PI.start (s : ByteArray) (xs : List ByteArray) : PI s xs 0 false [] := ⟨fun _ => ⟨rfl, rfl⟩, fun h => absurd h (by decide), Nat.zero_le _⟩
section
variable {s x : ByteArray} {xs out : List ByteArray} {k : Nat} {b : Bool}
theorem drop_at (hx : xs[k]? = some x) : xs.drop k = x :: xs.drop (k + 1) := by
  obtain ⟨hk, e⟩ := List.getElem?_eq_some_iff.1 hx
  rw [List.drop_eq_getElem_cons hk, e]
theorem take_at (hx : xs[k]? = some x) : xs.take (k + 1) = xs.take k ++ [x] := by
  obtain ⟨hk, e⟩ := List.getElem?_eq_some_iff.1 hx
  rw [List.take_succ_eq_append_getElem hk, e]
theorem PI.skip (h : PI s xs k false out) (hx : xs[k]? = some x) (hl : Op.bytesLess s.toList x.toList = false) : PI s xs (k + 1) false (out ++ [x]) := by
  obtain ⟨h1, -, h3⟩ := h
  obtain ⟨rfl, h2⟩ := h1 rfl
  refine ⟨fun _ => ⟨(take_at hx).symm, ?_⟩, fun h => absurd h (by decide), by rw [List.length_append]; simp at h3 ⊢; omega⟩
  rw [h2, drop_at hx, insS, if_neg (by rw [hl]; decide), take_at hx, List.append_assoc]
  rfl
theorem PI.ins (h : PI s xs k false out) (hx : xs[k]? = some x) (hl : Op.bytesLess s.toList x.toList = true) : PI s xs (k + 1) true ((out ++ [s]) ++ [x]) := by
  obtain ⟨h1, -, h3⟩ := h
  obtain ⟨rfl, h2⟩ := h1 rfl
  refine ⟨fun h => absurd h (by decide), fun _ => ?_, ?_⟩
  · rw [h2, drop_at hx, insS, if_pos hl]
    simp
  · obtain ⟨hk, -⟩ := List.getElem?_eq_some_iff.1 hx
    simp
    omega
theorem PI.copy (h : PI s xs k true out) (hx : xs[k]? = some x) : PI s xs (k + 1) true (out ++ [x]) := by
  obtain ⟨-, h2, h3⟩ := h
  refine ⟨fun h => absurd h (by decide), fun _ => ?_, by rw [List.length_append]; simp; omega⟩
  rw [← h2 rfl, drop_at hx]
  simp
theorem PI.done (h : PI s xs xs.length b out) : (if b then out else out ++ [s]) = insS s xs := by
  cases b
  · obtain ⟨rfl, h2⟩ := h.1 rfl
    rw [h2, List.drop_length, List.take_length]
    rfl
  · have := h.2.1 rfl
    rw [List.drop_length, List.append_nil] at this
    exact this
end
set_option maxRecDepth 100000 in
set_option maxHeartbeats 8000000 in
theorem rput_any (a : Option Addr) (len cap : Nat) (xs : List ByteArray) (s : ByteArray) (w : World) (hS : StrRow w a len xs) (hs : okS s) (hl : len ≤ 1000000) : Calls Try.prog 21 #[.slice a len cap, .string s] w (RowR (putL s xs) w) := by
  have HH := Lib.hid (rhas_any a len cap xs s w hS)
  have HS := Lib.hid hS
  have hcnt := hS.count
  obtain ⟨i0, hi, hz0, hz1, hz2⟩ := info_parts info9
  by_cases hin : inB s xs = true
  · rw [hin] at HH
    have e : putL s xs = xs := if_pos hin
    rw [e]
    have HC := Lib.hid hcnt
    clear hS hin e hcnt
    go_enter Try.func21, Try.ntmps21
    go_wp2_with (go_at_call 36; refine HH.out.mono ?_; rintro e w1 ⟨rfl, rfl⟩)
    go_ret
    exact ⟨a, cap, by rw [HC.out]; rfl, by rw [HC.out]; exact HS.out, Below.refl _ _⟩
  have hin : inB s xs = false := by simpa using hin
  rw [hin] at HH
  have e : putL s xs = insS s xs := if_neg (by rw [hin]; decide)
  rw [e]
  have HL := Lib.hid (insS_len s xs)
  have HM := Lib.hid (show ∀ y ∈ insS s xs, y.size ≤ 140737488355328 from fun y hy => by
    rcases (insS_mem s y xs).1 hy with rfl | hy
    · exact hs
    · obtain ⟨j, hj, rfl⟩ := List.getElem_of_mem hy
      exact HS.out.each j _ (List.getElem?_eq_getElem hj))
  have HP0 := Lib.hid (PI.start s xs)
  clear hS hin e
  go_enter Try.func21, Try.ntmps21
  go_wp2_with (go_at_call 36; refine HH.out.mono ?_; rintro e w1 ⟨rfl, rfl⟩)
  go_loopw [5, 6, 7] (fun v b i wr => ∃ (k : Nat) (bb : Bool) (out : List ByteArray), k ≤ len ∧ i = .int .i64 k ∧ b = .bool bb ∧ Hid (PI s xs k bb out) ∧ out.length ≤ k + 1 ∧ Hid (wr.ownsRow w.heap.size 9 1 v out.length (out.map Value.string)) ∧ Hid (Below w.heap.size w wr)) (fun _ _ i _ => len - (intOf i).toNat)
  case atStart => exact ⟨0, false, [], by omega, rfl, rfl, HP0, by simp, Lib.hid (World.ownsRow_nil _ _ _ _), Lib.hid (Below.refl _ _)⟩
  case round =>
    obtain ⟨k, bb, out, hk, rfl, rfl, hP, hol, hO, hB⟩ := hrel
    rename World => wr
    have HP := Lib.hid hP.out
    have HO := Lib.hid hO.out
    have HB := Lib.hid hB.out
    clear hP hO hB
    by_cases hlt : k < len
    · obtain ⟨b0, off, rfl, hb, hc⟩ := HS.out.at_ (by omega)
      obtain ⟨x, hx⟩ : ∃ x, xs[k]? = some x := ⟨xs[k]'(by rw [hcnt]; exact hlt), List.getElem?_eq_getElem _⟩
      have hcell : wr.cell? ⟨b0, off + k, none⟩ = some (.string x) := (HB.out.cell (p := ⟨b0, off + k, none⟩) hb).trans (hc k x hx)
      have HX := Lib.hid hx
      have hcw := Lib.hid (And.intro hb (hc k x hx))
      clear hx hc hb
      cases bb
      · cases hr : Op.bytesLess s.toList x.toList
        · have HR := Lib.hid hr
          go_wp2_with (at_builtin; refine wpList_append_own _ rfl _ _ 26 rfl w.heap.size 9 i0 (.string ByteArray.empty) 1 16 Try.underlying26 hi hz0 hz1 hz2 rfl (by decide) _ _ _ rfl (HO.out.alloc _) ⟨_, 0, none⟩ 1 1 [.string x] rfl rfl (cell_one_new _ _ _) (fun u hu => by simp at hu; subst hu; rfl) (by unfold maxLen; omega) (by omega) (by have := HB.out.size; simp; omega) ?_; intro v2 Wv2 hown' hgrow3 hnil3; have HO2 := Lib.hid hown'; have HB2 := Lib.hid ((HB.out.alloc HB.out.size _).grown hgrow3 (by have := HB.out.size; simp; omega) (own_base HO.out)); clear hown' hgrow3 hnil3)
          go_roundw
          case rel => exact ⟨k + 1, false, out ++ [x], by omega, by go_num, rfl, Lib.hid (HP.out.skip HX.out HR.out), by rw [List.length_append]; simp; omega, by rw [List.length_append, List.map_append]; exact HO2, HB2⟩
          case measure => simp [intOf]; omega
        · have HR := Lib.hid hr
          go_upto_region 10 with (at_builtin; refine wpList_append_own _ rfl _ _ 26 rfl w.heap.size 9 i0 (.string ByteArray.empty) 1 16 Try.underlying26 hi hz0 hz1 hz2 rfl (by decide) _ _ _ rfl (HO.out.alloc _) ⟨_, 0, none⟩ 1 1 [.string s] rfl rfl (cell_one_new _ _ _) (fun u hu => by simp at hu; subst hu; rfl) (by unfold maxLen; omega) (by omega) (by have := HB.out.size; simp; omega) ?_; intro v2 Wv2 hown' hgrow3 hnil3; have HO2 := Lib.hid hown'; have HB2 := Lib.hid ((HB.out.alloc HB.out.size _).grown hgrow3 (by have := HB.out.size; simp; omega) (own_base HO.out)); clear hown' hgrow3 hnil3)
          have hcell2 : Wv2.cell? ⟨b0, off + k, none⟩ = some (.string x) := (HB2.out.cell (p := ⟨b0, off + k, none⟩) hcw.out.1).trans hcw.out.2
          clear hcell
          go_wp2_with (at_builtin; refine wpList_append_own _ rfl _ _ 26 rfl w.heap.size 9 i0 (.string ByteArray.empty) 1 16 Try.underlying26 hi hz0 hz1 hz2 rfl (by decide) _ _ _ rfl (HO2.out.alloc _) ⟨_, 0, none⟩ 1 1 [.string x] rfl rfl (cell_one_new _ _ _) (fun u hu => by simp at hu; subst hu; rfl) (by unfold maxLen; omega) (by omega) (by have := HB2.out.size; simp; omega) ?_; intro v3 Wv3 hown' hgrow3 hnil3; have HO3 := Lib.hid hown'; have HB3 := Lib.hid ((HB2.out.alloc HB2.out.size _).grown hgrow3 (by have := HB2.out.size; simp; omega) (own_base HO2.out)); clear hown' hgrow3 hnil3)
          go_roundw
          case rel => exact ⟨k + 1, true, (out ++ [s]) ++ [x], by omega, by go_num, rfl, Lib.hid (HP.out.ins HX.out HR.out), (HP.out.ins HX.out HR.out).2.2, by rw [List.length_append, List.map_append, List.length_append, List.map_append]; exact HO3, HB3⟩
          case measure => simp [intOf]; omega
      · go_wp2_with (at_builtin; refine wpList_append_own _ rfl _ _ 26 rfl w.heap.size 9 i0 (.string ByteArray.empty) 1 16 Try.underlying26 hi hz0 hz1 hz2 rfl (by decide) _ _ _ rfl (HO.out.alloc _) ⟨_, 0, none⟩ 1 1 [.string x] rfl rfl (cell_one_new _ _ _) (fun u hu => by simp at hu; subst hu; rfl) (by unfold maxLen; omega) (by omega) (by have := HB.out.size; simp; omega) ?_; intro v2 Wv2 hown' hgrow3 hnil3; have HO2 := Lib.hid hown'; have HB2 := Lib.hid ((HB.out.alloc HB.out.size _).grown hgrow3 (by have := HB.out.size; simp; omega) (own_base HO.out)); clear hown' hgrow3 hnil3)
        go_roundw
        case rel => exact ⟨k + 1, true, out ++ [x], by omega, by go_num, rfl, Lib.hid (HP.out.copy HX.out), by rw [List.length_append]; simp; omega, by rw [List.length_append, List.map_append]; exact HO2, HB2⟩
        case measure => simp [intOf]; omega
    · have hki : ¬ (k : Int) < (len : Int) := by omega
      obtain rfl : k = len := by omega
      have HD := Lib.hid (PI.done (by rw [hcnt]; exact HP.out))
      cases bb
      · go_wp2_with (at_builtin; refine wpList_append_own _ rfl _ _ 26 rfl w.heap.size 9 i0 (.string ByteArray.empty) 1 16 Try.underlying26 hi hz0 hz1 hz2 rfl (by decide) _ _ _ rfl (HO.out.alloc _) ⟨_, 0, none⟩ 1 1 [.string s] rfl rfl (cell_one_new _ _ _) (fun u hu => by simp at hu; subst hu; rfl) (by unfold maxLen; omega) (by omega) (by have := HB.out.size; simp; omega) ?_; intro v2 Wv2 hown' hgrow3 hnil3; have HO2 := Lib.hid hown'; have HB2 := Lib.hid ((HB.out.alloc HB.out.size _).grown hgrow3 (by have := HB.out.size; simp; omega) (own_base HO.out)); clear hown' hgrow3 hnil3)
        go_ret
        have hd : out ++ [s] = insS s xs := HD.out
        refine row_of ⟨_, rfl, ?_, HB2.out⟩ (by rw [HL.out]; omega) HM.out
        rw [← hd, List.length_append, List.map_append]
        exact HO2.out
      · go_wp2
        go_ret
        have hd : out = insS s xs := HD.out
        refine row_of ⟨_, rfl, ?_, HB.out⟩ (by rw [HL.out]; omega) HM.out
        rw [← hd]
        exact HO.out
end Go.Proofs.Ytngnegnofmpgkaa.Gr
/- WALKS of the reference's To, Points. -/
namespace Go.Proofs.Ytngnegnofmpgkaa.Gr
open Go.RowKit Go.Maps Go.Sort
open Go.Proofs.Ytngnegnofmpgkaa.Nm (StrRow)
abbrev Ln2 := ByteArray × ByteArray
/-- A slice of lines in memory. -/
structure LineRow (w : World) (a : Option Addr) (len : Nat) (ls : List Ln2) : Prop where
  count : ls.length = len
  max : len ≤ 140737488355328
  each : ∀ (i : Nat) (x : Ln2), ls[i]? = some x → okS x.1 ∧ okS x.2
  at_ : 0 < len → ∃ b off, a = some ⟨b, off, none⟩ ∧ b < w.heap.size ∧ ∀ (i : Nat) (x : Ln2), ls[i]? = some x → w.cell? ⟨b, off + i * 2, none⟩ = some (.string x.1) ∧ w.cell? ⟨b, off + i * 2 + 1, none⟩ = some (.string x.2)
theorem LineRow.below {w w' : World} {a : Option Addr} {len : Nat} {ls : List Ln2} (h : LineRow w a len ls) (hb : Below w.heap.size w w') : LineRow w' a len ls := by
  obtain ⟨h1, h2, h3, h4⟩ := h
  refine ⟨h1, h2, h3, fun h0 => ?_⟩
  obtain ⟨b, off, e, hlt, hc⟩ := h4 h0
  exact ⟨b, off, e, Nat.lt_of_lt_of_le hlt hb.size, fun i x hx => ⟨by rw [hb.cell (p := ⟨b, off + i * 2, none⟩) hlt]; exact (hc i x hx).1, by rw [hb.cell (p := ⟨b, off + i * 2 + 1, none⟩) hlt]; exact (hc i x hx).2⟩⟩
def to1 (k : ByteArray) (acc : List ByteArray) (l : Ln2) : List ByteArray := if l.1 = k then putL l.2 acc else acc
def toL (ls : List Ln2) (k : ByteArray) : List ByteArray := ls.foldl (to1 k) []
def pt1 (acc : List ByteArray) (l : Ln2) : List ByteArray := putL l.2 (putL l.1 acc)
def ptsL (xs : List ByteArray) (ls : List Ln2) : List ByteArray := ls.foldl pt1 (xs.foldl (fun acc x => putL x acc) [])
theorem fold_at {α β : Type} (f : β → α → β) (b : β) {l : List α} {k : Nat} {x : α} (h : l[k]? = some x) : (l.take (k + 1)).foldl f b = f ((l.take k).foldl f b) x := by
  obtain ⟨hk, e⟩ := List.getElem?_eq_some_iff.1 h
  rw [List.take_succ_eq_append_getElem hk, List.foldl_append, e]
  rfl
theorem to_len (k : ByteArray) (ls : List Ln2) : ∀ acc : List ByteArray, (ls.foldl (to1 k) acc).length ≤ acc.length + ls.length := by
  induction ls with
  | nil => intro acc; simp
  | cons l ls ih =>
    intro acc
    rw [List.foldl_cons]
    have h1 := ih (to1 k acc l)
    have h2 : (to1 k acc l).length ≤ acc.length + 1 := by
      unfold to1
      split
      · exact putL_len _ _
      · omega
    rw [List.length_cons]
    omega
theorem to_rise (k : ByteArray) (ls : List Ln2) : ∀ acc : List ByteArray, Rise acc → Rise (ls.foldl (to1 k) acc) := by
  induction ls with
  | nil => exact fun acc h => h
  | cons l ls ih =>
    intro acc h
    rw [List.foldl_cons]
    refine ih _ ?_
    unfold to1
    split
    · exact putL_rise _ _ h
    · exact h
theorem to_mem (k t : ByteArray) (ls : List Ln2) : ∀ acc : List ByteArray, t ∈ ls.foldl (to1 k) acc ↔ t ∈ acc ∨ (k, t) ∈ ls := by
  induction ls with
  | nil => intro acc; simp
  | cons l ls ih =>
    intro acc
    rw [List.foldl_cons, ih, List.mem_cons]
    unfold to1
    obtain ⟨x, y⟩ := l
    by_cases e : x = k
    · subst e
      rw [if_pos rfl, putL_mem, Prod.mk.injEq]
      constructor
      · rintro ((h | h) | h)
        · exact .inr (.inl ⟨rfl, h⟩)
        · exact .inl h
        · exact .inr (.inr h)
      · rintro (h | ⟨-, h⟩ | h)
        · exact .inl (.inr h)
        · exact .inl (.inl h)
        · exact .inr h
    · rw [if_neg e, Prod.mk.injEq]
      constructor
      · rintro (h | h)
        · exact .inl h
        · exact .inr (.inr h)
      · rintro (h | ⟨h, -⟩ | h)
        · exact .inl h
        · exact absurd h.symm e
        · exact .inr h
def inL (ls : List Ln2) (k t : ByteArray) : Bool := ls.any fun l => decide (l.1 = k) && decide (l.2 = t)
theorem inL_iff {ls : List Ln2} {k t : ByteArray} : inL ls k t = true ↔ (k, t) ∈ ls := by
  unfold inL
  rw [List.any_eq_true]
  constructor
  · rintro ⟨⟨x, y⟩, hx, e⟩
    simp only [Bool.and_eq_true, decide_eq_true_eq] at e
    rw [← e.1, ← e.2]
    exact hx
  · intro h
    exact ⟨_, h, by simp⟩
theorem toL_set {ls : List Ln2} {k : ByteArray} (h : ∀ l ∈ ls, okS l.1 ∧ okS l.2) : SetL (inL ls k) (toL ls k) := by
  refine ⟨to_rise k ls [] List.Pairwise.nil, fun s => ?_⟩
  unfold toL
  rw [to_mem, inL_iff]
  simp only [List.not_mem_nil, false_or]
  exact ⟨fun e => ⟨(h _ e).2, e⟩, fun e => e.2⟩
theorem strs_fold_len (xs : List ByteArray) : ∀ acc : List ByteArray, (xs.foldl (fun acc x => putL x acc) acc).length ≤ acc.length + xs.length := by
  induction xs with
  | nil => intro acc; simp
  | cons l ls ih =>
    intro acc
    rw [List.foldl_cons]
    have h1 := ih (putL l acc)
    have h2 := putL_len l acc
    rw [List.length_cons]
    omega
theorem strs_fold (t : ByteArray) (xs : List ByteArray) : ∀ acc : List ByteArray, Rise acc → Rise (xs.foldl (fun acc x => putL x acc) acc) ∧ (t ∈ xs.foldl (fun acc x => putL x acc) acc ↔ t ∈ acc ∨ t ∈ xs) := by
  induction xs with
  | nil => intro acc h; exact ⟨h, by simp⟩
  | cons l ls ih =>
    intro acc h
    rw [List.foldl_cons]
    obtain ⟨h1, h2⟩ := ih _ (putL_rise l acc h)
    refine ⟨h1, ?_⟩
    rw [h2, putL_mem, List.mem_cons]
    constructor
    · rintro ((h | h) | h)
      · exact .inr (.inl h)
      · exact .inl h
      · exact .inr (.inr h)
    · rintro (h | h | h)
      · exact .inl (.inr h)
      · exact .inl (.inl h)
      · exact .inr h
theorem pts_fold_len (ls : List Ln2) : ∀ acc : List ByteArray, (ls.foldl pt1 acc).length ≤ acc.length + 2 * ls.length := by
  induction ls with
  | nil => intro acc; simp
  | cons l ls ih =>
    intro acc
    rw [List.foldl_cons]
    have h1 := ih (pt1 acc l)
    have h2 : (pt1 acc l).length ≤ acc.length + 2 := by
      unfold pt1
      have := putL_len l.2 (putL l.1 acc); have := putL_len l.1 acc
      omega
    rw [List.length_cons]
    omega
theorem pts_fold (t : ByteArray) (ls : List Ln2) : ∀ acc : List ByteArray, Rise acc → Rise (ls.foldl pt1 acc) ∧ (t ∈ ls.foldl pt1 acc ↔ t ∈ acc ∨ ∃ l ∈ ls, t = l.1 ∨ t = l.2) := by
  induction ls with
  | nil => intro acc h; exact ⟨h, by simp⟩
  | cons l ls ih =>
    intro acc h
    rw [List.foldl_cons]
    obtain ⟨h1, h2⟩ := ih (pt1 acc l) (putL_rise _ _ (putL_rise _ _ h))
    refine ⟨h1, ?_⟩
    rw [h2]
    unfold pt1
    rw [putL_mem, putL_mem]
    constructor
    · rintro ((h | h | h) | ⟨x, hx, h⟩)
      · exact .inr ⟨l, List.mem_cons_self, .inr h⟩
      · exact .inr ⟨l, List.mem_cons_self, .inl h⟩
      · exact .inl h
      · exact .inr ⟨x, List.mem_cons_of_mem _ hx, h⟩
    · rintro (h | ⟨x, hx, h⟩)
      · exact .inl (.inr (.inr h))
      · rcases List.mem_cons.1 hx with rfl | hx
        · rcases h with h | h
          · exact .inl (.inr (.inl h))
          · exact .inl (.inl h)
        · exact .inr ⟨x, hx, h⟩
end Go.Proofs.Ytngnegnofmpgkaa.Gr
/- WALK of the reference's Points. -/
namespace Go.Proofs.Ytngnegnofmpgkaa.Gr
open Go.RowKit Go.Maps Go.Sort
open Go.Proofs.Ytngnegnofmpgkaa.Nm (StrRow)
abbrev sf (xs : List ByteArray) : List ByteArray := xs.foldl (fun acc x => putL x acc) []
set_option maxRecDepth 100000 in
set_option maxHeartbeats 16000000 in
theorem rpoints_any (a : Option Addr) (len cap : Nat) (xs : List ByteArray) (a2 : Option Addr) (len2 cap2 : Nat) (ls : List Ln2) (w : World) (hX : StrRow w a len xs) (hS : LineRow w a2 len2 ls) (hl : len ≤ 300000) (hl2 : len2 ≤ 300000) : Calls Try.prog 76 #[.slice a len cap, .slice a2 len2 cap2] w (RowR (ptsL xs ls) w) := by
  have HX := Lib.hid hX
  have HS := Lib.hid hS
  have hcx := hX.count
  have hcl := hS.count
  have HN := Lib.hid (show StrRow w none 0 [] from ⟨rfl, by omega, fun i x h => by simp at h, fun h => absurd h (by omega)⟩)
  clear hX hS
  go_enter Try.func76, Try.ntmps76
  go_upto_region 3 with fail
  go_loopw [5, 6] (fun v i wr => ∃ (k : Nat) (b : Option Addr) (cp : Nat), k ≤ len ∧ i = .int .i64 k ∧ v = .slice b ((sf (xs.take k)).length) cp ∧ Hid (StrRow wr b (sf (xs.take k)).length (sf (xs.take k))) ∧ Hid (Below w.heap.size w wr)) (fun _ i _ => len - (intOf i).toNat)
  case atStart => exact ⟨0, none, 0, by omega, rfl, rfl, HN, Lib.hid (Below.refl _ _)⟩
  case round =>
    obtain ⟨k, b, cp, hk, rfl, rfl, hO, hB⟩ := hrel
    rename World => wr
    have HO := Lib.hid hO.out
    have HB := Lib.hid hB.out
    clear hO hB
    by_cases hlt : k < len
    · obtain ⟨b0, off, rfl, hb, hc⟩ := HX.out.at_ (by omega)
      obtain ⟨x, hx⟩ : ∃ x, xs[k]? = some x := ⟨xs[k]'(by rw [hcx]; exact hlt), List.getElem?_eq_getElem _⟩
      have hc1 : wr.cell? ⟨b0, off + k, none⟩ = some (.string x) := (HB.out.cell (p := ⟨b0, off + k, none⟩) hb).trans (hc k _ hx)
      have HE := Lib.hid (show sf (xs.take (k + 1)) = putL x (sf (xs.take k)) from fold_at (fun acc x => putL x acc) [] hx)
      have hll : (sf (xs.take k)).length ≤ 0 + (xs.take k).length := strs_fold_len (xs.take k) []
      have hxk := HX.out.each k _ hx
      rw [List.length_take] at hll
      clear hx hc hb
      have HP := Lib.hid (rput_any b (sf (xs.take k)).length cp _ x wr HO.out hxk (by omega))
      go_wp2_with (go_at_call 21; refine HP.out.mono ?_; rintro e w2 ⟨b2, cp2, rfl, hS2, hB2⟩; have HS2 := Lib.hid hS2; have HB2 := Lib.hid (HB.out.trans (hB2.mono HB.out.size)); clear hS2 hB2)
      go_roundw
      case rel => exact ⟨k + 1, b2, cp2, by omega, by go_num, by rw [HE.out], by rw [HE.out]; exact HS2, HB2⟩
      case measure => simp [intOf]; omega
    · have hki : ¬ (k : Int) < (len : Int) := by omega
      obtain rfl : k = len := by omega
      have HE := Lib.hid (show sf (xs.take k) = sf xs by rw [List.take_of_length_le (by omega)])
      have HL := Lib.hid (show (sf xs).length ≤ k by have := strs_fold_len xs []; simp only [List.length_nil, Nat.zero_add] at this; rw [hcx] at this; exact this)
      rw [HE.out] at HO ⊢
      go_upto_region 7 with fail
      go_loopw [5, 7] (fun v i wr => ∃ (k : Nat) (b : Option Addr) (cp : Nat), k ≤ len2 ∧ i = .int .i64 k ∧ v = .slice b ((ls.take k).foldl pt1 (sf xs)).length cp ∧ Hid (StrRow wr b ((ls.take k).foldl pt1 (sf xs)).length ((ls.take k).foldl pt1 (sf xs))) ∧ Hid (Below w.heap.size w wr)) (fun _ i _ => len2 - (intOf i).toNat)
      case atStart => exact ⟨0, b, cp, by omega, rfl, rfl, HO, HB⟩
      case round =>
        clear HO HB
        obtain ⟨k2, b, cp, hk2, rfl, rfl, hO, hB⟩ := hrel
        rename World => wr
        have HO := Lib.hid hO.out
        have HB := Lib.hid hB.out
        clear hO hB
        by_cases hlt : k2 < len2
        · obtain ⟨b0, off, rfl, hb, hc⟩ := HS.out.at_ (by omega)
          obtain ⟨⟨x, y⟩, hx⟩ : ∃ x, ls[k2]? = some x := ⟨ls[k2]'(by rw [hcl]; exact hlt), List.getElem?_eq_getElem _⟩
          have hc1 : wr.cell? ⟨b0, off + k2 * 2, none⟩ = some (.string x) := (HB.out.cell (p := ⟨b0, off + k2 * 2, none⟩) hb).trans (hc k2 _ hx).1
          have hc2 : wr.cell? ⟨b0, off + k2 * 2 + 1, none⟩ = some (.string y) := (HB.out.cell (p := ⟨b0, off + k2 * 2 + 1, none⟩) hb).trans (hc k2 _ hx).2
          have HE := Lib.hid (show (ls.take (k2 + 1)).foldl pt1 (sf xs) = putL y (putL x ((ls.take k2).foldl pt1 (sf xs))) from fold_at pt1 (sf xs) hx)
          have hll := pts_fold_len (ls.take k2) (sf xs)
          obtain ⟨hxk, hyk⟩ := HS.out.each k2 _ hx
          have hbw : b0 < wr.heap.size := Nat.lt_of_lt_of_le hb HB.out.size
          rw [List.length_take] at hll
          have hll2 := HL.out
          clear hx hc hb
          obtain ⟨acc, hacc⟩ : ∃ acc, (ls.take k2).foldl pt1 (sf xs) = acc := ⟨_, rfl⟩
          rw [hacc] at HO HE hll ⊢
          have hpl := putL_len x acc
          have hal : acc.length ≤ 900000 := by omega
          have HP1 := Lib.hid (fun (W : World) (hW : Below wr.heap.size wr W) => rput_any b acc.length cp acc x W (HO.out.below hW) hxk (by omega))
          clear hacc
          have hyk : okS y := hyk
          have hxk : okS x := hxk
          go_upto_region 9 with fail
          go_region_held3 (fun w' => ∀ bb o, bb < wr.heap.size → w'.cell? ⟨bb, o, none⟩ = wr.cell? ⟨bb, o, none⟩)
            (exact fun bb o h => (show RowKit.Below wr.heap.size wr _ from by first
              | exact (Below.refl _ _).drew
              | exact KW2.out
              | exact KW1.out).cell (p := ⟨bb, o, none⟩) h)
            (first
              | (go_at_call 21; (with_reducible refine (HP1.out _ (Below.refl _ _).drew).mono ?_); rintro en w2 ⟨b2, cp2, rfl, hS2, hB2⟩; have KW1 := Lib.hid (show RowKit.Below wr.heap.size wr w2 from below_step ((Below.refl _ _).drew) hB2); have HP2 := Lib.hid (rput_any b2 (putL x acc).length cp2 _ y w2 hS2 hyk (by omega)); clear hS2 hB2)
              | (go_at_call 21; (with_reducible refine HP2.out.mono ?_); rintro en w3 ⟨b3, cp3, rfl, hS3, hB3⟩; have KW2 := Lib.hid (show RowKit.Below wr.heap.size wr w3 from below_step KW1.out hB3); have HS3 := Lib.hid hS3; clear hS3 hB3))
          go_wp2_with fail
          go_roundw
          case rel => exact ⟨k2 + 1, b3, cp3, by omega, by go_num, by rw [HE.out], by rw [HE.out]; exact HS3, Lib.hid (HB.out.trans (KW2.out.mono HB.out.size))⟩
          case measure => simp [intOf]; omega
        · have hki : ¬ (k2 : Int) < (len2 : Int) := by omega
          obtain rfl : k2 = len2 := by omega
          have HE := Lib.hid (show ls.take k2 = ls from List.take_of_length_le (by omega))
          go_wp2
          go_ret
          have hE : (ls.take k2).foldl pt1 (sf xs) = ptsL xs ls := by rw [HE.out]; rfl
          refine ⟨b, cp, by rw [← hE]; rfl, ?_, HB.out⟩
          rw [← hE]
          exact HO.out
end Go.Proofs.Ytngnegnofmpgkaa.Gr
