/- WALKS of slices.Grow, slices.Concat. -/
import Derived.Test.YtddleeenlpigfaaGreatDoorChecked
import Derived.WalkKit
import Derived.WalkSpells
import Derived.WalkLawsBesides
import Derived.Lib.Hide
import Derived.Laws.Rows
import Derived.Laws.CopyOwn
import Derived.RegionTactic
import Derived.BigRegion
import Derived.Test.YtddleeenlpigfaaGreatDoorVa
import Derived.Lib.AppendZeros
import Derived.OwnWalk
import Derived.Laws.AppendOwnNone
import Derived.Laws.OwnMore
import Derived.Outline
namespace Go.Proofs.YtddleeenlpigfaaGreatDoor.Vn
open Go.RowKit
theorem ret_int {k : IntKind} {a b : Int} (h : a = b) : Ending.returned (.int k a) = .returned (.int k b) := by rw [h]
theorem ret_bool {a b : Bool} (h : a = b) : Ending.returned (.bool a) = .returned (.bool b) := by rw [h]
theorem ret_str {a b : ByteArray} (h : a = b) : Ending.returned (.string a) = .returned (.string b) := by rw [h]
theorem Tryz.info5 : (Tryz.prog.info? 5).map (fun i => (i.zero, i.size, i.bytes)) = some (some (.int .u8 0), 1, 1) := by kernel_rfl
set_option maxHeartbeats 1000000 in
theorem grow_pos (n : Nat) (w : World) (h0 : 0 < n) (h : n ≤ 140737488355328) : Calls Tryz.prog 162 #[.slice none 0 0, .int .i64 n] w fun e w' => ∃ v, e = .returned v ∧ w'.ownsRow w.heap.size 5 1 v 0 [] ∧ Below w.heap.size w w' := by
  obtain ⟨i0, hi, hx⟩ := Option.map_eq_some_iff.1 Tryz.info5
  simp only [Prod.mk.injEq] at hx
  obtain ⟨hz0, hz1, hz2⟩ := hx
  have hrun := fun ty => Lib.run_append_nil_zeros (P := Tryz.prog) w 74 3 ty 5 i0 (.int .u8 0) .i64 .i64 Tryz.underlying74 Tryz.underlying3 hi hz0 n h0 (by omega) (by omega) (by rw [hz2]; omega)
  have hcap := grownCap_le_maxLen w n 0 5 (by unfold maxLen; omega)
  have hge := grownCap_ge w n 0 5
  generalize grownCap w n 0 5 = G at *
  have hS : (Builtin.zeroCells (Value.int .u8 0).cells n ++ Builtin.zeroCells (Value.int .u8 0).cells (G - n)).size = G * 1 := by
    rw [Array.size_append, size_zeroCells, size_zeroCells]
    show n * 1 + (G - n) * 1 = G * 1
    omega
  generalize Builtin.zeroCells (Value.int .u8 0).cells n ++ Builtin.zeroCells (Value.int .u8 0).cells (G - n) = C at *
  have HS := Lib.hid hS
  have HC := Lib.hid hcap
  unfold maxLen at hcap
  clear hS hz0 hz1 hz2 hi
  go_enter Tryz.func162, Tryz.ntmps162
  go_wp2_with (at_builtin; refine Lib.wpList_append_run _ rfl _ _ _ _ rfl _ _ rfl rfl _ _ (hrun _) ?_)
  go_ret
  exact ⟨_, rfl, ⟨rfl, .inr ⟨w.heap.size, G, C, rfl, Nat.le_refl _, heap_alloc_new w _, Nat.zero_le _, HC.out, HS.out, by simp⟩⟩, ((Below.refl _ w).alloc (Nat.le_refl _) _).drew⟩
/-- A slice of bytes: which bytes it has, where they stand. -/
def SRow (w : World) (a : Option Addr) (L : List UInt8) : Prop :=
  (a = none ∧ L = []) ∨ ∃ ad, a = some ad ∧ (L ≠ [] → ad.block < w.heap.size) ∧ ∀ j (h : j < L.length), w.cell? (ad.add j) = some (.int .u8 (L[j].toNat : Int))
theorem block_add (a : Addr) (n : Nat) : (a.add n).block = a.block := by unfold Addr.add; split <;> rfl
theorem SRow.below {w w' : World} {a : Option Addr} {L : List UInt8} (h : SRow w a L) (hb : Below w.heap.size w w') : SRow w' a L := by
  rcases h with h | ⟨ad, rfl, h1, h2⟩
  · exact .inl h
  · refine .inr ⟨ad, rfl, fun e => Nat.lt_of_lt_of_le (h1 e) hb.size, fun j hj => ?_⟩
    have : L ≠ [] := fun e => by subst e; simp at hj
    rw [hb.cell (by rw [block_add]; exact h1 this)]
    exact h2 j hj
/-- One of the slices that are put together: where it stands, its capacity, its bytes. -/
abbrev Seg := Option Addr × Nat × List UInt8
def tot (segs : List Seg) : List UInt8 := (segs.map (·.2.2)).flatten
structure Segs (w : World) (b off : Nat) (segs : List Seg) : Prop where
  lt : b < w.heap.size
  at_ : ∀ (i : Nat) (s : Seg), segs[i]? = some s → w.cell? ⟨b, off + i, none⟩ = some (.slice s.1 s.2.2.length s.2.1) ∧ SRow w s.1 s.2.2 ∧ (s.1 = none → s.2.1 = 0)
theorem Segs.below {w w' : World} {b off : Nat} {segs : List Seg} (h : Segs w b off segs) (hb : Below w.heap.size w w') : Segs w' b off segs :=
  ⟨Nat.lt_of_lt_of_le h.lt hb.size, fun i s hs => ⟨by rw [hb.cell (p := ⟨b, off + i, none⟩) h.lt]; exact (h.at_ i s hs).1, (h.at_ i s hs).2.1.below hb, (h.at_ i s hs).2.2⟩⟩
theorem tot_succ {segs : List Seg} {s : Seg} {k : Nat} (h : segs[k]? = some s) : tot (segs.take (k + 1)) = tot (segs.take k) ++ s.2.2 := by
  obtain ⟨hl, e⟩ := List.getElem?_eq_some_iff.1 h
  rw [List.take_succ_eq_append_getElem hl, e]; simp [tot]
theorem tot_le (segs : List Seg) (k : Nat) : (tot (segs.take k)).length ≤ (tot segs).length := by
  conv => rhs; rw [← List.take_append_drop k segs]
  simp only [tot, List.map_append, List.flatten_append, List.length_append]
  omega
def u8s (L : List UInt8) : List Value := L.map fun c => Value.int .u8 (c.toNat : Int)
theorem own_base {w : World} {base e size n : Nat} {v : Value} {xs : List Value} (h : w.ownsRow base e size v n xs) : ∀ k, v.ownBlock = some k → base ≤ k := by
  intro k hk
  rcases h.2 with ⟨rfl, _⟩ | ⟨g, cap, cur, rfl, hb, _⟩
  · simp [Value.ownBlock] at hk
  · simp [Value.ownBlock] at hk; omega
theorem row_own {w : World} {base n : Nat} {v : Value} {L : List UInt8} (h : w.ownsRow base 5 1 v n (u8s L)) : ∃ a cap, v = .slice a L.length cap ∧ SRow w a L := by
  have hl := h.1
  rw [u8s, List.length_map, Nat.mul_one] at hl
  rcases h.2 with ⟨rfl, hn0⟩ | ⟨g, cap, cur, rfl, hb, hg, hcap, hm, hsz, htake⟩
  · rw [hl, hn0]
    exact ⟨none, 0, rfl, .inl ⟨rfl, List.eq_nil_of_length_eq_zero (by omega)⟩⟩
  · rw [← hl]
    refine ⟨_, cap, rfl, .inr ⟨_, rfl, fun _ => (Array.getElem?_eq_some_iff.1 hg).1, fun j hj => ?_⟩⟩
    have h1 : (u8s L)[j]? = some (.int .u8 (L[j].toNat : Int)) := by simp [u8s, List.getElem?_eq_getElem hj]
    rw [← htake, Nat.mul_one, List.getElem?_take_of_lt (by omega)] at h1
    have ha : (⟨g, 0, none⟩ : Addr).add j = ⟨g, j, none⟩ := by unfold Addr.add; split <;> simp_all
    rw [ha, cell_of_row _ _ _ _ 5 (0, 0) hg]
    simpa using h1
set_option maxRecDepth 100000 in
set_option maxHeartbeats 2000000 in
theorem concat_any (b off len cap : Nat) (segs : List Seg) (w : World) (hlen : segs.length = len) (hl63 : len ≤ 1000) (hS : Segs w b off segs) (h0 : 0 < (tot segs).length) (h47 : (tot segs).length ≤ 140737488355328) :
    Calls Tryz.prog 128 #[.slice (some ⟨b, off, none⟩) len cap] w fun e w' => ∃ a c, e = .returned (.slice a (tot segs).length c) ∧ SRow w' a (tot segs) ∧ Below w.heap.size w w' := by
  have HS := Lib.hid hS
  have HLen := Lib.hid hlen
  clear hS hlen
  go_enter Tryz.func128, Tryz.ntmps128
  go_wp2
  go_loop [3, 11] (fun z i => ∃ (k n : Nat), k ≤ len ∧ i = .int .i64 k ∧ z = .int .i64 n ∧ n = (tot (segs.take k)).length) (fun _ i => len - (intOf i).toNat)
  case atStart => exact ⟨0, 0, by omega, rfl, rfl, by simp [tot]⟩
  case round =>
    obtain ⟨k, n, hk, rfl, rfl, hn⟩ := hrel
    have hn47 : n ≤ (tot segs).length := by rw [hn]; exact tot_le segs k
    have HN := Lib.hid hn
    clear hn
    by_cases hlt : k < len
    · obtain ⟨⟨a, c, L⟩, hs⟩ : ∃ s, segs[k]? = some s := ⟨segs[k]'(by rw [HLen.out]; exact hlt), List.getElem?_eq_getElem _⟩
      have hcell := (HS.out.at_ k _ hs).1
      have HT := Lib.hid (tot_succ hs)
      have hm47 : n + L.length ≤ (tot segs).length := by
        have := tot_le segs (k + 1)
        rw [tot_succ hs, List.length_append, ← HN.out] at this
        exact this
      clear hs
      generalize hLl : L.length = m at *
      have HL := Lib.hid hLl
      clear hLl
      go_wp2
      go_round
      case rel => exact ⟨k + 1, n + m, by omega, by go_num, by go_num, by rw [HT.out, List.length_append, ← HN.out, ← HL.out]⟩
      case measure => simp [intOf]; omega
    · obtain rfl : k = len := by omega
      have hnt : n = (tot segs).length := by rw [HN.out, List.take_of_length_le (by rw [HLen.out]; exact Nat.le_refl _)]
      have HG := Lib.hid (grow_pos n w (by omega) (by omega))
      have HNT := Lib.hid hnt
      clear hnt
      go_wp2_with (go_at_call 162; refine HG.out.mono ?_; rintro e w1 ⟨v1, rfl, hO, hB⟩; have HO := Lib.hid hO; have HB := Lib.hid hB; clear hO hB)
      obtain ⟨i0, hi, hz0, hz1, hz2⟩ := info_parts Tryz.info5
      have HI := Lib.hid hi
      have HZ0 := Lib.hid hz0
      have HZ1 := Lib.hid hz1
      have HZ2 := Lib.hid hz2
      clear hi hz0 hz1 hz2
      go_loopw [6, 27] (fun v i wr => ∃ (j m : Nat), j ≤ k ∧ i = .int .i64 j ∧ m = (tot (segs.take j)).length ∧ wr.ownsRow w.heap.size 5 1 v m (u8s (tot (segs.take j))) ∧ Below w.heap.size w wr) (fun _ i _ => k - (intOf i).toNat)
      case atStart => exact ⟨0, 0, by omega, rfl, by simp [tot], by simpa [tot, u8s] using HO.out, HB.out⟩
      case round =>
        obtain ⟨j, m, hj, rfl, hm, hown, hBl⟩ := hrel
        rename World => wr
        rename Value => v
        have HM := Lib.hid hm
        have OW := Lib.hid hown
        have BL := Lib.hid hBl
        have hsz := hBl.size
        clear hm hown hBl
        by_cases hlt : j < k
        · obtain ⟨⟨a, c, L⟩, hs⟩ : ∃ s, segs[j]? = some s := ⟨segs[j]'(by rw [HLen.out]; exact hlt), List.getElem?_eq_getElem _⟩
          obtain ⟨hcell, hR, hnil⟩ := (HS.out.below BL.out).at_ j _ hs
          have HT := Lib.hid (tot_succ hs)
          have hm47 : m + L.length ≤ (tot segs).length := by
            have := tot_le segs (j + 1)
            rw [tot_succ hs, List.length_append, ← HM.out] at this
            exact this
          have HR := Lib.hid hR
          clear hs hR
          rcases a with _ | ad
          · obtain rfl : L = [] := by
              rcases HR.out with h | ⟨ad, h, _⟩
              · exact h.2
              · cases h
            obtain rfl : c = 0 := hnil rfl
            clear hnil
            go_wp2_with (at_builtin; refine wpList_append_own_none rfl _ _ 74 rfl w.heap.size 5 i0 1 Tryz.underlying74 HI.out _ _ _ rfl OW.out rfl ?_)
            go_roundw
            case rel => exact ⟨j + 1, m, by omega, by go_num, by rw [HT.out, HM.out]; simp, by rw [HT.out]; simpa using OW.out, BL.out⟩
            case measure => simp [intOf]; omega
          · clear hnil
            have HC : Hid (∀ i u, (u8s L)[i]? = some u → wr.cell? (ad.add i) = some u) := fun i u hu => by
              rcases HR.out with h | ⟨ad2, h, _, h2⟩
              · cases h.1
              · cases h
                obtain ⟨hl, e⟩ := List.getElem?_eq_some_iff.1 hu
                have hl2 : i < L.length := by simpa [u8s] using hl
                rw [h2 i hl2, ← e]; simp [u8s]
            generalize hLl : L.length = q at *
            have HL := Lib.hid hLl
            clear hLl
            go_wp2_with (at_builtin; refine wpList_append_own _ rfl _ _ 74 rfl w.heap.size 5 i0 (.int .u8 0) 1 1 Tryz.underlying74 HI.out HZ0.out HZ1.out HZ2.out rfl (by decide) _ _ _ rfl OW.out ad q c (u8s L) rfl (by simp [u8s, HL.out]) HC.out (fun x hx => by simp [u8s] at hx; obtain ⟨d, _, rfl⟩ := hx; rfl) (by unfold maxLen; omega) (by omega) (by omega) ?_; intro v' w3 hown' hgrow3 hnil3; have OW3 := Lib.hid hown'; have G3 := Lib.hid hgrow3; clear hown' hgrow3 hnil3)
            go_roundw
            case rel => exact ⟨j + 1, m + q, by omega, by go_num, by rw [HT.out, List.length_append, ← HM.out, ← HL.out], by rw [HT.out]; simpa [u8s] using OW3.out, BL.out.grown G3.out (by omega) (own_base OW.out)⟩
            case measure => simp [intOf]; omega
        · obtain rfl : j = k := by omega
          have e1 : tot (segs.take j) = tot segs := by rw [List.take_of_length_le (by rw [HLen.out]; exact Nat.le_refl _)]
          rw [e1] at OW
          obtain ⟨a, c, rfl, hR⟩ := row_own OW.out
          have HR := Lib.hid hR
          clear hR e1
          go_wp2
          go_ret
          exact ⟨a, c, rfl, HR.out, BL.out⟩
end Go.Proofs.YtddleeenlpigfaaGreatDoor.Vn
