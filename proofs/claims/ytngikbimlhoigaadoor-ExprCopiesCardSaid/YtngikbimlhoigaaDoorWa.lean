/- slices.Clone at texts, at pairs and at expressions. -/
import Derived.Test.YtngikbimlhoigaaDoorUa
import Derived.Laws.AppendOwn
import Derived.Lib.SliceRun
import Derived.Lib.Walk
import Derived.WalkSpells
namespace Go.Proofs.YtngikbimlhoigaaDoor
open Go.RowKit
theorem info51 : (Tryd.prog.info? 51).map (fun i => (i.zero, i.size, i.bytes)) = some (some (.agg #[.string ByteArray.empty, .int .i64 0, .int .i64 0, .string ByteArray.empty, .slice none 0 0, .slice none 0 0, .bool false, .slice none 0 0]), 8, 128) := by kernel_rfl
theorem slice_of_owns {w : World} {base E size n : Nat} {v : Value} {xs : List Value} (h : w.ownsRow base E size v n xs) : ∃ (a : Option Addr) (c : Nat), v = .slice a n c := by
  rcases h.2 with ⟨rfl, rfl⟩ | ⟨g, cap, cur, rfl, _⟩
  · exact ⟨_, _, rfl⟩
  · exact ⟨_, _, rfl⟩
/-- A row of a call's own, told cell by cell. -/
theorem row_of_owns {w : World} {base E size n : Nat} {v : Value} {xs : List Value} (h : w.ownsRow base E size v n xs) (hv : v ≠ .slice none 0 0) :
    ∃ (g cap : Nat), v = .slice (some ⟨g, 0, none⟩) n cap ∧ base ≤ g ∧ g < w.heap.size ∧ (∀ o, w.frozen? ⟨g, o, none⟩ = false) ∧ ∀ j, j < xs.length → w.cell? ⟨g, j, none⟩ = xs[j]? := by
  rcases h with ⟨hl, ⟨rfl, rfl⟩ | ⟨g, cap, cur, rfl, hg, hh, hn, hm, hz, hx⟩⟩
  · exact absurd rfl hv
  · refine ⟨g, cap, rfl, hg, ?_, fun o => ?_, fun j hj => ?_⟩
    · exact (Array.getElem?_eq_some_iff.1 hh).1
    · simp [World.frozen?, hh]
    · simp only [World.cell?, hh]
      rw [← hx] at hj ⊢
      simp at hj ⊢
      simp [hj]
/-- What a clone is: new memory, the same cells. -/
def CloneP (size n : Nat) (t : Option Addr) (w : World) (e : Ending) (w' : World) : Prop :=
  ∃ (t' : Option Addr) (c' : Nat), e = .returned (.slice t' n c') ∧ Below w.heap.size w w' ∧ (n = 0 ∨ ∃ g b off, t' = some ⟨g, 0, none⟩ ∧ t = some ⟨b, off, none⟩ ∧ w.heap.size ≤ g ∧ g < w'.heap.size ∧ (∀ o, w'.frozen? ⟨g, o, none⟩ = false) ∧ ∀ j, j < n * size → w'.cell? ⟨g, j, none⟩ = w.cell? ⟨b, off + j, none⟩)

set_option maxHeartbeats 2000000 in
set_option maxRecDepth 100000 in
theorem cloneS_at (ad : Addr) (n c : Nat) (news : List Value) (w : World) (hl : news.length = n * 1) (hn : n ≤ maxLen) (hbig : n * 16 ≤ 140737488355328)
    (hc : ∀ j u, news[j]? = some u → w.cell? (ad.add j) = some u) (h1 : ∀ u ∈ news, u.oneCell' = true) :
    Calls Tryd.prog 40 #[.slice (some ad) n c] w fun e w' => ∃ v', e = .returned v' ∧ w'.ownsRow w.heap.size 9 1 v' n news ∧ v' ≠ .slice none 0 0 ∧ Below w.heap.size w w' := by
  obtain ⟨i0, hi, hz0, hz1, hz2⟩ := info_parts info9
  have A := Lib.hid hc
  clear hc
  have q : ∀ (w : World) (a : Option Addr) (n c n' c' : Nat), (binOp .eql 22 (.slice a n c) (.slice none n' c')).run Tryd.prog w = .ok (.bool a.isNone) w := fun w a n c n' c' => Lib.run_eql_slice_nil w _ _ a n c n' c' Tryd.underlying22
  go_enter Tryd.func40, Tryd.ntmps40
  go_wp2_with (at_builtin; refine wpList_append_own _ rfl _ _ 22 rfl w.heap.size 9 i0 (.string ByteArray.empty) 1 16 Tryd.underlying22 hi hz0 hz1 hz2 rfl (by decide) _ _ _ rfl (World.ownsRow_made w #[] 0 (Nat.le_refl _) (Nat.zero_le _) (by simp)) ad n c news rfl ?qc1 ?qc2 ?qc3 ?qc4 ?qc5 ?qc6 ?_)
  case qc1 => exact hl
  case qc2 =>
    intro j u hj
    exact Lib.cell?_alloc_some _ (A.out j u hj)
  case qc3 => exact h1
  case qc4 => rw [Nat.zero_add]; exact hn
  case qc5 => rw [Nat.zero_add]; exact hbig
  case qc6 => simp
  intro v' w1 hown hgrow hnil
  go_wp2
  go_ret
  refine ⟨v', rfl, by simpa using hown, ?_, ?_⟩
  · simpa using hnil
  · exact ((Below.refl _ w).alloc (Nat.le_refl _) _).grown hgrow (by simp) (by intro k hk; simp [Value.ownBlock] at hk; omega)
set_option maxHeartbeats 1000000 in
theorem cloneS_nil (n c : Nat) (w : World) : Calls Tryd.prog 40 #[.slice none n c] w fun e w' => e = .returned (.slice none 0 0) ∧ w' = w := by
  have q : ∀ (w : World) (a : Option Addr) (n c n' c' : Nat), (binOp .eql 22 (.slice a n c) (.slice none n' c')).run Tryd.prog w = .ok (.bool a.isNone) w := fun w a n c n' c' => Lib.run_eql_slice_nil w _ _ a n c n' c' Tryd.underlying22
  go_enter Tryd.func40, Tryd.ntmps40
  go_wp2
  go_ret
  exact ⟨rfl, rfl⟩
/-- A clone: where it lies, what it holds. -/
theorem cloneS_any (t : Option Addr) (n c : Nat) (w : World) (hn : n ≤ maxLen) (hbig : n * 16 ≤ 140737488355328) (ht : n = 0 ∨ ∃ b off, t = some ⟨b, off, none⟩ ∧ ∀ j, j < n * 1 → ∃ u, w.cell? ⟨b, off + j, none⟩ = some u ∧ u.oneCell' = true) :
    Calls Tryd.prog 40 #[.slice t n c] w (CloneP 1 n t w) := by
  cases t with
  | none =>
    rcases ht with rfl | ⟨_, _, h, _⟩
    · exact (cloneS_nil 0 c w).mono fun e w' ⟨he, hw⟩ => ⟨none, 0, he, by rw [hw]; exact Below.refl _ _, .inl rfl⟩
    · cases h
  | some ad =>
    rcases ht with rfl | ⟨b, off, h, hc⟩
    · refine (cloneS_at ad 0 c [] w rfl (Nat.zero_le _) (by omega) (fun j u h => by simp at h) (fun u h => by simp at h)).mono ?_
      rintro e w' ⟨v', rfl, hown, _, hb⟩
      obtain ⟨a', c', rfl⟩ := slice_of_owns hown
      exact ⟨a', c', rfl, hb, .inl rfl⟩
    · obtain rfl : ad = ⟨b, off, none⟩ := Option.some.inj h
      refine (cloneS_at ⟨b, off, none⟩ n c ((List.range (n * 1)).map fun j => (w.cell? ⟨b, off + j, none⟩).getD default) w (by simp) hn hbig (fun j u hj => ?_) (fun u hu => ?_)).mono ?_
      · rw [Addr.add_lit]
        obtain ⟨hlt, hj⟩ := List.getElem?_eq_some_iff.1 hj
        simp only [List.length_map, List.length_range] at hlt
        obtain ⟨u', hu', _⟩ := hc j hlt
        simp only [List.getElem_map, List.getElem_range, hu', Option.getD_some] at hj
        rw [hu', hj]
      · obtain ⟨j, hj, rfl⟩ := List.mem_map.1 hu
        obtain ⟨u', hu', h1⟩ := hc j (List.mem_range.1 hj)
        rw [hu']
        exact h1
      · rintro e w' ⟨v', rfl, hown, hnn, hb⟩
        obtain ⟨g, cap, rfl, hg, hlt, hfz, hce⟩ := row_of_owns hown hnn
        refine ⟨_, cap, rfl, hb, .inr ⟨g, b, off, rfl, rfl, hg, hlt, hfz, fun j hj => ?_⟩⟩
        obtain ⟨u', hu', _⟩ := hc j hj
        rw [hce j (by simpa using hj)]
        have hj2 : j < n := by omega
        simp [hj2, hu']

set_option maxHeartbeats 2000000 in
set_option maxRecDepth 100000 in
theorem cloneP_at (ad : Addr) (n c : Nat) (news : List Value) (w : World) (hl : news.length = n * 8) (hn : n ≤ maxLen) (hbig : n * 128 ≤ 140737488355328)
    (hc : ∀ j u, news[j]? = some u → w.cell? (ad.add j) = some u) (h1 : ∀ u ∈ news, u.oneCell' = true) :
    Calls Tryd.prog 41 #[.slice (some ad) n c] w fun e w' => ∃ v', e = .returned v' ∧ w'.ownsRow w.heap.size 51 8 v' n news ∧ v' ≠ .slice none 0 0 ∧ Below w.heap.size w w' := by
  obtain ⟨i0, hi, hz0, hz1, hz2⟩ := info_parts info51
  have A := Lib.hid hc
  clear hc
  have q : ∀ (w : World) (a : Option Addr) (n c n' c' : Nat), (binOp .eql 23 (.slice a n c) (.slice none n' c')).run Tryd.prog w = .ok (.bool a.isNone) w := fun w a n c n' c' => Lib.run_eql_slice_nil w _ _ a n c n' c' Tryd.underlying23
  go_enter Tryd.func41, Tryd.ntmps41
  go_wp2_with (at_builtin; refine wpList_append_own _ rfl _ _ 23 rfl w.heap.size 51 i0 (.agg #[.string ByteArray.empty, .int .i64 0, .int .i64 0, .string ByteArray.empty, .slice none 0 0, .slice none 0 0, .bool false, .slice none 0 0]) 8 128 Tryd.underlying23 hi hz0 hz1 hz2 rfl (by decide) _ _ _ rfl (World.ownsRow_made w #[] 0 (Nat.le_refl _) (Nat.zero_le _) (by simp)) ad n c news rfl ?qc1 ?qc2 ?qc3 ?qc4 ?qc5 ?qc6 ?_)
  case qc1 => exact hl
  case qc2 =>
    intro j u hj
    exact Lib.cell?_alloc_some _ (A.out j u hj)
  case qc3 => exact h1
  case qc4 => rw [Nat.zero_add]; exact hn
  case qc5 => rw [Nat.zero_add]; exact hbig
  case qc6 => simp
  intro v' w1 hown hgrow hnil
  go_wp2
  go_ret
  refine ⟨v', rfl, by simpa using hown, ?_, ?_⟩
  · simpa using hnil
  · exact ((Below.refl _ w).alloc (Nat.le_refl _) _).grown hgrow (by simp) (by intro k hk; simp [Value.ownBlock] at hk; omega)
set_option maxHeartbeats 1000000 in
theorem cloneP_nil (n c : Nat) (w : World) : Calls Tryd.prog 41 #[.slice none n c] w fun e w' => e = .returned (.slice none 0 0) ∧ w' = w := by
  have q : ∀ (w : World) (a : Option Addr) (n c n' c' : Nat), (binOp .eql 23 (.slice a n c) (.slice none n' c')).run Tryd.prog w = .ok (.bool a.isNone) w := fun w a n c n' c' => Lib.run_eql_slice_nil w _ _ a n c n' c' Tryd.underlying23
  go_enter Tryd.func41, Tryd.ntmps41
  go_wp2
  go_ret
  exact ⟨rfl, rfl⟩
/-- A clone: where it lies, what it holds. -/
theorem cloneP_any (t : Option Addr) (n c : Nat) (w : World) (hn : n ≤ maxLen) (hbig : n * 128 ≤ 140737488355328) (ht : n = 0 ∨ ∃ b off, t = some ⟨b, off, none⟩ ∧ ∀ j, j < n * 8 → ∃ u, w.cell? ⟨b, off + j, none⟩ = some u ∧ u.oneCell' = true) :
    Calls Tryd.prog 41 #[.slice t n c] w (CloneP 8 n t w) := by
  cases t with
  | none =>
    rcases ht with rfl | ⟨_, _, h, _⟩
    · exact (cloneP_nil 0 c w).mono fun e w' ⟨he, hw⟩ => ⟨none, 0, he, by rw [hw]; exact Below.refl _ _, .inl rfl⟩
    · cases h
  | some ad =>
    rcases ht with rfl | ⟨b, off, h, hc⟩
    · refine (cloneP_at ad 0 c [] w rfl (Nat.zero_le _) (by omega) (fun j u h => by simp at h) (fun u h => by simp at h)).mono ?_
      rintro e w' ⟨v', rfl, hown, _, hb⟩
      obtain ⟨a', c', rfl⟩ := slice_of_owns hown
      exact ⟨a', c', rfl, hb, .inl rfl⟩
    · obtain rfl : ad = ⟨b, off, none⟩ := Option.some.inj h
      refine (cloneP_at ⟨b, off, none⟩ n c ((List.range (n * 8)).map fun j => (w.cell? ⟨b, off + j, none⟩).getD default) w (by simp) hn hbig (fun j u hj => ?_) (fun u hu => ?_)).mono ?_
      · rw [Addr.add_lit]
        obtain ⟨hlt, hj⟩ := List.getElem?_eq_some_iff.1 hj
        simp only [List.length_map, List.length_range] at hlt
        obtain ⟨u', hu', _⟩ := hc j hlt
        simp only [List.getElem_map, List.getElem_range, hu', Option.getD_some] at hj
        rw [hu', hj]
      · obtain ⟨j, hj, rfl⟩ := List.mem_map.1 hu
        obtain ⟨u', hu', h1⟩ := hc j (List.mem_range.1 hj)
        rw [hu']
        exact h1
      · rintro e w' ⟨v', rfl, hown, hnn, hb⟩
        obtain ⟨g, cap, rfl, hg, hlt, hfz, hce⟩ := row_of_owns hown hnn
        refine ⟨_, cap, rfl, hb, .inr ⟨g, b, off, rfl, rfl, hg, hlt, hfz, fun j hj => ?_⟩⟩
        obtain ⟨u', hu', _⟩ := hc j hj
        rw [hce j (by simpa using hj)]
        simp [hj, hu']

set_option maxHeartbeats 2000000 in
set_option maxRecDepth 100000 in
theorem cloneX_at (ad : Addr) (n c : Nat) (news : List Value) (w : World) (hl : news.length = n * 7) (hn : n ≤ maxLen) (hbig : n * 112 ≤ 140737488355328)
    (hc : ∀ j u, news[j]? = some u → w.cell? (ad.add j) = some u) (h1 : ∀ u ∈ news, u.oneCell' = true) :
    Calls Tryd.prog 42 #[.slice (some ad) n c] w fun e w' => ∃ v', e = .returned v' ∧ w'.ownsRow w.heap.size 26 7 v' n news ∧ v' ≠ .slice none 0 0 ∧ Below w.heap.size w w' := by
  obtain ⟨i0, hi, hz0, hz1, hz2⟩ := info_parts info26
  have A := Lib.hid hc
  clear hc
  have q : ∀ (w : World) (a : Option Addr) (n c n' c' : Nat), (binOp .eql 24 (.slice a n c) (.slice none n' c')).run Tryd.prog w = .ok (.bool a.isNone) w := fun w a n c n' c' => Lib.run_eql_slice_nil w _ _ a n c n' c' Tryd.underlying24
  go_enter Tryd.func42, Tryd.ntmps42
  go_wp2_with (at_builtin; refine wpList_append_own _ rfl _ _ 24 rfl w.heap.size 26 i0 (.agg #[.int .i64 0, .int .i64 0, .string ByteArray.empty, .slice none 0 0, .slice none 0 0, .bool false, .slice none 0 0]) 7 112 Tryd.underlying24 hi hz0 hz1 hz2 rfl (by decide) _ _ _ rfl (World.ownsRow_made w #[] 0 (Nat.le_refl _) (Nat.zero_le _) (by simp)) ad n c news rfl ?qc1 ?qc2 ?qc3 ?qc4 ?qc5 ?qc6 ?_)
  case qc1 => exact hl
  case qc2 =>
    intro j u hj
    exact Lib.cell?_alloc_some _ (A.out j u hj)
  case qc3 => exact h1
  case qc4 => rw [Nat.zero_add]; exact hn
  case qc5 => rw [Nat.zero_add]; exact hbig
  case qc6 => simp
  intro v' w1 hown hgrow hnil
  go_wp2
  go_ret
  refine ⟨v', rfl, by simpa using hown, ?_, ?_⟩
  · simpa using hnil
  · exact ((Below.refl _ w).alloc (Nat.le_refl _) _).grown hgrow (by simp) (by intro k hk; simp [Value.ownBlock] at hk; omega)
set_option maxHeartbeats 1000000 in
theorem cloneX_nil (n c : Nat) (w : World) : Calls Tryd.prog 42 #[.slice none n c] w fun e w' => e = .returned (.slice none 0 0) ∧ w' = w := by
  have q : ∀ (w : World) (a : Option Addr) (n c n' c' : Nat), (binOp .eql 24 (.slice a n c) (.slice none n' c')).run Tryd.prog w = .ok (.bool a.isNone) w := fun w a n c n' c' => Lib.run_eql_slice_nil w _ _ a n c n' c' Tryd.underlying24
  go_enter Tryd.func42, Tryd.ntmps42
  go_wp2
  go_ret
  exact ⟨rfl, rfl⟩
/-- A clone: where it lies, what it holds. -/
theorem cloneX_any (t : Option Addr) (n c : Nat) (w : World) (hn : n ≤ maxLen) (hbig : n * 112 ≤ 140737488355328) (ht : n = 0 ∨ ∃ b off, t = some ⟨b, off, none⟩ ∧ ∀ j, j < n * 7 → ∃ u, w.cell? ⟨b, off + j, none⟩ = some u ∧ u.oneCell' = true) :
    Calls Tryd.prog 42 #[.slice t n c] w (CloneP 7 n t w) := by
  cases t with
  | none =>
    rcases ht with rfl | ⟨_, _, h, _⟩
    · exact (cloneX_nil 0 c w).mono fun e w' ⟨he, hw⟩ => ⟨none, 0, he, by rw [hw]; exact Below.refl _ _, .inl rfl⟩
    · cases h
  | some ad =>
    rcases ht with rfl | ⟨b, off, h, hc⟩
    · refine (cloneX_at ad 0 c [] w rfl (Nat.zero_le _) (by omega) (fun j u h => by simp at h) (fun u h => by simp at h)).mono ?_
      rintro e w' ⟨v', rfl, hown, _, hb⟩
      obtain ⟨a', c', rfl⟩ := slice_of_owns hown
      exact ⟨a', c', rfl, hb, .inl rfl⟩
    · obtain rfl : ad = ⟨b, off, none⟩ := Option.some.inj h
      refine (cloneX_at ⟨b, off, none⟩ n c ((List.range (n * 7)).map fun j => (w.cell? ⟨b, off + j, none⟩).getD default) w (by simp) hn hbig (fun j u hj => ?_) (fun u hu => ?_)).mono ?_
      · rw [Addr.add_lit]
        obtain ⟨hlt, hj⟩ := List.getElem?_eq_some_iff.1 hj
        simp only [List.length_map, List.length_range] at hlt
        obtain ⟨u', hu', _⟩ := hc j hlt
        simp only [List.getElem_map, List.getElem_range, hu', Option.getD_some] at hj
        rw [hu', hj]
      · obtain ⟨j, hj, rfl⟩ := List.mem_map.1 hu
        obtain ⟨u', hu', h1⟩ := hc j (List.mem_range.1 hj)
        rw [hu']
        exact h1
      · rintro e w' ⟨v', rfl, hown, hnn, hb⟩
        obtain ⟨g, cap, rfl, hg, hlt, hfz, hce⟩ := row_of_owns hown hnn
        refine ⟨_, cap, rfl, hb, .inr ⟨g, b, off, rfl, rfl, hg, hlt, hfz, fun j hj => ?_⟩⟩
        obtain ⟨u', hu', _⟩ := hc j hj
        rw [hce j (by simpa using hj)]
        simp [hj, hu']

end Go.Proofs.YtngikbimlhoigaaDoor
