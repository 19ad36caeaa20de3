/- slices.Clone at terms and at fields. -/
import Derived.Test.YtkmbhjcedkojjaaSa
import Derived.Laws.AppendOwn
import Derived.Lib.SliceRun
import Derived.Lib.Walk
import Derived.WalkSpells
namespace Go.Proofs.Ytkmbhjcedkojjaa
open Go.RowKit
theorem info24 : (Try.prog.info? 24).map (fun i => (i.zero, i.size, i.bytes)) = some (some (.agg #[.int .i64 0, .int .i64 0, .int .i64 0, .string ByteArray.empty, .bool false, .bool false, .bool false, .slice none 0 0]), 8, 72) := by kernel_rfl
theorem info59 : (Try.prog.info? 59).map (fun i => (i.zero, i.size, i.bytes)) = some (some (.agg #[.string ByteArray.empty, .slice none 0 0]), 2, 40) := by kernel_rfl
theorem slice_of_owns {w : World} {base E size n : Nat} {v : Value} {xs : List Value} (h : w.ownsRow base E size v n xs) : ∃ (a : Option Addr) (c : Nat), v = .slice a n c := by
  rcases h.2 with ⟨rfl, rfl⟩ | ⟨g, cap, cur, rfl, _⟩
  · exact ⟨_, _, rfl⟩
  · exact ⟨_, _, rfl⟩
/-- A row of a call's own, told cell by cell. -/
theorem row_of_owns {w : World} {base E size n : Nat} {v : Value} {xs : List Value} (h : w.ownsRow base E size v n xs) (hv : v ≠ .slice none 0 0) :
    ∃ (g cap : Nat), v = .slice (some ⟨g, 0, none⟩) n cap ∧ base ≤ g ∧ g < w.heap.size ∧ (∀ o, w.frozen? ⟨g, o, none⟩ = false) ∧ ∀ j, j < xs.length → w.cell? ⟨g, j, none⟩ = xs[j]? := by
  rcases h with ⟨hl, ⟨rfl, rfl⟩ | ⟨g, cap, cur, rfl, hg, hh, hn, hm, hz, hx⟩⟩
  · exact absurd rfl hv
  · refine ⟨g, cap, rfl, hg, ?_, fun o => ?_, fun j hj => ?_⟩
    · exact (Array.getElem?_eq_some_iff.1 hh).1
    · simp [World.frozen?, hh]
    · simp only [World.cell?, hh]
      rw [← hx] at hj ⊢
      simp at hj ⊢
      simp [hj]
/-- What a clone is: new memory, the same cells. -/
def CloneP (size n : Nat) (t : Option Addr) (w : World) (e : Ending) (w' : World) : Prop :=
  ∃ (t' : Option Addr) (c' : Nat), e = .returned (.slice t' n c') ∧ Below w.heap.size w w' ∧ (n = 0 ∨ ∃ g b off, t' = some ⟨g, 0, none⟩ ∧ t = some ⟨b, off, none⟩ ∧ w.heap.size ≤ g ∧ g < w'.heap.size ∧ (∀ o, w'.frozen? ⟨g, o, none⟩ = false) ∧ ∀ j, j < n * size → w'.cell? ⟨g, j, none⟩ = w.cell? ⟨b, off + j, none⟩)

set_option maxHeartbeats 2000000 in
set_option maxRecDepth 100000 in
theorem cloneT_at (ad : Addr) (n c : Nat) (news : List Value) (w : World) (hl : news.length = n * 8) (hn : n ≤ maxLen) (hbig : n * 72 ≤ 140737488355328)
    (hc : ∀ j u, news[j]? = some u → w.cell? (ad.add j) = some u) (h1 : ∀ u ∈ news, u.oneCell' = true) :
    Calls Try.prog 60 #[.slice (some ad) n c] w fun e w' => ∃ v', e = .returned v' ∧ w'.ownsRow w.heap.size 24 8 v' n news ∧ v' ≠ .slice none 0 0 ∧ Below w.heap.size w w' := by
  obtain ⟨i0, hi, hz0, hz1, hz2⟩ := info_parts info24
  have A := Lib.hid hc
  clear hc
  have q : ∀ (w : World) (a : Option Addr) (n c n' c' : Nat), (binOp .eql 39 (.slice a n c) (.slice none n' c')).run Try.prog w = .ok (.bool a.isNone) w := fun w a n c n' c' => Lib.run_eql_slice_nil w _ _ a n c n' c' Try.underlying39
  go_enter Try.func60, Try.ntmps60
  go_wp2_with (at_builtin; refine wpList_append_own _ rfl _ _ 39 rfl w.heap.size 24 i0 (.agg #[.int .i64 0, .int .i64 0, .int .i64 0, .string ByteArray.empty, .bool false, .bool false, .bool false, .slice none 0 0]) 8 72 Try.underlying39 hi hz0 hz1 hz2 rfl (by decide) _ _ _ rfl (World.ownsRow_made w #[] 0 (Nat.le_refl _) (Nat.zero_le _) (by simp)) ad n c news rfl ?qc1 ?qc2 ?qc3 ?qc4 ?qc5 ?qc6 ?_)
  case qc1 => exact hl
  case qc2 =>
    intro j u hj
    exact Lib.cell?_alloc_some _ (A.out j u hj)
  case qc3 => exact h1
  case qc4 => rw [Nat.zero_add]; exact hn
  case qc5 => rw [Nat.zero_add]; exact hbig
  case qc6 => simp
  intro v' w1 hown hgrow hnil
  go_wp2
  go_ret
  refine ⟨v', rfl, by simpa using hown, ?_, ?_⟩
  · simpa using hnil
  · exact ((Below.refl _ w).alloc (Nat.le_refl _) _).grown hgrow (by simp) (by intro k hk; simp [Value.ownBlock] at hk; omega)
set_option maxHeartbeats 1000000 in
theorem cloneT_nil (n c : Nat) (w : World) : Calls Try.prog 60 #[.slice none n c] w fun e w' => e = .returned (.slice none 0 0) ∧ w' = w := by
  have q : ∀ (w : World) (a : Option Addr) (n c n' c' : Nat), (binOp .eql 39 (.slice a n c) (.slice none n' c')).run Try.prog w = .ok (.bool a.isNone) w := fun w a n c n' c' => Lib.run_eql_slice_nil w _ _ a n c n' c' Try.underlying39
  go_enter Try.func60, Try.ntmps60
  go_wp2
  go_ret
  exact ⟨rfl, rfl⟩
/-- A clone: where it lies, what it holds. -/
theorem cloneT_any (t : Option Addr) (n c : Nat) (w : World) (hn : n ≤ maxLen) (hbig : n * 72 ≤ 140737488355328) (ht : n = 0 ∨ ∃ b off, t = some ⟨b, off, none⟩ ∧ ∀ j, j < n * 8 → ∃ u, w.cell? ⟨b, off + j, none⟩ = some u ∧ u.oneCell' = true) :
    Calls Try.prog 60 #[.slice t n c] w (CloneP 8 n t w) := by
  cases t with
  | none =>
    rcases ht with rfl | ⟨_, _, h, _⟩
    · exact (cloneT_nil 0 c w).mono fun e w' ⟨he, hw⟩ => ⟨none, 0, he, by rw [hw]; exact Below.refl _ _, .inl rfl⟩
    · cases h
  | some ad =>
    rcases ht with rfl | ⟨b, off, h, hc⟩
    · refine (cloneT_at ad 0 c [] w rfl (Nat.zero_le _) (by omega) (fun j u h => by simp at h) (fun u h => by simp at h)).mono ?_
      rintro e w' ⟨v', rfl, hown, _, hb⟩
      obtain ⟨a', c', rfl⟩ := slice_of_owns hown
      exact ⟨a', c', rfl, hb, .inl rfl⟩
    · obtain rfl : ad = ⟨b, off, none⟩ := Option.some.inj h
      refine (cloneT_at ⟨b, off, none⟩ n c ((List.range (n * 8)).map fun j => (w.cell? ⟨b, off + j, none⟩).getD default) w (by simp) hn hbig (fun j u hj => ?_) (fun u hu => ?_)).mono ?_
      · rw [Addr.add_lit]
        obtain ⟨hlt, hj⟩ := List.getElem?_eq_some_iff.1 hj
        simp only [List.length_map, List.length_range] at hlt
        obtain ⟨u', hu', _⟩ := hc j hlt
        simp only [List.getElem_map, List.getElem_range, hu', Option.getD_some] at hj
        rw [hu', hj]
      · obtain ⟨j, hj, rfl⟩ := List.mem_map.1 hu
        obtain ⟨u', hu', h1⟩ := hc j (List.mem_range.1 hj)
        rw [hu']
        exact h1
      · rintro e w' ⟨v', rfl, hown, hnn, hb⟩
        obtain ⟨g, cap, rfl, hg, hlt, hfz, hce⟩ := row_of_owns hown hnn
        refine ⟨_, cap, rfl, hb, .inr ⟨g, b, off, rfl, rfl, hg, hlt, hfz, fun j hj => ?_⟩⟩
        obtain ⟨u', hu', _⟩ := hc j hj
        rw [hce j (by simpa using hj)]
        simp [hj, hu']

set_option maxHeartbeats 2000000 in
set_option maxRecDepth 100000 in
theorem cloneF_at (ad : Addr) (n c : Nat) (news : List Value) (w : World) (hl : news.length = n * 2) (hn : n ≤ maxLen) (hbig : n * 40 ≤ 140737488355328)
    (hc : ∀ j u, news[j]? = some u → w.cell? (ad.add j) = some u) (h1 : ∀ u ∈ news, u.oneCell' = true) :
    Calls Try.prog 61 #[.slice (some ad) n c] w fun e w' => ∃ v', e = .returned v' ∧ w'.ownsRow w.heap.size 59 2 v' n news ∧ v' ≠ .slice none 0 0 ∧ Below w.heap.size w w' := by
  obtain ⟨i0, hi, hz0, hz1, hz2⟩ := info_parts info59
  have A := Lib.hid hc
  clear hc
  have q : ∀ (w : World) (a : Option Addr) (n c n' c' : Nat), (binOp .eql 22 (.slice a n c) (.slice none n' c')).run Try.prog w = .ok (.bool a.isNone) w := fun w a n c n' c' => Lib.run_eql_slice_nil w _ _ a n c n' c' Try.underlying22
  go_enter Try.func61, Try.ntmps61
  go_wp2_with (at_builtin; refine wpList_append_own _ rfl _ _ 22 rfl w.heap.size 59 i0 (.agg #[.string ByteArray.empty, .slice none 0 0]) 2 40 Try.underlying22 hi hz0 hz1 hz2 rfl (by decide) _ _ _ rfl (World.ownsRow_made w #[] 0 (Nat.le_refl _) (Nat.zero_le _) (by simp)) ad n c news rfl ?qc1 ?qc2 ?qc3 ?qc4 ?qc5 ?qc6 ?_)
  case qc1 => exact hl
  case qc2 =>
    intro j u hj
    exact Lib.cell?_alloc_some _ (A.out j u hj)
  case qc3 => exact h1
  case qc4 => rw [Nat.zero_add]; exact hn
  case qc5 => rw [Nat.zero_add]; exact hbig
  case qc6 => simp
  intro v' w1 hown hgrow hnil
  go_wp2
  go_ret
  refine ⟨v', rfl, by simpa using hown, ?_, ?_⟩
  · simpa using hnil
  · exact ((Below.refl _ w).alloc (Nat.le_refl _) _).grown hgrow (by simp) (by intro k hk; simp [Value.ownBlock] at hk; omega)
set_option maxHeartbeats 1000000 in
theorem cloneF_nil (n c : Nat) (w : World) : Calls Try.prog 61 #[.slice none n c] w fun e w' => e = .returned (.slice none 0 0) ∧ w' = w := by
  have q : ∀ (w : World) (a : Option Addr) (n c n' c' : Nat), (binOp .eql 22 (.slice a n c) (.slice none n' c')).run Try.prog w = .ok (.bool a.isNone) w := fun w a n c n' c' => Lib.run_eql_slice_nil w _ _ a n c n' c' Try.underlying22
  go_enter Try.func61, Try.ntmps61
  go_wp2
  go_ret
  exact ⟨rfl, rfl⟩
/-- A clone: where it lies, what it holds. -/
theorem cloneF_any (t : Option Addr) (n c : Nat) (w : World) (hn : n ≤ maxLen) (hbig : n * 40 ≤ 140737488355328) (ht : n = 0 ∨ ∃ b off, t = some ⟨b, off, none⟩ ∧ ∀ j, j < n * 2 → ∃ u, w.cell? ⟨b, off + j, none⟩ = some u ∧ u.oneCell' = true) :
    Calls Try.prog 61 #[.slice t n c] w (CloneP 2 n t w) := by
  cases t with
  | none =>
    rcases ht with rfl | ⟨_, _, h, _⟩
    · exact (cloneF_nil 0 c w).mono fun e w' ⟨he, hw⟩ => ⟨none, 0, he, by rw [hw]; exact Below.refl _ _, .inl rfl⟩
    · cases h
  | some ad =>
    rcases ht with rfl | ⟨b, off, h, hc⟩
    · refine (cloneF_at ad 0 c [] w rfl (Nat.zero_le _) (by omega) (fun j u h => by simp at h) (fun u h => by simp at h)).mono ?_
      rintro e w' ⟨v', rfl, hown, _, hb⟩
      obtain ⟨a', c', rfl⟩ := slice_of_owns hown
      exact ⟨a', c', rfl, hb, .inl rfl⟩
    · obtain rfl : ad = ⟨b, off, none⟩ := Option.some.inj h
      refine (cloneF_at ⟨b, off, none⟩ n c ((List.range (n * 2)).map fun j => (w.cell? ⟨b, off + j, none⟩).getD default) w (by simp) hn hbig (fun j u hj => ?_) (fun u hu => ?_)).mono ?_
      · rw [Addr.add_lit]
        obtain ⟨hlt, hj⟩ := List.getElem?_eq_some_iff.1 hj
        simp only [List.length_map, List.length_range] at hlt
        obtain ⟨u', hu', _⟩ := hc j hlt
        simp only [List.getElem_map, List.getElem_range, hu', Option.getD_some] at hj
        rw [hu', hj]
      · obtain ⟨j, hj, rfl⟩ := List.mem_map.1 hu
        obtain ⟨u', hu', h1⟩ := hc j (List.mem_range.1 hj)
        rw [hu']
        exact h1
      · rintro e w' ⟨v', rfl, hown, hnn, hb⟩
        obtain ⟨g, cap, rfl, hg, hlt, hfz, hce⟩ := row_of_owns hown hnn
        refine ⟨_, cap, rfl, hb, .inr ⟨g, b, off, rfl, rfl, hg, hlt, hfz, fun j hj => ?_⟩⟩
        obtain ⟨u', hu', _⟩ := hc j hj
        rw [hce j (by simpa using hj)]
        simp [hj, hu']

end Go.Proofs.Ytkmbhjcedkojjaa
