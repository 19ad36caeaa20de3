/- Sa, Sb -/
import Derived.Laws.AppendOwn
import Derived.Lib.SliceRun
import Derived.Lib.Walk
import Derived.WalkSpells
import Derived.Test.YtddleeenlpigfaaGreatDoorY4
/- A VALUE IN MEMORY OF A CALL'S OWN: its blocks are such as P lets, none of them frozen. -/
namespace Go.Proofs.YtddleeenlpigfaaGreatDoor
open Go.RowKit
/-- Fields in blocks of a call's own. -/
def OwF (P : Nat → Prop) (I : Option Addr → Nat → Nat → List Tm → Prop) (w : World) (f : Option Addr) (fl : Nat) (fs : List (ByteArray × List Tm)) : Prop :=
  fs.length = fl ∧ (fl : Int) ≤ 9223372036854775807 ∧ ∀ i (h : i < fs.length), ∃ (b off tl tc : Nat) (t : Option Addr), f = some ⟨b, off, none⟩ ∧ P b ∧ b < w.heap.size ∧ (∀ o, w.frozen? ⟨b, o, none⟩ = false) ∧ w.cell? ⟨b, off + i * 2, none⟩ = some (.string fs[i].1) ∧ w.cell? ⟨b, off + i * 2 + 1, none⟩ = some (.slice t tl tc) ∧ I t tl tc fs[i].2
/-- A term's cells, its fields in blocks of a call's own. -/
def OwT (P : Nat → Prop) (I : Option Addr → Nat → Nat → List Tm → Prop) (w : World) (b off : Nat) : Tm → Prop
  | .mk k lo hi s y m o fs => ∃ (f : Option Addr) (fl fc : Nat), w.cell? ⟨b, off, none⟩ = some (.int .i64 k) ∧ w.cell? ⟨b, off + 1, none⟩ = some (.int .i64 lo) ∧ w.cell? ⟨b, off + 2, none⟩ = some (.int .i64 hi) ∧ w.cell? ⟨b, off + 3, none⟩ = some (.string s) ∧
    w.cell? ⟨b, off + 4, none⟩ = some (.bool y) ∧ w.cell? ⟨b, off + 5, none⟩ = some (.bool m) ∧ w.cell? ⟨b, off + 6, none⟩ = some (.bool o) ∧ w.cell? ⟨b, off + 7, none⟩ = some (.slice f fl fc) ∧ OwF P I w f fl fs
/-- A value in blocks of a call's own, so deep at most. -/
def OwV (P : Nat → Prop) (w : World) : Nat → Option Addr → Nat → Nat → List Tm → Prop
  | 0, _, _, _, _ => False
  | n + 1, t, tl, _, V => V.length = tl ∧ (tl : Int) ≤ 9223372036854775807 ∧ ∀ i (h : i < V.length), ∃ b off : Nat, t = some ⟨b, off, none⟩ ∧ P b ∧ b < w.heap.size ∧ (∀ o, w.frozen? ⟨b, o, none⟩ = false) ∧ OwT P (fun t tl tc V => OwV P w n t tl tc V) w b (off + i * 8) V[i]
theorem cell_of_heap {w w' : World} {b : Nat} (h : w'.heap[b]? = w.heap[b]?) (o : Nat) : w'.cell? ⟨b, o, none⟩ = w.cell? ⟨b, o, none⟩ := World.cell?_of_block (a := ⟨b, o, none⟩) h
theorem frozen_of_heap {w w' : World} {b : Nat} (h : w'.heap[b]? = w.heap[b]?) (o : Nat) : w'.frozen? ⟨b, o, none⟩ = w.frozen? ⟨b, o, none⟩ := World.frozen?_of_block (a := ⟨b, o, none⟩) h
/-- From one world to another one in which its blocks are as they were. -/
theorem OwF.to {P Q : Nat → Prop} {I J : Option Addr → Nat → Nat → List Tm → Prop} {w w' : World} (hs : w.heap.size ≤ w'.heap.size) (hP : ∀ b, P b → b < w.heap.size → Q b ∧ w'.heap[b]? = w.heap[b]?) (hIJ : ∀ t tl tc V, I t tl tc V → J t tl tc V) {f : Option Addr} {fl : Nat} {fs : List (ByteArray × List Tm)} (h : OwF P I w f fl fs) : OwF Q J w' f fl fs := by
  refine ⟨h.1, h.2.1, fun i hi => ?_⟩
  obtain ⟨b, off, tl, tc, t, e, hp, lt, fz, c0, c1, h2⟩ := h.2.2 i hi
  obtain ⟨hq, hh⟩ := hP b hp lt
  exact ⟨b, off, tl, tc, t, e, hq, Nat.lt_of_lt_of_le lt hs, fun o => (frozen_of_heap hh o).trans (fz o), (cell_of_heap hh _).trans c0, (cell_of_heap hh _).trans c1, hIJ _ _ _ _ h2⟩
theorem OwT.to' {P Q : Nat → Prop} {I J : Option Addr → Nat → Nat → List Tm → Prop} {w w' : World} {b b' off off' : Nat} (hs : w.heap.size ≤ w'.heap.size) (hP : ∀ b, P b → b < w.heap.size → Q b ∧ w'.heap[b]? = w.heap[b]?) (hIJ : ∀ t tl tc V, I t tl tc V → J t tl tc V) (hc : ∀ r, r < 8 → w'.cell? ⟨b', off' + r, none⟩ = w.cell? ⟨b, off + r, none⟩) {x : Tm} (h : OwT P I w b off x) : OwT Q J w' b' off' x := by
  obtain ⟨k, lo, hi, s, y, m, o, fs⟩ := x
  obtain ⟨f, fl, fc, c0, c1, c2, c3, c4, c5, c6, c7, hf⟩ := h
  exact ⟨f, fl, fc, (hc 0 (by omega)).trans c0, (hc 1 (by omega)).trans c1, (hc 2 (by omega)).trans c2, (hc 3 (by omega)).trans c3, (hc 4 (by omega)).trans c4, (hc 5 (by omega)).trans c5, (hc 6 (by omega)).trans c6, (hc 7 (by omega)).trans c7, hf.to hs hP hIJ⟩
theorem OwV.to {P Q : Nat → Prop} {w w' : World} (hs : w.heap.size ≤ w'.heap.size) (hP : ∀ b, P b → b < w.heap.size → Q b ∧ w'.heap[b]? = w.heap[b]?) : ∀ {n : Nat} {t : Option Addr} {tl tc : Nat} {V : List Tm}, OwV P w n t tl tc V → OwV Q w' n t tl tc V
  | 0, _, _, _, _, h => h.elim
  | n + 1, t, tl, tc, V, h => ⟨h.1, h.2.1, fun i hi => by
      obtain ⟨b, off, e, hp, lt, fz, h2⟩ := h.2.2 i hi
      obtain ⟨hq, hh⟩ := hP b hp lt
      exact ⟨b, off, e, hq, Nat.lt_of_lt_of_le lt hs, fun o => (frozen_of_heap hh o).trans (fz o), OwT.to' hs hP (fun t tl tc V h => OwV.to hs hP h) (fun r _ => cell_of_heap hh _) h2⟩⟩
theorem OwV.below {P : Nat → Prop} {w w' : World} (hb : Below w.heap.size w w') {n : Nat} {t : Option Addr} {tl tc : Nat} {V : List Tm} (h : OwV P w n t tl tc V) : OwV P w' n t tl tc V :=
  h.to hb.size fun b hp lt => ⟨hp, hb.block b lt⟩
theorem OwV.imp {P Q : Nat → Prop} {w : World} (hP : ∀ b, P b → b < w.heap.size → Q b) {n : Nat} {t : Option Addr} {tl tc : Nat} {V : List Tm} (h : OwV P w n t tl tc V) : OwV Q w n t tl tc V :=
  h.to (Nat.le_refl _) fun b hp lt => ⟨hP b hp lt, rfl⟩
theorem OwF.inF {P : Nat → Prop} {I J : Option Addr → Nat → Nat → List Tm → Prop} (hIJ : ∀ t tl tc V, I t tl tc V → J t tl tc V) {w : World} {f : Option Addr} {fl : Nat} {fs : List (ByteArray × List Tm)} (h : OwF P I w f fl fs) : InF J w f fl fs := by
  refine ⟨h.1, h.2.1, fun i hi => ?_⟩
  obtain ⟨b, off, tl, tc, t, e, hp, lt, fz, c0, c1, h2⟩ := h.2.2 i hi
  exact ⟨b, off, tl, tc, t, e, lt, c0, c1, hIJ _ _ _ _ h2⟩
/-- It lies in the world. -/
theorem OwV.inV {P : Nat → Prop} {w : World} : ∀ {n : Nat} {t : Option Addr} {tl tc : Nat} {V : List Tm}, OwV P w n t tl tc V → InV w n t tl tc V
  | 0, _, _, _, _, h => h.elim
  | n + 1, t, tl, tc, V, h => ⟨h.1, h.2.1, fun i hi => by
      obtain ⟨b, off, e, hp, lt, fz, h2⟩ := h.2.2 i hi
      refine ⟨b, off, e, ?_⟩
      generalize V[i] = x at h2
      obtain ⟨k, lo, hi, s, y, m, o, fs⟩ := x
      obtain ⟨f, fl, fc, c0, c1, c2, c3, c4, c5, c6, c7, hf⟩ := h2
      exact ⟨lt, f, fl, fc, c0, c1, c2, c3, c4, c5, c6, c7, hf.inF fun t tl tc V h => OwV.inV h⟩⟩
theorem OwV.up {P : Nat → Prop} {w : World} : ∀ {n : Nat} {t : Option Addr} {tl tc : Nat} {V : List Tm}, OwV P w n t tl tc V → OwV P w (n + 1) t tl tc V
  | 0, _, _, _, _, h => h.elim
  | n + 1, t, tl, tc, V, h => ⟨h.1, h.2.1, fun i hi => by
      obtain ⟨b, off, e, hp, lt, fz, h2⟩ := h.2.2 i hi
      exact ⟨b, off, e, hp, lt, fz, OwT.to' (Nat.le_refl _) (fun b hp _ => ⟨hp, rfl⟩) (fun t tl tc V h => OwV.up h) (fun _ _ => rfl) h2⟩⟩
/-- No terms lie anywhere. -/
theorem OwV.none {P : Nat → Prop} (w : World) (n : Nat) (t : Option Addr) (tc : Nat) : OwV P w (n + 1) t 0 tc [] := ⟨rfl, by omega, fun i h => absurd h (Nat.not_lt_zero _)⟩

end Go.Proofs.YtddleeenlpigfaaGreatDoor
/- slices.Clone at terms and at fields. -/
namespace Go.Proofs.YtddleeenlpigfaaGreatDoor
open Go.RowKit
theorem info24 : (Tryz.prog.info? 31).map (fun i => (i.zero, i.size, i.bytes)) = some (some (.agg #[.int .i64 0, .int .i64 0, .int .i64 0, .string ByteArray.empty, .bool false, .bool false, .bool false, .slice none 0 0]), 8, 72) := by kernel_rfl
theorem info59 : (Tryz.prog.info? 59).map (fun i => (i.zero, i.size, i.bytes)) = some (some (.agg #[.string ByteArray.empty, .slice none 0 0]), 2, 40) := by kernel_rfl
theorem slice_of_owns {w : World} {base E size n : Nat} {v : Value} {xs : List Value} (h : w.ownsRow base E size v n xs) : ∃ (a : Option Addr) (c : Nat), v = .slice a n c := by
  rcases h.2 with ⟨rfl, rfl⟩ | ⟨g, cap, cur, rfl, _⟩
  · exact ⟨_, _, rfl⟩
  · exact ⟨_, _, rfl⟩
/-- A row of a call's own, told cell by cell. -/
theorem row_of_owns {w : World} {base E size n : Nat} {v : Value} {xs : List Value} (h : w.ownsRow base E size v n xs) (hv : v ≠ .slice none 0 0) :
    ∃ (g cap : Nat), v = .slice (some ⟨g, 0, none⟩) n cap ∧ base ≤ g ∧ g < w.heap.size ∧ (∀ o, w.frozen? ⟨g, o, none⟩ = false) ∧ ∀ j, j < xs.length → w.cell? ⟨g, j, none⟩ = xs[j]? := by
  rcases h with ⟨hl, ⟨rfl, rfl⟩ | ⟨g, cap, cur, rfl, hg, hh, hn, hm, hz, hx⟩⟩
  · exact absurd rfl hv
  · refine ⟨g, cap, rfl, hg, ?_, fun o => ?_, fun j hj => ?_⟩
    · exact (Array.getElem?_eq_some_iff.1 hh).1
    · simp [World.frozen?, hh]
    · simp only [World.cell?, hh]
      rw [← hx] at hj ⊢
      simp at hj ⊢
      simp [hj]
/-- What a clone is: new memory, the same cells. -/
def CloneP (size n : Nat) (t : Option Addr) (w : World) (e : Ending) (w' : World) : Prop :=
  ∃ (t' : Option Addr) (c' : Nat), e = .returned (.slice t' n c') ∧ Below w.heap.size w w' ∧ (n = 0 ∨ ∃ g b off, t' = some ⟨g, 0, none⟩ ∧ t = some ⟨b, off, none⟩ ∧ w.heap.size ≤ g ∧ g < w'.heap.size ∧ (∀ o, w'.frozen? ⟨g, o, none⟩ = false) ∧ ∀ j, j < n * size → w'.cell? ⟨g, j, none⟩ = w.cell? ⟨b, off + j, none⟩)

set_option maxHeartbeats 2000000 in
set_option maxRecDepth 100000 in
theorem cloneT_at (ad : Addr) (n c : Nat) (news : List Value) (w : World) (hl : news.length = n * 8) (hn : n ≤ maxLen) (hbig : n * 72 ≤ 140737488355328)
    (hc : ∀ j u, news[j]? = some u → w.cell? (ad.add j) = some u) (h1 : ∀ u ∈ news, u.oneCell' = true) :
    Calls Tryz.prog 83 #[.slice (some ad) n c] w fun e w' => ∃ v', e = .returned v' ∧ w'.ownsRow w.heap.size 31 8 v' n news ∧ v' ≠ .slice none 0 0 ∧ Below w.heap.size w w' := by
  obtain ⟨i0, hi, hz0, hz1, hz2⟩ := info_parts info24
  have A := Lib.hid hc
  clear hc
  have q : ∀ (w : World) (a : Option Addr) (n c n' c' : Nat), (binOp .eql 22 (.slice a n c) (.slice none n' c')).run Tryz.prog w = .ok (.bool a.isNone) w := fun w a n c n' c' => Lib.run_eql_slice_nil w _ _ a n c n' c' Tryz.underlying22
  go_enter Tryz.func83, Tryz.ntmps83
  go_wp2_with (at_builtin; refine wpList_append_own _ rfl _ _ 22 rfl w.heap.size 31 i0 (.agg #[.int .i64 0, .int .i64 0, .int .i64 0, .string ByteArray.empty, .bool false, .bool false, .bool false, .slice none 0 0]) 8 72 Tryz.underlying22 hi hz0 hz1 hz2 rfl (by decide) _ _ _ rfl (World.ownsRow_made w #[] 0 (Nat.le_refl _) (Nat.zero_le _) (by simp)) ad n c news rfl ?qc1 ?qc2 ?qc3 ?qc4 ?qc5 ?qc6 ?_)
  case qc1 => exact hl
  case qc2 =>
    intro j u hj
    exact Lib.cell?_alloc_some _ (A.out j u hj)
  case qc3 => exact h1
  case qc4 => rw [Nat.zero_add]; exact hn
  case qc5 => rw [Nat.zero_add]; exact hbig
  case qc6 => simp
  intro v' w1 hown hgrow hnil
  go_wp2
  go_ret
  refine ⟨v', rfl, by simpa using hown, ?_, ?_⟩
  · simpa using hnil
  · exact ((Below.refl _ w).alloc (Nat.le_refl _) _).grown hgrow (by simp) (by intro k hk; simp [Value.ownBlock] at hk; omega)
set_option maxHeartbeats 1000000 in
theorem cloneT_nil (n c : Nat) (w : World) : Calls Tryz.prog 83 #[.slice none n c] w fun e w' => e = .returned (.slice none 0 0) ∧ w' = w := by
  have q : ∀ (w : World) (a : Option Addr) (n c n' c' : Nat), (binOp .eql 22 (.slice a n c) (.slice none n' c')).run Tryz.prog w = .ok (.bool a.isNone) w := fun w a n c n' c' => Lib.run_eql_slice_nil w _ _ a n c n' c' Tryz.underlying22
  go_enter Tryz.func83, Tryz.ntmps83
  go_wp2
  go_ret
  exact ⟨rfl, rfl⟩
/-- A clone: where it lies, what it holds. -/
theorem cloneT_any (t : Option Addr) (n c : Nat) (w : World) (hn : n ≤ maxLen) (hbig : n * 72 ≤ 140737488355328) (ht : n = 0 ∨ ∃ b off, t = some ⟨b, off, none⟩ ∧ ∀ j, j < n * 8 → ∃ u, w.cell? ⟨b, off + j, none⟩ = some u ∧ u.oneCell' = true) :
    Calls Tryz.prog 83 #[.slice t n c] w (CloneP 8 n t w) := by
  cases t with
  | none =>
    rcases ht with rfl | ⟨_, _, h, _⟩
    · exact (cloneT_nil 0 c w).mono fun e w' ⟨he, hw⟩ => ⟨none, 0, he, by rw [hw]; exact Below.refl _ _, .inl rfl⟩
    · cases h
  | some ad =>
    rcases ht with rfl | ⟨b, off, h, hc⟩
    · refine (cloneT_at ad 0 c [] w rfl (Nat.zero_le _) (by omega) (fun j u h => by simp at h) (fun u h => by simp at h)).mono ?_
      rintro e w' ⟨v', rfl, hown, _, hb⟩
      obtain ⟨a', c', rfl⟩ := slice_of_owns hown
      exact ⟨a', c', rfl, hb, .inl rfl⟩
    · obtain rfl : ad = ⟨b, off, none⟩ := Option.some.inj h
      refine (cloneT_at ⟨b, off, none⟩ n c ((List.range (n * 8)).map fun j => (w.cell? ⟨b, off + j, none⟩).getD default) w (by simp) hn hbig (fun j u hj => ?_) (fun u hu => ?_)).mono ?_
      · rw [Addr.add_lit]
        obtain ⟨hlt, hj⟩ := List.getElem?_eq_some_iff.1 hj
        simp only [List.length_map, List.length_range] at hlt
        obtain ⟨u', hu', _⟩ := hc j hlt
        simp only [List.getElem_map, List.getElem_range, hu', Option.getD_some] at hj
        rw [hu', hj]
      · obtain ⟨j, hj, rfl⟩ := List.mem_map.1 hu
        obtain ⟨u', hu', h1⟩ := hc j (List.mem_range.1 hj)
        rw [hu']
        exact h1
      · rintro e w' ⟨v', rfl, hown, hnn, hb⟩
        obtain ⟨g, cap, rfl, hg, hlt, hfz, hce⟩ := row_of_owns hown hnn
        refine ⟨_, cap, rfl, hb, .inr ⟨g, b, off, rfl, rfl, hg, hlt, hfz, fun j hj => ?_⟩⟩
        obtain ⟨u', hu', _⟩ := hc j hj
        rw [hce j (by simpa using hj)]
        simp [hj, hu']

end Go.Proofs.YtddleeenlpigfaaGreatDoor
