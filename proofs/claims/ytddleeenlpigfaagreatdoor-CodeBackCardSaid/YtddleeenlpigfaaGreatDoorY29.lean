/- Me, Bh, Bi, Bj -/
import Derived.Test.YtddleeenlpigfaaGreatDoorY20
import Derived.Test.YtddleeenlpigfaaGreatDoorY28
/- PLAIN MATHEMATICS of values: the meet does not hang on which comes first. -/
namespace Go.Proofs.YtddleeenlpigfaaGreatDoor
section
variable {n l : Nat} {g : List Tm → List Tm → Int × List Tm} {s t : Tm}
end
end Go.Proofs.YtddleeenlpigfaaGreatDoor
/- A VALUE IN MEMORY, in such blocks as P lets; what meet and common answer. -/
namespace Go.Proofs.YtddleeenlpigfaaGreatDoor
open Go.RowKit
/-- Fields in such blocks as P lets. -/
def InFP (P : Nat → Prop) (I : Option Addr → Nat → Nat → List Tm → Prop) (w : World) (f : Option Addr) (fl : Nat) (fs : List (ByteArray × List Tm)) : Prop :=
  fs.length = fl ∧ (fl : Int) ≤ 9223372036854775807 ∧ ∀ i (h : i < fs.length), ∃ (b off tl tc : Nat) (t : Option Addr), f = some ⟨b, off, none⟩ ∧ P b ∧ b < w.heap.size ∧ w.cell? ⟨b, off + i * 2, none⟩ = some (.string fs[i].1) ∧ w.cell? ⟨b, off + i * 2 + 1, none⟩ = some (.slice t tl tc) ∧ I t tl tc fs[i].2
/-- A term's cells, its fields in such blocks. -/
def InTP (P : Nat → Prop) (I : Option Addr → Nat → Nat → List Tm → Prop) (w : World) (b off : Nat) : Tm → Prop
  | .mk k lo hi s y m o fs => ∃ (f : Option Addr) (fl fc : Nat), w.cell? ⟨b, off, none⟩ = some (.int .i64 k) ∧ w.cell? ⟨b, off + 1, none⟩ = some (.int .i64 lo) ∧ w.cell? ⟨b, off + 2, none⟩ = some (.int .i64 hi) ∧ w.cell? ⟨b, off + 3, none⟩ = some (.string s) ∧
    w.cell? ⟨b, off + 4, none⟩ = some (.bool y) ∧ w.cell? ⟨b, off + 5, none⟩ = some (.bool m) ∧ w.cell? ⟨b, off + 6, none⟩ = some (.bool o) ∧ w.cell? ⟨b, off + 7, none⟩ = some (.slice f fl fc) ∧ InFP P I w f fl fs
/-- A value in such blocks, so deep at most. -/
def InVP (P : Nat → Prop) (w : World) : Nat → Option Addr → Nat → Nat → List Tm → Prop
  | 0, _, _, _, _ => False
  | n + 1, t, tl, _, V => V.length = tl ∧ (tl : Int) ≤ 9223372036854775807 ∧ ∀ i (h : i < V.length), ∃ b off : Nat, t = some ⟨b, off, none⟩ ∧ P b ∧ b < w.heap.size ∧ InTP P (fun t tl tc V => InVP P w n t tl tc V) w b (off + i * 8) V[i]
/-- From one world to another one in which its blocks are as they were. -/
theorem InFP.to {P Q : Nat → Prop} {I J : Option Addr → Nat → Nat → List Tm → Prop} {w w' : World} (hs : w.heap.size ≤ w'.heap.size) (hP : ∀ b, P b → b < w.heap.size → Q b ∧ w'.heap[b]? = w.heap[b]?) (hIJ : ∀ t tl tc V, I t tl tc V → J t tl tc V) {f : Option Addr} {fl : Nat} {fs : List (ByteArray × List Tm)} (h : InFP P I w f fl fs) : InFP Q J w' f fl fs := by
  refine ⟨h.1, h.2.1, fun i hi => ?_⟩
  obtain ⟨b, off, tl, tc, t, e, hp, lt, c0, c1, h2⟩ := h.2.2 i hi
  obtain ⟨hq, hh⟩ := hP b hp lt
  exact ⟨b, off, tl, tc, t, e, hq, Nat.lt_of_lt_of_le lt hs, (cell_of_heap hh _).trans c0, (cell_of_heap hh _).trans c1, hIJ _ _ _ _ h2⟩
theorem InTP.to' {P Q : Nat → Prop} {I J : Option Addr → Nat → Nat → List Tm → Prop} {w w' : World} {b b' off off' : Nat} (hs : w.heap.size ≤ w'.heap.size) (hP : ∀ b, P b → b < w.heap.size → Q b ∧ w'.heap[b]? = w.heap[b]?) (hIJ : ∀ t tl tc V, I t tl tc V → J t tl tc V) (hc : ∀ r, r < 8 → w'.cell? ⟨b', off' + r, none⟩ = w.cell? ⟨b, off + r, none⟩) {x : Tm} (h : InTP P I w b off x) : InTP Q J w' b' off' x := by
  obtain ⟨k, lo, hi, s, y, m, o, fs⟩ := x
  obtain ⟨f, fl, fc, c0, c1, c2, c3, c4, c5, c6, c7, hf⟩ := h
  exact ⟨f, fl, fc, (hc 0 (by omega)).trans c0, (hc 1 (by omega)).trans c1, (hc 2 (by omega)).trans c2, (hc 3 (by omega)).trans c3, (hc 4 (by omega)).trans c4, (hc 5 (by omega)).trans c5, (hc 6 (by omega)).trans c6, (hc 7 (by omega)).trans c7, hf.to hs hP hIJ⟩
theorem InVP.to {P Q : Nat → Prop} {w w' : World} (hs : w.heap.size ≤ w'.heap.size) (hP : ∀ b, P b → b < w.heap.size → Q b ∧ w'.heap[b]? = w.heap[b]?) : ∀ {n : Nat} {t : Option Addr} {tl tc : Nat} {V : List Tm}, InVP P w n t tl tc V → InVP Q w' n t tl tc V
  | 0, _, _, _, _, h => h.elim
  | n + 1, t, tl, tc, V, h => ⟨h.1, h.2.1, fun i hi => by
      obtain ⟨b, off, e, hp, lt, h2⟩ := h.2.2 i hi
      obtain ⟨hq, hh⟩ := hP b hp lt
      exact ⟨b, off, e, hq, Nat.lt_of_lt_of_le lt hs, InTP.to' hs hP (fun t tl tc V h => InVP.to hs hP h) (fun r _ => cell_of_heap hh _) h2⟩⟩
theorem InVP.below {P : Nat → Prop} {w w' : World} (hb : Below w.heap.size w w') {n : Nat} {t : Option Addr} {tl tc : Nat} {V : List Tm} (h : InVP P w n t tl tc V) : InVP P w' n t tl tc V :=
  h.to hb.size fun b hp lt => ⟨hp, hb.block b lt⟩
theorem InVP.imp {P Q : Nat → Prop} {w : World} (hP : ∀ b, P b → b < w.heap.size → Q b) {n : Nat} {t : Option Addr} {tl tc : Nat} {V : List Tm} (h : InVP P w n t tl tc V) : InVP Q w n t tl tc V :=
  h.to (Nat.le_refl _) fun b hp lt => ⟨hP b hp lt, rfl⟩
theorem InFP.inF {P : Nat → Prop} {I J : Option Addr → Nat → Nat → List Tm → Prop} (hIJ : ∀ t tl tc V, I t tl tc V → J t tl tc V) {w : World} {f : Option Addr} {fl : Nat} {fs : List (ByteArray × List Tm)} (h : InFP P I w f fl fs) : InF J w f fl fs := by
  refine ⟨h.1, h.2.1, fun i hi => ?_⟩
  obtain ⟨b, off, tl, tc, t, e, hp, lt, c0, c1, h2⟩ := h.2.2 i hi
  exact ⟨b, off, tl, tc, t, e, lt, c0, c1, hIJ _ _ _ _ h2⟩
/-- It lies in the world. -/
theorem InVP.inV {P : Nat → Prop} {w : World} : ∀ {n : Nat} {t : Option Addr} {tl tc : Nat} {V : List Tm}, InVP P w n t tl tc V → InV w n t tl tc V
  | 0, _, _, _, _, h => h.elim
  | n + 1, t, tl, tc, V, h => ⟨h.1, h.2.1, fun i hi => by
      obtain ⟨b, off, e, hp, lt, h2⟩ := h.2.2 i hi
      refine ⟨b, off, e, ?_⟩
      generalize V[i] = x at h2
      obtain ⟨k, lo, hi, s, y, m, o, fs⟩ := x
      obtain ⟨f, fl, fc, c0, c1, c2, c3, c4, c5, c6, c7, hf⟩ := h2
      exact ⟨lt, f, fl, fc, c0, c1, c2, c3, c4, c5, c6, c7, hf.inF fun t tl tc V h => InVP.inV h⟩⟩
theorem InVP.up {P : Nat → Prop} {w : World} : ∀ {n : Nat} {t : Option Addr} {tl tc : Nat} {V : List Tm}, InVP P w n t tl tc V → InVP P w (n + 1) t tl tc V
  | 0, _, _, _, _, h => h.elim
  | n + 1, t, tl, tc, V, h => ⟨h.1, h.2.1, fun i hi => by
      obtain ⟨b, off, e, hp, lt, h2⟩ := h.2.2 i hi
      exact ⟨b, off, e, hp, lt, InTP.to' (Nat.le_refl _) (fun b hp _ => ⟨hp, rfl⟩) (fun t tl tc V h => InVP.up h) (fun _ _ => rfl) h2⟩⟩
/-- No terms lie anywhere. -/
theorem InVP.none {P : Nat → Prop} (w : World) (n : Nat) (t : Option Addr) (tc : Nat) : InVP P w (n + 1) t 0 tc [] := ⟨rfl, by omega, fun i h => absurd h (Nat.not_lt_zero _)⟩

theorem InV.inVP {w : World} : ∀ {n : Nat} {t : Option Addr} {tl tc : Nat} {V : List Tm}, InV w n t tl tc V → InVP (· < w.heap.size) w n t tl tc V
  | 0, _, _, _, _, h => h.elim
  | n + 1, t, tl, tc, V, h => ⟨h.1, h.2.1, fun i hi => by
      obtain ⟨b, off, e, h2⟩ := h.2.2 i hi
      refine ⟨b, off, e, ?_⟩
      generalize V[i] = x at h2
      obtain ⟨k, lo, hi, s, y, m, o, fs⟩ := x
      obtain ⟨lt, f, fl, fc, c0, c1, c2, c3, c4, c5, c6, c7, hf⟩ := h2
      refine ⟨lt, lt, f, fl, fc, c0, c1, c2, c3, c4, c5, c6, c7, hf.1, hf.2.1, fun i hi => ?_⟩
      obtain ⟨b, off, tl, tc, t, e, lt, c0, c1, h2⟩ := hf.2.2 i hi
      exact ⟨b, off, tl, tc, t, e, lt, lt, c0, c1, InV.inVP h2⟩⟩
theorem InTP.inT {P : Nat → Prop} {I J : Option Addr → Nat → Nat → List Tm → Prop} (hIJ : ∀ t tl tc V, I t tl tc V → J t tl tc V) {w : World} {b off : Nat} {x : Tm} (hb : b < w.heap.size) (h : InTP P I w b off x) : InT J w b off x := by
  obtain ⟨k, lo, hi, s, y, m, o, fs⟩ := x
  obtain ⟨f, fl, fc, c0, c1, c2, c3, c4, c5, c6, c7, hf⟩ := h
  exact ⟨hb, f, fl, fc, c0, c1, c2, c3, c4, c5, c6, c7, hf.inF hIJ⟩
/-- A header's fields lie in such blocks. -/
def Hr.okP (P : Nat → Prop) (n : Nat) (w : World) (h : Hr) : Prop := InFP P (fun t tl tc V => InVP P w n t tl tc V) w h.f h.fl h.x.fs
theorem Hr.okP.to {P Q : Nat → Prop} {n : Nat} {w w' : World} {h : Hr} (hs : w.heap.size ≤ w'.heap.size) (hP : ∀ b, P b → b < w.heap.size → Q b ∧ w'.heap[b]? = w.heap[b]?) (k : h.okP P n w) : h.okP Q n w' := InFP.to hs hP (fun _ _ _ _ h => InVP.to hs hP h) k
theorem Hr.okP.below {P : Nat → Prop} {n : Nat} {w w' : World} {h : Hr} (hb : Below w.heap.size w w') (k : h.okP P n w) : h.okP P n w' := k.to hb.size fun b hp lt => ⟨hp, hb.block b lt⟩
theorem Hr.okP.ok {P : Nat → Prop} {n : Nat} {w : World} {h : Hr} (k : h.okP P n w) : h.ok n w := InFP.inF (fun _ _ _ _ h => InVP.inV h) k
/-- What common answers. -/
def ComP (P : Nat → Prop) (n : Nat) (r : Int × List Tm) (w : World) (e : Ending) (w' : World) : Prop :=
  ∃ (a : Option Addr) (tl cap : Nat), e = .returned (.tuple #[.slice a tl cap, .int .i64 r.1]) ∧ Below w.heap.size w w' ∧ ((r.2 = [] ∧ a = none ∧ tl = 0 ∧ cap = 0) ∨ ∃ (g : Nat) (h : Hr), r.2 = [h.x] ∧ tl = 1 ∧ a = some ⟨g, 0, none⟩ ∧ g < w'.heap.size ∧ T8 w' g 0 h ∧ h.okP (fun b => P b ∨ w.heap.size ≤ b) n w')
/-- A right value, of whatever depth. -/
def Rw (n : Nat) (A : List Tm) : Prop := RvN n A ∧ wN n A ≤ 512
end Go.Proofs.YtddleeenlpigfaaGreatDoor
/- WALK of commonStruct. -/
namespace Go.Proofs.YtddleeenlpigfaaGreatDoor
open Go.RowKit
/-- A field's value lies in such blocks. -/
abbrev Fh.okP (P : Nat → Prop) (n : Nat) (w : World) (h : Fh) : Prop := InVP P w n h.t h.tl h.tc h.V
/-- Between two fields: c is the row as it stands. -/
structure CInvF (P : Nat → Prop) (n : Nat) (x y : Tm) (d : List Fh) (w wr : World) (a : Option Addr) (k : Nat) (c : List Fh) : Prop where
  old : Below w.heap.size w wr
  len : c.length = d.length
  rest : ∀ j (h : j < c.length) (h' : j < d.length), k ≤ j → c[j] = d[j]
  done : ∀ j (h : j < c.length) (h' : j < d.length), j < k → cm1 (meetV n) x.fs y.fs d[j].f = (0, some c[j].f)
  row : c = [] ∨ ∃ g, a = some ⟨g, 0, none⟩ ∧ w.heap.size ≤ g ∧ RowF wr g c ∧ ∀ z ∈ c, z.okP (fun b => P b ∨ (w.heap.size ≤ b ∧ b ≠ g)) n wr
theorem CInvF.below {P : Nat → Prop} {n : Nat} {x y : Tm} {d : List Fh} {w wr w' : World} {a : Option Addr} {k : Nat} {c : List Fh} (h : CInvF P n x y d w wr a k c) (hb : Below wr.heap.size wr w') : CInvF P n x y d w w' a k c :=
  ⟨bl_step h.old hb, h.len, h.rest, h.done, by
    rcases h.row with h | ⟨g, e, hg, hr, hok⟩
    · exact .inl h
    · exact .inr ⟨g, e, hg, hr.below hb, fun z hz => (hok z hz).below hb⟩⟩
/-- A field that stays as it is. -/
theorem CInvF.skip {P : Nat → Prop} {n : Nat} {x y : Tm} {d : List Fh} {w wr : World} {a : Option Addr} {k : Nat} {c : List Fh} (h : CInvF P n x y d w wr a k c) (hk : k < d.length) (h1 : cm1 (meetV n) x.fs y.fs d[k].f = (0, some d[k].f)) : CInvF P n x y d w wr a (k + 1) c :=
  ⟨h.old, h.len, fun j hj hj' hk' => h.rest j hj hj' (by omega), fun j hj hj' hk' => by
    by_cases e : j = k
    · subst e; rw [h.rest j hj hj' (Nat.le_refl _)]; exact h1
    · exact h.done j hj hj' (by omega), h.row⟩
/-- A field whose value is stored. -/
theorem CInvF.store {P : Nat → Prop} {n : Nat} {x y : Tm} {d : List Fh} {w wr : World} {g : Nat} {k : Nat} {c : List Fh} (hP : ∀ b, P b → b < w.heap.size) (h : CInvF P n x y d w wr (some ⟨g, 0, none⟩) k c) (hk : k < d.length) {t : Option Addr} {tl tc : Nat} {V : List Tm} {Q : Nat → Prop}
    (hQ : ∀ b, Q b → P b ∨ (w.heap.size ≤ b ∧ b ≠ g)) (hV : InVP Q wr n t tl tc V) (h1 : cm1 (meetV n) x.fs y.fs d[k].f = (0, some (d[k].nm, V))) :
    CInvF P n x y d w (wr.setCell ⟨g, k * 2 + 1, none⟩ (.slice t tl tc)) (some ⟨g, 0, none⟩) (k + 1) (c.set k ⟨d[k].nm, V, t, tl, tc⟩) := by
  have hkc : k < c.length := by rw [h.len]; exact hk
  rcases h.row with h0 | ⟨g', e, hg, hr, hok⟩
  · rw [h0] at hkc; exact absurd hkc (by simp)
  · cases e
    have hset : ∀ b, b ≠ g → (wr.setCell ⟨g, k * 2 + 1, none⟩ (.slice t tl tc)).heap[b]? = wr.heap[b]? := fun b hb => set_heap hb
    refine ⟨bl_set h.old hg, by rw [List.length_set]; exact h.len, fun j hj hj' hkj => ?_, fun j hj hj' hkj => ?_, .inr ⟨g, rfl, hg, ⟨by rw [set_size]; exact hr.1, fun o => by rw [World.frozen?_setCell]; exact hr.2.1 o, fun j hj => ?_⟩, fun z hz => ?_⟩⟩
    · rw [List.getElem_set_ne (by omega)]; exact h.rest j (by simpa using hj) hj' (by omega)
    · by_cases ej : j = k
      · subst ej; rw [List.getElem_set_self]; exact h1
      · rw [List.getElem_set_ne (by omega)]; exact h.done j (by simpa using hj) hj' (by omega)
    · have hj2 : j < c.length := by simpa using hj
      obtain ⟨r0, r1⟩ := hr.2.2 j hj2
      by_cases ej : j = k
      · subst ej
        rw [List.getElem_set_self]
        have hn : c[j].nm = d[j].nm := by rw [h.rest j hj2 hk (Nat.le_refl _)]
        exact ⟨by rw [set_far (.inr (by omega)), ← hn]; exact r0, set_here r1⟩
      · rw [List.getElem_set_ne (by omega)]
        exact ⟨by rw [set_far (.inr (by omega))]; exact r0, by rw [set_far (.inr (by omega))]; exact r1⟩
    · rcases List.mem_or_eq_of_mem_set hz with hz | rfl
      · exact (hok z hz).to (Nat.le_of_eq set_size.symm) fun b hb _ => ⟨hb, hset b (hb.elim (fun hb => by have := hP b hb; omega) (fun hb => hb.2))⟩
      · exact InVP.to (Nat.le_of_eq set_size.symm) (fun b hb _ => ⟨hQ b hb, hset b ((hQ b hb).elim (fun hb => by have := hP b hb; omega) (fun hb => hb.2))⟩) hV
/-- All fields done: a struct's. -/
theorem CInvF.inF {P : Nat → Prop} {n : Nat} {x y : Tm} {d : List Fh} {w wr : World} {a : Option Addr} {c : List Fh} {k : Nat} (h : CInvF P n x y d w wr a k c) (hz : (d.length : Int) ≤ 9223372036854775807) : InFP (fun b => P b ∨ w.heap.size ≤ b) (fun t tl tc V => InVP (fun b => P b ∨ w.heap.size ≤ b) wr n t tl tc V) wr a d.length (c.map Fh.f) := by
  refine ⟨by rw [List.length_map]; exact h.len, hz, fun i hi => ?_⟩
  have hi' : i < c.length := by simpa using hi
  rcases h.row with h0 | ⟨g, e, hg, hr, hok⟩
  · rw [h0] at hi'; exact absurd hi' (by simp)
  · obtain ⟨r0, r1⟩ := hr.2.2 i hi'
    simp only [List.getElem_map]
    exact ⟨g, 0, c[i].tl, c[i].tc, c[i].t, e, .inr hg, hr.1, by rw [Nat.zero_add]; exact r0, by rw [Nat.zero_add]; exact r1, InVP.imp (fun b hb _ => hb.elim .inl (fun hb => .inr hb.1)) (hok _ (List.getElem_mem hi'))⟩
theorem CInvF.fine {P : Nat → Prop} {n : Nat} {x y : Tm} {d : List Fh} {w wr : World} {a : Option Addr} {c : List Fh} (h : CInvF P n x y d w wr a d.length c) (hd : d.map Fh.f = uni x.fs y.fs) : cmL (meetV n) x.fs y.fs (uni x.fs y.fs) = (0, some (c.map Fh.f)) := by
  rw [← hd]
  refine cmL_ok (by simp [h.len]) fun j hj hj' => ?_
  simp only [List.getElem_map]
  exact h.done j (by simpa using hj') (by simpa using hj) (by simpa using hj)
end Go.Proofs.YtddleeenlpigfaaGreatDoor
/- WALK of common. -/
namespace Go.Proofs.YtddleeenlpigfaaGreatDoor
open Go.RowKit
abbrev Sc.v (c : Sc) (f : Option Addr) (fc : Nat) : Value := tv c.k c.lo c.hi c.s c.y c.m false f 0 fc
/-- A header in a box. -/
theorem T8.box (w : World) (h : Hr) (t : TypeId) : T8 (w.alloc (.cells #[.int .i64 h.x.k, .int .i64 h.x.lo, .int .i64 h.x.hi, .string h.x.s, .bool h.x.y, .bool h.x.m, .bool h.x.o, .slice h.f h.fl h.fc] t)) w.heap.size 0 h := by
  refine ⟨?_, ?_, ?_, ?_, ?_, ?_, ?_, ?_⟩ <;> simp [go_sem]
theorem T8.at (w : World) (h : Hr) (t : TypeId) {g : Nat} (hg : w.heap.size = g) : T8 (w.alloc (.cells #[.int .i64 h.x.k, .int .i64 h.x.lo, .int .i64 h.x.hi, .string h.x.s, .bool h.x.y, .bool h.x.m, .bool h.x.o, .slice h.f h.fl h.fc] t)) g 0 h := hg ▸ T8.box w h t
theorem Hr.okP.wide {P : Nat → Prop} {n : Nat} {w w' : World} {h : Hr} (hb : Below w.heap.size w w') (k : h.okP P n w) : h.okP (fun b => P b ∨ w.heap.size ≤ b) n w' := k.to hb.size fun b hp lt => ⟨.inl hp, hb.block b lt⟩
theorem ComP.wide {P : Nat → Prop} {n : Nat} {r : Int × List Tm} {w W : World} {e : Ending} {w' : World} (hb : Below w.heap.size w W) (h : ComP P n r W e w') : ComP P n r w e w' := by
  obtain ⟨a, tl, cap, he, hB, hx⟩ := h
  refine ⟨a, tl, cap, he, bl_step hb hB, ?_⟩
  rcases hx with h | ⟨g, h, h1, h2, h3, h4, h5, h6⟩
  · exact .inl h
  · exact .inr ⟨g, h, h1, h2, h3, h4, h5, h6.to (Nat.le_refl _) fun b hp _ => ⟨hp.imp id fun hp => Nat.le_trans hb.size hp, rfl⟩⟩
end Go.Proofs.YtddleeenlpigfaaGreatDoor
