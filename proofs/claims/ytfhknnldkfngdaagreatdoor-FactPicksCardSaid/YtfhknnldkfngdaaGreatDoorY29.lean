/- Me, Bh, Bi, Bj, Bk, Bl, Bm, Bn, Bo -/
import Derived.Laws.AppendOwnNone
import Derived.Lib.AppendZeros
import Derived.OwnWalk
import Derived.Laws.OwnMore
import Derived.Test.YtfhknnldkfngdaaGreatDoorY19
import Derived.Test.YtfhknnldkfngdaaGreatDoorY20
import Derived.Test.YtfhknnldkfngdaaGreatDoorY28
/- PLAIN MATHEMATICS of values: the meet does not hang on which comes first. -/
namespace Go.Proofs.YtfhknnldkfngdaaGreatDoor
theorem cmL_eq {g : List Tm → List Tm → Int × List Tm} {fs gs fs2 gs2 : List Fd} : ∀ {u v : List Fd}, u.length = v.length → (∀ j (h : j < u.length) (h' : j < v.length), cm1 g fs gs u[j] = cm1 g fs2 gs2 v[j]) → cmL g fs gs u = cmL g fs2 gs2 v
  | [], [], _, _ => rfl
  | [], _ :: _, h, _ => by simp at h
  | _ :: _, [], h, _ => by simp at h
  | f :: u, f2 :: v, h, hh => by
    have h0 := hh 0 (by simp) (by simp)
    simp only [List.getElem_cons_zero] at h0
    have ih := cmL_eq (g := g) (fs := fs) (gs := gs) (fs2 := fs2) (gs2 := gs2) (u := u) (v := v) (by simpa using h) (fun j h1 h2 => hh (j + 1) (by simpa using h1) (by simpa using h2))
    simp only [cmL, h0, ih]
theorem names_up {fs : List Fd} (h : Up fs) : (fs.map (·.1)).Pairwise fun a b => Op.bytesLess a.toList b.toList = true := by rw [List.pairwise_map]; exact h
theorem uni_names {fs gs : List Fd} (hf : Up fs) (hg : Up gs) : (uni fs gs).map (·.1) = (uni gs fs).map (·.1) := by
  refine pw_ext (r := fun a b : ByteArray => Op.bytesLess a.toList b.toList = true) (fun _ _ => less_asym) (names_up (uni_up hf hg)) (names_up (uni_up hg hf)) fun k => ?_
  have one : ∀ {fs gs : List Fd} {k : ByteArray}, k ∈ (uni fs gs).map (·.1) → k ∈ (uni gs fs).map (·.1) := fun {fs gs k} h => by
    obtain ⟨f, hf, rfl⟩ := List.mem_map.1 h
    rcases uni_mem.1 hf with h | ⟨h, _⟩
    · obtain ⟨f2, hf2, e⟩ := uni_name (fs := gs) h
      exact List.mem_map.2 ⟨f2, hf2, e⟩
    · exact List.mem_map.2 ⟨f, uni_left h, rfl⟩
  exact ⟨one, one⟩
section
variable {n l : Nat} {g : List Tm → List Tm → Int × List Tm} {s t : Tm}
theorem comS_comm (hc : ∀ {V W : List Tm}, RV n l V → RV n l W → g V W = g W V) (gs : Gt n l s) (gt : Gt n l t) (s4 : s.k = 4) (t4 : t.k = 4) : comS g s t = comS g t s := by
  have us := gt_up gs s4
  have ut := gt_up gt t4
  have hl : (uni s.fs t.fs).length = (uni t.fs s.fs).length := by have := congrArg List.length (uni_names us ut); simpa using this
  have : cmL g s.fs t.fs (uni s.fs t.fs) = cmL g t.fs s.fs (uni t.fs s.fs) := cmL_eq hl fun j h h' => by
    have en : (uni s.fs t.fs)[j].1 = (uni t.fs s.fs)[j].1 := by
      have := congrArg (fun L => L[j]?) (uni_names us ut)
      simpa [h, h'] using this
    have m1 := uni_mem.1 (List.getElem_mem h)
    have m2 := uni_mem.1 (List.getElem_mem h')
    generalize (uni s.fs t.fs)[j] = f1 at *
    generalize (uni t.fs s.fs)[j] = f2 at *
    obtain ⟨k, V1⟩ := f1
    obtain ⟨k2, V2⟩ := f2
    simp only at en m1 m2
    subst en
    unfold cm1
    simp only
    cases e1 : findF s.fs k with
    | none =>
      cases e2 : findF t.fs k with
      | none =>
        rcases m1 with h | ⟨h, _⟩
        · exact absurd e1 (by rw [(findF_up us).2 h]; simp)
        · exact absurd e2 (by rw [(findF_up ut).2 h]; simp)
      | some W =>
        have a1 : (k, V1) ∈ t.fs := by
          rcases m1 with h | ⟨h, _⟩
          · exact absurd e1 (by rw [(findF_up us).2 h]; simp)
          · exact h
        have a2 : (k, V2) ∈ t.fs := by
          rcases m2 with h | ⟨h, _⟩
          · exact h
          · exact absurd e1 (by rw [(findF_up us).2 h]; simp)
        rw [up_one ut a1 a2]
    | some V =>
      cases e2 : findF t.fs k with
      | none =>
        have a1 : (k, V1) ∈ s.fs := by
          rcases m1 with h | ⟨h, _⟩
          · exact h
          · exact absurd e2 (by rw [(findF_up ut).2 h]; simp)
        have a2 : (k, V2) ∈ s.fs := by
          rcases m2 with h | ⟨h, _⟩
          · exact absurd e2 (by rw [(findF_up ut).2 h]; simp)
          · exact h
        rw [up_one us a1 a2]
      | some W =>
        simp only
        rw [hc (gt_f gs ((findF_up us).1 e1)).2.1 (gt_f gt ((findF_up ut).1 e2)).2.1]
  unfold comS
  rw [this, Bool.or_comm, Bool.and_comm s.o t.o]
theorem comT_comm (hc : ∀ {V W : List Tm}, RV n l V → RV n l W → g V W = g W V) (gs : Gt n l s) (gt : Gt n l t) : comT g s t = comT g t s := by
  unfold comT
  by_cases s5 : s.k = 5
  · by_cases t5 : t.k = 5
    · rw [if_pos s5, if_pos t5, gt_five gs s5, gt_five gt t5]
    · rw [if_pos s5, if_neg t5, if_pos s5]
  · by_cases t5 : t.k = 5
    · rw [if_neg s5, if_pos t5, if_pos t5]
    · rw [if_neg s5, if_neg t5, if_neg t5, if_neg s5]
      by_cases h4 : s.k = 4 ∧ t.k = 4
      · rw [if_pos h4, if_pos ⟨h4.2, h4.1⟩]; exact comS_comm hc gs gt h4.1 h4.2
      · rw [if_neg h4, if_neg (fun c => h4 ⟨c.2, c.1⟩)]
        have : scM s t = scM t s := by
          unfold scM
          by_cases h : scR s ∧ scR t
          · rw [if_pos h, if_pos ⟨h.2, h.1⟩, meet_comm (scR_R h.1) (scR_R h.2)]
          · rw [if_neg h, if_neg (fun c => h ⟨c.2, c.1⟩)]
        rw [this]
end
theorem meet_comm_v : ∀ {n l : Nat} {A B : List Tm}, RV n l A → RV n l B → meetV n A B = meetV n B A
  | 0, _, _, _, h, _ => by unfold RV at h; exact h.elim
  | n + 1, 0, _, _, h, _ => by unfold RV at h; exact h.elim
  | n + 1, l + 1, A, B, hA, hB => by
    have hg := meet_good n l
    have hc : ∀ p, p ∈ prs A B ↔ (p.2, p.1) ∈ prs B A := fun p => by rw [mem_prs, mem_prs]; exact and_comm
    have he : ∀ p ∈ prs A B, comT (meetV n) p.1 p.2 = comT (meetV n) p.2 p.1 := fun p hp => by
      obtain ⟨ha, hb⟩ := mem_prs.1 hp
      exact comT_comm (fun h1 h2 => meet_comm_v h1 h2) (hA.1 _ ha) (hB.1 _ hb)
    have hset : ∀ x, x ∈ ((prs A B).flatMap fun p => (comT (meetV n) p.1 p.2).2) ↔ x ∈ ((prs B A).flatMap fun p => (comT (meetV n) p.1 p.2).2) := fun x => by
      rw [List.mem_flatMap, List.mem_flatMap]
      constructor
      · rintro ⟨p, hp, hx⟩
        exact ⟨(p.2, p.1), (hc p).1 hp, by rw [he p hp] at hx; exact hx⟩
      · rintro ⟨p, hp, hx⟩
        have hp' : (p.2, p.1) ∈ prs A B := (hc (p.2, p.1)).2 hp
        exact ⟨(p.2, p.1), hp', by rw [he _ hp']; exact hx⟩
    have herr : (∀ p ∈ prs A B, (comT (meetV n) p.1 p.2).1 = 0) ↔ (∀ p ∈ prs B A, (comT (meetV n) p.1 p.2).1 = 0) := by
      constructor
      · intro h p hp
        have hp' : (p.2, p.1) ∈ prs A B := (hc (p.2, p.1)).2 hp
        have := h _ hp'
        rw [he _ hp'] at this; exact this
      · intro h p hp
        have := h (p.2, p.1) ((hc p).1 hp)
        rw [he p hp]; exact this
    by_cases h0 : ∀ p ∈ prs A B, (comT (meetV n) p.1 p.2).1 = 0
    · have i1 := (in_pairs hg hA.1 hB.1 h0).1
      have hn := norm_set (n := n) (fun x hx => gt_dt (i1 x hx)) hset
      rcases meet_cases hg hA.1 hB.1 with ⟨e, h⟩ | ⟨e, h1, h2, h3⟩
      · rcases meet_cases hg hB.1 hA.1 with ⟨e', h'⟩ | ⟨e', h1', h2', h3'⟩
        · rw [e, e']
        · rcases h with h | ⟨p, hp, h⟩ | h
          · rw [Nat.mul_comm] at h1'; omega
          · exact absurd (h0 p hp) h
          · rw [hn] at h; omega
      · rcases meet_cases hg hB.1 hA.1 with ⟨e', h'⟩ | ⟨e', h1', h2', h3'⟩
        · rcases h' with h | ⟨p, hp, h⟩ | h
          · rw [Nat.mul_comm] at h1; omega
          · exact absurd (herr.1 h0 p hp) h
          · rw [hn] at h3; omega
        · rw [e, e', hn]
    · rcases meet_cases hg hA.1 hB.1 with ⟨e, h⟩ | ⟨e, h1, h2, h3⟩
      · rcases meet_cases hg hB.1 hA.1 with ⟨e', h'⟩ | ⟨e', h1', h2', h3'⟩
        · rw [e, e']
        · exact absurd (herr.2 h2') h0
      · exact absurd h2 h0
theorem join_comm_v {n l : Nat} {A B : List Tm} (hA : RV (n + 1) (l + 1) A) (hB : RV (n + 1) (l + 1) B) : joinV n A B = joinV n B A := by
  have hd : ∀ x ∈ A ++ B, Dt n x := fun x hx => by
    rcases List.mem_append.1 hx with h | h
    · exact gt_dt (hA.1 x h)
    · exact gt_dt (hB.1 x h)
  unfold joinV nrm
  rw [norm_set hd (M := B ++ A) fun x => by simp [or_comm]]
/-- A value is below another one just if their meet is it. -/
theorem below_meet {n l : Nat} {A B M : List Tm} (hA : RV (n + 1) (l + 1) A) (hB : RV (n + 1) (l + 1) B) (hM : RV (n + 1) (l + 1) M) (h : ∀ x, Gt n l x → (inV n M x ↔ inV n A x ∧ inV n B x)) : undV (n + 1) A B = true ↔ M = A := by
  rw [und_in hA hB]
  constructor
  · intro hu
    exact val_ext hM hA fun x gx => (h x gx).trans ⟨fun c => c.1, fun c => ⟨c, hu x gx c⟩⟩
  · rintro rfl x gx hx
    exact ((h x gx).1 hx).2
theorem below_join {n l : Nat} {A B J : List Tm} (hA : RV (n + 1) (l + 1) A) (hB : RV (n + 1) (l + 1) B) (hJ : RV (n + 1) (l + 1) J) (h : ∀ x, Gt n l x → (inV n J x ↔ inV n A x ∨ inV n B x)) : undV (n + 1) A B = true ↔ J = B := by
  rw [und_in hA hB]
  constructor
  · intro hu
    exact val_ext hJ hB fun x gx => (h x gx).trans ⟨fun c => c.elim (hu x gx) id, .inr⟩
  · rintro rfl x gx hx
    exact (h x gx).2 (.inl hx)
end Go.Proofs.YtfhknnldkfngdaaGreatDoor
/- A VALUE IN MEMORY, in such blocks as P lets; what meet and common answer. -/
namespace Go.Proofs.YtfhknnldkfngdaaGreatDoor
open Go.RowKit
/-- Fields in such blocks as P lets. -/
def InFP (P : Nat → Prop) (I : Option Addr → Nat → Nat → List Tm → Prop) (w : World) (f : Option Addr) (fl : Nat) (fs : List (ByteArray × List Tm)) : Prop :=
  fs.length = fl ∧ (fl : Int) ≤ 9223372036854775807 ∧ ∀ i (h : i < fs.length), ∃ (b off tl tc : Nat) (t : Option Addr), f = some ⟨b, off, none⟩ ∧ P b ∧ b < w.heap.size ∧ w.cell? ⟨b, off + i * 2, none⟩ = some (.string fs[i].1) ∧ w.cell? ⟨b, off + i * 2 + 1, none⟩ = some (.slice t tl tc) ∧ I t tl tc fs[i].2
/-- A term's cells, its fields in such blocks. -/
def InTP (P : Nat → Prop) (I : Option Addr → Nat → Nat → List Tm → Prop) (w : World) (b off : Nat) : Tm → Prop
  | .mk k lo hi s y m o fs => ∃ (f : Option Addr) (fl fc : Nat), w.cell? ⟨b, off, none⟩ = some (.int .i64 k) ∧ w.cell? ⟨b, off + 1, none⟩ = some (.int .i64 lo) ∧ w.cell? ⟨b, off + 2, none⟩ = some (.int .i64 hi) ∧ w.cell? ⟨b, off + 3, none⟩ = some (.string s) ∧
    w.cell? ⟨b, off + 4, none⟩ = some (.bool y) ∧ w.cell? ⟨b, off + 5, none⟩ = some (.bool m) ∧ w.cell? ⟨b, off + 6, none⟩ = some (.bool o) ∧ w.cell? ⟨b, off + 7, none⟩ = some (.slice f fl fc) ∧ InFP P I w f fl fs
/-- A value in such blocks, so deep at most. -/
def InVP (P : Nat → Prop) (w : World) : Nat → Option Addr → Nat → Nat → List Tm → Prop
  | 0, _, _, _, _ => False
  | n + 1, t, tl, _, V => V.length = tl ∧ (tl : Int) ≤ 9223372036854775807 ∧ ∀ i (h : i < V.length), ∃ b off : Nat, t = some ⟨b, off, none⟩ ∧ P b ∧ b < w.heap.size ∧ InTP P (fun t tl tc V => InVP P w n t tl tc V) w b (off + i * 8) V[i]
/-- From one world to another one in which its blocks are as they were. -/
theorem InFP.to {P Q : Nat → Prop} {I J : Option Addr → Nat → Nat → List Tm → Prop} {w w' : World} (hs : w.heap.size ≤ w'.heap.size) (hP : ∀ b, P b → b < w.heap.size → Q b ∧ w'.heap[b]? = w.heap[b]?) (hIJ : ∀ t tl tc V, I t tl tc V → J t tl tc V) {f : Option Addr} {fl : Nat} {fs : List (ByteArray × List Tm)} (h : InFP P I w f fl fs) : InFP Q J w' f fl fs := by
  refine ⟨h.1, h.2.1, fun i hi => ?_⟩
  obtain ⟨b, off, tl, tc, t, e, hp, lt, c0, c1, h2⟩ := h.2.2 i hi
  obtain ⟨hq, hh⟩ := hP b hp lt
  exact ⟨b, off, tl, tc, t, e, hq, Nat.lt_of_lt_of_le lt hs, (cell_of_heap hh _).trans c0, (cell_of_heap hh _).trans c1, hIJ _ _ _ _ h2⟩
theorem InTP.to' {P Q : Nat → Prop} {I J : Option Addr → Nat → Nat → List Tm → Prop} {w w' : World} {b b' off off' : Nat} (hs : w.heap.size ≤ w'.heap.size) (hP : ∀ b, P b → b < w.heap.size → Q b ∧ w'.heap[b]? = w.heap[b]?) (hIJ : ∀ t tl tc V, I t tl tc V → J t tl tc V) (hc : ∀ r, r < 8 → w'.cell? ⟨b', off' + r, none⟩ = w.cell? ⟨b, off + r, none⟩) {x : Tm} (h : InTP P I w b off x) : InTP Q J w' b' off' x := by
  obtain ⟨k, lo, hi, s, y, m, o, fs⟩ := x
  obtain ⟨f, fl, fc, c0, c1, c2, c3, c4, c5, c6, c7, hf⟩ := h
  exact ⟨f, fl, fc, (hc 0 (by omega)).trans c0, (hc 1 (by omega)).trans c1, (hc 2 (by omega)).trans c2, (hc 3 (by omega)).trans c3, (hc 4 (by omega)).trans c4, (hc 5 (by omega)).trans c5, (hc 6 (by omega)).trans c6, (hc 7 (by omega)).trans c7, hf.to hs hP hIJ⟩
theorem InVP.to {P Q : Nat → Prop} {w w' : World} (hs : w.heap.size ≤ w'.heap.size) (hP : ∀ b, P b → b < w.heap.size → Q b ∧ w'.heap[b]? = w.heap[b]?) : ∀ {n : Nat} {t : Option Addr} {tl tc : Nat} {V : List Tm}, InVP P w n t tl tc V → InVP Q w' n t tl tc V
  | 0, _, _, _, _, h => h.elim
  | n + 1, t, tl, tc, V, h => ⟨h.1, h.2.1, fun i hi => by
      obtain ⟨b, off, e, hp, lt, h2⟩ := h.2.2 i hi
      obtain ⟨hq, hh⟩ := hP b hp lt
      exact ⟨b, off, e, hq, Nat.lt_of_lt_of_le lt hs, InTP.to' hs hP (fun t tl tc V h => InVP.to hs hP h) (fun r _ => cell_of_heap hh _) h2⟩⟩
theorem InVP.below {P : Nat → Prop} {w w' : World} (hb : Below w.heap.size w w') {n : Nat} {t : Option Addr} {tl tc : Nat} {V : List Tm} (h : InVP P w n t tl tc V) : InVP P w' n t tl tc V :=
  h.to hb.size fun b hp lt => ⟨hp, hb.block b lt⟩
theorem InVP.imp {P Q : Nat → Prop} {w : World} (hP : ∀ b, P b → b < w.heap.size → Q b) {n : Nat} {t : Option Addr} {tl tc : Nat} {V : List Tm} (h : InVP P w n t tl tc V) : InVP Q w n t tl tc V :=
  h.to (Nat.le_refl _) fun b hp lt => ⟨hP b hp lt, rfl⟩
theorem InFP.inF {P : Nat → Prop} {I J : Option Addr → Nat → Nat → List Tm → Prop} (hIJ : ∀ t tl tc V, I t tl tc V → J t tl tc V) {w : World} {f : Option Addr} {fl : Nat} {fs : List (ByteArray × List Tm)} (h : InFP P I w f fl fs) : InF J w f fl fs := by
  refine ⟨h.1, h.2.1, fun i hi => ?_⟩
  obtain ⟨b, off, tl, tc, t, e, hp, lt, c0, c1, h2⟩ := h.2.2 i hi
  exact ⟨b, off, tl, tc, t, e, lt, c0, c1, hIJ _ _ _ _ h2⟩
/-- It lies in the world. -/
theorem InVP.inV {P : Nat → Prop} {w : World} : ∀ {n : Nat} {t : Option Addr} {tl tc : Nat} {V : List Tm}, InVP P w n t tl tc V → InV w n t tl tc V
  | 0, _, _, _, _, h => h.elim
  | n + 1, t, tl, tc, V, h => ⟨h.1, h.2.1, fun i hi => by
      obtain ⟨b, off, e, hp, lt, h2⟩ := h.2.2 i hi
      refine ⟨b, off, e, ?_⟩
      generalize V[i] = x at h2
      obtain ⟨k, lo, hi, s, y, m, o, fs⟩ := x
      obtain ⟨f, fl, fc, c0, c1, c2, c3, c4, c5, c6, c7, hf⟩ := h2
      exact ⟨lt, f, fl, fc, c0, c1, c2, c3, c4, c5, c6, c7, hf.inF fun t tl tc V h => InVP.inV h⟩⟩
theorem InVP.up {P : Nat → Prop} {w : World} : ∀ {n : Nat} {t : Option Addr} {tl tc : Nat} {V : List Tm}, InVP P w n t tl tc V → InVP P w (n + 1) t tl tc V
  | 0, _, _, _, _, h => h.elim
  | n + 1, t, tl, tc, V, h => ⟨h.1, h.2.1, fun i hi => by
      obtain ⟨b, off, e, hp, lt, h2⟩ := h.2.2 i hi
      exact ⟨b, off, e, hp, lt, InTP.to' (Nat.le_refl _) (fun b hp _ => ⟨hp, rfl⟩) (fun t tl tc V h => InVP.up h) (fun _ _ => rfl) h2⟩⟩
/-- No terms lie anywhere. -/
theorem InVP.none {P : Nat → Prop} (w : World) (n : Nat) (t : Option Addr) (tc : Nat) : InVP P w (n + 1) t 0 tc [] := ⟨rfl, by omega, fun i h => absurd h (Nat.not_lt_zero _)⟩

theorem InV.inVP {w : World} : ∀ {n : Nat} {t : Option Addr} {tl tc : Nat} {V : List Tm}, InV w n t tl tc V → InVP (· < w.heap.size) w n t tl tc V
  | 0, _, _, _, _, h => h.elim
  | n + 1, t, tl, tc, V, h => ⟨h.1, h.2.1, fun i hi => by
      obtain ⟨b, off, e, h2⟩ := h.2.2 i hi
      refine ⟨b, off, e, ?_⟩
      generalize V[i] = x at h2
      obtain ⟨k, lo, hi, s, y, m, o, fs⟩ := x
      obtain ⟨lt, f, fl, fc, c0, c1, c2, c3, c4, c5, c6, c7, hf⟩ := h2
      refine ⟨lt, lt, f, fl, fc, c0, c1, c2, c3, c4, c5, c6, c7, hf.1, hf.2.1, fun i hi => ?_⟩
      obtain ⟨b, off, tl, tc, t, e, lt, c0, c1, h2⟩ := hf.2.2 i hi
      exact ⟨b, off, tl, tc, t, e, lt, lt, c0, c1, InV.inVP h2⟩⟩
theorem InTP.inT {P : Nat → Prop} {I J : Option Addr → Nat → Nat → List Tm → Prop} (hIJ : ∀ t tl tc V, I t tl tc V → J t tl tc V) {w : World} {b off : Nat} {x : Tm} (hb : b < w.heap.size) (h : InTP P I w b off x) : InT J w b off x := by
  obtain ⟨k, lo, hi, s, y, m, o, fs⟩ := x
  obtain ⟨f, fl, fc, c0, c1, c2, c3, c4, c5, c6, c7, hf⟩ := h
  exact ⟨hb, f, fl, fc, c0, c1, c2, c3, c4, c5, c6, c7, hf.inF hIJ⟩
/-- A header's fields lie in such blocks. -/
def Hr.okP (P : Nat → Prop) (n : Nat) (w : World) (h : Hr) : Prop := InFP P (fun t tl tc V => InVP P w n t tl tc V) w h.f h.fl h.x.fs
theorem Hr.okP.to {P Q : Nat → Prop} {n : Nat} {w w' : World} {h : Hr} (hs : w.heap.size ≤ w'.heap.size) (hP : ∀ b, P b → b < w.heap.size → Q b ∧ w'.heap[b]? = w.heap[b]?) (k : h.okP P n w) : h.okP Q n w' := InFP.to hs hP (fun _ _ _ _ h => InVP.to hs hP h) k
theorem Hr.okP.below {P : Nat → Prop} {n : Nat} {w w' : World} {h : Hr} (hb : Below w.heap.size w w') (k : h.okP P n w) : h.okP P n w' := k.to hb.size fun b hp lt => ⟨hp, hb.block b lt⟩
theorem Hr.okP.ok {P : Nat → Prop} {n : Nat} {w : World} {h : Hr} (k : h.okP P n w) : h.ok n w := InFP.inF (fun _ _ _ _ h => InVP.inV h) k
/-- What common answers. -/
def ComP (P : Nat → Prop) (n : Nat) (r : Int × List Tm) (w : World) (e : Ending) (w' : World) : Prop :=
  ∃ (a : Option Addr) (tl cap : Nat), e = .returned (.tuple #[.slice a tl cap, .int .i64 r.1]) ∧ Below w.heap.size w w' ∧ ((r.2 = [] ∧ a = none ∧ tl = 0 ∧ cap = 0) ∨ ∃ (g : Nat) (h : Hr), r.2 = [h.x] ∧ tl = 1 ∧ a = some ⟨g, 0, none⟩ ∧ g < w'.heap.size ∧ T8 w' g 0 h ∧ h.okP (fun b => P b ∨ w.heap.size ≤ b) n w')
/-- What meet answers. -/
def MeP (P : Nat → Prop) (n : Nat) (r : Int × List Tm) (w : World) (e : Ending) (w' : World) : Prop :=
  ∃ (t : Option Addr) (tl tc : Nat), e = .returned (.tuple #[.agg #[.slice t tl tc], .int .i64 r.1]) ∧ Below w.heap.size w w' ∧ InVP (fun b => P b ∨ w.heap.size ≤ b) w' n t tl tc r.2
/-- A right value, of whatever depth. -/
def Rw (n : Nat) (A : List Tm) : Prop := RvN n A ∧ wN n A ≤ 512
end Go.Proofs.YtfhknnldkfngdaaGreatDoor
/- WALK of commonStruct. -/
namespace Go.Proofs.YtfhknnldkfngdaaGreatDoor
open Go.RowKit
/-- A field's value lies in such blocks. -/
abbrev Fh.okP (P : Nat → Prop) (n : Nat) (w : World) (h : Fh) : Prop := InVP P w n h.t h.tl h.tc h.V
/-- Between two fields: c is the row as it stands. -/
structure CInvF (P : Nat → Prop) (n : Nat) (x y : Tm) (d : List Fh) (w wr : World) (a : Option Addr) (k : Nat) (c : List Fh) : Prop where
  old : Below w.heap.size w wr
  len : c.length = d.length
  rest : ∀ j (h : j < c.length) (h' : j < d.length), k ≤ j → c[j] = d[j]
  done : ∀ j (h : j < c.length) (h' : j < d.length), j < k → cm1 (meetV n) x.fs y.fs d[j].f = (0, some c[j].f)
  row : c = [] ∨ ∃ g, a = some ⟨g, 0, none⟩ ∧ w.heap.size ≤ g ∧ RowF wr g c ∧ ∀ z ∈ c, z.okP (fun b => P b ∨ (w.heap.size ≤ b ∧ b ≠ g)) n wr
theorem CInvF.below {P : Nat → Prop} {n : Nat} {x y : Tm} {d : List Fh} {w wr w' : World} {a : Option Addr} {k : Nat} {c : List Fh} (h : CInvF P n x y d w wr a k c) (hb : Below wr.heap.size wr w') : CInvF P n x y d w w' a k c :=
  ⟨bl_step h.old hb, h.len, h.rest, h.done, by
    rcases h.row with h | ⟨g, e, hg, hr, hok⟩
    · exact .inl h
    · exact .inr ⟨g, e, hg, hr.below hb, fun z hz => (hok z hz).below hb⟩⟩
theorem inVP_len {P : Nat → Prop} {w : World} : ∀ {n : Nat} {t : Option Addr} {tl tc : Nat} {V : List Tm}, InVP P w n t tl tc V → V.length = tl
  | 0, _, _, _, _, h => h.elim
  | _ + 1, _, _, _, _, h => h.1
theorem cell_ex {o : Option Value} {v : Value} (h : o = some v) : ∃ u, o = some u := ⟨v, h⟩
/-- A field that stays as it is. -/
theorem CInvF.skip {P : Nat → Prop} {n : Nat} {x y : Tm} {d : List Fh} {w wr : World} {a : Option Addr} {k : Nat} {c : List Fh} (h : CInvF P n x y d w wr a k c) (hk : k < d.length) (h1 : cm1 (meetV n) x.fs y.fs d[k].f = (0, some d[k].f)) : CInvF P n x y d w wr a (k + 1) c :=
  ⟨h.old, h.len, fun j hj hj' hk' => h.rest j hj hj' (by omega), fun j hj hj' hk' => by
    by_cases e : j = k
    · subst e; rw [h.rest j hj hj' (Nat.le_refl _)]; exact h1
    · exact h.done j hj hj' (by omega), h.row⟩
/-- A field whose value is stored. -/
theorem CInvF.store {P : Nat → Prop} {n : Nat} {x y : Tm} {d : List Fh} {w wr : World} {g : Nat} {k : Nat} {c : List Fh} (hP : ∀ b, P b → b < w.heap.size) (h : CInvF P n x y d w wr (some ⟨g, 0, none⟩) k c) (hk : k < d.length) {t : Option Addr} {tl tc : Nat} {V : List Tm} {Q : Nat → Prop}
    (hQ : ∀ b, Q b → P b ∨ (w.heap.size ≤ b ∧ b ≠ g)) (hV : InVP Q wr n t tl tc V) (h1 : cm1 (meetV n) x.fs y.fs d[k].f = (0, some (d[k].nm, V))) :
    CInvF P n x y d w (wr.setCell ⟨g, k * 2 + 1, none⟩ (.slice t tl tc)) (some ⟨g, 0, none⟩) (k + 1) (c.set k ⟨d[k].nm, V, t, tl, tc⟩) := by
  have hkc : k < c.length := by rw [h.len]; exact hk
  rcases h.row with h0 | ⟨g', e, hg, hr, hok⟩
  · rw [h0] at hkc; exact absurd hkc (by simp)
  · cases e
    have hset : ∀ b, b ≠ g → (wr.setCell ⟨g, k * 2 + 1, none⟩ (.slice t tl tc)).heap[b]? = wr.heap[b]? := fun b hb => set_heap hb
    refine ⟨bl_set h.old hg, by rw [List.length_set]; exact h.len, fun j hj hj' hkj => ?_, fun j hj hj' hkj => ?_, .inr ⟨g, rfl, hg, ⟨by rw [set_size]; exact hr.1, fun o => by rw [World.frozen?_setCell]; exact hr.2.1 o, fun j hj => ?_⟩, fun z hz => ?_⟩⟩
    · rw [List.getElem_set_ne (by omega)]; exact h.rest j (by simpa using hj) hj' (by omega)
    · by_cases ej : j = k
      · subst ej; rw [List.getElem_set_self]; exact h1
      · rw [List.getElem_set_ne (by omega)]; exact h.done j (by simpa using hj) hj' (by omega)
    · have hj2 : j < c.length := by simpa using hj
      obtain ⟨r0, r1⟩ := hr.2.2 j hj2
      by_cases ej : j = k
      · subst ej
        rw [List.getElem_set_self]
        have hn : c[j].nm = d[j].nm := by rw [h.rest j hj2 hk (Nat.le_refl _)]
        exact ⟨by rw [set_far (.inr (by omega)), ← hn]; exact r0, set_here r1⟩
      · rw [List.getElem_set_ne (by omega)]
        exact ⟨by rw [set_far (.inr (by omega))]; exact r0, by rw [set_far (.inr (by omega))]; exact r1⟩
    · rcases List.mem_or_eq_of_mem_set hz with hz | rfl
      · exact (hok z hz).to (Nat.le_of_eq set_size.symm) fun b hb _ => ⟨hb, hset b (hb.elim (fun hb => by have := hP b hb; omega) (fun hb => hb.2))⟩
      · exact InVP.to (Nat.le_of_eq set_size.symm) (fun b hb _ => ⟨hQ b hb, hset b ((hQ b hb).elim (fun hb => by have := hP b hb; omega) (fun hb => hb.2))⟩) hV
/-- All fields done: a struct's. -/
theorem CInvF.inF {P : Nat → Prop} {n : Nat} {x y : Tm} {d : List Fh} {w wr : World} {a : Option Addr} {c : List Fh} {k : Nat} (h : CInvF P n x y d w wr a k c) (hz : (d.length : Int) ≤ 9223372036854775807) : InFP (fun b => P b ∨ w.heap.size ≤ b) (fun t tl tc V => InVP (fun b => P b ∨ w.heap.size ≤ b) wr n t tl tc V) wr a d.length (c.map Fh.f) := by
  refine ⟨by rw [List.length_map]; exact h.len, hz, fun i hi => ?_⟩
  have hi' : i < c.length := by simpa using hi
  rcases h.row with h0 | ⟨g, e, hg, hr, hok⟩
  · rw [h0] at hi'; exact absurd hi' (by simp)
  · obtain ⟨r0, r1⟩ := hr.2.2 i hi'
    simp only [List.getElem_map]
    exact ⟨g, 0, c[i].tl, c[i].tc, c[i].t, e, .inr hg, hr.1, by rw [Nat.zero_add]; exact r0, by rw [Nat.zero_add]; exact r1, InVP.imp (fun b hb _ => hb.elim .inl (fun hb => .inr hb.1)) (hok _ (List.getElem_mem hi'))⟩
theorem CInvF.bad {P : Nat → Prop} {n : Nat} {x y : Tm} {d : List Fh} {w wr : World} {a : Option Addr} {k : Nat} {c : List Fh} {e : Int} (h : CInvF P n x y d w wr a k c) (hd : d.map Fh.f = uni x.fs y.fs) (hk : k < d.length) (h1 : cm1 (meetV n) x.fs y.fs d[k].f = (e, none)) : cmL (meetV n) x.fs y.fs (uni x.fs y.fs) = (e, none) := by
  rw [← hd]
  refine cmL_bad (k := k) (by simpa using hk) (fun j hj hjk => ?_) (by simpa using h1)
  have hj' : j < d.length := by simpa using hj
  exact ⟨_, by simpa using h.done j (by rw [h.len]; exact hj') hj' hjk⟩
theorem CInvF.fine {P : Nat → Prop} {n : Nat} {x y : Tm} {d : List Fh} {w wr : World} {a : Option Addr} {c : List Fh} (h : CInvF P n x y d w wr a d.length c) (hd : d.map Fh.f = uni x.fs y.fs) : cmL (meetV n) x.fs y.fs (uni x.fs y.fs) = (0, some (c.map Fh.f)) := by
  rw [← hd]
  refine cmL_ok (by simp [h.len]) fun j hj hj' => ?_
  simp only [List.getElem_map]
  exact h.done j (by simpa using hj') (by simpa using hj) (by simpa using hj)
/-- What stands at the fields that one alone has. -/
theorem cm1_skip {g : List Tm → List Tm → Int × List Tm} {fs gs : List Fd} {f : Fd} (h : findF fs f.1 = none ∨ findF gs f.1 = none) : cm1 g fs gs f = (0, some f) := by
  unfold cm1
  split
  · rename_i h1 h2; rcases h with h | h
    · rw [h] at h1; cases h1
    · rw [h] at h2; cases h2
  · rfl
theorem cm1_both {g : List Tm → List Tm → Int × List Tm} {fs gs : List Fd} {f : Fd} {V W : List Tm} (h1 : findF fs f.1 = some V) (h2 : findF gs f.1 = some W) : cm1 g fs gs f = if (g V W).1 = 0 ∧ (g V W).2 ≠ [] then (0, some (f.1, (g V W).2)) else ((g V W).1, none) := by
  unfold cm1; rw [h1, h2]
theorem findP_is {I : Option Addr → Nat → Nat → List Tm → Prop} {r : Option (List Tm)} {w : World} {e : Ending} {w' : World} (h : FindP I r w e w') : ∃ t tl tc, e = .returned (.tuple #[.agg #[.slice t tl tc], .bool r.isSome]) ∧ Below w.heap.size w w' ∧ ∀ V, r = some V → I t tl tc V := by
  obtain ⟨t, tl, tc, bl, rfl, hB, hr⟩ := h
  cases r with
  | none => exact ⟨t, tl, tc, by rw [hr.1]; rfl, hB, fun V h => by cases h⟩
  | some V => exact ⟨t, tl, tc, by rw [hr.1]; rfl, hB, fun V' h => by cases h; exact hr.2⟩
end Go.Proofs.YtfhknnldkfngdaaGreatDoor
/- WALK of common. -/
namespace Go.Proofs.YtfhknnldkfngdaaGreatDoor
open Go.RowKit
abbrev Sc.v (c : Sc) (f : Option Addr) (fc : Nat) : Value := tv c.k c.lo c.hi c.s c.y c.m false f 0 fc
/-- scalar.Meet at any terms. -/
def SmP (r : Option Sc) (w : World) (e : Ending) (w' : World) : Prop := (match r with | none => e = .returned (.tuple #[zv, .bool false]) | some c => e = .returned (.tuple #[c.v none 0, .bool true])) ∧ Below w.heap.size w w'
theorem smeet_tm (a b : Tm) (f1 f2 : Option Addr) (fc1 fc2 : Nat) (w : World) :
    Calls Tryz.prog 110 #[tv a.k a.lo a.hi a.s a.y a.m a.o f1 a.fs.length fc1, tv b.k b.lo b.hi b.s b.y b.m b.o f2 b.fs.length fc2] w (SmP (scM a b) w) := by
  obtain ⟨k1, lo1, hi1, s1, y1, m1, o1, fs1⟩ := a
  obtain ⟨k2, lo2, hi2, s2, y2, m2, o2, fs2⟩ := b
  simp only [Tm.k, Tm.lo, Tm.hi, Tm.s, Tm.y, Tm.m, Tm.o, Tm.fs]
  by_cases hr : scR (.mk k1 lo1 hi1 s1 y1 m1 o1 fs1) ∧ scR (.mk k2 lo2 hi2 s2 y2 m2 o2 fs2)
  · obtain ⟨h1, h2⟩ := hr
    have e1 := sc_flat h1
    have e2 := sc_flat h2
    simp only [Tm.o, Tm.fs] at e1 e2
    obtain ⟨rfl, rfl⟩ := e1
    obtain ⟨rfl, rfl⟩ := e2
    have r1 : RightP k1 lo1 hi1 s1 y1 m1 false 0 := h1
    have r2 : RightP k2 lo2 hi2 s2 y2 m2 false 0 := h2
    by_cases hk : k1 = k2
    · subst hk
      have hM : scM (.mk k1 lo1 hi1 s1 y1 m1 false []) (.mk k1 lo2 hi2 s2 y2 m2 false []) = (commonF k1 lo1 hi1 s1 y1 lo2 hi2 s2 y2).map fun t => ⟨k1, t.1, t.2.1, t.2.2.1, t.2.2.2, (m1 || m2) && !singleB k1 t.1 t.2.1 t.2.2.2⟩ := by
        unfold scM; rw [if_pos ⟨h1, h2⟩]; exact if_pos rfl
      rw [hM]
      cases hc : commonF k1 lo1 hi1 s1 y1 lo2 hi2 s2 y2 with
      | none => exact meet_none k1 lo1 hi1 s1 y1 m1 f1 fc1 lo2 hi2 s2 y2 m2 f2 fc2 w r1 r2 hc
      | some t =>
        obtain ⟨lo, hi, s, y⟩ := t
        exact meet_some k1 lo1 hi1 s1 y1 m1 f1 fc1 lo2 hi2 s2 y2 m2 f2 fc2 w r1 r2 hc
    · have : scM (.mk k1 lo1 hi1 s1 y1 m1 false []) (.mk k2 lo2 hi2 s2 y2 m2 false []) = none := by
        unfold scM; rw [if_pos ⟨h1, h2⟩, meet_kk (by simpa [Tm.sc, Tm.k] using hk)]
      rw [this]
      exact meet_unlike _ _ _ _ _ _ _ _ _ _ _ _ _ _ _ _ _ _ _ _ w (fun c => hk c.2.2)
  · have : scM (.mk k1 lo1 hi1 s1 y1 m1 o1 fs1) (.mk k2 lo2 hi2 s2 y2 m2 o2 fs2) = none := by unfold scM; rw [if_neg hr]
    rw [this]
    exact meet_unlike _ _ _ _ _ _ _ _ _ _ _ _ _ _ _ _ _ _ _ _ w (fun c => hr ⟨rightB_iff.1 c.1, rightB_iff.1 c.2.1⟩)
theorem T8.inTg {I : Option Addr → Nat → Nat → List Tm → Prop} {w : World} {g o : Nat} {h : Hr} (k : T8 w g o h) (hg : g < w.heap.size) (hF : InF I w h.f h.fl h.x.fs) : InT I w g o h.x := by
  obtain ⟨⟨k', lo, hi, s, y, m, o', fs⟩, f, fl, fc⟩ := h
  obtain ⟨c0, c1, c2, c3, c4, c5, c6, c7⟩ := k
  exact ⟨hg, f, fl, fc, c0, c1, c2, c3, c4, c5, c6, c7, hF⟩
/-- A header in a box. -/
theorem T8.box (w : World) (h : Hr) (t : TypeId) : T8 (w.alloc (.cells #[.int .i64 h.x.k, .int .i64 h.x.lo, .int .i64 h.x.hi, .string h.x.s, .bool h.x.y, .bool h.x.m, .bool h.x.o, .slice h.f h.fl h.fc] t)) w.heap.size 0 h := by
  refine ⟨?_, ?_, ?_, ?_, ?_, ?_, ?_, ?_⟩ <;> simp [go_sem]
theorem T8.at (w : World) (h : Hr) (t : TypeId) {g : Nat} (hg : w.heap.size = g) : T8 (w.alloc (.cells #[.int .i64 h.x.k, .int .i64 h.x.lo, .int .i64 h.x.hi, .string h.x.s, .bool h.x.y, .bool h.x.m, .bool h.x.o, .slice h.f h.fl h.fc] t)) g 0 h := hg ▸ T8.box w h t
abbrev hbox (h : Hr) : Obj := .cells #[.int .i64 h.x.k, .int .i64 h.x.lo, .int .i64 h.x.hi, .string h.x.s, .bool h.x.y, .bool h.x.m, .bool h.x.o, .slice h.f h.fl h.fc] 31
theorem Hr.okP.wide {P : Nat → Prop} {n : Nat} {w w' : World} {h : Hr} (hb : Below w.heap.size w w') (k : h.okP P n w) : h.okP (fun b => P b ∨ w.heap.size ≤ b) n w' := k.to hb.size fun b hp lt => ⟨.inl hp, hb.block b lt⟩
theorem ComP.wide {P : Nat → Prop} {n : Nat} {r : Int × List Tm} {w W : World} {e : Ending} {w' : World} (hb : Below w.heap.size w W) (h : ComP P n r W e w') : ComP P n r w e w' := by
  obtain ⟨a, tl, cap, he, hB, hx⟩ := h
  refine ⟨a, tl, cap, he, bl_step hb hB, ?_⟩
  rcases hx with h | ⟨g, h, h1, h2, h3, h4, h5, h6⟩
  · exact .inl h
  · exact .inr ⟨g, h, h1, h2, h3, h4, h5, h6.to (Nat.le_refl _) fun b hp _ => ⟨hp.imp id fun hp => Nat.le_trans hb.size hp, rfl⟩⟩
end Go.Proofs.YtfhknnldkfngdaaGreatDoor
/- What lies between two pairs of a meet. -/
namespace Go.Proofs.YtfhknnldkfngdaaGreatDoor
open Go.RowKit
theorem scal_w (n : Nat) (c : Sc) : wF n c.tm.fs = 0 := rfl
/-- What is in common of two terms is one, or none, and no heavier than so much. -/
theorem comT_w {n l : Nat} {a b : Tm} (ga : Gt n l a) (gb : Gt n l b) (wa : wF n a.fs ≤ 512) (wb : wF n b.fs ≤ 512) : ∀ c ∈ (comT (meetV n) a b).2, wF n c.fs ≤ 16384 := by
  intro c hc
  unfold comT at hc
  by_cases a5 : a.k = 5
  · rw [if_pos a5] at hc; rw [List.mem_singleton.1 hc]; omega
  · rw [if_neg a5] at hc
    by_cases b5 : b.k = 5
    · rw [if_pos b5] at hc; rw [List.mem_singleton.1 hc]; omega
    · rw [if_neg b5] at hc
      by_cases h4 : a.k = 4 ∧ b.k = 4
      · rw [if_pos h4] at hc
        unfold comS at hc
        split at hc
        · simp at hc
        · have ua := gt_up ga h4.1
          have ub := gt_up gb h4.2
          rcases cmL_cases (g := meetV n) a.fs b.fs (uni a.fs b.fs) with ⟨L', h1, h2, h3⟩ | ⟨f, hf, e, h1, h2⟩
          · have hS := shared_of ua ub h2 h3
            rw [h1] at hc
            simp only at hc
            split at hc
            · simp at hc
            · rename_i h32
              rw [List.mem_singleton.1 hc]
              show wF n L' ≤ 16384
              have one : ∀ f' ∈ L', wN n f'.2 ≤ 512 := fun f' hf' => by
                obtain ⟨f2, hf2, hc2⟩ := hS.from_ f' hf'
                rcases (cm1_some hc2).2 with ⟨V, W, hV, hW, hz, -, e2⟩ | ⟨-, rfl⟩
                · rw [e2]
                  have rV := (gt_f ga ((findF_up ua).1 hV)).2.1
                  have rW := (gt_f gb ((findF_up ub).1 hW)).2.1
                  match n, l, rV, rW, hz with
                  | 0, _, rV, _, _ => unfold RV at rV; exact rV.elim
                  | n + 1, 0, rV, _, _ => unfold RV at rV; exact rV.elim
                  | n + 1, l + 1, rV, rW, hz =>
                    rcases meet_rv rV rW with e | ⟨M, e, _, hw, _⟩
                    · rw [e] at hz; exact absurd hz (by decide)
                    · rw [e]; exact hw
                · rcases uni_mem.1 hf2 with h | ⟨h, _⟩
                  · exact Nat.le_trans (wF_mem h) wa
                  · exact Nat.le_trans (wF_mem h) wb
              have sum : ∀ L : List Fd, (∀ f ∈ L, wN n f.2 ≤ 512) → wF n L ≤ L.length * 512 := fun L => by
                induction L with
                | nil => intro _; simp [wF]
                | cons f L ih =>
                  intro h
                  rw [wF_cons, List.length_cons]
                  have := h f (by simp)
                  have := ih fun f hf => h f (by simp [hf])
                  omega
              have := sum L' one
              omega
          · rw [h2] at hc; simp at hc
      · rw [if_neg h4] at hc
        cases hm : scM a b with
        | none => rw [hm] at hc; simp at hc
        | some c' =>
          rw [hm] at hc
          rw [List.mem_singleton.1 hc, scal_w]; omega
/-- The headers of a value, in such blocks. -/
theorem pheads {P : Nat → Prop} {n : Nat} {w : World} {t : Option Addr} {tl tc : Nat} {A : List Tm} (h : InVP P w (n + 1) t tl tc A) :
    ∃ L : List Hr, L.map (·.x) = A ∧ (∀ h ∈ L, h.okP P n w) ∧ ∀ b off, t = some ⟨b, off, none⟩ → ∀ j (hj : j < L.length), b < w.heap.size ∧ T8 w b (off + j * 8) L[j] := by
  obtain ⟨hl, hz, hA⟩ := h
  have key : ∀ k, k ≤ A.length → ∃ L : List Hr, L.map (·.x) = A.take k ∧ (∀ h ∈ L, h.okP P n w) ∧ ∀ b off, t = some ⟨b, off, none⟩ → ∀ j (hj : j < L.length), b < w.heap.size ∧ T8 w b (off + j * 8) L[j] := by
    intro k
    induction k with
    | zero => intro _; exact ⟨[], by simp, by simp, fun _ _ _ j hj => absurd hj (by simp)⟩
    | succ k ih =>
      intro hk
      obtain ⟨L, h1, h2, h3⟩ := ih (by omega)
      have hlen : L.length = k := by rw [← List.length_map (f := (·.x)), h1, List.length_take]; omega
      obtain ⟨b, off, e, hp, lt1, i1⟩ := hA k (by omega)
      have hx : ∃ x, A[k] = x := ⟨_, rfl⟩
      obtain ⟨x, hx⟩ := hx
      rw [hx] at i1
      obtain ⟨k', lo, hi', s, y, m, o, fs⟩ := x
      obtain ⟨f, fl, fc, c0, c1, c2, c3, c4, c5, c6, c7, hF⟩ := i1
      refine ⟨L ++ [⟨.mk k' lo hi' s y m o fs, f, fl, fc⟩], ?_, fun z hz => ?_, fun b' off' e' j hj => ?_⟩
      · rw [List.map_append, h1, List.take_succ_eq_append_getElem (by omega), hx]; rfl
      · rcases List.mem_append.1 hz with hz | hz
        · exact h2 z hz
        · rw [List.mem_singleton.1 hz]; exact hF
      · by_cases hjk : j < L.length
        · rw [List.getElem_append_left hjk]; exact h3 b' off' e' j hjk
        · have ej : j = L.length := by simp at hj; omega
          subst ej
          rw [e] at e'; cases e'
          rw [List.getElem_append_right (Nat.le_refl _)]
          simp only [Nat.sub_self, List.getElem_cons_zero, hlen]
          exact ⟨lt1, c0, c1, c2, c3, c4, c5, c6, c7⟩
  obtain ⟨L, h1, h2⟩ := key A.length (Nat.le_refl _)
  exact ⟨L, by rw [h1, List.take_length], h2⟩
/-- The row that is owned, as a slice of terms. -/
theorem OwnH.row {w : World} {base : Nat} {u : Value} {L : List Hr} (ho : OwnH w base u L) : ∃ a cap, u = .slice a L.length cap ∧ ∀ b off, a = some ⟨b, off, none⟩ → ∀ j (hj : j < L.length), off = 0 ∧ base ≤ b ∧ b < w.heap.size ∧ T8 w b (off + j * 8) L[j] := by
  by_cases h0 : L = []
  · subst h0
    obtain ⟨a, c, rfl⟩ := slice_of_owns ho
    exact ⟨a, c, rfl, fun _ _ _ j hj => absurd hj (by simp)⟩
  · have hnn : u ≠ .slice none 0 0 := fun e => by
      rcases ho.2 with ⟨_, hn⟩ | ⟨g, cap, cur, e2, _⟩
      · exact h0 (List.eq_nil_of_length_eq_zero hn)
      · rw [e] at e2; cases e2
    obtain ⟨g, cap, rfl, hg, hlt, hfz, hce⟩ := row_of_owns ho hnn
    have hl : (L.map Hr.enc).flatten.length = L.length * 8 := ho.1
    refine ⟨_, cap, rfl, fun b off e j hj => ?_⟩
    cases e
    refine ⟨rfl, hg, hlt, t8_of fun r hr => ?_⟩
    rw [Nat.zero_add, hce (j * 8 + r) (by omega), flat_get (L.map Hr.enc) j r (fun x hx => by obtain ⟨h, -, rfl⟩ := List.mem_map.1 hx; rfl) hr (by simpa using hj), List.getElem_map]
    exact List.getElem?_eq_getElem (by rw [enc_len]; exact hr) |>.trans (by rw [getElem!_pos _ r (by rw [enc_len]; exact hr)])
/-- A row of headers of a call's own, as a value. -/
theorem OwnH.inVP {P : Nat → Prop} {n : Nat} {w : World} {base : Nat} {t : Option Addr} {tl tc : Nat} {L : List Hr} (ho : OwnH w base (.slice t tl tc) L) (hz : (L.length : Int) ≤ 9223372036854775807) (hP : ∀ b, base ≤ b → P b) (hok : ∀ h ∈ L, h.okP P n w) : InVP P w (n + 1) t tl tc (L.map (·.x)) := by
  obtain ⟨a, cap, e, hrow⟩ := ho.row
  cases e
  refine ⟨by simp, hz, fun i hi => ?_⟩
  have hi' : i < L.length := by simpa using hi
  have hne : ∃ b off, t = some ⟨b, off, none⟩ := by
    rcases ho.2 with ⟨_, hn⟩ | ⟨g, cap, cur, e2, _⟩
    · omega
    · cases e2; exact ⟨g, 0, rfl⟩
  obtain ⟨b, off, rfl⟩ := hne
  obtain ⟨h1, h2, h3, h4⟩ := hrow b off rfl i hi'
  refine ⟨b, off, rfl, hP b h2, h3, ?_⟩
  have ho := hok _ (List.getElem_mem hi')
  simp only [List.getElem_map]
  revert h4 ho
  generalize L[i] = h
  intro h4 ho
  obtain ⟨⟨k', lo, hi', s, y, m, o, fs⟩, f, fl, fc⟩ := h
  obtain ⟨c0, c1, c2, c3, c4, c5, c6, c7⟩ := h4
  exact ⟨f, fl, fc, c0, c1, c2, c3, c4, c5, c6, c7, ho⟩
/-- Between two pairs. -/
structure MInv (P : Nat → Prop) (n : Nat) (X wr : World) (u : Value) (L : List Hr) (D : List (Tm × Tm)) : Prop where
  old : Below X.heap.size X wr
  own : OwnH wr X.heap.size u L
  ok : ∀ h ∈ L, h.okP (fun b => P b ∨ (X.heap.size ≤ b ∧ u.ownBlock ≠ some b)) n wr
  res : L.map (·.x) = D.flatMap fun p => (comT (meetV n) p.1 p.2).2
  fine : ∀ p ∈ D, (comT (meetV n) p.1 p.2).1 = 0
  len : L.length ≤ D.length
theorem MInv.below {P : Nat → Prop} {n : Nat} {X wr w' : World} {u : Value} {L : List Hr} {D : List (Tm × Tm)} (h : MInv P n X wr u L D) (hb : Below wr.heap.size wr w') : MInv P n X w' u L D :=
  ⟨bl_step h.old hb, h.own.below hb, fun z hz => (h.ok z hz).below hb, h.res, h.fine, h.len⟩
theorem MInv.skip {P : Nat → Prop} {n : Nat} {X wr : World} {u : Value} {L : List Hr} {D : List (Tm × Tm)} {p : Tm × Tm} (h : MInv P n X wr u L D) (hp : comT (meetV n) p.1 p.2 = (0, [])) : MInv P n X wr u L (D ++ [p]) :=
  ⟨h.old, h.own, h.ok, by rw [h.res, List.flatMap_append]; simp [hp], fun q hq => by
    rcases List.mem_append.1 hq with hq | hq
    · exact h.fine q hq
    · rw [List.mem_singleton.1 hq, hp], by have := h.len; simp; omega⟩
theorem MInv.add {P : Nat → Prop} {n : Nat} {w X wr : World} (hX : Below w.heap.size w X) (hP : ∀ b, P b → b < w.heap.size) {u : Value} {L : List Hr} {D : List (Tm × Tm)} {p : Tm × Tm} {hd : Hr} (h : MInv P n X wr u L D) (hp : comT (meetV n) p.1 p.2 = (0, [hd.x])) (hok : hd.okP (fun b => P b ∨ (X.heap.size ≤ b ∧ u.ownBlock ≠ some b)) n wr)
    {w' : World} {gg cap H : Nat} (hH : wr.heap.size = H) (hown : w'.ownsRow X.heap.size 29 8 (.slice (some ⟨gg, 0, none⟩) (L.length + 1) cap) (L.length + 1) ((L.map Hr.enc).flatten ++ hd.enc)) (hgrow : wr.grownBy w' u.ownBlock) (hat : u.ownBlock = some gg ∨ gg = H) :
    MInv P n X w' (.slice (some ⟨gg, 0, none⟩) (L.length + 1) cap) (L ++ [hd]) (D ++ [p]) := by
  have keep : ∀ b, (P b ∨ (X.heap.size ≤ b ∧ u.ownBlock ≠ some b)) → b < wr.heap.size → (P b ∨ (X.heap.size ≤ b ∧ (Value.slice (some ⟨gg, 0, none⟩) (L.length + 1) cap).ownBlock ≠ some b)) ∧ w'.heap[b]? = wr.heap[b]? := fun b hb lt => by
    have hne : u.ownBlock ≠ some b := by
      rcases hb with hb | hb
      · intro e
        have h1 := (h.own.lt _ e).1
        have h2 := hP b hb
        have h3 := hX.size
        omega
      · exact hb.2
    refine ⟨hb.imp id fun hb => ⟨hb.1, fun e => ?_⟩, hgrow.block b lt (fun e => hne e.symm)⟩
    simp only [Value.ownBlock, Option.some.injEq] at e
    subst e
    rcases hat with hat | hat
    · exact hb.2 hat
    · omega
  refine ⟨h.old.grown hgrow h.old.size (fun k hk => (h.own.lt k hk).1), ?_, fun z hz => ?_, ?_, fun q hq => ?_, ?_⟩
  · show World.ownsRow _ _ _ _ _ _ _
    rw [List.map_append, List.flatten_append, List.length_append]
    simpa using hown
  · rcases List.mem_append.1 hz with hz | hz
    · exact (h.ok z hz).to hgrow.size keep
    · rw [List.mem_singleton.1 hz]; exact hok.to hgrow.size keep
  · rw [List.map_append, h.res, List.flatMap_append]; simp [hp]
  · rcases List.mem_append.1 hq with hq | hq
    · exact h.fine q hq
    · rw [List.mem_singleton.1 hq, hp]
  · have := h.len; simp; omega
end Go.Proofs.YtfhknnldkfngdaaGreatDoor
/- WALK of meet. -/
namespace Go.Proofs.YtfhknnldkfngdaaGreatDoor
open Go.RowKit
theorem meetV_big {n : Nat} {A B : List Tm} (h : 512 < A.length * B.length) : meetV (n + 1) A B = (30, []) := by
  show (if 512 < A.length * B.length then _ else _) = _
  rw [if_pos h]
theorem meetV_fine {n : Nat} {A B : List Tm} (h : ¬ 512 < A.length * B.length) (h0 : ∀ p ∈ prs A B, (comT (meetV n) p.1 p.2).1 = 0) : meetV (n + 1) A B = nrm n ((prs A B).flatMap fun p => (comT (meetV n) p.1 p.2).2) := by
  show (if 512 < A.length * B.length then _ else _) = _
  rw [if_neg h, acc_fine h0, if_neg (by simp)]
theorem meetV_bad {n : Nat} {A B : List Tm} (h : ¬ 512 < A.length * B.length) (hE : ∀ p ∈ prs A B, (comT (meetV n) p.1 p.2).1 = 0 ∨ (comT (meetV n) p.1 p.2).1 = 30) (h0 : ∃ p ∈ prs A B, (comT (meetV n) p.1 p.2).1 ≠ 0) : meetV (n + 1) A B = (30, []) := by
  show (if 512 < A.length * B.length then _ else _) = _
  rw [if_neg h, acc_bad hE h0, if_pos (by simp)]
theorem prs_succ {A B : List Tm} {k : Nat} (hk : k < A.length) : prs (A.take (k + 1)) B = prs (A.take k) B ++ B.map fun b => (A[k], b) := by
  unfold prs
  rw [List.take_succ_eq_append_getElem hk, List.flatMap_append]; simp
/-- The boxes of meet's parameters, and of its result. -/
structure MBox (t : Option Addr) (tl tc : Nat) (t2 : Option Addr) (tl2 tc2 : Nat) (w X : World) : Prop where
  old : Below w.heap.size w X
  size : X.heap.size = w.heap.size + 1 + 1 + 1
  ba : Cx X w.heap.size 0 (.slice t tl tc)
  bb : Cx X (w.heap.size + 1) 0 (.slice t2 tl2 tc2)
  br : Cx X (w.heap.size + 1 + 1) 0 (.slice none 0 0)
theorem MBox.new (w : World) (t : Option Addr) (tl tc : Nat) (t2 : Option Addr) (tl2 tc2 : Nat) : MBox t tl tc t2 tl2 tc2 w (((w.alloc (.cells #[.slice t tl tc] 24)).alloc (.cells #[.slice t2 tl2 tc2] 24)).alloc (.cells #[.slice none 0 0] 24)) :=
  ⟨bl_alloc (bl_alloc (bl_alloc (Below.refl _ _))), by simp, ⟨by simp; omega, by simp [go_sem], by simp [go_sem]⟩, ⟨by simp, by simp [go_sem], by simp [go_sem]⟩, ⟨by simp, by simp [go_sem], by simp [go_sem]⟩⟩
theorem inVP_nil {P : Nat → Prop} {w : World} {n : Nat} {t : Option Addr} {tc : Nat} : InVP P w (n + 1) t 0 tc [] := ⟨rfl, by decide, fun i hi => absurd hi (Nat.not_lt_zero _)⟩
theorem new_size {w : World} {o : Obj} : (w.alloc o).heap.size = w.heap.size + 1 := by simp
theorem news_t8 {w : World} {g : Nat} {h : Hr} (k : T8 w g 0 h) : ∀ j u, h.enc[j]? = some u → w.cell? ((⟨g, 0, none⟩ : Addr).add j) = some u := fun j u hu => by
  have hj : j < 8 := (List.getElem?_eq_some_iff.1 hu).1
  have := enc_at k j hj
  rw [Addr.add_lit, this]
  rw [getElem!_pos h.enc j hj]
  rw [← hu, List.getElem?_eq_getElem hj]
theorem encH_one (h : Hr) : ∀ u ∈ h.enc, u.oneCell' = true := fun u hu => by
  simp only [Hr.enc, List.mem_cons, List.not_mem_nil, or_false] at hu
  rcases hu with rfl | rfl | rfl | rfl | rfl | rfl | rfl | rfl <;> rfl
/-- A header's box, apart from the row. -/
structure BoxA (w : World) (N : Nat) (h : Hr) (u : Value) : Prop where
  t8 : T8 w N 0 h
  lt : N < w.heap.size
  ne : u.ownBlock ≠ some N
theorem BoxA.below {w w' : World} {N : Nat} {h : Hr} {u : Value} (k : BoxA w N h u) (hb : Below w.heap.size w w') : BoxA w' N h u := ⟨k.t8.to fun r _ => hb.cell (p := ⟨N, 0 + r, none⟩) k.lt, Nat.lt_of_lt_of_le k.lt hb.size, k.ne⟩
theorem BoxA.grown {w w' : World} {N : Nat} {h : Hr} {u : Value} (k : BoxA w N h u) (hg : w.grownBy w' u.ownBlock) {gg n cap H : Nat} (hH : w.heap.size = H) (hat : u.ownBlock = some gg ∨ gg = H) : BoxA w' N h (.slice (some ⟨gg, 0, none⟩) n cap) :=
  ⟨k.t8.to fun r _ => hg.cell_far ⟨N, 0 + r, none⟩ k.lt (fun e => k.ne e.symm), Nat.lt_of_lt_of_le k.lt hg.size, fun e => by
    simp only [Value.ownBlock, Option.some.injEq] at e
    subst e
    rcases hat with hat | hat
    · exact k.ne hat
    · have := k.lt; omega⟩
/-- One pair: a header of the one, a header of the other. -/
theorem pair_in {A B : List Tm} {k j : Nat} (hk : k < A.length) (hj : j < B.length) : (A[k], B[j]) ∈ prs A B := mem_prs.2 ⟨List.getElem_mem hk, List.getElem_mem hj⟩
end Go.Proofs.YtfhknnldkfngdaaGreatDoor
/- WALKS of Meet, Below, Any, None. -/
namespace Go.Proofs.YtfhknnldkfngdaaGreatDoor
open Go.RowKit
theorem right_size {s : ByteArray} (h : Nm.rightL s.toList = true) : s.size ≤ 16 := by
  unfold Nm.rightL at h
  simp only [Bool.and_eq_true, decide_eq_true_eq] at h
  rw [Nm.size_list]; exact h.1.1.1.2
theorem nm_of : ∀ {n l : Nat} {A : List Tm}, RV n l A → NmV n A
  | 0, _, _, _ => trivial
  | n + 1, 0, _, h => by unfold RV at h; exact h.elim
  | n + 1, l + 1, A, h => fun x hx f hf => by
    obtain ⟨x4, rf, _⟩ := gt_f (h.1 x hx) hf
    have := right_size (ris_names (gt_four (h.1 x hx) x4).2.1.2.1 f hf)
    exact ⟨by omega, nm_of rf⟩
theorem slim_of : ∀ {n l : Nat} {A : List Tm}, RV n l A → wN n A ≤ 512 → SlimV n A
  | 0, _, _, _, _ => trivial
  | n + 1, 0, _, h, _ => by unfold RV at h; exact h.elim
  | n + 1, l + 1, A, h, hw => by
    have hl : A.length ≤ 512 := by rw [wN_U] at hw; omega
    refine ⟨by omega, fun i hi => ⟨?_, fun j hj => ?_⟩⟩
    · by_cases x4 : A[i].k = 4
      · have := (gt_four (h.1 _ (List.getElem_mem hi)) x4).2.1.1
        omega
      · rw [gt_flat (h.1 _ (List.getElem_mem hi)) x4]; simp
    · obtain ⟨x4, rf, _⟩ := gt_f (h.1 _ (List.getElem_mem hi)) (List.getElem_mem hj)
      refine slim_of rf ?_
      have h1 := wN_mem (n := n) (List.getElem_mem hi)
      have h2 := wF_mem (n := n) (List.getElem_mem hj)
      omega
theorem RG.slim {n : Nat} {A : List Tm} (h : RG n A) : SlimV n A := slim_of h.1 h.2
theorem RG.nm {n : Nat} {A : List Tm} (h : RG n A) : NmV n A := nm_of h.1
theorem RG.rw {n : Nat} {A : List Tm} (h : RG n A) : Rw n A := ⟨⟨16, h.1⟩, h.2⟩
/-- What Meet, Join, Of and Struct answer. -/
def LmP (n : Nat) (r : Int × List Tm) (w : World) (e : Ending) (w' : World) : Prop :=
  ∃ (t : Option Addr) (tl tc : Nat), e = .returned (.tuple #[.agg #[.slice t tl tc], .int .i64 r.1]) ∧ Below w.heap.size w w' ∧ InV w' n t tl tc r.2
/-- lat.Meet. -/
noncomputable def meetR (n : Nat) (A B : List Tm) : Int × List Tm := if (rgV n A && rgV n B) = true then meetV n A B else (1, [])
/-- What comes of a meet of right values. -/
theorem meet_rg {n : Nat} {A B : List Tm} (hA : RG n A) (hB : RG n B) : meetV n A B = (30, []) ∨ ∃ M, meetV n A B = (0, M) ∧ RG n M := by
  obtain ⟨vA, wA⟩ := hA
  obtain ⟨vB, wB⟩ := hB
  match n, vA, vB with
  | 0, vA, _ => unfold RV at vA; exact vA.elim
  | n + 1, vA, vB =>
    rcases meet_rv vA vB with h | ⟨M, e, r, hw, _⟩
    · exact .inl h
    · exact .inr ⟨M, e, r, hw⟩
theorem inV_nil {w : World} {n : Nat} {t : Option Addr} {tc : Nat} : InV w (n + 1) t 0 tc [] := ⟨rfl, by decide, fun i hi => absurd hi (Nat.not_lt_zero _)⟩
theorem inV_pos {w : World} {n : Nat} {t : Option Addr} {tl tc : Nat} {A : List Tm} (h : InV w n t tl tc A) : ∃ m, n = m + 1 := by
  cases n with
  | zero => exact h.elim
  | succ m => exact ⟨m, rfl⟩
theorem Vin.inVP {w : World} {n : Nat} {t : Option Addr} {tl tc : Nat} {A : List Tm} (h : Vin w n t tl tc A) : InVP (· < w.heap.size) w n t tl tc A := h.v.inVP
/-- A value of whatever make that is right, once more in memory. -/
theorem Vin.of {w w' : World} {n : Nat} {t : Option Addr} {tl tc : Nat} {A : List Tm} (hE : Nm.Env w) (hb : Below w.heap.size w w') (h : InV w' n t tl tc A) (hr : NmV n A) : Vin w' n t tl tc A := ⟨h, hr, hE.below hb⟩
set_option maxRecDepth 100000 in
set_option maxHeartbeats 8000000 in
/-- lat.Below. -/
theorem lbelow_in (n : Nat) (w : World) (t : Option Addr) (tl tc : Nat) (A : List Tm) (t2 : Option Addr) (tl2 tc2 : Nat) (B : List Tm) (hA : Vin w n t tl tc A) (hB : Vin w n t2 tl2 tc2 B) :
    Calls Tryz.prog 46 #[.agg #[.slice t tl tc], .agg #[.slice t2 tl2 tc2]] w (LackP (rgV n A && rgV n B && undV n A B) w) := by
  obtain ⟨qa, hqa⟩ : ∃ q, rgV n A = q := ⟨_, rfl⟩
  obtain ⟨qb, hqb⟩ : ∃ q, rgV n B = q := ⟨_, rfl⟩
  have HRA := Lib.hid (fun (W : World) (hW : Below w.heap.size w W) => lright_in n W t tl tc A (hA.below hW))
  have HRB := Lib.hid (fun (W : World) (hW : Below w.heap.size w W) => lright_in n W t2 tl2 tc2 B (hB.below hW))
  rw [hqa] at HRA ⊢
  rw [hqb] at HRB ⊢
  obtain ⟨u, hu⟩ : ∃ q, undV n A B = q := ⟨_, rfl⟩
  have HM : Hid (qa = true → qb = true → ∀ W, Below w.heap.size w W → Calls Tryz.prog 67 #[.agg #[.slice t tl tc], .agg #[.slice t2 tl2 tc2]] W (LackP u W)) := fun ea eb W hW =>
    hu ▸ under_in n W t tl tc A t2 tl2 tc2 B (hA.v.below hW) (hB.v.below hW) ⟨16, (rgV_yes.1 (hqa.trans ea)).1⟩ ⟨16, (rgV_yes.1 (hqb.trans eb)).1⟩
  rw [hu]
  clear hA hB hqa hqb hu
  go_enter Tryz.func46, Tryz.ntmps46
  go_upto_region 1 with fail
  have HXE : ∃ X, (w.alloc (.cells #[.slice t tl tc] 24)).alloc (.cells #[.slice t2 tl2 tc2] 24) = X := ⟨_, rfl⟩
  obtain ⟨X, hX⟩ := HXE
  have HXA : Hid (Below w.heap.size w X ∧ Cx X w.heap.size 0 (.slice t tl tc) ∧ Cx X (w.heap.size + 1) 0 (.slice t2 tl2 tc2)) := by
    rw [← hX]; exact ⟨bl_alloc (bl_alloc (Below.refl _ _)), ⟨by simp; omega, by simp [go_sem], by simp [go_sem]⟩, ⟨by simp, by simp [go_sem], by simp [go_sem]⟩⟩
  rw [hX]
  clear hX
  obtain ⟨-, x0, -⟩ := HXA.out.2.1
  cases qa
  · clear HRB HM
    go_wp2_with (go_at_call 34; refine (HRA.out _ HXA.out.1).mono ?_; rintro e w1 ⟨rfl, hB1⟩; have HB1 := Lib.hid hB1; clear hB1)
    go_ret
    exact ⟨rfl, bl_step HXA.out.1 HB1.out⟩
  · cases qb
    · clear HM
      go_wp2_with (first
        | (go_at_call 34; (with_reducible refine (HRA.out _ HXA.out.1).mono ?_); rintro e w1 ⟨rfl, hB1⟩; obtain ⟨-, y1, -⟩ := HXA.out.2.2.later hB1; have HB1 := Lib.hid hB1; clear hB1)
        | (go_at_call 34; (with_reducible refine (HRB.out _ (bl_step HXA.out.1 HB1.out)).mono ?_); rintro e w2 ⟨rfl, hB2⟩; have HB2 := Lib.hid (bl_step HB1.out hB2); clear hB2))
      go_ret
      exact ⟨rfl, bl_step HXA.out.1 HB2.out⟩
    · have HM2 := Lib.hid (HM.out rfl rfl)
      clear HM
      go_wp2_with (first
        | (go_at_call 34; (with_reducible refine (HRA.out _ HXA.out.1).mono ?_); rintro e w1 ⟨rfl, hB1⟩; obtain ⟨-, y1, -⟩ := HXA.out.2.2.later hB1; have HB1 := Lib.hid hB1; clear hB1)
        | (go_at_call 34; (with_reducible refine (HRB.out _ (bl_step HXA.out.1 HB1.out)).mono ?_); rintro e w2 ⟨rfl, hB2⟩; obtain ⟨-, z0, -⟩ := HXA.out.2.1.later (bl_step HB1.out hB2); obtain ⟨-, z1, -⟩ := HXA.out.2.2.later (bl_step HB1.out hB2); have HB2 := Lib.hid (bl_step HB1.out hB2); clear hB2)
        | (go_at_call 67; refine (HM2.out _ (bl_step HXA.out.1 HB2.out)).mono ?_; rintro e w3 ⟨rfl, hB3⟩; have HB3 := Lib.hid (bl_step HB2.out hB3); clear hB3))
      go_ret
      exact ⟨rfl, bl_step HXA.out.1 HB3.out⟩
end Go.Proofs.YtfhknnldkfngdaaGreatDoor
/- WALKS of Grow and Concat at terms. -/
namespace Go.Proofs.YtfhknnldkfngdaaGreatDoor
open Go.RowKit
/-- A slice without elements, appended to a row of the call's own. -/
theorem run_append_zero {P : Program} {w : World} (base : Nat) (t ty e : TypeId) (i : TypeInfo) (size : Nat) (ht : P.underlying t = some (.slice e)) (hi : P.info? e = some i)
    (v : Value) (n : Nat) (xs : List Value) (hown : w.ownsRow base e size v n xs) (a : Option Addr) (c : Nat) :
    (Builtin.append_ #[t, t] ty #[v, .slice a 0 c]).run P w = .ok v w := by
  cases a
  · rcases hown.2 with ⟨rfl, rfl⟩ | ⟨g, cap, cur, rfl, _, _, hnc, _⟩
    · simp [Builtin.append_, run_underlying ht, sizeOf, typeInfo, hi, Builtin.lenOf, Builtin.firstCells]
    · simp [Builtin.append_, run_underlying ht, sizeOf, typeInfo, hi, Builtin.lenOf, Builtin.firstCells, hnc, storeCells]
  · rcases hown.2 with ⟨rfl, rfl⟩ | ⟨g, cap, cur, rfl, _, _, hnc, _⟩
    · simp [Builtin.append_, run_underlying ht, sizeOf, typeInfo, hi, Builtin.lenOf, Builtin.firstCells, loadCells, loadCellsFrom]
    · simp [Builtin.append_, run_underlying ht, sizeOf, typeInfo, hi, Builtin.lenOf, Builtin.firstCells, hnc, storeCells, loadCells, loadCellsFrom]
/-- A slice of terms, by headers. -/
structure SegH (w : World) (t : Option Addr) (l : Nat) (L : List Hr) : Prop where
  len : L.length = l
  at_ : 0 < l → ∃ b off, t = some ⟨b, off, none⟩ ∧ b < w.heap.size ∧ ∀ j (hj : j < L.length), T8 w b (off + j * 8) L[j]
theorem SegH.below {w w' : World} {t : Option Addr} {l : Nat} {L : List Hr} (h : SegH w t l L) (hb : Below w.heap.size w w') : SegH w' t l L :=
  ⟨h.len, fun h0 => by
    obtain ⟨b, off, e, lt, hr⟩ := h.at_ h0
    exact ⟨b, off, e, Nat.lt_of_lt_of_le lt hb.size, fun j hj => (hr j hj).to fun r _ => hb.cell (p := ⟨b, off + j * 8 + r, none⟩) lt⟩⟩
theorem encs8_len (L : List Hr) : (L.map Hr.enc).flatten.length = L.length * 8 := by
  induction L with
  | nil => rfl
  | cons x L ih => rw [List.map_cons, List.flatten_cons, List.length_append, ih, enc_len, List.length_cons]; omega
theorem news_rows {w : World} {b off : Nat} {L : List Hr} (hr : ∀ j (hj : j < L.length), T8 w b (off + j * 8) L[j]) : ∀ j u, (L.map Hr.enc).flatten[j]? = some u → w.cell? ((⟨b, off, none⟩ : Addr).add j) = some u := fun j u hu => by
  have hj := (List.getElem?_eq_some_iff.1 hu).1
  rw [encs8_len] at hj
  rw [Addr.add_lit]
  have h1 := enc_at (hr (j / 8) (by omega)) (j % 8) (Nat.mod_lt _ (by decide))
  have e3 : off + j / 8 * 8 + j % 8 = off + j := by have := Nat.div_add_mod' j 8; omega
  rw [e3] at h1
  have h4 := flat_get (s := 8) (L.map Hr.enc) (j / 8) (j % 8) (fun x hx => by obtain ⟨h, _, rfl⟩ := List.mem_map.1 hx; rfl) (Nat.mod_lt _ (by decide)) (by simp; omega)
  rw [Nat.div_add_mod', hu, List.getElem_map] at h4
  rw [h1, getElem!_pos _ _ (by rw [enc_len]; exact Nat.mod_lt _ (by decide)), h4, List.getElem?_eq_getElem (by rw [enc_len]; exact Nat.mod_lt _ (by decide))]
theorem encs8_one {L : List Hr} : ∀ u ∈ (L.map Hr.enc).flatten, u.oneCell' = true := fun u hu => by
  obtain ⟨l, hl, hu⟩ := List.mem_flatten.1 hu
  obtain ⟨h, _, rfl⟩ := List.mem_map.1 hl
  exact encH_one h u hu
/-- One slice more, appended to a row of the call's own. -/
theorem append_seg {w : World} {base : Nat} {v : Value} {L0 : List Hr} (ho : OwnH w base v L0) {t : Option Addr} {l : Nat} (c : Nat) {L : List Hr} (hs : SegH w t l L) (hb : L0.length + l ≤ 100000) (hbase : base ≤ w.heap.size) :
    ∃ v' w', (Builtin.append_ #[22, 22] 22 #[v, .slice t l c]).run Tryz.prog w = .ok v' w' ∧ OwnH w' base v' (L0 ++ L) ∧ Below base w w' := by
  obtain ⟨i0, hi, hz0, hz1, hz2⟩ := info_parts info24
  by_cases h0 : l = 0
  · subst h0
    obtain rfl : L = [] := List.eq_nil_of_length_eq_zero hs.len
    refine ⟨v, w, run_append_zero base 22 22 29 i0 8 Tryz.underlying22 hi v L0.length _ ho t c, by rw [List.append_nil]; exact ho, Below.refl _ _⟩
  · obtain ⟨b, off, rfl, lt, hr⟩ := hs.at_ (by omega)
    obtain ⟨v', w', hrun, h2, h3, -⟩ := run_append_own (P := Tryz.prog) w base 22 22 29 i0 _ 8 72 Tryz.underlying22 hi hz0 hz1 hz2 rfl (by decide) v L0.length (L0.map Hr.enc).flatten ho ⟨b, off, none⟩ l c (L.map Hr.enc).flatten (by rw [encs8_len, hs.len]) (news_rows hr) encs8_one (by unfold maxLen; omega) (by omega) hbase
    refine ⟨v', w', hrun, ?_, (Below.refl _ _).grown h3 hbase (fun k hk => (ho.lt k hk).1)⟩
    unfold OwnH
    rw [List.map_append, List.flatten_append, List.length_append, hs.len]
    exact h2
end Go.Proofs.YtfhknnldkfngdaaGreatDoor
/- WALKS of Concat at two slices of terms, of Join. -/
namespace Go.Proofs.YtfhknnldkfngdaaGreatDoor
open Go.RowKit
/-- lat.Join. -/
noncomputable def joinR (n : Nat) (A B : List Tm) : Int × List Tm := if (rgV n A && rgV n B) = true then joinV (n - 1) A B else (1, [])
theorem join_rg {n : Nat} {A B : List Tm} (hA : RG (n + 1) A) (hB : RG (n + 1) B) : joinV n A B = (30, []) ∨ ∃ J, joinV n A B = (0, J) ∧ RG (n + 1) J := by
  rcases join_rv hA.1 hB.1 with h | ⟨J, e, r, hw, _⟩
  · exact .inl h.1
  · exact .inr ⟨J, e, r, hw⟩
theorem heads_seg {n : Nat} {w : World} {t : Option Addr} {tl tc : Nat} {A : List Tm} (h : InV w (n + 1) t tl tc A) : ∃ L : List Hr, L.map (fun h : Hr => h.x) = A ∧ (∀ h ∈ L, h.ok n w) ∧ SegH w t tl L := by
  obtain ⟨L, h1, h2, h3⟩ := heads h
  have hl : L.length = tl := by rw [← h.1, ← h1, List.length_map]
  refine ⟨L, h1, h2, hl, fun h0 => ?_⟩
  obtain ⟨b, off, e, _⟩ := h.2.2 0 (by have := h.1; omega)
  exact ⟨b, off, e, (h3 b off e 0 (by omega)).1, fun j hj => (h3 b off e j hj).2⟩
end Go.Proofs.YtfhknnldkfngdaaGreatDoor
