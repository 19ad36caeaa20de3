/- Me, Bh, Bi, Bj -/
import Derived.Test.YtddleeenlpigfaaGreatDoorY20
import Derived.Test.YtddleeenlpigfaaGreatDoorY28
/- PLAIN MATHEMATICS of values: the meet does not hang on which comes first. -/
namespace Go.Proofs.YtddleeenlpigfaaGreatDoor
theorem cmL_eq {g : List Tm → List Tm → Int × List Tm} {fs gs fs2 gs2 : List Fd} : ∀ {u v : List Fd}, u.length = v.length → (∀ j (h : j < u.length) (h' : j < v.length), cm1 g fs gs u[j] = cm1 g fs2 gs2 v[j]) → cmL g fs gs u = cmL g fs2 gs2 v
  | [], [], _, _ => rfl
  | [], _ :: _, h, _ => by simp at h
  | _ :: _, [], h, _ => by simp at h
  | f :: u, f2 :: v, h, hh => by
    have h0 := hh 0 (by simp) (by simp)
    simp only [List.getElem_cons_zero] at h0
    have ih := cmL_eq (g := g) (fs := fs) (gs := gs) (fs2 := fs2) (gs2 := gs2) (u := u) (v := v) (by simpa using h) (fun j h1 h2 => hh (j + 1) (by simpa using h1) (by simpa using h2))
    simp only [cmL, h0, ih]
theorem names_up {fs : List Fd} (h : Up fs) : (fs.map (·.1)).Pairwise fun a b => Op.bytesLess a.toList b.toList = true := by rw [List.pairwise_map]; exact h
theorem uni_names {fs gs : List Fd} (hf : Up fs) (hg : Up gs) : (uni fs gs).map (·.1) = (uni gs fs).map (·.1) := by
  refine pw_ext (r := fun a b : ByteArray => Op.bytesLess a.toList b.toList = true) (fun _ _ => less_asym) (names_up (uni_up hf hg)) (names_up (uni_up hg hf)) fun k => ?_
  have one : ∀ {fs gs : List Fd} {k : ByteArray}, k ∈ (uni fs gs).map (·.1) → k ∈ (uni gs fs).map (·.1) := fun {fs gs k} h => by
    obtain ⟨f, hf, rfl⟩ := List.mem_map.1 h
    rcases uni_mem.1 hf with h | ⟨h, _⟩
    · obtain ⟨f2, hf2, e⟩ := uni_name (fs := gs) h
      exact List.mem_map.2 ⟨f2, hf2, e⟩
    · exact List.mem_map.2 ⟨f, uni_left h, rfl⟩
  exact ⟨one, one⟩
section
variable {n l : Nat} {g : List Tm → List Tm → Int × List Tm} {s t : Tm}
theorem comS_comm (hc : ∀ {V W : List Tm}, RV n l V → RV n l W → g V W = g W V) (gs : Gt n l s) (gt : Gt n l t) (s4 : s.k = 4) (t4 : t.k = 4) : comS g s t = comS g t s := by
  have us := gt_up gs s4
  have ut := gt_up gt t4
  have hl : (uni s.fs t.fs).length = (uni t.fs s.fs).length := by have := congrArg List.length (uni_names us ut); simpa using this
  have : cmL g s.fs t.fs (uni s.fs t.fs) = cmL g t.fs s.fs (uni t.fs s.fs) := cmL_eq hl fun j h h' => by
    have en : (uni s.fs t.fs)[j].1 = (uni t.fs s.fs)[j].1 := by
      have := congrArg (fun L => L[j]?) (uni_names us ut)
      simpa [h, h'] using this
    have m1 := uni_mem.1 (List.getElem_mem h)
    have m2 := uni_mem.1 (List.getElem_mem h')
    generalize (uni s.fs t.fs)[j] = f1 at *
    generalize (uni t.fs s.fs)[j] = f2 at *
    obtain ⟨k, V1⟩ := f1
    obtain ⟨k2, V2⟩ := f2
    simp only at en m1 m2
    subst en
    unfold cm1
    simp only
    cases e1 : findF s.fs k with
    | none =>
      cases e2 : findF t.fs k with
      | none =>
        rcases m1 with h | ⟨h, _⟩
        · exact absurd e1 (by rw [(findF_up us).2 h]; simp)
        · exact absurd e2 (by rw [(findF_up ut).2 h]; simp)
      | some W =>
        have a1 : (k, V1) ∈ t.fs := by
          rcases m1 with h | ⟨h, _⟩
          · exact absurd e1 (by rw [(findF_up us).2 h]; simp)
          · exact h
        have a2 : (k, V2) ∈ t.fs := by
          rcases m2 with h | ⟨h, _⟩
          · exact h
          · exact absurd e1 (by rw [(findF_up us).2 h]; simp)
        rw [up_one ut a1 a2]
    | some V =>
      cases e2 : findF t.fs k with
      | none =>
        have a1 : (k, V1) ∈ s.fs := by
          rcases m1 with h | ⟨h, _⟩
          · exact h
          · exact absurd e2 (by rw [(findF_up ut).2 h]; simp)
        have a2 : (k, V2) ∈ s.fs := by
          rcases m2 with h | ⟨h, _⟩
          · exact absurd e2 (by rw [(findF_up ut).2 h]; simp)
          · exact h
        rw [up_one us a1 a2]
      | some W =>
        simp only
        rw [hc (gt_f gs ((findF_up us).1 e1)).2.1 (gt_f gt ((findF_up ut).1 e2)).2.1]
  unfold comS
  rw [this, Bool.or_comm, Bool.and_comm s.o t.o]
theorem comT_comm (hc : ∀ {V W : List Tm}, RV n l V → RV n l W → g V W = g W V) (gs : Gt n l s) (gt : Gt n l t) : comT g s t = comT g t s := by
  unfold comT
  by_cases s5 : s.k = 5
  · by_cases t5 : t.k = 5
    · rw [if_pos s5, if_pos t5, gt_five gs s5, gt_five gt t5]
    · rw [if_pos s5, if_neg t5, if_pos s5]
  · by_cases t5 : t.k = 5
    · rw [if_neg s5, if_pos t5, if_pos t5]
    · rw [if_neg s5, if_neg t5, if_neg t5, if_neg s5]
      by_cases h4 : s.k = 4 ∧ t.k = 4
      · rw [if_pos h4, if_pos ⟨h4.2, h4.1⟩]; exact comS_comm hc gs gt h4.1 h4.2
      · rw [if_neg h4, if_neg (fun c => h4 ⟨c.2, c.1⟩)]
        have : scM s t = scM t s := by
          unfold scM
          by_cases h : scR s ∧ scR t
          · rw [if_pos h, if_pos ⟨h.2, h.1⟩, meet_comm (scR_R h.1) (scR_R h.2)]
          · rw [if_neg h, if_neg (fun c => h ⟨c.2, c.1⟩)]
        rw [this]
end
theorem meet_comm_v : ∀ {n l : Nat} {A B : List Tm}, RV n l A → RV n l B → meetV n A B = meetV n B A
  | 0, _, _, _, h, _ => by unfold RV at h; exact h.elim
  | n + 1, 0, _, _, h, _ => by unfold RV at h; exact h.elim
  | n + 1, l + 1, A, B, hA, hB => by
    have hg := meet_good n l
    have hc : ∀ p, p ∈ prs A B ↔ (p.2, p.1) ∈ prs B A := fun p => by rw [mem_prs, mem_prs]; exact and_comm
    have he : ∀ p ∈ prs A B, comT (meetV n) p.1 p.2 = comT (meetV n) p.2 p.1 := fun p hp => by
      obtain ⟨ha, hb⟩ := mem_prs.1 hp
      exact comT_comm (fun h1 h2 => meet_comm_v h1 h2) (hA.1 _ ha) (hB.1 _ hb)
    have hset : ∀ x, x ∈ ((prs A B).flatMap fun p => (comT (meetV n) p.1 p.2).2) ↔ x ∈ ((prs B A).flatMap fun p => (comT (meetV n) p.1 p.2).2) := fun x => by
      rw [List.mem_flatMap, List.mem_flatMap]
      constructor
      · rintro ⟨p, hp, hx⟩
        exact ⟨(p.2, p.1), (hc p).1 hp, by rw [he p hp] at hx; exact hx⟩
      · rintro ⟨p, hp, hx⟩
        have hp' : (p.2, p.1) ∈ prs A B := (hc (p.2, p.1)).2 hp
        exact ⟨(p.2, p.1), hp', by rw [he _ hp']; exact hx⟩
    have herr : (∀ p ∈ prs A B, (comT (meetV n) p.1 p.2).1 = 0) ↔ (∀ p ∈ prs B A, (comT (meetV n) p.1 p.2).1 = 0) := by
      constructor
      · intro h p hp
        have hp' : (p.2, p.1) ∈ prs A B := (hc (p.2, p.1)).2 hp
        have := h _ hp'
        rw [he _ hp'] at this; exact this
      · intro h p hp
        have := h (p.2, p.1) ((hc p).1 hp)
        rw [he p hp]; exact this
    by_cases h0 : ∀ p ∈ prs A B, (comT (meetV n) p.1 p.2).1 = 0
    · have i1 := (in_pairs hg hA.1 hB.1 h0).1
      have hn := norm_set (n := n) (fun x hx => gt_dt (i1 x hx)) hset
      rcases meet_cases hg hA.1 hB.1 with ⟨e, h⟩ | ⟨e, h1, h2, h3⟩
      · rcases meet_cases hg hB.1 hA.1 with ⟨e', h'⟩ | ⟨e', h1', h2', h3'⟩
        · rw [e, e']
        · rcases h with h | ⟨p, hp, h⟩ | h
          · rw [Nat.mul_comm] at h1'; omega
          · exact absurd (h0 p hp) h
          · rw [hn] at h; omega
      · rcases meet_cases hg hB.1 hA.1 with ⟨e', h'⟩ | ⟨e', h1', h2', h3'⟩
        · rcases h' with h | ⟨p, hp, h⟩ | h
          · rw [Nat.mul_comm] at h1; omega
          · exact absurd (herr.1 h0 p hp) h
          · rw [hn] at h3; omega
        · rw [e, e', hn]
    · rcases meet_cases hg hA.1 hB.1 with ⟨e, h⟩ | ⟨e, h1, h2, h3⟩
      · rcases meet_cases hg hB.1 hA.1 with ⟨e', h'⟩ | ⟨e', h1', h2', h3'⟩
        · rw [e, e']
        · exact absurd (herr.2 h2') h0
      · exact absurd h2 h0
theorem join_comm_v {n l : Nat} {A B : List Tm} (hA : RV (n + 1) (l + 1) A) (hB : RV (n + 1) (l + 1) B) : joinV n A B = joinV n B A := by
  have hd : ∀ x ∈ A ++ B, Dt n x := fun x hx => by
    rcases List.mem_append.1 hx with h | h
    · exact gt_dt (hA.1 x h)
    · exact gt_dt (hB.1 x h)
  unfold joinV nrm
  rw [norm_set hd (M := B ++ A) fun x => by simp [or_comm]]
/-- A value is below another one just if their meet is it. -/
theorem below_meet {n l : Nat} {A B M : List Tm} (hA : RV (n + 1) (l + 1) A) (hB : RV (n + 1) (l + 1) B) (hM : RV (n + 1) (l + 1) M) (h : ∀ x, Gt n l x → (inV n M x ↔ inV n A x ∧ inV n B x)) : undV (n + 1) A B = true ↔ M = A := by
  rw [und_in hA hB]
  constructor
  · intro hu
    exact val_ext hM hA fun x gx => (h x gx).trans ⟨fun c => c.1, fun c => ⟨c, hu x gx c⟩⟩
  · rintro rfl x gx hx
    exact ((h x gx).1 hx).2
theorem below_join {n l : Nat} {A B J : List Tm} (hA : RV (n + 1) (l + 1) A) (hB : RV (n + 1) (l + 1) B) (hJ : RV (n + 1) (l + 1) J) (h : ∀ x, Gt n l x → (inV n J x ↔ inV n A x ∨ inV n B x)) : undV (n + 1) A B = true ↔ J = B := by
  rw [und_in hA hB]
  constructor
  · intro hu
    exact val_ext hJ hB fun x gx => (h x gx).trans ⟨fun c => c.elim (hu x gx) id, .inr⟩
  · rintro rfl x gx hx
    exact (h x gx).2 (.inl hx)
end Go.Proofs.YtddleeenlpigfaaGreatDoor
/- A VALUE IN MEMORY, in such blocks as P lets; what meet and common answer. -/
namespace Go.Proofs.YtddleeenlpigfaaGreatDoor
open Go.RowKit
/-- Fields in such blocks as P lets. -/
def InFP (P : Nat → Prop) (I : Option Addr → Nat → Nat → List Tm → Prop) (w : World) (f : Option Addr) (fl : Nat) (fs : List (ByteArray × List Tm)) : Prop :=
  fs.length = fl ∧ (fl : Int) ≤ 9223372036854775807 ∧ ∀ i (h : i < fs.length), ∃ (b off tl tc : Nat) (t : Option Addr), f = some ⟨b, off, none⟩ ∧ P b ∧ b < w.heap.size ∧ w.cell? ⟨b, off + i * 2, none⟩ = some (.string fs[i].1) ∧ w.cell? ⟨b, off + i * 2 + 1, none⟩ = some (.slice t tl tc) ∧ I t tl tc fs[i].2
/-- A term's cells, its fields in such blocks. -/
def InTP (P : Nat → Prop) (I : Option Addr → Nat → Nat → List Tm → Prop) (w : World) (b off : Nat) : Tm → Prop
  | .mk k lo hi s y m o fs => ∃ (f : Option Addr) (fl fc : Nat), w.cell? ⟨b, off, none⟩ = some (.int .i64 k) ∧ w.cell? ⟨b, off + 1, none⟩ = some (.int .i64 lo) ∧ w.cell? ⟨b, off + 2, none⟩ = some (.int .i64 hi) ∧ w.cell? ⟨b, off + 3, none⟩ = some (.string s) ∧
    w.cell? ⟨b, off + 4, none⟩ = some (.bool y) ∧ w.cell? ⟨b, off + 5, none⟩ = some (.bool m) ∧ w.cell? ⟨b, off + 6, none⟩ = some (.bool o) ∧ w.cell? ⟨b, off + 7, none⟩ = some (.slice f fl fc) ∧ InFP P I w f fl fs
/-- A value in such blocks, so deep at most. -/
def InVP (P : Nat → Prop) (w : World) : Nat → Option Addr → Nat → Nat → List Tm → Prop
  | 0, _, _, _, _ => False
  | n + 1, t, tl, _, V => V.length = tl ∧ (tl : Int) ≤ 9223372036854775807 ∧ ∀ i (h : i < V.length), ∃ b off : Nat, t = some ⟨b, off, none⟩ ∧ P b ∧ b < w.heap.size ∧ InTP P (fun t tl tc V => InVP P w n t tl tc V) w b (off + i * 8) V[i]
/-- From one world to another one in which its blocks are as they were. -/
theorem InFP.to {P Q : Nat → Prop} {I J : Option Addr → Nat → Nat → List Tm → Prop} {w w' : World} (hs : w.heap.size ≤ w'.heap.size) (hP : ∀ b, P b → b < w.heap.size → Q b ∧ w'.heap[b]? = w.heap[b]?) (hIJ : ∀ t tl tc V, I t tl tc V → J t tl tc V) {f : Option Addr} {fl : Nat} {fs : List (ByteArray × List Tm)} (h : InFP P I w f fl fs) : InFP Q J w' f fl fs := by
  refine ⟨h.1, h.2.1, fun i hi => ?_⟩
  obtain ⟨b, off, tl, tc, t, e, hp, lt, c0, c1, h2⟩ := h.2.2 i hi
  obtain ⟨hq, hh⟩ := hP b hp lt
  exact ⟨b, off, tl, tc, t, e, hq, Nat.lt_of_lt_of_le lt hs, (cell_of_heap hh _).trans c0, (cell_of_heap hh _).trans c1, hIJ _ _ _ _ h2⟩
theorem InTP.to' {P Q : Nat → Prop} {I J : Option Addr → Nat → Nat → List Tm → Prop} {w w' : World} {b b' off off' : Nat} (hs : w.heap.size ≤ w'.heap.size) (hP : ∀ b, P b → b < w.heap.size → Q b ∧ w'.heap[b]? = w.heap[b]?) (hIJ : ∀ t tl tc V, I t tl tc V → J t tl tc V) (hc : ∀ r, r < 8 → w'.cell? ⟨b', off' + r, none⟩ = w.cell? ⟨b, off + r, none⟩) {x : Tm} (h : InTP P I w b off x) : InTP Q J w' b' off' x := by
  obtain ⟨k, lo, hi, s, y, m, o, fs⟩ := x
  obtain ⟨f, fl, fc, c0, c1, c2, c3, c4, c5, c6, c7, hf⟩ := h
  exact ⟨f, fl, fc, (hc 0 (by omega)).trans c0, (hc 1 (by omega)).trans c1, (hc 2 (by omega)).trans c2, (hc 3 (by omega)).trans c3, (hc 4 (by omega)).trans c4, (hc 5 (by omega)).trans c5, (hc 6 (by omega)).trans c6, (hc 7 (by omega)).trans c7, hf.to hs hP hIJ⟩
theorem InVP.to {P Q : Nat → Prop} {w w' : World} (hs : w.heap.size ≤ w'.heap.size) (hP : ∀ b, P b → b < w.heap.size → Q b ∧ w'.heap[b]? = w.heap[b]?) : ∀ {n : Nat} {t : Option Addr} {tl tc : Nat} {V : List Tm}, InVP P w n t tl tc V → InVP Q w' n t tl tc V
  | 0, _, _, _, _, h => h.elim
  | n + 1, t, tl, tc, V, h => ⟨h.1, h.2.1, fun i hi => by
      obtain ⟨b, off, e, hp, lt, h2⟩ := h.2.2 i hi
      obtain ⟨hq, hh⟩ := hP b hp lt
      exact ⟨b, off, e, hq, Nat.lt_of_lt_of_le lt hs, InTP.to' hs hP (fun t tl tc V h => InVP.to hs hP h) (fun r _ => cell_of_heap hh _) h2⟩⟩
theorem InVP.below {P : Nat → Prop} {w w' : World} (hb : Below w.heap.size w w') {n : Nat} {t : Option Addr} {tl tc : Nat} {V : List Tm} (h : InVP P w n t tl tc V) : InVP P w' n t tl tc V :=
  h.to hb.size fun b hp lt => ⟨hp, hb.block b lt⟩
theorem InVP.imp {P Q : Nat → Prop} {w : World} (hP : ∀ b, P b → b < w.heap.size → Q b) {n : Nat} {t : Option Addr} {tl tc : Nat} {V : List Tm} (h : InVP P w n t tl tc V) : InVP Q w n t tl tc V :=
  h.to (Nat.le_refl _) fun b hp lt => ⟨hP b hp lt, rfl⟩
theorem InFP.inF {P : Nat → Prop} {I J : Option Addr → Nat → Nat → List Tm → Prop} (hIJ : ∀ t tl tc V, I t tl tc V → J t tl tc V) {w : World} {f : Option Addr} {fl : Nat} {fs : List (ByteArray × List Tm)} (h : InFP P I w f fl fs) : InF J w f fl fs := by
  refine ⟨h.1, h.2.1, fun i hi => ?_⟩
  obtain ⟨b, off, tl, tc, t, e, hp, lt, c0, c1, h2⟩ := h.2.2 i hi
  exact ⟨b, off, tl, tc, t, e, lt, c0, c1, hIJ _ _ _ _ h2⟩
/-- It lies in the world. -/
theorem InVP.inV {P : Nat → Prop} {w : World} : ∀ {n : Nat} {t : Option Addr} {tl tc : Nat} {V : List Tm}, InVP P w n t tl tc V → InV w n t tl tc V
  | 0, _, _, _, _, h => h.elim
  | n + 1, t, tl, tc, V, h => ⟨h.1, h.2.1, fun i hi => by
      obtain ⟨b, off, e, hp, lt, h2⟩ := h.2.2 i hi
      refine ⟨b, off, e, ?_⟩
      generalize V[i] = x at h2
      obtain ⟨k, lo, hi, s, y, m, o, fs⟩ := x
      obtain ⟨f, fl, fc, c0, c1, c2, c3, c4, c5, c6, c7, hf⟩ := h2
      exact ⟨lt, f, fl, fc, c0, c1, c2, c3, c4, c5, c6, c7, hf.inF fun t tl tc V h => InVP.inV h⟩⟩
theorem InVP.up {P : Nat → Prop} {w : World} : ∀ {n : Nat} {t : Option Addr} {tl tc : Nat} {V : List Tm}, InVP P w n t tl tc V → InVP P w (n + 1) t tl tc V
  | 0, _, _, _, _, h => h.elim
  | n + 1, t, tl, tc, V, h => ⟨h.1, h.2.1, fun i hi => by
      obtain ⟨b, off, e, hp, lt, h2⟩ := h.2.2 i hi
      exact ⟨b, off, e, hp, lt, InTP.to' (Nat.le_refl _) (fun b hp _ => ⟨hp, rfl⟩) (fun t tl tc V h => InVP.up h) (fun _ _ => rfl) h2⟩⟩
/-- No terms lie anywhere. -/
theorem InVP.none {P : Nat → Prop} (w : World) (n : Nat) (t : Option Addr) (tc : Nat) : InVP P w (n + 1) t 0 tc [] := ⟨rfl, by omega, fun i h => absurd h (Nat.not_lt_zero _)⟩

theorem InV.inVP {w : World} : ∀ {n : Nat} {t : Option Addr} {tl tc : Nat} {V : List Tm}, InV w n t tl tc V → InVP (· < w.heap.size) w n t tl tc V
  | 0, _, _, _, _, h => h.elim
  | n + 1, t, tl, tc, V, h => ⟨h.1, h.2.1, fun i hi => by
      obtain ⟨b, off, e, h2⟩ := h.2.2 i hi
      refine ⟨b, off, e, ?_⟩
      generalize V[i] = x at h2
      obtain ⟨k, lo, hi, s, y, m, o, fs⟩ := x
      obtain ⟨lt, f, fl, fc, c0, c1, c2, c3, c4, c5, c6, c7, hf⟩ := h2
      refine ⟨lt, lt, f, fl, fc, c0, c1, c2, c3, c4, c5, c6, c7, hf.1, hf.2.1, fun i hi => ?_⟩
      obtain ⟨b, off, tl, tc, t, e, lt, c0, c1, h2⟩ := hf.2.2 i hi
      exact ⟨b, off, tl, tc, t, e, lt, lt, c0, c1, InV.inVP h2⟩⟩
theorem InTP.inT {P : Nat → Prop} {I J : Option Addr → Nat → Nat → List Tm → Prop} (hIJ : ∀ t tl tc V, I t tl tc V → J t tl tc V) {w : World} {b off : Nat} {x : Tm} (hb : b < w.heap.size) (h : InTP P I w b off x) : InT J w b off x := by
  obtain ⟨k, lo, hi, s, y, m, o, fs⟩ := x
  obtain ⟨f, fl, fc, c0, c1, c2, c3, c4, c5, c6, c7, hf⟩ := h
  exact ⟨hb, f, fl, fc, c0, c1, c2, c3, c4, c5, c6, c7, hf.inF hIJ⟩
/-- A header's fields lie in such blocks. -/
def Hr.okP (P : Nat → Prop) (n : Nat) (w : World) (h : Hr) : Prop := InFP P (fun t tl tc V => InVP P w n t tl tc V) w h.f h.fl h.x.fs
theorem Hr.okP.to {P Q : Nat → Prop} {n : Nat} {w w' : World} {h : Hr} (hs : w.heap.size ≤ w'.heap.size) (hP : ∀ b, P b → b < w.heap.size → Q b ∧ w'.heap[b]? = w.heap[b]?) (k : h.okP P n w) : h.okP Q n w' := InFP.to hs hP (fun _ _ _ _ h => InVP.to hs hP h) k
theorem Hr.okP.below {P : Nat → Prop} {n : Nat} {w w' : World} {h : Hr} (hb : Below w.heap.size w w') (k : h.okP P n w) : h.okP P n w' := k.to hb.size fun b hp lt => ⟨hp, hb.block b lt⟩
theorem Hr.okP.ok {P : Nat → Prop} {n : Nat} {w : World} {h : Hr} (k : h.okP P n w) : h.ok n w := InFP.inF (fun _ _ _ _ h => InVP.inV h) k
/-- What common answers. -/
def ComP (P : Nat → Prop) (n : Nat) (r : Int × List Tm) (w : World) (e : Ending) (w' : World) : Prop :=
  ∃ (a : Option Addr) (tl cap : Nat), e = .returned (.tuple #[.slice a tl cap, .int .i64 r.1]) ∧ Below w.heap.size w w' ∧ ((r.2 = [] ∧ a = none ∧ tl = 0 ∧ cap = 0) ∨ ∃ (g : Nat) (h : Hr), r.2 = [h.x] ∧ tl = 1 ∧ a = some ⟨g, 0, none⟩ ∧ g < w'.heap.size ∧ T8 w' g 0 h ∧ h.okP (fun b => P b ∨ w.heap.size ≤ b) n w')
/-- What meet answers. -/
def MeP (P : Nat → Prop) (n : Nat) (r : Int × List Tm) (w : World) (e : Ending) (w' : World) : Prop :=
  ∃ (t : Option Addr) (tl tc : Nat), e = .returned (.tuple #[.agg #[.slice t tl tc], .int .i64 r.1]) ∧ Below w.heap.size w w' ∧ InVP (fun b => P b ∨ w.heap.size ≤ b) w' n t tl tc r.2
/-- A right value, of whatever depth. -/
def Rw (n : Nat) (A : List Tm) : Prop := RvN n A ∧ wN n A ≤ 512
/-- meet, one level down. -/
def MeH (n : Nat) : Prop := ∀ (P : Nat → Prop) (W : World) (t : Option Addr) (tl tc : Nat) (A : List Tm) (t2 : Option Addr) (tl2 tc2 : Nat) (B : List Tm), (∀ b, P b → b < W.heap.size) → InVP P W n t tl tc A → InVP P W n t2 tl2 tc2 B → Rw n A → Rw n B →
  Calls Tryz.prog 52 #[.agg #[.slice t tl tc], .agg #[.slice t2 tl2 tc2]] W (MeP P n (meetV n A B) W)
end Go.Proofs.YtddleeenlpigfaaGreatDoor
/- WALK of commonStruct. -/
namespace Go.Proofs.YtddleeenlpigfaaGreatDoor
open Go.RowKit
/-- A field's value lies in such blocks. -/
abbrev Fh.okP (P : Nat → Prop) (n : Nat) (w : World) (h : Fh) : Prop := InVP P w n h.t h.tl h.tc h.V
/-- Between two fields: c is the row as it stands. -/
structure CInvF (P : Nat → Prop) (n : Nat) (x y : Tm) (d : List Fh) (w wr : World) (a : Option Addr) (k : Nat) (c : List Fh) : Prop where
  old : Below w.heap.size w wr
  len : c.length = d.length
  rest : ∀ j (h : j < c.length) (h' : j < d.length), k ≤ j → c[j] = d[j]
  done : ∀ j (h : j < c.length) (h' : j < d.length), j < k → cm1 (meetV n) x.fs y.fs d[j].f = (0, some c[j].f)
  row : c = [] ∨ ∃ g, a = some ⟨g, 0, none⟩ ∧ w.heap.size ≤ g ∧ RowF wr g c ∧ ∀ z ∈ c, z.okP (fun b => P b ∨ (w.heap.size ≤ b ∧ b ≠ g)) n wr
theorem CInvF.below {P : Nat → Prop} {n : Nat} {x y : Tm} {d : List Fh} {w wr w' : World} {a : Option Addr} {k : Nat} {c : List Fh} (h : CInvF P n x y d w wr a k c) (hb : Below wr.heap.size wr w') : CInvF P n x y d w w' a k c :=
  ⟨bl_step h.old hb, h.len, h.rest, h.done, by
    rcases h.row with h | ⟨g, e, hg, hr, hok⟩
    · exact .inl h
    · exact .inr ⟨g, e, hg, hr.below hb, fun z hz => (hok z hz).below hb⟩⟩
theorem inVP_len {P : Nat → Prop} {w : World} : ∀ {n : Nat} {t : Option Addr} {tl tc : Nat} {V : List Tm}, InVP P w n t tl tc V → V.length = tl
  | 0, _, _, _, _, h => h.elim
  | _ + 1, _, _, _, _, h => h.1
theorem cell_ex {o : Option Value} {v : Value} (h : o = some v) : ∃ u, o = some u := ⟨v, h⟩
/-- A field that stays as it is. -/
theorem CInvF.skip {P : Nat → Prop} {n : Nat} {x y : Tm} {d : List Fh} {w wr : World} {a : Option Addr} {k : Nat} {c : List Fh} (h : CInvF P n x y d w wr a k c) (hk : k < d.length) (h1 : cm1 (meetV n) x.fs y.fs d[k].f = (0, some d[k].f)) : CInvF P n x y d w wr a (k + 1) c :=
  ⟨h.old, h.len, fun j hj hj' hk' => h.rest j hj hj' (by omega), fun j hj hj' hk' => by
    by_cases e : j = k
    · subst e; rw [h.rest j hj hj' (Nat.le_refl _)]; exact h1
    · exact h.done j hj hj' (by omega), h.row⟩
/-- A field whose value is stored. -/
theorem CInvF.store {P : Nat → Prop} {n : Nat} {x y : Tm} {d : List Fh} {w wr : World} {g : Nat} {k : Nat} {c : List Fh} (hP : ∀ b, P b → b < w.heap.size) (h : CInvF P n x y d w wr (some ⟨g, 0, none⟩) k c) (hk : k < d.length) {t : Option Addr} {tl tc : Nat} {V : List Tm} {Q : Nat → Prop}
    (hQ : ∀ b, Q b → P b ∨ (w.heap.size ≤ b ∧ b ≠ g)) (hV : InVP Q wr n t tl tc V) (h1 : cm1 (meetV n) x.fs y.fs d[k].f = (0, some (d[k].nm, V))) :
    CInvF P n x y d w (wr.setCell ⟨g, k * 2 + 1, none⟩ (.slice t tl tc)) (some ⟨g, 0, none⟩) (k + 1) (c.set k ⟨d[k].nm, V, t, tl, tc⟩) := by
  have hkc : k < c.length := by rw [h.len]; exact hk
  rcases h.row with h0 | ⟨g', e, hg, hr, hok⟩
  · rw [h0] at hkc; exact absurd hkc (by simp)
  · cases e
    have hset : ∀ b, b ≠ g → (wr.setCell ⟨g, k * 2 + 1, none⟩ (.slice t tl tc)).heap[b]? = wr.heap[b]? := fun b hb => set_heap hb
    refine ⟨bl_set h.old hg, by rw [List.length_set]; exact h.len, fun j hj hj' hkj => ?_, fun j hj hj' hkj => ?_, .inr ⟨g, rfl, hg, ⟨by rw [set_size]; exact hr.1, fun o => by rw [World.frozen?_setCell]; exact hr.2.1 o, fun j hj => ?_⟩, fun z hz => ?_⟩⟩
    · rw [List.getElem_set_ne (by omega)]; exact h.rest j (by simpa using hj) hj' (by omega)
    · by_cases ej : j = k
      · subst ej; rw [List.getElem_set_self]; exact h1
      · rw [List.getElem_set_ne (by omega)]; exact h.done j (by simpa using hj) hj' (by omega)
    · have hj2 : j < c.length := by simpa using hj
      obtain ⟨r0, r1⟩ := hr.2.2 j hj2
      by_cases ej : j = k
      · subst ej
        rw [List.getElem_set_self]
        have hn : c[j].nm = d[j].nm := by rw [h.rest j hj2 hk (Nat.le_refl _)]
        exact ⟨by rw [set_far (.inr (by omega)), ← hn]; exact r0, set_here r1⟩
      · rw [List.getElem_set_ne (by omega)]
        exact ⟨by rw [set_far (.inr (by omega))]; exact r0, by rw [set_far (.inr (by omega))]; exact r1⟩
    · rcases List.mem_or_eq_of_mem_set hz with hz | rfl
      · exact (hok z hz).to (Nat.le_of_eq set_size.symm) fun b hb _ => ⟨hb, hset b (hb.elim (fun hb => by have := hP b hb; omega) (fun hb => hb.2))⟩
      · exact InVP.to (Nat.le_of_eq set_size.symm) (fun b hb _ => ⟨hQ b hb, hset b ((hQ b hb).elim (fun hb => by have := hP b hb; omega) (fun hb => hb.2))⟩) hV
/-- All fields done: a struct's. -/
theorem CInvF.inF {P : Nat → Prop} {n : Nat} {x y : Tm} {d : List Fh} {w wr : World} {a : Option Addr} {c : List Fh} {k : Nat} (h : CInvF P n x y d w wr a k c) (hz : (d.length : Int) ≤ 9223372036854775807) : InFP (fun b => P b ∨ w.heap.size ≤ b) (fun t tl tc V => InVP (fun b => P b ∨ w.heap.size ≤ b) wr n t tl tc V) wr a d.length (c.map Fh.f) := by
  refine ⟨by rw [List.length_map]; exact h.len, hz, fun i hi => ?_⟩
  have hi' : i < c.length := by simpa using hi
  rcases h.row with h0 | ⟨g, e, hg, hr, hok⟩
  · rw [h0] at hi'; exact absurd hi' (by simp)
  · obtain ⟨r0, r1⟩ := hr.2.2 i hi'
    simp only [List.getElem_map]
    exact ⟨g, 0, c[i].tl, c[i].tc, c[i].t, e, .inr hg, hr.1, by rw [Nat.zero_add]; exact r0, by rw [Nat.zero_add]; exact r1, InVP.imp (fun b hb _ => hb.elim .inl (fun hb => .inr hb.1)) (hok _ (List.getElem_mem hi'))⟩
theorem CInvF.bad {P : Nat → Prop} {n : Nat} {x y : Tm} {d : List Fh} {w wr : World} {a : Option Addr} {k : Nat} {c : List Fh} {e : Int} (h : CInvF P n x y d w wr a k c) (hd : d.map Fh.f = uni x.fs y.fs) (hk : k < d.length) (h1 : cm1 (meetV n) x.fs y.fs d[k].f = (e, none)) : cmL (meetV n) x.fs y.fs (uni x.fs y.fs) = (e, none) := by
  rw [← hd]
  refine cmL_bad (k := k) (by simpa using hk) (fun j hj hjk => ?_) (by simpa using h1)
  have hj' : j < d.length := by simpa using hj
  exact ⟨_, by simpa using h.done j (by rw [h.len]; exact hj') hj' hjk⟩
theorem CInvF.fine {P : Nat → Prop} {n : Nat} {x y : Tm} {d : List Fh} {w wr : World} {a : Option Addr} {c : List Fh} (h : CInvF P n x y d w wr a d.length c) (hd : d.map Fh.f = uni x.fs y.fs) : cmL (meetV n) x.fs y.fs (uni x.fs y.fs) = (0, some (c.map Fh.f)) := by
  rw [← hd]
  refine cmL_ok (by simp [h.len]) fun j hj hj' => ?_
  simp only [List.getElem_map]
  exact h.done j (by simpa using hj') (by simpa using hj) (by simpa using hj)
/-- What stands at the fields that one alone has. -/
theorem cm1_skip {g : List Tm → List Tm → Int × List Tm} {fs gs : List Fd} {f : Fd} (h : findF fs f.1 = none ∨ findF gs f.1 = none) : cm1 g fs gs f = (0, some f) := by
  unfold cm1
  split
  · rename_i h1 h2; rcases h with h | h
    · rw [h] at h1; cases h1
    · rw [h] at h2; cases h2
  · rfl
theorem cm1_both {g : List Tm → List Tm → Int × List Tm} {fs gs : List Fd} {f : Fd} {V W : List Tm} (h1 : findF fs f.1 = some V) (h2 : findF gs f.1 = some W) : cm1 g fs gs f = if (g V W).1 = 0 ∧ (g V W).2 ≠ [] then (0, some (f.1, (g V W).2)) else ((g V W).1, none) := by
  unfold cm1; rw [h1, h2]
theorem findP_is {I : Option Addr → Nat → Nat → List Tm → Prop} {r : Option (List Tm)} {w : World} {e : Ending} {w' : World} (h : FindP I r w e w') : ∃ t tl tc, e = .returned (.tuple #[.agg #[.slice t tl tc], .bool r.isSome]) ∧ Below w.heap.size w w' ∧ ∀ V, r = some V → I t tl tc V := by
  obtain ⟨t, tl, tc, bl, rfl, hB, hr⟩ := h
  cases r with
  | none => exact ⟨t, tl, tc, by rw [hr.1]; rfl, hB, fun V h => by cases h⟩
  | some V => exact ⟨t, tl, tc, by rw [hr.1]; rfl, hB, fun V' h => by cases h; exact hr.2⟩
set_option maxRecDepth 100000 in
set_option maxHeartbeats 8000000 in
theorem cstruct_any (n : Nat) (P : Nat → Prop) (w : World) (hP : ∀ b, P b → b < w.heap.size) (b1 off1 b2 off2 : Nat) (x y : Tm) (hx : InT (fun t tl tc V => InVP P w n t tl tc V) w b1 off1 x) (hy : InT (fun t tl tc V => InVP P w n t tl tc V) w b2 off2 y)
    (rx : RtN n x) (ry : RtN n y) (x4 : x.k = 4) (y4 : y.k = 4) (wx : ∀ f ∈ x.fs, wN n f.2 ≤ 512) (wy : ∀ f ∈ y.fs, wN n f.2 ≤ 512) (ih : MeH n) :
    Calls Tryz.prog 117 #[.pointer (some ⟨b1, off1, none⟩), .pointer (some ⟨b2, off2, none⟩)] w (ComP P n (comS (meetV n) x y) w) := by
  obtain ⟨l1, gx⟩ := rx
  obtain ⟨l2, gy⟩ := ry
  have hux := gt_up gx x4
  have huy := gt_up gy y4
  have h32x := (gt_four gx x4).2.1.1
  have h32y := (gt_four gy y4).2.1.1
  have HGX := Lib.hid (And.intro gx wx)
  have HGY := Lib.hid (And.intro gy wy)
  have HUN := Lib.hid (fun (W : World) (hW : Below w.heap.size w W) => united_any (fun t tl tc V => InVP P w n t tl tc V) W b1 off1 b2 off2 x y (hx.below (fun _ _ _ _ h => h) hW) (hy.below (fun _ _ _ _ h => h) hW) h32x h32y hux huy)
  have HR1 := Lib.hid (fun (W : World) (hW : Below w.heap.size w W) => refuses_any _ W b1 off1 b2 off2 x y (hx.below (fun _ _ _ _ h => h) hW) (hy.below (fun _ _ _ _ h => h) hW))
  have HR2 := Lib.hid (fun (W : World) (hW : Below w.heap.size w W) => refuses_any _ W b2 off2 b1 off1 y x (hy.below (fun _ _ _ _ h => h) hW) (hx.below (fun _ _ _ _ h => h) hW))
  have HFX := Lib.hid (fun (W : World) (hW : Below w.heap.size w W) (key : ByteArray) => find_any _ W b1 off1 x (hx.below (fun _ _ _ _ h => h) hW) key)
  have HFY := Lib.hid (fun (W : World) (hW : Below w.heap.size w W) (key : ByteArray) => find_any _ W b2 off2 y (hy.below (fun _ _ _ _ h => h) hW) key)
  obtain ⟨lt1, f1, fl1, fc1, -, -, -, -, -, -, c6, -, -⟩ := hx.cells
  obtain ⟨lt2, f2, fl2, fc2, -, -, -, -, -, -, d6, -, -⟩ := hy.cells
  have HIH := Lib.hid ih
  have HP := Lib.hid hP
  have HL := Lib.hid (And.intro h32x h32y)
  obtain ⟨q1, hq1⟩ : ∃ q, (!x.o && lacksF x.fs y.fs) = q := ⟨_, rfl⟩
  obtain ⟨q2, hq2⟩ : ∃ q, (!y.o && lacksF y.fs x.fs) = q := ⟨_, rfl⟩
  rw [hq1] at HR1
  rw [hq2] at HR2
  have HC : Hid (comS (meetV n) x y = if (q1 || q2) = true then (0, []) else match cmL (meetV n) x.fs y.fs (uni x.fs y.fs) with | (e, none) => (e, []) | (_, some l) => if 32 < l.length then (30, []) else (0, [.mk 4 0 0 ⟨#[]⟩ false false (x.o && y.o) l])) := by
    unfold comS; rw [hq1, hq2]; rfl
  obtain ⟨rr, hrr⟩ : ∃ rr, comS (meetV n) x y = rr := ⟨_, rfl⟩
  rw [hrr] at HC ⊢
  clear hx hy gx gy wx wy ih hP hux huy h32x h32y hq1 hq2 hrr
  cases q1
  · cases q2
    · go_enter Tryz.func117, Tryz.ntmps117
      go_wp2_with (first
        | (go_at_call 139; (with_reducible refine (HR1.out _ (Below.refl _ _)).mono ?_); rintro e w1 ⟨rfl, hB1⟩; have HB1 := Lib.hid hB1; clear hB1)
        | (go_at_call 139; (with_reducible refine (HR2.out _ HB1.out).mono ?_); rintro e w2 ⟨rfl, hB2⟩; have HB2 := Lib.hid (bl_step HB1.out hB2); clear hB2)
        | (go_at_call 147; refine (HUN.out _ HB2.out).mono ?_; rintro e w3 ⟨a, cap, d, rfl, hB3, hd, hok, hrow⟩; have HB3 := Lib.hid (bl_step HB2.out hB3); have HD := Lib.hid (And.intro hd (And.intro hok hrow)); have HG0 := Lib.hid HB2.out.size; clear hB3 hd hok hrow))
      have hz : (d.length : Int) ≤ 64 := by
        have h1 := congrArg List.length HD.out.1
        rw [List.length_map] at h1
        have h2 := HL.out
        have h3 : (uni x.fs y.fs).length ≤ x.fs.length + y.fs.length := by
          have : ∀ l fs : List Fd, (l.foldr insF fs).length = l.length + fs.length := fun l fs => by
            induction l with
            | nil => simp
            | cons f l ih =>
              have : ∀ (f : Fd) (l : List Fd), (insF f l).length = l.length + 1 := fun f l => by
                induction l with
                | nil => rfl
                | cons z l ih => unfold insF; split <;> simp [ih]
              rw [List.foldr_cons, this, ih, List.length_cons]; omega
          unfold uni
          rw [this]
          have := List.length_filter_le (fun g : Fd => (findF x.fs g.1).isNone) y.fs
          omega
        omega
      have HST : Hid (CInvF P n x y d w w3 a 0 d) := ⟨HB3.out, rfl, fun _ _ _ _ => rfl, fun j _ _ hj => absurd hj (Nat.not_lt_zero _), by
        rcases HD.out.2.2 with h | ⟨g, e, hg, hr⟩
        · exact .inl h
        · exact .inr ⟨g, e, Nat.le_trans HG0.out hg, hr, fun z hz => InVP.to HB3.out.size (fun b hb lt => ⟨.inl hb, HB3.out.block b lt⟩) (HD.out.2.1 z hz)⟩⟩
      clear HB1 HB2 HB3
      go_loopw [28] (fun i wr => ∃ (k : Nat) (c : List Fh), k ≤ d.length ∧ i = .int .i64 k ∧ Hid (CInvF P n x y d w wr a k c)) (fun i _ => d.length - (intOf i).toNat)
      case atStart => exact ⟨0, d, Nat.zero_le _, rfl, HST⟩
      case round =>
        obtain ⟨k, c, hk, rfl, hI⟩ := hrel
        rename World => wr
        clear HST
        by_cases hlt : k < d.length
        · have hki : (k : Int) < (d.length : Int) := by omega
          have hk0 : (0 : Int) ≤ (k : Int) := by omega
          have hkc : k < c.length := by rw [hI.out.len]; exact hlt
          obtain ⟨g, rfl, hg, hrow, -⟩ := hI.out.row.resolve_left (fun e => by rw [e] at hkc; exact absurd hkc (by simp))
          obtain ⟨r0, r1⟩ := hrow.2.2 k hkc
          rw [hI.out.rest k hkc hlt (Nat.le_refl _)] at r0 r1
          have HROW := Lib.hid hrow
          have HGW := Lib.hid hg
          clear hrow hkc hg
          have HX : ∃ X, findF x.fs d[k].nm = X := ⟨_, rfl⟩
          have HY : ∃ Y, findF y.fs d[k].nm = Y := ⟨_, rfl⟩
          obtain ⟨X, hX⟩ := HX
          obtain ⟨Y, hY⟩ := HY
          have HXY := Lib.hid (And.intro hX hY)
          have HFX1 : Hid (∀ W, Below wr.heap.size wr W → Calls Tryz.prog 141 #[.pointer (some ⟨b1, off1, none⟩), .string d[k].nm] W (FindP (fun t tl tc V => InVP P w n t tl tc V) X W)) := fun W hW => hX ▸ HFX.out W (bl_step hI.out.old hW) d[k].nm
          have HFY1 : Hid (∀ W, Below wr.heap.size wr W → Calls Tryz.prog 141 #[.pointer (some ⟨b2, off2, none⟩), .string d[k].nm] W (FindP (fun t tl tc V => InVP P w n t tl tc V) Y W)) := fun W hW => hY ▸ HFY.out W (bl_step hI.out.old hW) d[k].nm
          obtain ⟨h, hh⟩ : ∃ h, d[k] = h := ⟨_, rfl⟩
          have HH := Lib.hid hh
          rw [hh] at r0 r1 HFX1 HFY1 HXY
          clear hX hY hh
          obtain ⟨nm, VV, t0, tl0, tc0⟩ := h
          simp only at r0 r1 HFX1 HFY1
          obtain ⟨sx, hsx⟩ : ∃ b, X.isSome = b := ⟨_, rfl⟩
          obtain ⟨sy, hsy⟩ : ∃ b, Y.isSome = b := ⟨_, rfl⟩
          have HS := Lib.hid (And.intro hsx hsy)
          have HFX2 : Hid (∀ W, Below wr.heap.size wr W → Calls Tryz.prog 141 #[.pointer (some ⟨b1, off1, none⟩), .string nm] W fun e w' => ∃ t tl tc, e = .returned (.tuple #[.agg #[.slice t tl tc], .bool sx]) ∧ Below W.heap.size W w' ∧ ∀ V, X = some V → InVP P w n t tl tc V) := fun W hW => (HFX1.out W hW).mono fun e w' h => hsx ▸ findP_is h
          have HFY2 : Hid (∀ W, Below wr.heap.size wr W → Calls Tryz.prog 141 #[.pointer (some ⟨b2, off2, none⟩), .string nm] W fun e w' => ∃ t tl tc, e = .returned (.tuple #[.agg #[.slice t tl tc], .bool sy]) ∧ Below W.heap.size W w' ∧ ∀ V, Y = some V → InVP P w n t tl tc V) := fun W hW => (HFY1.out W hW).mono fun e w' h => hsy ▸ findP_is h
          clear hsx hsy HFX1 HFY1
          by_cases hb : sx = true ∧ sy = true
          · obtain ⟨rfl, rfl⟩ := hb
            obtain ⟨V, hV⟩ := Option.isSome_iff_exists.1 HS.out.1
            obtain ⟨W2, hW2⟩ := Option.isSome_iff_exists.1 HS.out.2
            have HVW := Lib.hid (And.intro hV hW2)
            have hfx : findF x.fs nm = some V := by rw [HXY.out.1]; exact hV
            have hfy : findF y.fs nm = some W2 := by rw [HXY.out.2]; exact hW2
            have hvx := gt_f HGX.out.1 ((findF_up (gt_up HGX.out.1 x4)).1 hfx)
            have hvy := gt_f HGY.out.1 ((findF_up (gt_up HGY.out.1 y4)).1 hfy)
            have HRV : Hid (Rw n V) := ⟨⟨l1, hvx.2.1⟩, HGX.out.2 _ ((findF_up (gt_up HGX.out.1 x4)).1 hfx)⟩
            have HRW : Hid (Rw n W2) := ⟨⟨l2, hvy.2.1⟩, HGY.out.2 _ ((findF_up (gt_up HGY.out.1 y4)).1 hfy)⟩
            have herr := (meet_good n (max l1 l2)).err (hvx.2.1.le (Nat.le_max_left _ _)) (hvy.2.1.le (Nat.le_max_right _ _))
            have HNM : Hid (d[k].f.1 = nm ∧ d[k].nm = nm) := by rw [HH.out]; exact ⟨rfl, rfl⟩
            have HCM : Hid (cm1 (meetV n) x.fs y.fs d[k].f = if (meetV n V W2).1 = 0 ∧ (meetV n V W2).2 ≠ [] then (0, some (nm, (meetV n V W2).2)) else ((meetV n V W2).1, none)) := by
              have := cm1_both (g := meetV n) (fs := x.fs) (gs := y.fs) (f := d[k].f) (V := V) (W := W2) (by rw [HNM.out.1]; exact hfx) (by rw [HNM.out.1]; exact hfy)
              rw [this, HNM.out.1]; rfl
            have HMT : Hid (∀ W t tl tc t2 tl2 tc2, Below wr.heap.size wr W → InVP P w n t tl tc V → InVP P w n t2 tl2 tc2 W2 → Calls Tryz.prog 52 #[.agg #[.slice t tl tc], .agg #[.slice t2 tl2 tc2]] W (MeP P n (meetV n V W2) W)) := fun W t tl tc t2 tl2 tc2 hW i1 i2 =>
              HIH.out P W t tl tc V t2 tl2 tc2 W2 (fun b hb => Nat.lt_of_lt_of_le (HP.out b hb) (bl_step hI.out.old hW).size) (i1.below (bl_step hI.out.old hW)) (i2.below (bl_step hI.out.old hW)) HRV.out HRW.out
            clear hV hW2 hfx hfy hvx hvy
            generalize meetV n V W2 = q at *
            obtain ⟨re, M⟩ := q
            simp only at herr
            have go : ∀ {Q : Exit → Act → World → Prop}, True := fun {_} => trivial
            clear go
            by_cases hre : re = 30
            · have HBAD : Hid (cmL (meetV n) x.fs y.fs (uni x.fs y.fs) = (30, none)) := hI.out.bad HD.out.1 hlt (by rw [HCM.out, hre, if_neg (fun c => absurd (show (30 : Int) = 0 from c.1) (by decide))])
              subst hre
              clear herr HCM
              go_wp2_with (first
                | (go_at_call 141; (with_reducible refine (HFX2.out _ (bl_alloc (Below.refl _ _))).mono ?_); rintro e w4 ⟨t1, tl1, tc1, rfl, hB4, hr4⟩; have HB4 := Lib.hid (bl_step (bl_alloc (Below.refl _ _)) hB4); have HR4 := Lib.hid (hr4 V HVW.out.1)
                   have e0 : (w4.alloc (.cells #[.slice t1 tl1 tc1] 24)).cell? ⟨wr.heap.size, 0, none⟩ = some (.string nm) := (((bl_alloc (o := .cells #[.slice t1 tl1 tc1] 24) (Below.refl _ _)).cell (p := ⟨wr.heap.size, 0, none⟩) (Nat.lt_of_lt_of_le (by simp) hB4.size)).trans (hB4.cell (p := ⟨wr.heap.size, 0, none⟩) (by simp))).trans (by simp [go_sem])
                   clear hB4 hr4)
                | (go_at_call 141; (with_reducible refine (HFY2.out _ (bl_alloc HB4.out)).mono ?_); rintro e w5 ⟨t2, tl2, tc2, rfl, hB5, hr5⟩; have HB5 := Lib.hid (bl_step (bl_alloc HB4.out) hB5); have HR5 := Lib.hid (hr5 W2 HVW.out.2)
                   have e1 : (w5.alloc (.cells #[.slice t2 tl2 tc2] 24)).cell? ⟨w4.heap.size, 0, none⟩ = some (.slice t1 tl1 tc1) := (((bl_alloc (o := .cells #[.slice t2 tl2 tc2] 24) (Below.refl _ _)).cell (p := ⟨w4.heap.size, 0, none⟩) (Nat.lt_of_lt_of_le (by simp) hB5.size)).trans (hB5.cell (p := ⟨w4.heap.size, 0, none⟩) (by simp))).trans (by simp [go_sem])
                   clear hB5 hr5)
                | (go_at_call 52; refine (HMT.out _ _ _ _ _ _ _ (bl_alloc HB5.out) HR4.out HR5.out).mono ?_; rintro e w6 ⟨t3, tl3, tc3, rfl, hB6, hv6⟩; have HB6 := Lib.hid (bl_step (bl_alloc HB5.out) hB6); have HV6 := Lib.hid hv6; clear hB6 hv6))
              go_ret2
              rw [HC.out, HBAD.out]
              exact ⟨none, 0, 0, rfl, bl_alloc (bl_step hI.out.old HB6.out), .inl ⟨rfl, rfl, rfl, rfl⟩⟩
            · have hr0 : re = 0 := herr.resolve_right fun c => hre c.1
              subst hr0
              clear herr hre
              by_cases hM : M = []
              · have HBAD : Hid (cmL (meetV n) x.fs y.fs (uni x.fs y.fs) = (0, none)) := hI.out.bad HD.out.1 hlt (by rw [HCM.out, if_neg (fun c => c.2 hM)])
                subst hM
                clear HCM
                go_wp2_with (first
                  | (go_at_call 141; (with_reducible refine (HFX2.out _ (bl_alloc (Below.refl _ _))).mono ?_); rintro e w4 ⟨t1, tl1, tc1, rfl, hB4, hr4⟩; have HB4 := Lib.hid (bl_step (bl_alloc (Below.refl _ _)) hB4); have HR4 := Lib.hid (hr4 V HVW.out.1)
                     have e0 : (w4.alloc (.cells #[.slice t1 tl1 tc1] 24)).cell? ⟨wr.heap.size, 0, none⟩ = some (.string nm) := (((bl_alloc (o := .cells #[.slice t1 tl1 tc1] 24) (Below.refl _ _)).cell (p := ⟨wr.heap.size, 0, none⟩) (Nat.lt_of_lt_of_le (by simp) hB4.size)).trans (hB4.cell (p := ⟨wr.heap.size, 0, none⟩) (by simp))).trans (by simp [go_sem])
                     clear hB4 hr4)
                  | (go_at_call 141; (with_reducible refine (HFY2.out _ (bl_alloc HB4.out)).mono ?_); rintro e w5 ⟨t2, tl2, tc2, rfl, hB5, hr5⟩; have HB5 := Lib.hid (bl_step (bl_alloc HB4.out) hB5); have HR5 := Lib.hid (hr5 W2 HVW.out.2)
                     have e1 : (w5.alloc (.cells #[.slice t2 tl2 tc2] 24)).cell? ⟨w4.heap.size, 0, none⟩ = some (.slice t1 tl1 tc1) := (((bl_alloc (o := .cells #[.slice t2 tl2 tc2] 24) (Below.refl _ _)).cell (p := ⟨w4.heap.size, 0, none⟩) (Nat.lt_of_lt_of_le (by simp) hB5.size)).trans (hB5.cell (p := ⟨w4.heap.size, 0, none⟩) (by simp))).trans (by simp [go_sem])
                     clear hB5 hr5)
                  | (go_at_call 52; refine (HMT.out _ _ _ _ _ _ _ (bl_alloc HB5.out) HR4.out HR5.out).mono ?_; rintro e w6 ⟨t3, tl3, tc3, rfl, hB6, hv6⟩; have HB6 := Lib.hid (bl_step (bl_alloc HB5.out) hB6); have HV6 := Lib.hid hv6; have hl6 : tl3 = 0 := (inVP_len hv6).symm; subst hl6; clear hB6 hv6))
                go_ret2
                rw [HC.out, HBAD.out]
                exact ⟨none, 0, 0, rfl, bl_alloc (bl_step hI.out.old HB6.out), .inl ⟨rfl, rfl, rfl, rfl⟩⟩
              · have HDN : Hid (cm1 (meetV n) x.fs y.fs d[k].f = (0, some (d[k].nm, M))) := by rw [HCM.out, if_pos ⟨rfl, hM⟩, HNM.out.2]; rfl
                have HMP : Hid (M.length ≠ 0) := fun e => hM (List.eq_nil_of_length_eq_zero e)
                clear HCM hM
                go_wp2_with (first
                  | (go_at_call 141; (with_reducible refine (HFX2.out _ (bl_alloc (Below.refl _ _))).mono ?_); rintro e w4 ⟨t1, tl1, tc1, rfl, hB4, hr4⟩; have HB4 := Lib.hid (bl_step (bl_alloc (Below.refl _ _)) hB4); have HR4 := Lib.hid (hr4 V HVW.out.1)
                     have e0 : (w4.alloc (.cells #[.slice t1 tl1 tc1] 24)).cell? ⟨wr.heap.size, 0, none⟩ = some (.string nm) := (((bl_alloc (o := .cells #[.slice t1 tl1 tc1] 24) (Below.refl _ _)).cell (p := ⟨wr.heap.size, 0, none⟩) (Nat.lt_of_lt_of_le (by simp) hB4.size)).trans (hB4.cell (p := ⟨wr.heap.size, 0, none⟩) (by simp))).trans (by simp [go_sem])
                     clear hB4 hr4)
                  | (go_at_call 141; (with_reducible refine (HFY2.out _ (bl_alloc HB4.out)).mono ?_); rintro e w5 ⟨t2, tl2, tc2, rfl, hB5, hr5⟩; have HB5 := Lib.hid (bl_step (bl_alloc HB4.out) hB5); have HR5 := Lib.hid (hr5 W2 HVW.out.2)
                     have e1 : (w5.alloc (.cells #[.slice t2 tl2 tc2] 24)).cell? ⟨w4.heap.size, 0, none⟩ = some (.slice t1 tl1 tc1) := (((bl_alloc (o := .cells #[.slice t2 tl2 tc2] 24) (Below.refl _ _)).cell (p := ⟨w4.heap.size, 0, none⟩) (Nat.lt_of_lt_of_le (by simp) hB5.size)).trans (hB5.cell (p := ⟨w4.heap.size, 0, none⟩) (by simp))).trans (by simp [go_sem])
                     clear hB5 hr5)
                  | (go_at_call 52; refine (HMT.out _ _ _ _ _ _ _ (bl_alloc HB5.out) HR4.out HR5.out).mono ?_; rintro e w6 ⟨t3, tl3, tc3, rfl, hB6, hv6⟩; have HB6 := Lib.hid (bl_step (bl_alloc HB5.out) hB6); have HV6 := Lib.hid hv6; have hl6 : ((tl3 : Int) == 0) = false := (by have h1 : M.length = tl3 := inVP_len hv6; have h2 := HMP.out; simp; omega); have hrw := HROW.out.below (bl_alloc (o := .cells #[.slice t3 tl3 tc3] 24) (bl_step (bl_alloc HB5.out) hB6)); obtain ⟨-, hrf, hrc⟩ := hrw; have hkc9 : k < c.length := (by rw [hI.out.len]; exact hlt); obtain ⟨u9, hs1⟩ := cell_ex (hrc k hkc9).2; have hs2 := hrf (k * 2 + 1); clear hrf hrc hkc9; clear hB6 hv6))
                clear hs1 hs2
                go_roundw
                case rel =>
                  refine ⟨k + 1, c.set k ⟨d[k].nm, M, t3, tl3, tc3⟩, by omega, by go_num, ?_⟩
                  have hb9 := bl_alloc (o := .cells #[.slice t3 tl3 tc3] 24) HB6.out
                  refine CInvF.store (Q := fun b => P b ∨ (w5.alloc (.cells #[.slice t2 tl2 tc2] 24)).heap.size ≤ b) HP.out (hI.out.below hb9) hlt (fun b hb => ?_) (HV6.out.below (bl_alloc (Below.refl _ _))) HDN.out
                  refine hb.imp id fun hb => ?_
                  have h1 := (bl_alloc (o := .cells #[.slice t2 tl2 tc2] 24) HB5.out).size
                  have h2 := hI.out.old.size
                  have h3 := HROW.out.1
                  omega
                case measure => simp [intOf]; omega
          · have HSK : Hid (cm1 (meetV n) x.fs y.fs d[k].f = (0, some d[k].f)) := cm1_skip (by
              have hn : d[k].f.1 = nm := by rw [HH.out]; rfl
              rw [hn, HXY.out.1, HXY.out.2]
              obtain ⟨h1, h2⟩ := HS.out
              cases X with
              | none => exact .inl rfl
              | some V => cases Y with
                | none => exact .inr rfl
                | some W => exact (hb ⟨h1.symm, h2.symm⟩).elim)
            cases sx
            all_goals cases sy
            all_goals first | (exact absurd ⟨rfl, rfl⟩ hb) | skip
            all_goals
              clear hb
              go_wp2_with (first
                | (go_at_call 141; (with_reducible refine (HFX2.out _ (bl_alloc (Below.refl _ _))).mono ?_); rintro e w4 ⟨t1, tl1, tc1, rfl, hB4, hr4⟩; have HB4 := Lib.hid (bl_step (bl_alloc (Below.refl _ _)) hB4)
                   have e0 : (w4.alloc (.cells #[.slice t1 tl1 tc1] 24)).cell? ⟨wr.heap.size, 0, none⟩ = some (.string nm) := (((bl_alloc (o := .cells #[.slice t1 tl1 tc1] 24) (Below.refl _ _)).cell (p := ⟨wr.heap.size, 0, none⟩) (Nat.lt_of_lt_of_le (by simp) hB4.size)).trans (hB4.cell (p := ⟨wr.heap.size, 0, none⟩) (by simp))).trans (by simp [go_sem])
                   clear hB4 hr4)
                | (go_at_call 141; (with_reducible refine (HFY2.out _ (bl_alloc HB4.out)).mono ?_); rintro e w5 ⟨t2, tl2, tc2, rfl, hB5, hr5⟩; have HB5 := Lib.hid (bl_step (bl_alloc HB4.out) hB5); clear hB5 hr5))
              go_roundw
              case rel => exact ⟨k + 1, c, by omega, by go_num, (hI.out.below (bl_alloc HB5.out)).skip hlt HSK.out⟩
              case measure => simp [intOf]; omega
        · have ek : k = d.length := by omega
          subst ek
          have HC2 : Hid (rr = if 32 < (c.map Fh.f).length then (30, []) else (0, [.mk 4 0 0 ⟨#[]⟩ false false (x.o && y.o) (c.map Fh.f)])) := by
            rw [HC.out, hI.out.fine HD.out.1]; rfl
          have c61 := (hI.out.old.cell (p := ⟨b1, off1 + 6, none⟩) lt1).trans c6
          have d61 := (hI.out.old.cell (p := ⟨b2, off2 + 6, none⟩) lt2).trans d6
          have HLN : Hid ((c.map Fh.f).length = d.length) := by rw [List.length_map]; exact hI.out.len
          have HIF : Hid (∀ W, Below wr.heap.size wr W → InFP (fun b => P b ∨ w.heap.size ≤ b) (fun t tl tc V => InVP (fun b => P b ∨ w.heap.size ≤ b) W n t tl tc V) W a d.length (c.map Fh.f)) := fun W hW => (hI.out.below hW).inF (by omega)
          clear c6 d6 HC
          by_cases h32 : 32 < d.length
          · have h32' : (32 : Int) < (d.length : Int) := by omega
            have HC3 : Hid (rr = (30, [])) := by rw [HC2.out, if_pos (by rw [HLN.out]; exact h32)]; rfl
            clear h32
            go_wp2_with fail
            go_ret2
            rw [HC3.out]
            exact ⟨none, 0, 0, rfl, hI.out.old, .inl ⟨rfl, rfl, rfl, rfl⟩⟩
          · have h32' : ¬ ((32 : Int) < (d.length : Int)) := by omega
            have HC3 : Hid (rr = (0, [.mk 4 0 0 ⟨#[]⟩ false false (x.o && y.o) (c.map Fh.f)])) := by rw [HC2.out, if_neg (by rw [HLN.out]; exact h32)]; rfl
            clear h32
            obtain ⟨xo, hxo⟩ : ∃ b, x.o = b := ⟨_, rfl⟩
            obtain ⟨yo, hyo⟩ : ∃ b, y.o = b := ⟨_, rfl⟩
            rw [hxo] at c61 HC3
            rw [hyo] at d61 HC3
            clear hxo hyo HC2
            have htm : ∀ xo : Bool, T8 (wr.alloc (.cells #[.int .i64 4, .int .i64 0, .int .i64 0, .string ⟨#[]⟩, .bool false, .bool false, .bool xo, .slice a d.length cap] 31)) wr.heap.size 0 ⟨.mk 4 0 0 ⟨#[]⟩ false false xo (c.map Fh.f), a, d.length, cap⟩ := fun xo => by
              refine ⟨?_, ?_, ?_, ?_, ?_, ?_, ?_, ?_⟩ <;> simp [go_sem] <;> rfl
            have HTM := Lib.hid htm
            clear htm
            cases xo
            · go_wp2_with fail
              go_ret2
              rw [HC3.out]
              exact ⟨_, 1, 1, rfl, bl_alloc hI.out.old, .inr ⟨_, _, rfl, rfl, rfl, new_lt, HTM.out false, HIF.out _ (bl_alloc (Below.refl _ _))⟩⟩
            · go_wp2_with fail
              go_ret2
              rw [HC3.out]
              exact ⟨_, 1, 1, rfl, bl_alloc hI.out.old, .inr ⟨_, _, rfl, rfl, rfl, new_lt, HTM.out yo, HIF.out _ (bl_alloc (Below.refl _ _))⟩⟩
    · go_enter Tryz.func117, Tryz.ntmps117
      go_wp2_with (go_at_call 139; first | ((with_reducible refine (HR1.out _ (Below.refl _ _)).mono ?_); rintro e w1 ⟨rfl, hB1⟩; have HB1 := Lib.hid hB1; clear hB1) | ((with_reducible refine (HR2.out _ HB1.out).mono ?_); rintro e w2 ⟨rfl, hB2⟩; have HB2 := Lib.hid hB2; clear hB2))
      go_ret2
      rw [HC.out]
      exact ⟨none, 0, 0, rfl, bl_step HB1.out HB2.out, .inl ⟨rfl, rfl, rfl, rfl⟩⟩
  · go_enter Tryz.func117, Tryz.ntmps117
    go_wp2_with (go_at_call 139; refine (HR1.out _ (Below.refl _ _)).mono ?_; rintro e w1 ⟨rfl, hB1⟩; have HB1 := Lib.hid hB1; clear hB1)
    go_ret2
    rw [HC.out]
    exact ⟨none, 0, 0, rfl, HB1.out, .inl ⟨rfl, rfl, rfl, rfl⟩⟩
end Go.Proofs.YtddleeenlpigfaaGreatDoor
/- WALK of common. -/
namespace Go.Proofs.YtddleeenlpigfaaGreatDoor
open Go.RowKit
abbrev Sc.v (c : Sc) (f : Option Addr) (fc : Nat) : Value := tv c.k c.lo c.hi c.s c.y c.m false f 0 fc
/-- scalar.Meet at any terms. -/
def SmP (r : Option Sc) (w : World) (e : Ending) (w' : World) : Prop := (match r with | none => e = .returned (.tuple #[zv, .bool false]) | some c => e = .returned (.tuple #[c.v none 0, .bool true])) ∧ Below w.heap.size w w'
theorem smeet_tm (a b : Tm) (f1 f2 : Option Addr) (fc1 fc2 : Nat) (w : World) :
    Calls Tryz.prog 118 #[tv a.k a.lo a.hi a.s a.y a.m a.o f1 a.fs.length fc1, tv b.k b.lo b.hi b.s b.y b.m b.o f2 b.fs.length fc2] w (SmP (scM a b) w) := by
  obtain ⟨k1, lo1, hi1, s1, y1, m1, o1, fs1⟩ := a
  obtain ⟨k2, lo2, hi2, s2, y2, m2, o2, fs2⟩ := b
  simp only [Tm.k, Tm.lo, Tm.hi, Tm.s, Tm.y, Tm.m, Tm.o, Tm.fs]
  by_cases hr : scR (.mk k1 lo1 hi1 s1 y1 m1 o1 fs1) ∧ scR (.mk k2 lo2 hi2 s2 y2 m2 o2 fs2)
  · obtain ⟨h1, h2⟩ := hr
    have e1 := sc_flat h1
    have e2 := sc_flat h2
    simp only [Tm.o, Tm.fs] at e1 e2
    obtain ⟨rfl, rfl⟩ := e1
    obtain ⟨rfl, rfl⟩ := e2
    have r1 : RightP k1 lo1 hi1 s1 y1 m1 false 0 := h1
    have r2 : RightP k2 lo2 hi2 s2 y2 m2 false 0 := h2
    by_cases hk : k1 = k2
    · subst hk
      have hM : scM (.mk k1 lo1 hi1 s1 y1 m1 false []) (.mk k1 lo2 hi2 s2 y2 m2 false []) = (commonF k1 lo1 hi1 s1 y1 lo2 hi2 s2 y2).map fun t => ⟨k1, t.1, t.2.1, t.2.2.1, t.2.2.2, (m1 || m2) && !singleB k1 t.1 t.2.1 t.2.2.2⟩ := by
        unfold scM; rw [if_pos ⟨h1, h2⟩]; exact if_pos rfl
      rw [hM]
      cases hc : commonF k1 lo1 hi1 s1 y1 lo2 hi2 s2 y2 with
      | none => exact meet_none k1 lo1 hi1 s1 y1 m1 f1 fc1 lo2 hi2 s2 y2 m2 f2 fc2 w r1 r2 hc
      | some t =>
        obtain ⟨lo, hi, s, y⟩ := t
        exact meet_some k1 lo1 hi1 s1 y1 m1 f1 fc1 lo2 hi2 s2 y2 m2 f2 fc2 w r1 r2 hc
    · have : scM (.mk k1 lo1 hi1 s1 y1 m1 false []) (.mk k2 lo2 hi2 s2 y2 m2 false []) = none := by
        unfold scM; rw [if_pos ⟨h1, h2⟩, meet_kk (by simpa [Tm.sc, Tm.k] using hk)]
      rw [this]
      exact meet_unlike _ _ _ _ _ _ _ _ _ _ _ _ _ _ _ _ _ _ _ _ w (fun c => hk c.2.2)
  · have : scM (.mk k1 lo1 hi1 s1 y1 m1 o1 fs1) (.mk k2 lo2 hi2 s2 y2 m2 o2 fs2) = none := by unfold scM; rw [if_neg hr]
    rw [this]
    exact meet_unlike _ _ _ _ _ _ _ _ _ _ _ _ _ _ _ _ _ _ _ _ w (fun c => hr ⟨rightB_iff.1 c.1, rightB_iff.1 c.2.1⟩)
theorem T8.inTg {I : Option Addr → Nat → Nat → List Tm → Prop} {w : World} {g o : Nat} {h : Hr} (k : T8 w g o h) (hg : g < w.heap.size) (hF : InF I w h.f h.fl h.x.fs) : InT I w g o h.x := by
  obtain ⟨⟨k', lo, hi, s, y, m, o', fs⟩, f, fl, fc⟩ := h
  obtain ⟨c0, c1, c2, c3, c4, c5, c6, c7⟩ := k
  exact ⟨hg, f, fl, fc, c0, c1, c2, c3, c4, c5, c6, c7, hF⟩
/-- A header in a box. -/
theorem T8.box (w : World) (h : Hr) (t : TypeId) : T8 (w.alloc (.cells #[.int .i64 h.x.k, .int .i64 h.x.lo, .int .i64 h.x.hi, .string h.x.s, .bool h.x.y, .bool h.x.m, .bool h.x.o, .slice h.f h.fl h.fc] t)) w.heap.size 0 h := by
  refine ⟨?_, ?_, ?_, ?_, ?_, ?_, ?_, ?_⟩ <;> simp [go_sem]
theorem T8.at (w : World) (h : Hr) (t : TypeId) {g : Nat} (hg : w.heap.size = g) : T8 (w.alloc (.cells #[.int .i64 h.x.k, .int .i64 h.x.lo, .int .i64 h.x.hi, .string h.x.s, .bool h.x.y, .bool h.x.m, .bool h.x.o, .slice h.f h.fl h.fc] t)) g 0 h := hg ▸ T8.box w h t
abbrev hbox (h : Hr) : Obj := .cells #[.int .i64 h.x.k, .int .i64 h.x.lo, .int .i64 h.x.hi, .string h.x.s, .bool h.x.y, .bool h.x.m, .bool h.x.o, .slice h.f h.fl h.fc] 31
theorem Hr.okP.wide {P : Nat → Prop} {n : Nat} {w w' : World} {h : Hr} (hb : Below w.heap.size w w') (k : h.okP P n w) : h.okP (fun b => P b ∨ w.heap.size ≤ b) n w' := k.to hb.size fun b hp lt => ⟨.inl hp, hb.block b lt⟩
theorem ComP.wide {P : Nat → Prop} {n : Nat} {r : Int × List Tm} {w W : World} {e : Ending} {w' : World} (hb : Below w.heap.size w W) (h : ComP P n r W e w') : ComP P n r w e w' := by
  obtain ⟨a, tl, cap, he, hB, hx⟩ := h
  refine ⟨a, tl, cap, he, bl_step hb hB, ?_⟩
  rcases hx with h | ⟨g, h, h1, h2, h3, h4, h5, h6⟩
  · exact .inl h
  · exact .inr ⟨g, h, h1, h2, h3, h4, h5, h6.to (Nat.le_refl _) fun b hp _ => ⟨hp.imp id fun hp => Nat.le_trans hb.size hp, rfl⟩⟩
set_option maxRecDepth 100000 in
set_option maxHeartbeats 8000000 in
theorem lcommon_any (n : Nat) (P : Nat → Prop) (w : World) (hP : ∀ b, P b → b < w.heap.size) (a b : Hr) (ha : a.okP P n w) (hb : b.okP P n w) (ra : RtN n a.x) (rb : RtN n b.x) (wa : wF n a.x.fs ≤ 512) (wb : wF n b.x.fs ≤ 512) (ih : MeH n) :
    Calls Tryz.prog 82 #[a.v, b.v] w (ComP P n (comT (meetV n) a.x b.x) w) := by
  have hfa : a.x.fs.length = a.fl := ha.1
  have hfb : b.x.fs.length = b.fl := hb.1
  obtain ⟨r, hr⟩ : ∃ r, comT (meetV n) a.x b.x = r := ⟨_, rfl⟩
  have HR := Lib.hid hr
  have HAB := Lib.hid (And.intro ha hb)
  have HBW : Hid (Below w.heap.size w ((w.alloc (hbox a)).alloc (hbox b))) := bl_alloc (bl_alloc (Below.refl _ _))
  have HSZ : Hid (((w.alloc (hbox a)).alloc (hbox b)).heap.size = w.heap.size + 1 + 1) := by show _ = _; simp
  have HTA : Hid (T8 ((w.alloc (hbox a)).alloc (hbox b)) w.heap.size 0 a) := (T8.box w a 31).to fun r _ => (bl_alloc (o := hbox b) (Below.refl (w.alloc (hbox a)).heap.size (w.alloc (hbox a)))).cell (p := ⟨w.heap.size, 0 + r, none⟩) new_lt
  have HTB : Hid (T8 ((w.alloc (hbox a)).alloc (hbox b)) (w.heap.size + 1) 0 b) := T8.at (w.alloc (hbox a)) b 31 (by simp)
  have HCS : Hid (a.x.k = 4 → b.x.k = 4 → Calls Tryz.prog 117 #[.pointer (some ⟨w.heap.size, 0, none⟩), .pointer (some ⟨w.heap.size + 1, 0, none⟩)] ((w.alloc (hbox a)).alloc (hbox b)) (ComP P n (comS (meetV n) a.x b.x) ((w.alloc (hbox a)).alloc (hbox b)))) := fun a4 b4 =>
    cstruct_any n P _ (fun b hb => Nat.lt_of_lt_of_le (hP b hb) HBW.out.size) _ _ _ _ a.x b.x
      (HTA.out.inTg (by rw [HSZ.out]; omega) (InFP.inF (fun _ _ _ _ h => InVP.below HBW.out h) (InFP.to HBW.out.size (fun b hp lt => ⟨hp, HBW.out.block b lt⟩) (fun _ _ _ _ h => h) ha)))
      (HTB.out.inTg (by rw [HSZ.out]; omega) (InFP.inF (fun _ _ _ _ h => InVP.below HBW.out h) (InFP.to HBW.out.size (fun b hp lt => ⟨hp, HBW.out.block b lt⟩) (fun _ _ _ _ h => h) hb)))
      ra rb a4 b4 (fun f hf => Nat.le_trans (wF_mem hf) wa) (fun f hf => Nat.le_trans (wF_mem hf) wb) ih
  have HSM := Lib.hid (fun W => smeet_tm a.x b.x a.f b.f a.fc b.fc W)
  rw [hfa, hfb] at HSM
  rw [hr]
  clear hr ha hb hP ra rb wa wb ih
  by_cases h5 : a.x.k = 5
  · have h5' : (a.x.k == 5) = true := by rw [h5]; rfl
    have HR2 : Hid (r = (0, [b.x])) := by rw [← HR.out]; unfold comT; rw [if_pos h5]; rfl
    clear h5
    go_enter Tryz.func82, Tryz.ntmps82
    go_wp2_with fail
    go_ret2
    rw [HR2.out]
    exact ⟨_, 1, 1, rfl, bl_alloc HBW.out, .inr ⟨_, b, rfl, rfl, rfl, by simp, T8.at _ b 31 HSZ.out, HAB.out.2.wide (bl_alloc HBW.out)⟩⟩
  · have h5' : (a.x.k == 5) = false := by simpa using h5
    by_cases h6 : b.x.k = 5
    · have h6' : (b.x.k == 5) = true := by rw [h6]; rfl
      have HR2 : Hid (r = (0, [a.x])) := by rw [← HR.out]; unfold comT; rw [if_neg h5, if_pos h6]; rfl
      clear h5 h6
      go_enter Tryz.func82, Tryz.ntmps82
      go_wp2_with fail
      go_ret2
      rw [HR2.out]
      exact ⟨_, 1, 1, rfl, bl_alloc HBW.out, .inr ⟨_, a, rfl, rfl, rfl, by simp, T8.at _ a 31 HSZ.out, HAB.out.1.wide (bl_alloc HBW.out)⟩⟩
    · have h6' : (b.x.k == 5) = false := by simpa using h6
      by_cases h4 : a.x.k = 4 ∧ b.x.k = 4
      · have a4' : (a.x.k == 4) = true := by rw [h4.1]; rfl
        have b4' : (b.x.k == 4) = true := by rw [h4.2]; rfl
        have HR2 : Hid (r = comS (meetV n) a.x b.x) := by rw [← HR.out]; unfold comT; rw [if_neg h5, if_neg h6, if_pos h4]; rfl
        have HCC := Lib.hid (HCS.out h4.1 h4.2)
        clear h5 h6 h4
        go_enter Tryz.func82, Tryz.ntmps82
        go_wp2_with (go_at_call 117; refine HCC.out.mono ?_; intro e w1 hc; have HC1 := Lib.hid (ComP.wide HBW.out hc); obtain ⟨aa, tl, cap, rfl, -, -⟩ := hc)
        go_ret2
        rw [HR2.out]
        exact HC1.out
      · have h4' : ((a.x.k == 4) = true ∧ (b.x.k == 4) = false) ∨ (a.x.k == 4) = false := by
          by_cases a4 : a.x.k = 4
          · exact .inl ⟨by rw [a4]; rfl, by simpa using fun e => h4 ⟨a4, e⟩⟩
          · exact .inr (by simpa using a4)
        have HR2 : Hid (r = match scM a.x b.x with | none => (0, []) | some c => (0, [c.tm])) := by rw [← HR.out]; unfold comT; rw [if_neg h5, if_neg h6, if_neg h4]; rfl
        obtain ⟨m, hm⟩ : ∃ m, scM a.x b.x = m := ⟨_, rfl⟩
        rw [hm] at HSM HR2
        clear h5 h6 h4 hm HCS
        cases m with
        | none =>
          have HS2 : Hid (∀ W, Calls Tryz.prog 118 #[a.v, b.v] W fun e w' => e = .returned (.tuple #[zv, .bool false]) ∧ Below W.heap.size W w') := HSM.out
          clear HSM
          rcases h4' with ⟨a4', b4'⟩ | a4'
          all_goals
            go_enter Tryz.func82, Tryz.ntmps82
            go_wp2_with (go_at_call 118; refine (HS2.out _).mono ?_; rintro e w1 ⟨rfl, hB1⟩; have HB1 := Lib.hid hB1; clear hB1)
            go_ret2
            rw [HR2.out]
            exact ⟨none, 0, 0, rfl, bl_alloc (bl_step HBW.out HB1.out), .inl ⟨rfl, rfl, rfl, rfl⟩⟩
        | some c =>
          have HS2 : Hid (∀ W, Calls Tryz.prog 118 #[a.v, b.v] W fun e w' => e = .returned (.tuple #[c.v none 0, .bool true]) ∧ Below W.heap.size W w') := HSM.out
          clear HSM
          rcases h4' with ⟨a4', b4'⟩ | a4'
          all_goals
            go_enter Tryz.func82, Tryz.ntmps82
            go_wp2_with (go_at_call 118; refine (HS2.out _).mono ?_; rintro e w1 ⟨rfl, hB1⟩; have HB1 := Lib.hid hB1; clear hB1)
            go_ret2
            rw [HR2.out]
            have hbb := bl_alloc (o := hbox ⟨c.tm, none, 0, 0⟩) (bl_alloc (o := hbox ⟨c.tm, none, 0, 0⟩) (bl_step HBW.out HB1.out))
            exact ⟨_, 1, 1, rfl, hbb, .inr ⟨_, ⟨c.tm, none, 0, 0⟩, rfl, rfl, rfl, by simp, T8.at (w1.alloc (hbox ⟨c.tm, none, 0, 0⟩)) ⟨c.tm, none, 0, 0⟩ 31 (by simp), rfl, (by show ((0 : Nat) : Int) ≤ 9223372036854775807; decide), fun i hi => absurd hi (Nat.not_lt_zero _)⟩⟩
end Go.Proofs.YtddleeenlpigfaaGreatDoor
