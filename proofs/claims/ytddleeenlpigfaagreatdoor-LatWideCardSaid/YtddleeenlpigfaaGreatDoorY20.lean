/- Ma, Mb, Mc, Md -/
import Derived.Test.YtddleeenlpigfaaGreatDoorY18
/- PLAIN MATHEMATICS of values: below is an order; what is in both. -/
namespace Go.Proofs.YtddleeenlpigfaaGreatDoor
theorem RT.imp {g h : List Tm → Prop} (gh : ∀ V, g V → h V) {x : Tm} (r : RT g x) : RT h x := by
  unfold RT at *
  split
  · rename_i h5; rw [if_pos h5] at r; exact r
  · rename_i h5
    rw [if_neg h5] at r
    split
    · rename_i h4
      rw [if_pos h4] at r
      obtain ⟨a, b, c, d, e, ⟨f1, f2, f3⟩, g'⟩ := r
      exact ⟨a, b, c, d, e, ⟨f1, f2, fun f hf => gh _ (f3 f hf)⟩, g'⟩
    · rename_i h4; rw [if_neg h4] at r; exact r
theorem RV.up : ∀ {n l : Nat} {A : List Tm}, RV n l A → RV n (l + 1) A
  | 0, _, _, h => by unfold RV at h; exact h.elim
  | n + 1, 0, _, h => by unfold RV at h; exact h.elim
  | n + 1, l + 1, A, h => ⟨fun x hx => (h.1 x hx).imp fun _ => RV.up, h.2⟩
theorem RV.le {n l m : Nat} (hlm : l ≤ m) {A : List Tm} (h : RV n l A) : RV n m A := by
  induction m with
  | zero => obtain rfl : l = 0 := by omega
            exact h
  | succ m ih =>
    by_cases e : l = m + 1
    · subst e; exact h
    · exact (ih (by omega)).up
/-- A right term of a value so deep. -/
abbrev Gt (n l : Nat) (x : Tm) : Prop := RT (RV n l) x
theorem Gt.le {n l m : Nat} (hlm : l ≤ m) {x : Tm} (h : Gt n l x) : Gt n m x := h.imp fun _ h => h.le hlm
theorem gt_five {n l : Nat} {x : Tm} (h : Gt n l x) (h5 : x.k = 5) : x = anyT5 := by unfold Gt RT at h; rw [if_pos h5] at h; exact h
theorem gt_four {n l : Nat} {x : Tm} (h : Gt n l x) (h4 : x.k = 4) : x = .mk 4 0 0 ⟨#[]⟩ false false x.o x.fs ∧ RF (RV n l) x.fs ∧ ∀ f ∈ x.fs, f.2 ≠ [] := by
  unfold Gt RT at h
  rw [if_neg (by omega), if_pos h4] at h
  obtain ⟨a, b, c, d, e, hf, g⟩ := h
  obtain ⟨k, lo, hi, s, y, m, o, fs⟩ := x
  simp only [Tm.k, Tm.lo, Tm.hi, Tm.s, Tm.y, Tm.m] at h4 a b c d e
  subst h4 a b c d e
  exact ⟨rfl, hf, g⟩
theorem gt_sc {n l : Nat} {x : Tm} (h : Gt n l x) (h4 : x.k ≠ 4) (h5 : x.k ≠ 5) : scR x := by unfold Gt RT at h; rw [if_neg h5, if_neg h4] at h; exact h
theorem gt_up {n l : Nat} {x : Tm} (h : Gt n l x) (h4 : x.k = 4) : Up x.fs := up_of (gt_four h h4).2.1.2.1
/-- A term of whatever kind. -/
theorem gt_kind {n l : Nat} {x : Tm} (h : Gt n l x) : x.k = 5 ∨ x.k = 4 ∨ (scR x ∧ x.k ≠ 4 ∧ x.k ≠ 5) := by
  by_cases h5 : x.k = 5
  · exact .inl h5
  · by_cases h4 : x.k = 4
    · exact .inr (.inl h4)
    · exact .inr (.inr ⟨gt_sc h h4 h5, h4, h5⟩)
theorem undT_five {u : List Tm → List Tm → Bool} {a b : Tm} (h : b.k = 5) : undT u a b = true := by unfold undT; rw [if_pos h]
theorem undT_st {u : List Tm → List Tm → Bool} {a b : Tm} (h : b.k = 4) (h2 : a.k = 4) : undT u a b = undS u a b := by unfold undT; rw [if_neg (by omega), if_pos ⟨h2, h⟩]
theorem scR_k {x : Tm} (h : scR x) : x.k ≠ 4 ∧ x.k ≠ 5 := by rcases scR_kind h with h | h | h <;> omega
theorem undT_sc {u : List Tm → List Tm → Bool} {a b : Tm} (h : ¬ (a.k = 4 ∧ b.k = 4)) (h5 : b.k ≠ 5) : undT u a b = scB a b := by unfold undT; rw [if_neg h5, if_neg h]
/-- What is below what. -/
theorem undT_cases {u : List Tm → List Tm → Bool} {a b : Tm} (h : undT u a b = true) : b.k = 5 ∨ (a.k = 4 ∧ b.k = 4 ∧ undS u a b = true) ∨ (scR a ∧ scR b ∧ a.sc.meet b.sc = some a.sc) := by
  by_cases h5 : b.k = 5
  · exact .inl h5
  · by_cases h4 : a.k = 4 ∧ b.k = 4
    · rw [undT_st h4.2 h4.1] at h; exact .inr (.inl ⟨h4.1, h4.2, h⟩)
    · rw [undT_sc h4 h5] at h
      obtain ⟨ra, rb⟩ := scB_right h
      exact .inr (.inr ⟨ra, rb, (scB_iff ra rb).1 h⟩)
/-- A struct is below another one. -/
theorem undS_iff {u : List Tm → List Tm → Bool} {a b : Tm} : undS u a b = true ↔ (a.o = true → b.o = true) ∧ (b.o = false → ∀ f ∈ a.fs, (findF b.fs f.1).isSome = true) ∧ ∀ f ∈ b.fs, ∃ V, findF a.fs f.1 = some V ∧ u V f.2 = true := by
  unfold undS
  rw [Bool.and_eq_true, Bool.and_eq_true, List.all_eq_true]
  have h1 : (!(a.o && !b.o)) = true ↔ (a.o = true → b.o = true) := by cases a.o <;> cases b.o <;> simp
  have h2 : (b.o || !lacksF b.fs a.fs) = true ↔ (b.o = false → ∀ f ∈ a.fs, (findF b.fs f.1).isSome = true) := by
    cases b.o
    · simp only [Bool.false_or, forall_const, Bool.not_eq_true', lacksF, List.any_eq_false]
      refine forall_congr' fun f => forall_congr' fun _ => ?_
      cases findF b.fs f.1 <;> simp
    · simp
  have h3 : (∀ f ∈ b.fs, undF u a.fs f = true) ↔ ∀ f ∈ b.fs, ∃ V, findF a.fs f.1 = some V ∧ u V f.2 = true := by
    refine forall_congr' fun f => forall_congr' fun _ => ?_
    unfold undF
    cases findF a.fs f.1 <;> simp
  rw [h1, h2, h3, and_assoc]
theorem findF_up {fs : List (ByteArray × List Tm)} (h : Up fs) {key : ByteArray} {V : List Tm} : findF fs key = some V ↔ (key, V) ∈ fs := by
  constructor
  · intro e
    obtain ⟨f, hf, e1, e2⟩ := findF_mem e
    rw [← e1, ← e2]; exact hf
  · intro e; exact findF_own h _ e
theorem undV_iff {n : Nat} {A B : List Tm} : undV (n + 1) A B = true ↔ ∀ a ∈ A, ∃ b ∈ B, undT (undV n) a b = true := by
  unfold undV
  rw [List.all_eq_true]
  refine forall_congr' fun a => forall_congr' fun _ => ?_
  rw [List.any_eq_true]
theorem findF_key {fs : List (ByteArray × List Tm)} {k1 k2 : ByteArray} (h : k1.toList = k2.toList) : findF fs k1 = findF fs k2 := by unfold findF; rw [h]
/-- Below goes on. -/
theorem undT_trans {n l : Nat} (ih : ∀ {A B C : List Tm}, RV n l A → RV n l B → RV n l C → undV n A B = true → undV n B C = true → undV n A C = true) {a b c : Tm} (ha : Gt n l a) (hb : Gt n l b) (hc : Gt n l c) (h1 : undT (undV n) a b = true) (h2 : undT (undV n) b c = true) : undT (undV n) a c = true := by
  rcases undT_cases h2 with h5 | ⟨b4, c4, s2⟩ | ⟨rb, rc, m2⟩
  · exact undT_five h5
  · rcases undT_cases h1 with h5 | ⟨a4, _, s1⟩ | ⟨_, rb, _⟩
    · omega
    · rw [undT_st c4 a4, undS_iff]
      obtain ⟨p1, p2, p3⟩ := undS_iff.1 s1
      obtain ⟨q1, q2, q3⟩ := undS_iff.1 s2
      have ub := gt_up hb b4
      have ua := gt_up ha a4
      have uc := gt_up hc c4
      refine ⟨fun h => q1 (p1 h), fun hco f hf => ?_, fun f hf => ?_⟩
      · have hbo : b.o = false := by
          cases e : b.o
          · rfl
          · rw [q1 e] at hco; exact absurd hco (by decide)
        have h3 := p2 hbo f hf
        obtain ⟨V, hV⟩ := Option.isSome_iff_exists.1 h3
        exact q2 hco (f.1, V) ((findF_up ub).1 hV)
      · obtain ⟨V, hV, u2⟩ := q3 f hf
        obtain ⟨W, hW, u1⟩ := p3 _ ((findF_up ub).1 hV)
        exact ⟨W, hW, ih ((gt_four ha a4).2.1.2.2 _ ((findF_up ua).1 hW)) ((gt_four hb b4).2.1.2.2 _ ((findF_up ub).1 hV)) ((gt_four hc c4).2.1.2.2 _ hf) u1 u2⟩
    · have := scR_k rb; omega
  · rcases undT_cases h1 with h5 | ⟨_, b4, _⟩ | ⟨ra, _, m1⟩
    · have := scR_k rb; omega
    · have := scR_k rb; omega
    · have kc := scR_k rc
      rw [undT_sc (by omega) kc.2, scB_iff ra rc]
      have := meet_assoc (scR_R ra) (scR_R rb) (scR_R rc)
      rw [m1, m2] at this
      simp only [bd] at this
      rw [this, m1]
theorem undV_trans : ∀ {n l : Nat} {A B C : List Tm}, RV n l A → RV n l B → RV n l C → undV n A B = true → undV n B C = true → undV n A C = true
  | 0, _, _, _, _, h, _, _, _, _ => by unfold RV at h; exact h.elim
  | n + 1, 0, _, _, _, h, _, _, _, _ => by unfold RV at h; exact h.elim
  | n + 1, l + 1, A, B, C, hA, hB, hC, h1, h2 => by
    rw [undV_iff] at *
    intro a ha
    obtain ⟨b, hb, u1⟩ := h1 a ha
    obtain ⟨c, hc, u2⟩ := h2 b hb
    exact ⟨c, hc, undT_trans (fun h1 h2 h3 => undV_trans h1 h2 h3) (hA.1 a ha) (hB.1 b hb) (hC.1 c hc) u1 u2⟩
theorem ltT {n l : Nat} {a b c : Tm} (ha : Gt n l a) (hb : Gt n l b) (hc : Gt n l c) (h1 : undT (undV n) a b = true) (h2 : undT (undV n) b c = true) : undT (undV n) a c = true :=
  undT_trans (fun h1 h2 h3 => undV_trans h1 h2 h3) ha hb hc h1 h2
theorem leT {n l : Nat} {a : Tm} (ha : Gt n l a) : undT (undV n) a a = true := undT_refl (fun _ h => undV_refl h) ha
theorem pw_ext {α : Type} {r : α → α → Prop} (asym : ∀ x y, r x y → r y x → False) : ∀ {A B : List α}, A.Pairwise r → B.Pairwise r → (∀ x, x ∈ A ↔ x ∈ B) → A = B
  | [], [], _, _, _ => rfl
  | [], b :: B, _, _, h => absurd ((h b).2 (by simp)) (by simp)
  | a :: A, [], _, _, h => absurd ((h a).1 (by simp)) (by simp)
  | a :: A, b :: B, hA, hB, h => by
    have irr : ∀ x, ¬ r x x := fun x hx => asym x x hx hx
    rw [List.pairwise_cons] at hA hB
    have e : a = b := by
      rcases List.mem_cons.1 ((h a).1 (by simp)) with e | e
      · exact e
      · rcases List.mem_cons.1 ((h b).2 (by simp)) with e2 | e2
        · exact e2.symm
        · exact (asym _ _ (hA.1 b e2) (hB.1 a e)).elim
    subst e
    rw [pw_ext asym hA.2 hB.2 (fun x => ?_)]
    constructor
    · intro hx
      rcases List.mem_cons.1 ((h x).1 (by simp [hx])) with e | e
      · subst e; exact absurd (hA.1 _ hx) (irr _)
      · exact e
    · intro hx
      rcases List.mem_cons.1 ((h x).2 (by simp [hx])) with e | e
      · subst e; exact absurd (hB.1 _ hx) (irr _)
      · exact e
theorem less_asym {u v : List UInt8} (h1 : Op.bytesLess u v = true) (h2 : Op.bytesLess v u = true) : False := by
  have := Nm.less_le (.inl h1)
  rw [h2] at this; exact absurd this (by decide)
theorem up_ext {fs gs : List (ByteArray × List Tm)} (hf : Up fs) (hg : Up gs) (h : ∀ x, x ∈ fs ↔ x ∈ gs) : fs = gs := pw_ext (fun _ _ => less_asym) hf hg h
theorem up_one {fs : List (ByteArray × List Tm)} (hf : Up fs) {k : ByteArray} {V W : List Tm} (h1 : (k, V) ∈ fs) (h2 : (k, W) ∈ fs) : V = W := by
  have := (findF_up hf).2 h1
  rw [(findF_up hf).2 h2] at this
  cases this; rfl
theorem tm_sc {a b : Tm} (ra : scR a) (rb : scR b) (h : a.sc = b.sc) : a = b := by
  obtain ⟨ao, af⟩ := sc_flat ra
  obtain ⟨bo, bf⟩ := sc_flat rb
  obtain ⟨k, lo, hi, s, y, m, o, fs⟩ := a
  obtain ⟨k2, lo2, hi2, s2, y2, m2, o2, fs2⟩ := b
  simp only [Tm.o, Tm.fs] at ao af bo bf
  subst ao af bo bf
  simp only [Tm.sc, Tm.k, Tm.lo, Tm.hi, Tm.s, Tm.y, Tm.m, Sc.mk.injEq] at h
  obtain ⟨rfl, rfl, rfl, rfl, rfl, rfl⟩ := h
  rfl
/-- Two that are below each other are the same. -/
theorem undT_anti {n l : Nat} (ih : ∀ {A B : List Tm}, RV n l A → RV n l B → undV n A B = true → undV n B A = true → A = B) {a b : Tm} (ha : Gt n l a) (hb : Gt n l b) (h1 : undT (undV n) a b = true) (h2 : undT (undV n) b a = true) : a = b := by
  rcases undT_cases h1 with h5 | ⟨a4, b4, s1⟩ | ⟨ra, rb, m1⟩
  · rcases undT_cases h2 with h6 | ⟨_, b4, _⟩ | ⟨rb, _, _⟩
    · rw [gt_five ha h6, gt_five hb h5]
    · omega
    · have := scR_k rb; omega
  · rcases undT_cases h2 with h6 | ⟨_, _, s2⟩ | ⟨rb, _, _⟩
    · omega
    · obtain ⟨p1, p2, p3⟩ := undS_iff.1 s1
      obtain ⟨q1, q2, q3⟩ := undS_iff.1 s2
      have ub := gt_up hb b4
      have ua := gt_up ha a4
      have eo : a.o = b.o := by
        cases e1 : a.o <;> cases e2 : b.o
        · rfl
        · rw [q1 e2] at e1; exact absurd e1 (by decide)
        · rw [p1 e1] at e2; exact absurd e2 (by decide)
        · rfl
      have one : ∀ k V W, (k, V) ∈ a.fs → (k, W) ∈ b.fs → V = W := fun k V W hV hW => by
        obtain ⟨V', hV', u1⟩ := p3 _ hW
        obtain ⟨W', hW', u2⟩ := q3 _ hV
        have e1 := up_one ua hV ((findF_up ua).1 hV')
        have e2 := up_one ub hW ((findF_up ub).1 hW')
        subst e1 e2
        exact ih ((gt_four ha a4).2.1.2.2 _ hV) ((gt_four hb b4).2.1.2.2 _ hW) u1 u2
      have ef : a.fs = b.fs := up_ext ua ub fun ⟨k, V⟩ => by
        constructor
        · intro h
          obtain ⟨W, hW, _⟩ := q3 _ h
          have := (findF_up ub).1 hW
          rw [one k V W h this]; exact this
        · intro h
          obtain ⟨W, hW, _⟩ := p3 _ h
          have := (findF_up ua).1 hW
          rw [← one k W V this h]; exact this
      rw [(gt_four ha a4).1, (gt_four hb b4).1, eo, ef]
    · have := scR_k rb; omega
  · have kb := scR_k rb
    have ka := scR_k ra
    rw [undT_sc (by omega) ka.2, scB_iff rb ra] at h2
    rw [meet_comm (scR_R rb) (scR_R ra), m1] at h2
    exact tm_sc ra rb (Option.some.inj h2)
/-- What is in order, and apart, is told by what is below. -/
theorem vals_anti {n l : Nat} (ih : ∀ {a b : Tm}, Gt n l a → Gt n l b → undT (undV n) a b = true → undT (undV n) b a = true → a = b) {A B : List Tm} (hA : RV (n + 1) (l + 1) A) (hB : RV (n + 1) (l + 1) B) (h1 : undV (n + 1) A B = true) (h2 : undV (n + 1) B A = true) : A = B := by
  rw [undV_iff] at h1 h2
  have one : ∀ {A B : List Tm}, RV (n + 1) (l + 1) A → RV (n + 1) (l + 1) B → (∀ a ∈ A, ∃ b ∈ B, undT (undV n) a b = true) → (∀ a ∈ B, ∃ b ∈ A, undT (undV n) a b = true) → ∀ x, x ∈ A → x ∈ B := fun {A B} hA hB h1 h2 x hx => by
    obtain ⟨b, hb, u1⟩ := h1 x hx
    obtain ⟨a, ha, u2⟩ := h2 b hb
    have u3 := ltT (hA.1 x hx) (hB.1 b hb) (hA.1 a ha) u1 u2
    rcases apart_of hA.2.2 x hx a ha with e | e
    · subst e
      rw [ih (hA.1 _ hx) (hB.1 b hb) u1 u2]; exact hb
    · rw [u3] at e; exact absurd e (by decide)
  exact ups_ext (cmpT_cmp n) hA.2.1 hB.2.1 fun x => ⟨one hA hB h1 h2 x, one hB hA h2 h1 x⟩
theorem undV_anti : ∀ {n l : Nat} {A B : List Tm}, RV n l A → RV n l B → undV n A B = true → undV n B A = true → A = B
  | 0, _, _, _, h, _, _, _ => by unfold RV at h; exact h.elim
  | n + 1, 0, _, _, h, _, _, _ => by unfold RV at h; exact h.elim
  | n + 1, l + 1, A, B, hA, hB, h1, h2 => vals_anti (fun ha hb => undT_anti (fun h1 h2 => undV_anti h1 h2) ha hb) hA hB h1 h2
theorem antiT {n l : Nat} {a b : Tm} (ha : Gt n l a) (hb : Gt n l b) (h1 : undT (undV n) a b = true) (h2 : undT (undV n) b a = true) : a = b := undT_anti (fun h1 h2 => undV_anti h1 h2) ha hb h1 h2
/-- Is a term in a value: is it below one of its terms? -/
def inV (n : Nat) (A : List Tm) (x : Tm) : Prop := ∃ b ∈ A, undT (undV n) x b = true
theorem und_in {n l : Nat} {A B : List Tm} (hA : RV (n + 1) (l + 1) A) (hB : RV (n + 1) (l + 1) B) : undV (n + 1) A B = true ↔ ∀ x, Gt n l x → inV n A x → inV n B x := by
  rw [undV_iff]
  constructor
  · rintro h x hx ⟨a, ha, u⟩
    obtain ⟨b, hb, u2⟩ := h a ha
    exact ⟨b, hb, ltT hx (hA.1 a ha) (hB.1 b hb) u u2⟩
  · intro h a ha
    exact h a (hA.1 a ha) ⟨a, ha, leT (hA.1 a ha)⟩
/-- A right value is told by what is in it. -/
theorem val_ext {n l : Nat} {A B : List Tm} (hA : RV (n + 1) (l + 1) A) (hB : RV (n + 1) (l + 1) B) (h : ∀ x, Gt n l x → (inV n A x ↔ inV n B x)) : A = B :=
  undV_anti hA hB ((und_in hA hB).2 fun x hx hi => (h x hx).1 hi) ((und_in hB hA).2 fun x hx hi => (h x hx).2 hi)
/-- What is above a term, and another one. -/
def upB (n : Nat) (x y : Tm) : Bool := decide (cmpT (cmpV n) x y ≠ 0) && undT (undV n) x y
theorem upB_iff {n : Nat} {x y : Tm} : upB n x y = true ↔ cmpT (cmpV n) x y ≠ 0 ∧ undT (undV n) x y = true := by unfold upB; simp
/-- Of some terms those that are left have all in them. -/
theorem keep_has {n l : Nat} {S : List Tm} (hS : ∀ x ∈ S, Gt n l x) (hd : ∀ x ∈ S, Dt n x) : ∀ (m : Nat) (x : Tm), x ∈ S → (S.filter (upB n x)).length = m → ∃ y ∈ keepL (cmpT (cmpV n)) (undT (undV n)) S, undT (undV n) x y = true := by
  intro m
  induction m using Nat.strongRecOn with
  | _ m ih =>
    intro x hx hm
    by_cases hk : x ∈ keepL (cmpT (cmpV n)) (undT (undV n)) S
    · exact ⟨x, hk, leT (hS x hx)⟩
    · rw [keepL_mem] at hk
      have : ∃ y ∈ S, cmpT (cmpV n) x y ≠ 0 ∧ undT (undV n) x y = true := by
        refine Classical.byContradiction fun hn => hk ⟨hx, fun y hy h0 => ?_⟩
        cases e : undT (undV n) x y
        · rfl
        · exact (hn ⟨y, hy, h0, e⟩).elim
      obtain ⟨y, hy, h0, u⟩ := this
      obtain ⟨z, hz, u2⟩ := ih _ (by
        rw [← hm]
        have sub : (S.filter (upB n y)).Sublist (S.filter (upB n x)) := by
          have : S.filter (upB n y) = (S.filter (upB n x)).filter (upB n y) := by
            rw [List.filter_filter]
            refine List.filter_congr fun z hz => ?_
            cases c : upB n y z
            · simp
            · obtain ⟨c1, c2⟩ := upB_iff.1 c
              have u3 := ltT (hS x hx) (hS y hy) (hS z hz) u c2
              have h3 : cmpT (cmpV n) x z ≠ 0 := fun e => by
                have e2 := cmpT_eq (hd x hx) (hd z hz) e
                subst e2
                have := antiT (hS y hy) (hS _ hx) c2 u
                subst this
                exact c1 ((cmpT_cmp n).refl _)
              simp [upB_iff.2 ⟨h3, u3⟩]
          rw [this]
          exact List.filter_sublist
        refine Nat.lt_of_le_of_ne sub.length_le fun e => ?_
        have e2 := sub.eq_of_length e
        have : y ∈ S.filter (upB n y) := by
          rw [e2, List.mem_filter]; exact ⟨hy, upB_iff.2 ⟨h0, u⟩⟩
        exact (upB_iff.1 (List.mem_filter.1 this).2).1 ((cmpT_cmp n).refl _)) y hy rfl
      exact ⟨z, hz, ltT (hS x hx) (hS y hy) (hS z ((keepL_mem.1 hz).1)) u u2⟩
/-- The value of some terms has just what is in one of them. -/
theorem norm_in {n l : Nat} {L : List Tm} (hL : ∀ x ∈ L, Gt n l x) (hd : ∀ x ∈ L, Dt n x) {x : Tm} (hx : Gt n l x) : inV n (normV n L) x ↔ inV n L x := by
  have hs : ∀ y, y ∈ someL (cmpT (cmpV n)) L ↔ y ∈ L := fun y => someL_mem (sharp_of hd)
  constructor
  · rintro ⟨y, hy, u⟩; exact ⟨y, normV_sub hd hy, u⟩
  · rintro ⟨y, hy, u⟩
    obtain ⟨z, hz, u2⟩ := keep_has (l := l) (S := someL (cmpT (cmpV n)) L) (fun z hz => hL z ((hs z).1 hz)) (fun z hz => hd z ((hs z).1 hz)) _ y ((hs y).2 hy) rfl
    exact ⟨z, hz, ltT hx (hL y hy) (hL z (normV_sub hd hz)) u u2⟩
/-- The value of right terms is right. -/
theorem norm_rv {n l : Nat} {L : List Tm} (hL : ∀ x ∈ L, Gt n l x) (hd : ∀ x ∈ L, Dt n x) : RV (n + 1) (l + 1) (normV n L) :=
  ⟨fun x hx => hL x (normV_sub hd hx), keepL_ups (someL_ups (cmpT_cmp n) L), keepL_apart (cmpT_cmp n) (someL_ups (cmpT_cmp n) L)⟩
end Go.Proofs.YtddleeenlpigfaaGreatDoor
/- PLAIN MATHEMATICS of values: what two structs have in common; the meet of two values. -/
namespace Go.Proofs.YtddleeenlpigfaaGreatDoor
abbrev Fd := ByteArray × List Tm
theorem lt_asym {a b : ByteArray} (h : Op.bytesLess a.toList b.toList = true) : Op.bytesLess b.toList a.toList = false := Nm.less_le (.inl h)
theorem lt_trans3 {a b c : ByteArray} (h1 : Op.bytesLess a.toList b.toList = true) (h2 : Op.bytesLess b.toList c.toList = true) : Op.bytesLess a.toList c.toList = true := by
  rw [bytesLess_eq, decide_eq_true_eq] at *
  exact List.lt_trans h1 h2
theorem lt_or {a b : ByteArray} (h : Op.bytesLess a.toList b.toList = false) (hne : a.toList ≠ b.toList) : Op.bytesLess b.toList a.toList = true := Nm.less_gt ⟨h, by simpa using hne⟩
/-- A field among others that rise. -/
def insF (f : Fd) : List Fd → List Fd
  | [] => [f]
  | x :: l => if Op.bytesLess f.1.toList x.1.toList = true then f :: x :: l else x :: insF f l
theorem insF_mem {f y : Fd} : ∀ {l : List Fd}, y ∈ insF f l ↔ y = f ∨ y ∈ l
  | [] => by simp [insF]
  | x :: l => by
    unfold insF
    split
    · simp
    · simp only [List.mem_cons, insF_mem (l := l)]
      constructor
      · rintro (h | h | h)
        · exact .inr (.inl h)
        · exact .inl h
        · exact .inr (.inr h)
      · rintro (h | h | h)
        · exact .inr (.inl h)
        · exact .inl h
        · exact .inr (.inr h)
theorem insF_up {f : Fd} : ∀ {l : List Fd}, Up l → (∀ x ∈ l, f.1.toList ≠ x.1.toList) → Up (insF f l)
  | [], _, _ => by unfold insF Up; simp
  | x :: l, h, hn => by
    have h' := List.pairwise_cons.1 h
    unfold insF
    split
    · rename_i hlt
      refine List.pairwise_cons.2 ⟨fun y hy => ?_, h⟩
      rcases List.mem_cons.1 hy with rfl | hy
      · exact hlt
      · exact lt_trans3 hlt (h'.1 y hy)
    · rename_i hge
      refine List.pairwise_cons.2 ⟨fun y hy => ?_, insF_up h'.2 fun y hy => hn y (by simp [hy])⟩
      rcases insF_mem.1 hy with rfl | hy
      · exact lt_or (by simpa using hge) (hn x (by simp))
      · exact h'.1 y hy
/-- The fields of the one, and those of the other that it lacks, as they rise. -/
def uni (fs gs : List Fd) : List Fd := (gs.filter fun g => (findF fs g.1).isNone).foldr insF fs
theorem fold_mem {y : Fd} : ∀ {l fs : List Fd}, y ∈ l.foldr insF fs ↔ y ∈ l ∨ y ∈ fs
  | [], fs => by simp
  | x :: l, fs => by rw [List.foldr_cons, insF_mem, fold_mem (l := l)]; simp [or_assoc]
theorem uni_mem {fs gs : List Fd} {y : Fd} : y ∈ uni fs gs ↔ y ∈ fs ∨ (y ∈ gs ∧ findF fs y.1 = none) := by
  unfold uni
  rw [fold_mem, List.mem_filter, Option.isNone_iff_eq_none]
  exact or_comm
theorem findF_no {fs : List Fd} {key : ByteArray} (h : findF fs key = none) : ∀ x ∈ fs, key.toList ≠ x.1.toList := fun x hx e => by
  unfold findF at h
  rw [Option.map_eq_none_iff, List.find?_eq_none] at h
  exact h x hx (by simp [e])
theorem fold_up {fs : List Fd} (hf : Up fs) : ∀ {l : List Fd}, Up l → (∀ x ∈ l, findF fs x.1 = none) → Up (l.foldr insF fs)
  | [], _, _ => hf
  | x :: l, hl, hn => by
    have hl' := List.pairwise_cons.1 hl
    rw [List.foldr_cons]
    refine insF_up (fold_up hf hl'.2 fun y hy => hn y (by simp [hy])) fun y hy => ?_
    rcases fold_mem.1 hy with hy | hy
    · intro e
      have := hl'.1 y hy
      rw [e, less_irrefl] at this; exact absurd this (by decide)
    · exact findF_no (hn x (by simp)) y hy
theorem uni_up {fs gs : List Fd} (hf : Up fs) (hg : Up gs) : Up (uni fs gs) := fold_up hf (hg.filter _) fun x hx => by simpa using (List.mem_filter.1 hx).2
/-- What rises, and has these, is it. -/
theorem uni_is {fs gs l : List Fd} (hf : Up fs) (hg : Up gs) (hl : Up l) (h : ∀ y, y ∈ l ↔ y ∈ fs ∨ (y ∈ gs ∧ findF fs y.1 = none)) : l = uni fs gs := up_ext hl (uni_up hf hg) fun y => (h y).trans uni_mem.symm
/-- One field of what is in common. -/
def cm1 (g : List Tm → List Tm → Int × List Tm) (fs gs : List Fd) (f : Fd) : Int × Option Fd :=
  match findF fs f.1, findF gs f.1 with
  | some V, some W => if (g V W).1 = 0 ∧ (g V W).2 ≠ [] then (0, some (f.1, (g V W).2)) else ((g V W).1, none)
  | _, _ => (0, some f)
def cmL (g : List Tm → List Tm → Int × List Tm) (fs gs : List Fd) : List Fd → Int × Option (List Fd)
  | [] => (0, some [])
  | f :: l => match (cm1 g fs gs f).2 with
    | none => ((cm1 g fs gs f).1, none)
    | some f' => ((cmL g fs gs l).1, ((cmL g fs gs l).2).map (f' :: ·))
theorem cmL_ok {g : List Tm → List Tm → Int × List Tm} {fs gs : List Fd} : ∀ {l l' : List Fd}, l'.length = l.length → (∀ j (h : j < l.length) (h' : j < l'.length), cm1 g fs gs l[j] = (0, some l'[j])) → cmL g fs gs l = (0, some l')
  | [], [], _, _ => rfl
  | [], _ :: _, h, _ => by simp at h
  | _ :: _, [], h, _ => by simp at h
  | f :: l, f' :: l', h, hh => by
    have h0 := hh 0 (by simp) (by simp)
    simp only [List.getElem_cons_zero] at h0
    have ih := cmL_ok (l := l) (l' := l') (by simpa using h) (fun j h1 h2 => hh (j + 1) (by simpa using h1) (by simpa using h2))
    simp only [cmL, h0, ih, Option.map_some]
theorem cmL_bad {g : List Tm → List Tm → Int × List Tm} {fs gs : List Fd} {e : Int} : ∀ {l : List Fd} {k : Nat} (hk : k < l.length), (∀ j (h : j < l.length), j < k → ∃ f', cm1 g fs gs l[j] = (0, some f')) → cm1 g fs gs l[k] = (e, none) → cmL g fs gs l = (e, none)
  | f :: l, 0, _, _, h => by
    simp only [List.getElem_cons_zero] at h
    simp only [cmL, h]
  | f :: l, k + 1, hk, hh, h => by
    obtain ⟨f', h0⟩ := hh 0 (by simp) (by omega)
    simp only [List.getElem_cons_zero] at h0
    have ih := cmL_bad (l := l) (k := k) (by simpa using hk) (fun j h1 h2 => hh (j + 1) (by simpa using h1) (by omega)) (by simpa using h)
    simp only [cmL, h0, ih, Option.map_none]
/-- Either each comes to one, or some one comes to none. -/
theorem cmL_cases {g : List Tm → List Tm → Int × List Tm} (fs gs : List Fd) : ∀ l : List Fd, (∃ l', cmL g fs gs l = (0, some l') ∧ l'.length = l.length ∧ ∀ j (h : j < l.length) (h' : j < l'.length), cm1 g fs gs l[j] = (0, some l'[j])) ∨ (∃ f ∈ l, ∃ e, cm1 g fs gs f = (e, none) ∧ cmL g fs gs l = (e, none))
  | [] => .inl ⟨[], rfl, rfl, fun j h => absurd h (by simp)⟩
  | f :: l => by
    rcases h : cm1 g fs gs f with ⟨e, _ | f'⟩
    · exact .inr ⟨f, by simp, e, h, by simp only [cmL, h]⟩
    · have e0 : e = 0 := by
        unfold cm1 at h
        split at h
        · split at h
          · cases h; rfl
          · cases h
        · cases h; rfl
      subst e0
      rcases cmL_cases (g := g) fs gs l with ⟨l', h1, h2, h3⟩ | ⟨f2, hf2, e, h1, h2⟩
      · refine .inl ⟨f' :: l', by simp only [cmL, h, h1, Option.map_some], by simp [h2], fun j hj hj' => ?_⟩
        cases j with
        | zero => simpa using h
        | succ j => simpa using h3 j (by simpa using hj) (by simpa using hj')
      · exact .inr ⟨f2, by simp [hf2], e, h1, by simp only [cmL, h, h2, Option.map_none]⟩
theorem cm1_none {g : List Tm → List Tm → Int × List Tm} {fs gs : List Fd} {f : Fd} {e : Int} (h : cm1 g fs gs f = (e, none)) : ∃ V W, findF fs f.1 = some V ∧ findF gs f.1 = some W ∧ (g V W).1 = e ∧ ¬ ((g V W).1 = 0 ∧ (g V W).2 ≠ []) := by
  unfold cm1 at h
  split at h
  · rename_i V W h1 h2
    split at h
    · cases h
    · rename_i hc
      cases h
      exact ⟨V, W, h1, h2, rfl, hc⟩
  · cases h
theorem cm1_some {g : List Tm → List Tm → Int × List Tm} {fs gs : List Fd} {f f' : Fd} (h : cm1 g fs gs f = (0, some f')) : f'.1 = f.1 ∧ ((∃ V W, findF fs f.1 = some V ∧ findF gs f.1 = some W ∧ (g V W).1 = 0 ∧ (g V W).2 ≠ [] ∧ f'.2 = (g V W).2) ∨ ((findF fs f.1 = none ∨ findF gs f.1 = none) ∧ f' = f)) := by
  unfold cm1 at h
  split at h
  · rename_i V W h1 h2
    split at h
    · rename_i hc
      cases h
      exact ⟨rfl, .inl ⟨V, W, h1, h2, hc.1, hc.2, rfl⟩⟩
    · exact absurd (Prod.mk.inj h).2 (by simp)
  · rename_i h1
    cases h
    refine ⟨rfl, .inr ⟨?_, rfl⟩⟩
    cases a : findF fs f.1 with
    | none => exact .inl rfl
    | some V =>
      cases b : findF gs f.1 with
      | none => exact .inr rfl
      | some W => exact (h1 V W a b).elim
def comS (g : List Tm → List Tm → Int × List Tm) (s t : Tm) : Int × List Tm :=
  if ((!s.o && lacksF s.fs t.fs) || (!t.o && lacksF t.fs s.fs)) = true then (0, [])
  else match cmL g s.fs t.fs (uni s.fs t.fs) with
    | (e, none) => (e, [])
    | (_, some l) => if 32 < l.length then (30, []) else (0, [.mk 4 0 0 ⟨#[]⟩ false false (s.o && t.o) l])
def Sc.tm (c : Sc) : Tm := .mk c.k c.lo c.hi c.s c.y c.m false []
def comT (g : List Tm → List Tm → Int × List Tm) (s t : Tm) : Int × List Tm :=
  if s.k = 5 then (0, [t]) else if t.k = 5 then (0, [s]) else if s.k = 4 ∧ t.k = 4 then comS g s t else
  match scM s t with | none => (0, []) | some c => (0, [c.tm])
def accL (c : Tm → Tm → Int × List Tm) : List (Tm × Tm) → Int × List Tm
  | [] => (0, [])
  | p :: l => if (c p.1 p.2).1 ≠ 0 then ((c p.1 p.2).1, []) else if (accL c l).1 ≠ 0 then ((accL c l).1, []) else (0, (c p.1 p.2).2 ++ (accL c l).2)
def nrm (n : Nat) (L : List Tm) : Int × List Tm := if 512 < wN (n + 1) (normV n L) then (30, []) else (0, normV n L)
def prs (A B : List Tm) : List (Tm × Tm) := A.flatMap fun a => B.map fun b => (a, b)
def meetV : Nat → List Tm → List Tm → Int × List Tm
  | 0, _, _ => (0, [])
  | n + 1, A, B => if 512 < A.length * B.length then (30, []) else if (accL (comT (meetV n)) (prs A B)).1 ≠ 0 then ((accL (comT (meetV n)) (prs A B)).1, []) else nrm n (accL (comT (meetV n)) (prs A B)).2
def joinV (n : Nat) (A B : List Tm) : Int × List Tm := nrm n (A ++ B)
end Go.Proofs.YtddleeenlpigfaaGreatDoor
/- PLAIN MATHEMATICS of values: the meet is right, and has just what both have. -/
namespace Go.Proofs.YtddleeenlpigfaaGreatDoor
theorem gt_flat {n l : Nat} {x : Tm} (h : Gt n l x) (h4 : x.k ≠ 4) : x.fs = [] := by
  rcases gt_kind h with h5 | h4' | ⟨hs, _, _⟩
  · rw [gt_five h h5]; rfl
  · exact absurd h4' h4
  · exact (sc_flat hs).2
theorem gt_f {n l : Nat} {x : Tm} (h : Gt n l x) {f : Fd} (hf : f ∈ x.fs) : x.k = 4 ∧ RV n l f.2 ∧ f.2 ≠ [] := by
  by_cases h4 : x.k = 4
  · obtain ⟨_, h1, h2⟩ := gt_four h h4
    exact ⟨h4, h1.2.2 f hf, h2 f hf⟩
  · rw [gt_flat h h4] at hf; simp at hf
theorem rv_dv : ∀ {n l : Nat} {A : List Tm}, RV n l A → Dv n A
  | 0, _, _, h => by unfold RV at h; exact h.elim
  | n + 1, 0, _, h => by unfold RV at h; exact h.elim
  | n + 1, l + 1, A, h => fun x hx _ hf => rv_dv (gt_f (h.1 x hx) hf).2.1
theorem gt_dt {n l : Nat} {x : Tm} (h : Gt n l x) : Dt n x := fun _ hf => rv_dv (gt_f h hf).2.1
open Nm in
theorem ris_names {fs : List Fd} (h : Ris (fs.map (·.1)) fs.length) : ∀ f ∈ fs, rightL f.1.toList = true := fun f hf => by
  obtain ⟨i, hi, rfl⟩ := List.getElem_of_mem hf
  exact (h i fs[i].1 (by simp [hi]) hi).1
open Nm in
theorem ris_of {fs : List Fd} (hu : Up fs) (hn : ∀ f ∈ fs, rightL f.1.toList = true) : Ris (fs.map (·.1)) fs.length := fun k x hx hk => by
  rw [List.getElem?_map, List.getElem?_eq_getElem hk, Option.map_some, Option.some.injEq] at hx
  subst hx
  refine ⟨hn _ (List.getElem_mem hk), fun j y hj hy => ?_⟩
  rw [List.getElem?_map, List.getElem?_eq_getElem (by omega), Option.map_some, Option.some.injEq] at hy
  subst hy
  exact List.pairwise_iff_getElem.1 hu j k (by omega) hk (by omega)
/-- What of a meet of values is known one level down. -/
structure Good (n l : Nat) (g : List Tm → List Tm → Int × List Tm) : Prop where
  err : ∀ {V W : List Tm}, RV n l V → RV n l W → (g V W).1 = 0 ∨ ((g V W).1 = 30 ∧ (g V W).2 = [])
  rv : ∀ {V W : List Tm}, RV n l V → RV n l W → (g V W).1 = 0 → RV n l (g V W).2
  glb : ∀ {V W X : List Tm}, RV n l V → RV n l W → RV n l X → (g V W).1 = 0 → (undV n X (g V W).2 = true ↔ undV n X V = true ∧ undV n X W = true)
theorem und_nil {n l : Nat} {X : List Tm} (hX : RV n l X) (h : undV n X [] = true) : X = [] := by
  match n, l, hX with
  | 0, _, hX => unfold RV at hX; exact hX.elim
  | n + 1, l, _ =>
    cases X with
    | nil => rfl
    | cons a X =>
      obtain ⟨b, hb, _⟩ := undV_iff.1 h a (by simp)
      simp at hb
theorem lacks_iff {fs gs : List Fd} : lacksF fs gs = true ↔ ∃ f ∈ gs, findF fs f.1 = none := by
  unfold lacksF
  rw [List.any_eq_true]
  exact exists_congr fun f => and_congr_right fun _ => Option.isNone_iff_eq_none
theorem isSome_of {fs : List Fd} {key : ByteArray} (h : ¬ findF fs key = none) : ∃ V, findF fs key = some V := Option.ne_none_iff_exists'.1 h
theorem find_has {fs : List Fd} {f : Fd} (hf : f ∈ fs) : ∃ V, findF fs f.1 = some V := by
  refine isSome_of fun h => ?_
  exact findF_no h f hf rfl
section
variable {n l : Nat} {g : List Tm → List Tm → Int × List Tm} {s t : Tm} {L' : List Fd}
/-- What the fields in common are. -/
structure Shared (g : List Tm → List Tm → Int × List Tm) (s t : Tm) (L' : List Fd) : Prop where
  up : Up L'
  from_ : ∀ f' ∈ L', ∃ f ∈ uni s.fs t.fs, cm1 g s.fs t.fs f = (0, some f')
  to_ : ∀ f ∈ uni s.fs t.fs, ∃ f' ∈ L', cm1 g s.fs t.fs f = (0, some f')
theorem shared_of (hs : Up s.fs) (ht : Up t.fs) (h1 : L'.length = (uni s.fs t.fs).length) (h2 : ∀ j (h : j < (uni s.fs t.fs).length) (h' : j < L'.length), cm1 g s.fs t.fs (uni s.fs t.fs)[j] = (0, some L'[j])) : Shared g s t L' := by
  refine ⟨?_, fun f' hf' => ?_, fun f hf => ?_⟩
  · refine List.pairwise_iff_getElem.2 fun i j hi hj hij => ?_
    have hu := List.pairwise_iff_getElem.1 (uni_up hs ht) i j (by omega) (by omega) hij
    rw [(cm1_some (h2 i (by omega) hi)).1, (cm1_some (h2 j (by omega) hj)).1]
    exact hu
  · obtain ⟨j, hj, rfl⟩ := List.getElem_of_mem hf'
    exact ⟨_, List.getElem_mem (by omega), h2 j (by omega) hj⟩
  · obtain ⟨j, hj, rfl⟩ := List.getElem_of_mem hf
    exact ⟨_, List.getElem_mem (by omega), h2 j hj (by omega)⟩
theorem uni_left {fs gs : List Fd} {f : Fd} (h : f ∈ fs) : f ∈ uni fs gs := uni_mem.2 (.inl h)
/-- Each name of either stands among both. -/
theorem uni_name {fs gs : List Fd} {f : Fd} (h : f ∈ gs) : ∃ f2 ∈ uni fs gs, f2.1 = f.1 := by
  by_cases hn : findF fs f.1 = none
  · exact ⟨f, uni_mem.2 (.inr ⟨h, hn⟩), rfl⟩
  · obtain ⟨V, hV⟩ := isSome_of hn
    obtain ⟨f2, hf2, e, _⟩ := findF_mem hV
    exact ⟨f2, uni_left hf2, e⟩
theorem common_glb (hg : Good n l g) (gs : Gt n l s) (gt : Gt n l t) (s4 : s.k = 4) (t4 : t.k = 4) (hl1 : ¬ (s.o = false ∧ lacksF s.fs t.fs = true)) (hl2 : ¬ (t.o = false ∧ lacksF t.fs s.fs = true)) (hS : Shared g s t L') {x : Tm} (gx : Gt n l x) (x4 : x.k = 4) :
    undS (undV n) x (.mk 4 0 0 ⟨#[]⟩ false false (s.o && t.o) L') = true ↔ undS (undV n) x s = true ∧ undS (undV n) x t = true := by
  have us := gt_up gs s4
  have ut := gt_up gt t4
  have ux := gt_up gx x4
  rw [undS_iff, undS_iff, undS_iff]
  show ((x.o = true → (s.o && t.o) = true) ∧ ((s.o && t.o) = false → ∀ f ∈ x.fs, (findF L' f.1).isSome = true) ∧ ∀ f ∈ L', ∃ V, findF x.fs f.1 = some V ∧ undV n V f.2 = true) ↔ _
  constructor
  · rintro ⟨h1, h2, h3⟩
    have ho : x.o = true → s.o = true ∧ t.o = true := fun e => by simpa using h1 e
    -- a field of the common one, by its name
    have name : ∀ f ∈ x.fs, (s.o && t.o) = false → ∃ f2 ∈ uni s.fs t.fs, f2.1 = f.1 := fun f hf e => by
      obtain ⟨Y, hY⟩ := Option.isSome_iff_exists.1 (h2 e f hf)
      obtain ⟨f', hf', e1, _⟩ := findF_mem hY
      obtain ⟨f2, hf2, hc⟩ := hS.from_ f' hf'
      exact ⟨f2, hf2, by rw [← e1, (cm1_some hc).1]⟩
    refine ⟨⟨fun e => (ho e).1, fun so f hf => ?_, fun f hf => ?_⟩, ⟨fun e => (ho e).2, fun tq f hf => ?_, fun f hf => ?_⟩⟩
    · obtain ⟨f2, hf2, e⟩ := name f hf (by rw [so]; rfl)
      rw [← e]
      rcases uni_mem.1 hf2 with h | ⟨h, hn⟩
      · obtain ⟨V, hV⟩ := find_has h; rw [hV]; rfl
      · exact absurd ⟨so, lacks_iff.2 ⟨f2, h, hn⟩⟩ hl1
    · obtain ⟨f', hf', hc⟩ := hS.to_ f (uni_left hf)
      obtain ⟨X, hX, hu⟩ := h3 f' hf'
      obtain ⟨e1, hcase⟩ := cm1_some hc
      rw [e1] at hX
      refine ⟨X, hX, ?_⟩
      rcases hcase with ⟨V, W, hV, hW, h0, -, e2⟩ | ⟨-, rfl⟩
      · obtain rfl : V = f.2 := by rw [findF_own us f hf] at hV; cases hV; rfl
        rw [e2] at hu
        exact ((hg.glb (gt_f gs hf).2.1 (gt_f gt ((findF_up ut).1 hW)).2.1 (gt_f gx ((findF_up ux).1 hX)).2.1 h0).1 hu).1
      · exact hu
    · obtain ⟨f2, hf2, e⟩ := name f hf (by rw [tq]; simp)
      rw [← e]
      rcases uni_mem.1 hf2 with h | ⟨h, _⟩
      · refine Option.isSome_iff_exists.2 (isSome_of fun hn => hl2 ⟨tq, lacks_iff.2 ⟨f2, h, hn⟩⟩)
      · obtain ⟨V, hV⟩ := find_has h; rw [hV]; rfl
    · by_cases hn : findF s.fs f.1 = none
      · obtain ⟨f', hf', hc⟩ := hS.to_ f (uni_mem.2 (.inr ⟨hf, hn⟩))
        obtain ⟨X, hX, hu⟩ := h3 f' hf'
        obtain ⟨e1, hcase⟩ := cm1_some hc
        rcases hcase with ⟨V, W, hV, _⟩ | ⟨-, rfl⟩
        · rw [hn] at hV; cases hV
        · exact ⟨X, hX, hu⟩
      · obtain ⟨V, hV⟩ := isSome_of hn
        have hm := (findF_up us).1 hV
        obtain ⟨f', hf', hc⟩ := hS.to_ (f.1, V) (uni_left hm)
        obtain ⟨X, hX, hu⟩ := h3 f' hf'
        obtain ⟨e1, hcase⟩ := cm1_some hc
        rw [e1] at hX
        refine ⟨X, hX, ?_⟩
        rcases hcase with ⟨V', W, hV', hW, h0, -, e2⟩ | ⟨h | h, -⟩
        · obtain rfl : W = f.2 := by
            have hW' : findF t.fs f.1 = some W := hW
            rw [findF_own ut f hf] at hW'; cases hW'; rfl
          rw [e2] at hu
          exact ((hg.glb (gt_f gs ((findF_up us).1 hV')).2.1 (gt_f gt hf).2.1 (gt_f gx ((findF_up ux).1 hX)).2.1 h0).1 hu).2
        · have h' : findF s.fs f.1 = none := h
          rw [hV] at h'; cases h'
        · have h' : findF t.fs f.1 = none := h
          rw [findF_own ut f hf] at h'; cases h'
  · rintro ⟨⟨p1, p2, p3⟩, q1, q2, q3⟩
    refine ⟨fun e => by rw [p1 e, q1 e]; rfl, fun e f hf => ?_, fun f' hf' => ?_⟩
    · have hname : ∃ f2 ∈ uni s.fs t.fs, f2.1 = f.1 := by
        by_cases so : s.o = false
        · obtain ⟨V, hV⟩ := Option.isSome_iff_exists.1 (p2 so f hf)
          obtain ⟨f2, hf2, e2, _⟩ := findF_mem hV
          exact ⟨f2, uni_left hf2, e2⟩
        · have tq : t.o = false := by
            cases h : t.o
            · rfl
            · rw [h] at e; simp at e; exact absurd e so
          obtain ⟨V, hV⟩ := Option.isSome_iff_exists.1 (q2 tq f hf)
          obtain ⟨f2, hf2, e2, _⟩ := findF_mem hV
          obtain ⟨f3, hf3, e3⟩ := uni_name (fs := s.fs) hf2
          exact ⟨f3, hf3, e3.trans e2⟩
      obtain ⟨f2, hf2, e2⟩ := hname
      obtain ⟨f', hf', hc⟩ := hS.to_ f2 hf2
      rw [← e2, ← (cm1_some hc).1]
      obtain ⟨V, hV⟩ := find_has hf'
      rw [hV]; rfl
    · obtain ⟨f2, hf2, hc⟩ := hS.from_ f' hf'
      obtain ⟨e1, hcase⟩ := cm1_some hc
      rw [e1]
      rcases hcase with ⟨V, W, hV, hW, h0, -, e2⟩ | ⟨-, rfl⟩
      · obtain ⟨X, hX, u1⟩ := p3 _ ((findF_up us).1 hV)
        obtain ⟨X2, hX2, u2⟩ := q3 _ ((findF_up ut).1 hW)
        obtain rfl : X = X2 := by
          have hX' : findF x.fs f2.1 = some X := hX
          have hX2' : findF x.fs f2.1 = some X2 := hX2
          rw [hX'] at hX2'; cases hX2'; rfl
        refine ⟨X, hX, ?_⟩
        rw [e2]
        exact (hg.glb (gt_f gs ((findF_up us).1 hV)).2.1 (gt_f gt ((findF_up ut).1 hW)).2.1 (gt_f gx ((findF_up ux).1 hX)).2.1 h0).2 ⟨u1, u2⟩
      · rcases uni_mem.1 hf2 with h | ⟨h, _⟩
        · exact p3 _ h
        · exact q3 _ h
end
end Go.Proofs.YtddleeenlpigfaaGreatDoor
/- PLAIN MATHEMATICS of values: meets and joins. -/
namespace Go.Proofs.YtddleeenlpigfaaGreatDoor
section
variable {n l : Nat} {g : List Tm → List Tm → Int × List Tm} {s t : Tm}
theorem undT_four {u : List Tm → List Tm → Bool} {x s : Tm} (s4 : s.k = 4) : undT u x s = true ↔ x.k = 4 ∧ undS u x s = true := by
  constructor
  · intro h
    rcases undT_cases h with h5 | ⟨x4, _, hs⟩ | ⟨_, rs, _⟩
    · omega
    · exact ⟨x4, hs⟩
    · have := scR_k rs; omega
  · rintro ⟨x4, h⟩; rw [undT_st s4 x4]; exact h
theorem undT_scal {u : List Tm → List Tm → Bool} {x s : Tm} (rs : scR s) : undT u x s = true ↔ scR x ∧ x.sc.meet s.sc = some x.sc := by
  have ks := scR_k rs
  constructor
  · intro h
    rcases undT_cases h with h5 | ⟨_, s4, _⟩ | ⟨rx, _, hm⟩
    · omega
    · omega
    · exact ⟨rx, hm⟩
  · rintro ⟨rx, h⟩; rw [undT_sc (by omega) ks.2]; exact (scB_iff rx rs).2 h
theorem in_one {x c : Tm} : inV n [c] x ↔ undT (undV n) x c = true := by
  constructor
  · rintro ⟨b, hb, h⟩; rw [List.mem_singleton.1 hb] at h; exact h
  · intro h; exact ⟨c, by simp, h⟩
theorem in_none {x : Tm} : ¬ inV n [] x := fun ⟨_, hb, _⟩ => by simp at hb
theorem four_gt {o : Bool} {L' : List Fd} (h32 : L'.length ≤ 32) (hu : Up L') (hn : ∀ f ∈ L', Nm.rightL f.1.toList = true) (hv : ∀ f ∈ L', RV n l f.2 ∧ f.2 ≠ []) : Gt n l (.mk 4 0 0 ⟨#[]⟩ false false o L') := by
  have : ∀ x : Tm, x.k = 4 → x.lo = 0 → x.hi = 0 → x.s = ⟨#[]⟩ → x.y = false → x.m = false → RF (RV n l) x.fs → (∀ f ∈ x.fs, f.2 ≠ []) → Gt n l x := fun x a b c d e f g h => by
    unfold Gt RT
    rw [if_neg (by omega), if_pos a]
    exact ⟨b, c, d, e, f, g, h⟩
  exact this _ rfl rfl rfl rfl rfl rfl ⟨h32, ris_of hu hn, fun f hf => (hv f hf).1⟩ fun f hf => (hv f hf).2
theorem sc_gt {c : Sc} (hc : c.R) : Gt n l c.tm ∧ scR c.tm := by
  have h : scR c.tm := hc
  have hk := scR_k h
  refine ⟨?_, h⟩
  unfold Gt RT
  rw [if_neg hk.2, if_neg hk.1]
  exact h
theorem comS_ok (hg : Good n l g) (gs : Gt n l s) (gt : Gt n l t) (s4 : s.k = 4) (t4 : t.k = 4) :
    ((comS g s t).1 = 0 ∨ ((comS g s t).1 = 30 ∧ (comS g s t).2 = [])) ∧ ((comS g s t).1 = 0 → (∀ c ∈ (comS g s t).2, Gt n l c) ∧ ∀ x, Gt n l x → (inV n (comS g s t).2 x ↔ undT (undV n) x s = true ∧ undT (undV n) x t = true)) := by
  have us := gt_up gs s4
  have ut := gt_up gt t4
  unfold comS
  split
  · rename_i hr
    refine ⟨.inl rfl, fun _ => ⟨fun c hc => by simp at hc, fun x gx => ⟨fun h => absurd h in_none, ?_⟩⟩⟩
    rw [undT_four s4, undT_four t4]
    rintro ⟨⟨x4, h1⟩, _, h2⟩
    obtain ⟨p1, p2, p3⟩ := undS_iff.1 h1
    obtain ⟨q1, q2, q3⟩ := undS_iff.1 h2
    have ux := gt_up gx x4
    rw [Bool.or_eq_true, Bool.and_eq_true, Bool.and_eq_true] at hr
    rcases hr with ⟨so, hl⟩ | ⟨tq, hl⟩
    · obtain ⟨f, hf, hn⟩ := lacks_iff.1 hl
      obtain ⟨X, hX, _⟩ := q3 f hf
      have := p2 (by simpa using so) _ ((findF_up ux).1 hX)
      rw [show (f.1, X).1 = f.1 from rfl, hn] at this; exact absurd this (by decide)
    · obtain ⟨f, hf, hn⟩ := lacks_iff.1 hl
      obtain ⟨X, hX, _⟩ := p3 f hf
      have := q2 (by simpa using tq) _ ((findF_up ux).1 hX)
      rw [show (f.1, X).1 = f.1 from rfl, hn] at this; exact absurd this (by decide)
  · rename_i hr
    have hl1 : ¬ (s.o = false ∧ lacksF s.fs t.fs = true) := fun h => hr (by rw [h.1, h.2]; rfl)
    have hl2 : ¬ (t.o = false ∧ lacksF t.fs s.fs = true) := fun h => hr (by rw [h.1, h.2]; simp)
    rcases cmL_cases (g := g) s.fs t.fs (uni s.fs t.fs) with ⟨L', h1, h2, h3⟩ | ⟨f, hf, e, h1, h2⟩
    · have hS := shared_of us ut h2 h3
      rw [h1]
      simp only
      split
      · exact ⟨.inr ⟨rfl, rfl⟩, fun h => absurd h (by decide)⟩
      · rename_i h32
        have hns := ris_names (gt_four gs s4).2.1.2.1
        have hnt := ris_names (gt_four gt t4).2.1.2.1
        refine ⟨.inl rfl, fun _ => ⟨fun c hc => ?_, fun x gx => ?_⟩⟩
        · rw [List.mem_singleton.1 hc]
          refine four_gt (by omega) hS.up (fun f' hf' => ?_) fun f' hf' => ?_
          · obtain ⟨f2, hf2, hc2⟩ := hS.from_ f' hf'
            rw [(cm1_some hc2).1]
            rcases uni_mem.1 hf2 with h | ⟨h, _⟩
            · exact hns _ h
            · exact hnt _ h
          · obtain ⟨f2, hf2, hc2⟩ := hS.from_ f' hf'
            rcases (cm1_some hc2).2 with ⟨V, W, hV, hW, h0, hne, e2⟩ | ⟨-, rfl⟩
            · rw [e2]
              exact ⟨hg.rv (gt_f gs ((findF_up us).1 hV)).2.1 (gt_f gt ((findF_up ut).1 hW)).2.1 h0, hne⟩
            · rcases uni_mem.1 hf2 with h | ⟨h, _⟩
              · exact (gt_f gs h).2
              · exact (gt_f gt h).2
        · rw [in_one, undT_four (s := .mk 4 0 0 ⟨#[]⟩ false false (s.o && t.o) L') rfl, undT_four s4, undT_four t4]
          constructor
          · rintro ⟨x4, h⟩
            have := (common_glb hg gs gt s4 t4 hl1 hl2 hS gx x4).1 h
            exact ⟨⟨x4, this.1⟩, x4, this.2⟩
          · rintro ⟨⟨x4, h⟩, _, h'⟩
            exact ⟨x4, (common_glb hg gs gt s4 t4 hl1 hl2 hS gx x4).2 ⟨h, h'⟩⟩
    · rw [h2]
      obtain ⟨V, W, hV, hW, he, hn⟩ := cm1_none h1
      refine ⟨?_, fun h0 => ⟨fun c hc => by simp at hc, fun x gx => ⟨fun h => absurd h in_none, ?_⟩⟩⟩
      · rcases hg.err (gt_f gs ((findF_up us).1 hV)).2.1 (gt_f gt ((findF_up ut).1 hW)).2.1 with h | h
        · exact .inl (he ▸ h)
        · exact .inr ⟨he ▸ h.1, rfl⟩
      · simp only at h0
        subst h0
        rw [undT_four s4, undT_four t4]
        rintro ⟨⟨x4, h1⟩, _, h2⟩
        have ux := gt_up gx x4
        obtain ⟨X, hX, u1⟩ := (undS_iff.1 h1).2.2 _ ((findF_up us).1 hV)
        obtain ⟨X2, hX2, u2⟩ := (undS_iff.1 h2).2.2 _ ((findF_up ut).1 hW)
        obtain rfl : X = X2 := by
          have hX' : findF x.fs f.1 = some X := hX
          have hX2' : findF x.fs f.1 = some X2 := hX2
          rw [hX'] at hX2'; cases hX2'; rfl
        have gX := gt_f gx ((findF_up ux).1 hX)
        have := (hg.glb (gt_f gs ((findF_up us).1 hV)).2.1 (gt_f gt ((findF_up ut).1 hW)).2.1 gX.2.1 he).2 ⟨u1, u2⟩
        have hnil : (g V W).2 = [] := Classical.byContradiction fun c => hn ⟨he, c⟩
        rw [hnil] at this
        exact (gX.2.2 (und_nil gX.2.1 this)).elim
theorem comT_ok (hg : Good n l g) (gs : Gt n l s) (gt : Gt n l t) :
    ((comT g s t).1 = 0 ∨ ((comT g s t).1 = 30 ∧ (comT g s t).2 = [])) ∧ ((comT g s t).1 = 0 → (∀ c ∈ (comT g s t).2, Gt n l c) ∧ ∀ x, Gt n l x → (inV n (comT g s t).2 x ↔ undT (undV n) x s = true ∧ undT (undV n) x t = true)) := by
  unfold comT
  split
  · rename_i s5
    refine ⟨.inl rfl, fun _ => ⟨fun c hc => by rw [List.mem_singleton.1 hc]; exact gt, fun x _ => ?_⟩⟩
    rw [in_one, undT_five s5]; simp
  · rename_i s5
    split
    · rename_i t5
      refine ⟨.inl rfl, fun _ => ⟨fun c hc => by rw [List.mem_singleton.1 hc]; exact gs, fun x _ => ?_⟩⟩
      rw [in_one, undT_five t5]; simp
    · rename_i t5
      split
      · rename_i h4
        exact comS_ok hg gs gt h4.1 h4.2
      · rename_i h4
        have none_ : (∀ x, Gt n l x → ¬ (undT (undV n) x s = true ∧ undT (undV n) x t = true)) → ((0 : Int) = 0 ∨ ((0 : Int) = 30 ∧ ([] : List Tm) = [])) ∧ ((0 : Int) = 0 → (∀ c ∈ ([] : List Tm), Gt n l c) ∧ ∀ x, Gt n l x → (inV n [] x ↔ undT (undV n) x s = true ∧ undT (undV n) x t = true)) := fun h =>
          ⟨.inl rfl, fun _ => ⟨fun c hc => by simp at hc, fun x gx => ⟨fun h => absurd h in_none, fun h' => (h x gx h').elim⟩⟩⟩
        by_cases s4 : s.k = 4
        · have rt := gt_sc gt (fun e => h4 ⟨s4, e⟩) t5
          have : scM s t = none := by unfold scM; rw [if_neg fun c => by have := scR_k c.1; omega]
          rw [this]
          refine none_ fun x _ ⟨h1, h2⟩ => ?_
          have := (undT_four s4).1 h1
          have := scR_k ((undT_scal rt).1 h2).1
          omega
        · have rs := gt_sc gs s4 s5
          by_cases t4 : t.k = 4
          · have : scM s t = none := by unfold scM; rw [if_neg fun c => by have := scR_k c.2; omega]
            rw [this]
            refine none_ fun x _ ⟨h1, h2⟩ => ?_
            have := (undT_four t4).1 h2
            have := scR_k ((undT_scal rs).1 h1).1
            omega
          · have rt := gt_sc gt t4 t5
            have : scM s t = s.sc.meet t.sc := by unfold scM; rw [if_pos ⟨rs, rt⟩]
            rw [this]
            have ass := fun (x : Tm) (rx : scR x) => meet_assoc (scR_R rx) (scR_R rs) (scR_R rt)
            cases hm : s.sc.meet t.sc with
            | none =>
              refine none_ fun x _ ⟨h1, h2⟩ => ?_
              obtain ⟨rx, m1⟩ := (undT_scal rs).1 h1
              obtain ⟨_, m2⟩ := (undT_scal rt).1 h2
              have := ass x rx
              rw [m1, hm] at this
              simp only [bd] at this
              rw [m2] at this; cases this
            | some c =>
              have hc := meet_R (scR_R rs) (scR_R rt) hm
              obtain ⟨gc, rc⟩ := sc_gt (n := n) (l := l) hc
              refine ⟨.inl rfl, fun _ => ⟨fun c' hc' => by rw [List.mem_singleton.1 hc']; exact gc, fun x _ => ?_⟩⟩
              have ec : c.tm.sc = c := rfl
              rw [in_one, undT_scal rc, undT_scal rs, undT_scal rt, ec]
              constructor
              · rintro ⟨rx, mx⟩
                have a1 := meet_assoc (scR_R rx) hc (scR_R rs)
                have a2 := meet_assoc (scR_R rx) hc (scR_R rt)
                rw [mx, meet_left (scR_R rs) (scR_R rt) hm] at a1
                rw [mx, meet_right (scR_R rs) (scR_R rt) hm] at a2
                simp only [bd] at a1 a2
                exact ⟨⟨rx, a1.trans mx⟩, rx, a2.trans mx⟩
              · rintro ⟨⟨rx, m1⟩, _, m2⟩
                have := ass x rx
                rw [m1, hm] at this
                simp only [bd] at this
                exact ⟨rx, this.symm.trans m2⟩
end
theorem acc_fine {c : Tm → Tm → Int × List Tm} : ∀ {P : List (Tm × Tm)}, (∀ p ∈ P, (c p.1 p.2).1 = 0) → accL c P = (0, P.flatMap fun p => (c p.1 p.2).2)
  | [], _ => rfl
  | p :: P, h => by
    have ih := acc_fine (P := P) fun q hq => h q (by simp [hq])
    have h0 := h p (by simp)
    simp only [accL, ih, h0, List.flatMap_cons]
    simp
theorem acc_bad {c : Tm → Tm → Int × List Tm} : ∀ {P : List (Tm × Tm)}, (∀ p ∈ P, (c p.1 p.2).1 = 0 ∨ (c p.1 p.2).1 = 30) → (∃ p ∈ P, (c p.1 p.2).1 ≠ 0) → accL c P = (30, [])
  | [], _, h => by simp at h
  | p :: P, h, hx => by
    unfold accL
    by_cases h0 : (c p.1 p.2).1 = 0
    · obtain ⟨q, hq, hq0⟩ := hx
      have hqP : q ∈ P := by
        rcases List.mem_cons.1 hq with rfl | hq
        · exact absurd h0 hq0
        · exact hq
      have ih := acc_bad (P := P) (fun q hq => h q (by simp [hq])) ⟨q, hqP, hq0⟩
      rw [if_neg (by simpa using h0), ih]
      simp
    · rw [if_pos h0]
      rcases h p (by simp) with e | e
      · exact absurd e h0
      · rw [e]
theorem mem_prs {A B : List Tm} {p : Tm × Tm} : p ∈ prs A B ↔ p.1 ∈ A ∧ p.2 ∈ B := by
  unfold prs
  rw [List.mem_flatMap]
  constructor
  · rintro ⟨a, ha, hp⟩
    obtain ⟨b, hb, rfl⟩ := List.mem_map.1 hp
    exact ⟨ha, hb⟩
  · rintro ⟨ha, hb⟩
    exact ⟨p.1, ha, List.mem_map.2 ⟨p.2, hb, rfl⟩⟩
theorem nrm_cases (n : Nat) (L : List Tm) : (nrm n L = (30, []) ∧ 512 < wN (n + 1) (normV n L)) ∨ (nrm n L = (0, normV n L) ∧ wN (n + 1) (normV n L) ≤ 512) := by
  unfold nrm
  split
  · exact .inl ⟨rfl, ‹_›⟩
  · exact .inr ⟨rfl, by omega⟩
/-- What a meet of values is. -/
theorem meet_cases {n l : Nat} (hg : Good n l (meetV n)) {A B : List Tm} (hA : ∀ x ∈ A, Gt n l x) (hB : ∀ x ∈ B, Gt n l x) :
    (meetV (n + 1) A B = (30, []) ∧ (512 < A.length * B.length ∨ (∃ p ∈ prs A B, (comT (meetV n) p.1 p.2).1 ≠ 0) ∨ 512 < wN (n + 1) (normV n ((prs A B).flatMap fun p => (comT (meetV n) p.1 p.2).2)))) ∨
    (meetV (n + 1) A B = (0, normV n ((prs A B).flatMap fun p => (comT (meetV n) p.1 p.2).2)) ∧ A.length * B.length ≤ 512 ∧ (∀ p ∈ prs A B, (comT (meetV n) p.1 p.2).1 = 0) ∧ wN (n + 1) (normV n ((prs A B).flatMap fun p => (comT (meetV n) p.1 p.2).2)) ≤ 512) := by
  show ((if 512 < A.length * B.length then _ else _) = _ ∧ _) ∨ ((if 512 < A.length * B.length then _ else _) = _ ∧ _)
  by_cases h1 : 512 < A.length * B.length
  · rw [if_pos h1]; exact .inl ⟨rfl, .inl h1⟩
  · rw [if_neg h1]
    have hE : ∀ p ∈ prs A B, (comT (meetV n) p.1 p.2).1 = 0 ∨ (comT (meetV n) p.1 p.2).1 = 30 := fun p hp => by
      obtain ⟨ha, hb⟩ := mem_prs.1 hp
      rcases (comT_ok hg (hA _ ha) (hB _ hb)).1 with h | h
      · exact .inl h
      · exact .inr h.1
    by_cases h2 : ∀ p ∈ prs A B, (comT (meetV n) p.1 p.2).1 = 0
    · rw [acc_fine h2, if_neg (by simp)]
      rcases nrm_cases n ((prs A B).flatMap fun p => (comT (meetV n) p.1 p.2).2) with ⟨e, h⟩ | ⟨e, h⟩
      · exact .inl ⟨e, .inr (.inr h)⟩
      · exact .inr ⟨e, by omega, h2, h⟩
    · have h3 : ∃ p ∈ prs A B, (comT (meetV n) p.1 p.2).1 ≠ 0 := Classical.byContradiction fun c => h2 fun p hp => Classical.byContradiction fun d => c ⟨p, hp, d⟩
      rw [acc_bad hE h3, if_pos (by simp)]
      exact .inl ⟨rfl, .inr (.inl h3)⟩
/-- What is in both of two values. -/
theorem in_pairs {n l : Nat} (hg : Good n l (meetV n)) {A B : List Tm} (hA : ∀ x ∈ A, Gt n l x) (hB : ∀ x ∈ B, Gt n l x) (h0 : ∀ p ∈ prs A B, (comT (meetV n) p.1 p.2).1 = 0) :
    (∀ x ∈ (prs A B).flatMap fun p => (comT (meetV n) p.1 p.2).2, Gt n l x) ∧ ∀ x, Gt n l x → (inV n ((prs A B).flatMap fun p => (comT (meetV n) p.1 p.2).2) x ↔ inV n A x ∧ inV n B x) := by
  refine ⟨fun x hx => ?_, fun x gx => ⟨?_, ?_⟩⟩
  · obtain ⟨p, hp, hx⟩ := List.mem_flatMap.1 hx
    obtain ⟨ha, hb⟩ := mem_prs.1 hp
    exact ((comT_ok hg (hA _ ha) (hB _ hb)).2 (h0 p hp)).1 x hx
  · rintro ⟨c, hc, u⟩
    obtain ⟨p, hp, hc⟩ := List.mem_flatMap.1 hc
    obtain ⟨ha, hb⟩ := mem_prs.1 hp
    have := (((comT_ok hg (hA _ ha) (hB _ hb)).2 (h0 p hp)).2 x gx).1 ⟨c, hc, u⟩
    exact ⟨⟨_, ha, this.1⟩, _, hb, this.2⟩
  · rintro ⟨⟨a, ha, ua⟩, b, hb, ub⟩
    have hp : (a, b) ∈ prs A B := mem_prs.2 ⟨ha, hb⟩
    obtain ⟨c, hc, u⟩ := (((comT_ok hg (hA _ ha) (hB _ hb)).2 (h0 _ hp)).2 x gx).2 ⟨ua, ub⟩
    exact ⟨c, List.mem_flatMap.2 ⟨_, hp, hc⟩, u⟩
theorem und_all {n : Nat} {X A : List Tm} : undV (n + 1) X A = true ↔ ∀ a ∈ X, inV n A a := by rw [undV_iff]; rfl
theorem meet_good : ∀ (n l : Nat), Good n l (meetV n)
  | 0, _ => ⟨fun h _ => by unfold RV at h; exact h.elim, fun h _ _ => by unfold RV at h; exact h.elim, fun h _ _ _ => by unfold RV at h; exact h.elim⟩
  | n + 1, 0 => ⟨fun h _ => by unfold RV at h; exact h.elim, fun h _ _ => by unfold RV at h; exact h.elim, fun h _ _ _ => by unfold RV at h; exact h.elim⟩
  | n + 1, l + 1 => by
    have hg := meet_good n l
    refine ⟨fun {V W} hV hW => ?_, fun {V W} hV hW h0 => ?_, fun {V W X} hV hW hX h0 => ?_⟩
    · rcases meet_cases hg hV.1 hW.1 with ⟨e, _⟩ | ⟨e, _⟩
      · exact .inr (by rw [e]; exact ⟨rfl, rfl⟩)
      · exact .inl (by rw [e])
    · rcases meet_cases hg hV.1 hW.1 with ⟨e, _⟩ | ⟨e, _, h1, _⟩
      · rw [e] at h0; exact absurd h0 (by decide)
      · rw [e]
        have := (in_pairs hg hV.1 hW.1 h1).1
        exact norm_rv this fun x hx => gt_dt (this x hx)
    · rcases meet_cases hg hV.1 hW.1 with ⟨e, _⟩ | ⟨e, _, h1, _⟩
      · rw [e] at h0; exact absurd h0 (by decide)
      · rw [e]
        obtain ⟨i1, i2⟩ := in_pairs hg hV.1 hW.1 h1
        rw [und_all, und_all, und_all]
        constructor
        · intro h
          have := fun a ha => (i2 a (hX.1 a ha)).1 ((norm_in i1 (fun x hx => gt_dt (i1 x hx)) (hX.1 a ha)).1 (h a ha))
          exact ⟨fun a ha => (this a ha).1, fun a ha => (this a ha).2⟩
        · rintro ⟨h1, h2⟩ a ha
          exact (norm_in i1 (fun x hx => gt_dt (i1 x hx)) (hX.1 a ha)).2 ((i2 a (hX.1 a ha)).2 ⟨h1 a ha, h2 a ha⟩)
/-- What comes of a meet. -/
theorem meet_rv {n l : Nat} {A B : List Tm} (hA : RV (n + 1) (l + 1) A) (hB : RV (n + 1) (l + 1) B) :
    (meetV (n + 1) A B = (30, [])) ∨ (∃ M, meetV (n + 1) A B = (0, M) ∧ RV (n + 1) (l + 1) M ∧ wN (n + 1) M ≤ 512 ∧ ∀ x, Gt n l x → (inV n M x ↔ inV n A x ∧ inV n B x)) := by
  rcases meet_cases (meet_good n l) hA.1 hB.1 with ⟨e, _⟩ | ⟨e, _, h1, h2⟩
  · exact .inl e
  · obtain ⟨i1, i2⟩ := in_pairs (meet_good n l) hA.1 hB.1 h1
    exact .inr ⟨_, e, norm_rv i1 fun x hx => gt_dt (i1 x hx), h2, fun x gx => (norm_in i1 (fun x hx => gt_dt (i1 x hx)) gx).trans (i2 x gx)⟩
theorem w_sub {n : Nat} : ∀ {S L : List Tm}, S.Pairwise (· ≠ ·) → (∀ x ∈ S, x ∈ L) → wN (n + 1) S ≤ wN (n + 1) L
  | [], L, _, _ => by rw [wN_nil]; omega
  | a :: S, L, hp, h => by
    obtain ⟨L1, L2, rfl⟩ := List.append_of_mem (h a (by simp))
    have hp' := List.pairwise_cons.1 hp
    have := w_sub (n := n) (S := S) (L := L1 ++ L2) hp'.2 fun x hx => by
      have := h x (by simp [hx])
      have hne := hp'.1 x hx
      simp only [List.mem_append, List.mem_cons] at this ⊢
      rcases this with h | h | h
      · exact .inl h
      · exact absurd h.symm hne
      · exact .inr h
    rw [wN_append] at *
    rw [wN_cons, wN_cons]
    omega
theorem ups_ne {n : Nat} {A : List Tm} (h : Ups (cmpT (cmpV n)) A) : A.Pairwise (· ≠ ·) := h.imp fun {a b} h e => by subst e; rw [(cmpT_cmp n).refl] at h; omega
theorem norm_w {n : Nat} {L : List Tm} (hd : ∀ x ∈ L, Dt n x) : wN (n + 1) (normV n L) ≤ wN (n + 1) L := w_sub (ups_ne (keepL_ups (someL_ups (cmpT_cmp n) L))) fun _ hx => normV_sub hd hx
/-- What comes of a join. -/
theorem join_rv {n l : Nat} {A B : List Tm} (hA : RV (n + 1) (l + 1) A) (hB : RV (n + 1) (l + 1) B) :
    (joinV n A B = (30, []) ∧ 512 < wN (n + 1) A + wN (n + 1) B) ∨ (∃ J, joinV n A B = (0, J) ∧ RV (n + 1) (l + 1) J ∧ wN (n + 1) J ≤ 512 ∧ wN (n + 1) J ≤ wN (n + 1) A + wN (n + 1) B ∧ ∀ x, Gt n l x → (inV n J x ↔ inV n A x ∨ inV n B x)) := by
  have hL : ∀ x ∈ A ++ B, Gt n l x := fun x hx => by
    rcases List.mem_append.1 hx with h | h
    · exact hA.1 x h
    · exact hB.1 x h
  have hd : ∀ x ∈ A ++ B, Dt n x := fun x hx => gt_dt (hL x hx)
  have hw := norm_w hd
  rw [wN_append] at hw
  rcases nrm_cases n (A ++ B) with ⟨e, h⟩ | ⟨e, h⟩
  · exact .inl ⟨e, by omega⟩
  · refine .inr ⟨_, e, norm_rv hL hd, h, hw, fun x gx => ?_⟩
    rw [norm_in hL hd gx]
    constructor
    · rintro ⟨b, hb, u⟩
      rcases List.mem_append.1 hb with h | h
      · exact .inl ⟨b, h, u⟩
      · exact .inr ⟨b, h, u⟩
    · rintro (⟨b, hb, u⟩ | ⟨b, hb, u⟩)
      · exact ⟨b, List.mem_append.2 (.inl hb), u⟩
      · exact ⟨b, List.mem_append.2 (.inr hb), u⟩
theorem norm_set {n : Nat} {L M : List Tm} (hL : ∀ x ∈ L, Dt n x) (h : ∀ x, x ∈ L ↔ x ∈ M) : normV n L = normV n M := by
  unfold normV
  have : someL (cmpT (cmpV n)) L = someL (cmpT (cmpV n)) M := ups_ext (cmpT_cmp n) (someL_ups (cmpT_cmp n) L) (someL_ups (cmpT_cmp n) M) fun x => by
    rw [someL_mem (sharp_of hL), someL_mem (sharp_of fun y hy => hL y ((h y).2 hy))]; exact h x
  rw [this]
end Go.Proofs.YtddleeenlpigfaaGreatDoor
