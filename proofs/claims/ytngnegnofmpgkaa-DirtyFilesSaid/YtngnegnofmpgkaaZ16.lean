/- Hm, Hn, Ib, Id, Ie, If, Ig -/
import Derived.Lib.AppendZeros
import Derived.Deep.LoopGhost
import Derived.WalkMore
import Derived.Test.YtngnegnofmpgkaaZ0
import Derived.Test.YtngnegnofmpgkaaZ14
import Derived.Test.YtngnegnofmpgkaaZ15
/- WALK of the reference's Turned. -/
namespace Go.Proofs.Ytngnegnofmpgkaa.Gr
open Go.RowKit Go.Maps Go.Sort
def turnL (ls : List Ln2) : List Ln2 := ls.map fun l => (l.2, l.1)
set_option maxRecDepth 100000 in
set_option maxHeartbeats 16000000 in
theorem rturned_any (a : Option Addr) (len cap : Nat) (ls : List Ln2) (w : World) (hS : LineRow w a len ls) (hl : len ≤ 300000) : Calls Try.prog 53 #[.slice a len cap] w (LinesP (turnL ls) w) := by
  have HS := Lib.hid hS
  have hcx := hS.count
  clear hS
  go_enter Try.func53, Try.ntmps53
  go_upto_region 3 with fail
  go_loopw [3, 4] (fun v i wr => ∃ (k : Nat), k ≤ len ∧ i = .int .i64 k ∧ Hid (wr.ownsRow w.heap.size 101 2 v (turnL (ls.take k)).length (lnV (turnL (ls.take k)))) ∧ Hid (Below w.heap.size w wr)) (fun _ i _ => len - (intOf i).toNat)
  case atStart => exact ⟨0, by omega, rfl, Lib.hid (World.ownsRow_nil _ _ _ _), Lib.hid (Below.refl _ _)⟩
  case round =>
    obtain ⟨k, hk, rfl, hR, hB⟩ := hrel
    rename World => wr
    have HR := Lib.hid hR.out
    have HB := Lib.hid hB.out
    clear hR hB
    by_cases hlt : k < len
    · obtain ⟨b0, off, rfl, hb, hc⟩ := HS.out.at_ (by omega)
      obtain ⟨⟨x, y⟩, hx⟩ : ∃ x, ls[k]? = some x := ⟨ls[k]'(by rw [hcx]; exact hlt), List.getElem?_eq_getElem _⟩
      have hbd := (Below.refl wr.heap.size wr).drew
      have hB7 := below_step HB.out hbd
      have hc1 : (World.drew wr).cell? ⟨b0, off + k * 2, none⟩ = some (.string x) := (hB7.cell (p := ⟨b0, off + k * 2, none⟩) hb).trans (hc k _ hx).1
      have hc2 : (World.drew wr).cell? ⟨b0, off + k * 2 + 1, none⟩ = some (.string y) := (hB7.cell (p := ⟨b0, off + k * 2 + 1, none⟩) hb).trans (hc k _ hx).2
      have HE3 := Lib.hid (show turnL (ls.take (k + 1)) = turnL (ls.take k) ++ [(y, x)] from map_at _ hx)
      have HLJ := Lib.hid (show (turnL (ls.take k)).length ≤ 300000 by unfold turnL; rw [List.length_map, List.length_take]; omega)
      obtain ⟨lj, hlj⟩ : ∃ lj, turnL (ls.take k) = lj := ⟨_, rfl⟩
      rw [hlj] at HR HE3 HLJ
      have hrd : (World.drew wr).ownsRow w.heap.size 101 2 u3 lj.length (lnV lj) := HR.out.kept (grow_of hbd) (by cases u3.ownBlock <;> simp)
      have hws := HB.out.size
      have hdz : w.heap.size ≤ (World.drew wr).heap.size := Nat.le_trans HB.out.size hbd.size
      obtain ⟨v', w6, hrun, hown6, hg6, -⟩ := line_grow hrd (by have := HLJ.out; omega) hdz y x
      have hrb := own_base53 hrd
      have HO6 := Lib.hid hown6
      have HB6 := Lib.hid ((hB7.alloc hdz (.cells #[.string y, .string x] 101)).grown hg6 (by simp; omega) (fun r e => hrb r e))
      have HRUN := Lib.hid hrun
      clear hx hc hb hlj hrd hws hdz hown6 hg6 hrb hrun hbd hB7
      go_upto_region 5 with fail
      go_region_law (refine step_append_run (by rfl) _ _ _ _ (by rfl) _ _ (by rfl) (by rfl) _ _ HRUN.out ?_)
      all_goals
        go_wp2_with fail
        go_roundw
        case rel => exact ⟨k + 1, by omega, by go_num, by rw [HE3.out]; exact HO6, HB6⟩
        case measure => simp [intOf]; omega
    · have hki : ¬ (k : Int) < (len : Int) := by omega
      obtain rfl : k = len := by omega
      have HE := Lib.hid (show ls.take k = ls from List.take_of_length_le (by omega))
      go_wp2
      go_ret
      rw [HE.out] at HR
      exact ⟨_, rfl, HR.out, HB.out⟩
end Go.Proofs.Ytngnegnofmpgkaa.Gr
/- RISING LISTS OF ONE SET ARE ONE; what the graph tells and what the reference tells. -/
namespace Go.Proofs.Ytngnegnofmpgkaa.Gr
open Go.RowKit Go.Maps Go.Sort
theorem Rise.nodup {l : List ByteArray} (h : Rise l) : l.Nodup := h.imp fun {a b} h e => by rw [e] at h; exact List.lt_irrefl _ h
theorem rise_unique {l l' : List ByteArray} (h : Rise l) (h' : Rise l') (hm : ∀ s, s ∈ l ↔ s ∈ l') : l = l' := by
  have hp : l.Perm l' := (List.perm_ext_iff_of_nodup h.nodup h'.nodup).2 hm
  refine List.Perm.eq_of_pairwise (le := fun (a b : ByteArray) => a.data.toList < b.data.toList) (fun a b _ _ h1 h2 => ?_) h h' hp
  exact absurd (List.lt_trans h1 h2) (List.lt_irrefl _)
theorem set_unique {P P' : ByteArray → Bool} {l l' : List ByteArray} (h : SetL P l) (h' : SetL P' l') (hP : ∀ s, okS s → P s = P' s) : l = l' :=
  rise_unique h.1 h'.1 fun s => by
    rw [h.2, h'.2]
    exact ⟨fun ⟨a, b⟩ => ⟨a, by rw [← hP s a]; exact b⟩, fun ⟨a, b⟩ => ⟨a, by rw [hP s a]; exact b⟩⟩
/-- The points that the reference tells are the graph's. -/
theorem npL_set {n : Nat} {xs : List Nd} (hn : ∀ s ∈ xs.map Nd.name, okS s) (hl : ∀ y ∈ lnL n xs, okS y.1 ∧ okS y.2) : SetL (PG (xs.map Nd.name) (lnL n xs)) (npL n xs) := by
  have h0 : Rise ((nmL false xs).foldl (fun acc x => putL x acc) []) := (strs_fold ByteArray.empty (nmL false xs) [] List.Pairwise.nil).1
  have hmem : ∀ s, s ∈ npL n xs ↔ s ∈ xs.map Nd.name ∨ ∃ l ∈ lnL n xs, s = l.1 ∨ s = l.2 := fun s => by
    rw [show npL n xs = (lnL n xs).foldl pt1 ((nmL false xs).foldl (fun acc x => putL x acc) []) from rfl, (pts_fold s _ _ h0).2, (strs_fold s (nmL false xs) [] List.Pairwise.nil).2]
    have h1 := (nm_set false s xs [] List.Pairwise.nil).2
    rw [show nmL false xs = xs.foldl (nm1 false) [] from rfl, h1]
    simp only [List.not_mem_nil, false_or, true_or, true_and, List.mem_map]
    constructor
    · rintro (⟨x, hx, rfl⟩ | h)
      · exact .inl ⟨x, hx, rfl⟩
      · exact .inr h
    · rintro (⟨x, hx, rfl⟩ | h)
      · exact .inl ⟨x, hx, rfl⟩
      · exact .inr h
  refine ⟨(pts_fold ByteArray.empty _ _ h0).1, fun s => ?_⟩
  rw [hmem]
  unfold PG
  rw [Bool.or_eq_true, inB_iff, List.any_eq_true]
  constructor
  · rintro (h | ⟨l, hl1, h | h⟩)
    · exact ⟨hn s h, .inl h⟩
    · subst h
      refine ⟨(hl l hl1).1, .inl ?_⟩
      obtain ⟨x, hx, hy⟩ := List.mem_flatMap.1 hl1
      obtain ⟨t, _, rfl⟩ := List.mem_map.1 hy
      exact List.mem_map.2 ⟨x, hx, rfl⟩
    · subst h
      exact ⟨(hl l hl1).2, .inr ⟨l, hl1, by simp⟩⟩
  · rintro ⟨-, h | ⟨l, hl1, h⟩⟩
    · exact .inl h
    · exact .inr ⟨l, hl1, .inr (by simpa using h)⟩
end Go.Proofs.Ytngnegnofmpgkaa.Gr
/- WHAT IS REACHED: plain mathematics of the loops of Deps and Reach. -/
namespace Go.Proofs.Ytngnegnofmpgkaa.Gr
open Go
theorem nodup_le {α : Type} [DecidableEq α] : ∀ (l m : List α), l.Nodup → (∀ x ∈ l, x ∈ m) → l.length ≤ m.length
  | [], _, _, _ => Nat.zero_le _
  | x :: l, m, hn, hs => by
    have hx : x ∈ m := hs x (by simp)
    have h1 := nodup_le l (m.erase x) (List.nodup_cons.1 hn).2 (fun y hy => by
      have hne : y ≠ x := fun e => (List.nodup_cons.1 hn).1 (e ▸ hy)
      exact (List.mem_erase_of_ne hne).2 (hs y (by simp [hy])))
    rw [List.length_erase_of_mem hx] at h1
    have := List.length_pos_of_mem hx
    rw [List.length_cons]
    omega
/-- The lines that go from where nothing is seen yet. -/
def freshL (ls : List Ln2) (S : ByteArray → Bool) : Nat := (ls.filter fun l => !S l.1).length
theorem fresh_le (ls : List Ln2) (S : ByteArray → Bool) : freshL ls S ≤ ls.length := List.length_filter_le _ _
theorem fresh_skip (ls : List Ln2) (S : ByteArray → Bool) (k : ByteArray) : freshL ls (fun s => S s || decide (s = k)) ≤ freshL ls S := by
  unfold freshL
  simp only [Bool.not_or]
  induction ls with
  | nil => simp
  | cons l ls ih =>
    simp only [List.filter_cons]
    cases S l.1 <;> by_cases e : l.1 = k <;> simp [e] <;> omega
theorem fresh_more (ls : List Ln2) (S : ByteArray → Bool) (k : ByteArray) (hk : S k = false) (l : List ByteArray) (hn : l.Nodup) (hl : ∀ t ∈ l, (k, t) ∈ ls) : freshL ls (fun s => S s || decide (s = k)) + l.length ≤ freshL ls S := by
  have h1 : l.length ≤ (ls.filter fun x => decide (x.1 = k)).length := by
    rw [show l.length = (l.map fun t => (k, t)).length by rw [List.length_map]]
    refine nodup_le _ _ (List.pairwise_map.2 (hn.imp fun h e => h (by injection e))) fun x hx => ?_
    obtain ⟨t, ht, rfl⟩ := List.mem_map.1 hx
    exact List.mem_filter.2 ⟨hl t ht, by simp⟩
  have h2 : freshL ls (fun s => S s || decide (s = k)) + (ls.filter fun x => decide (x.1 = k)).length = freshL ls S := by
    unfold freshL
    simp only [Bool.not_or]
    clear h1 hl
    induction ls with
    | nil => simp
    | cons x ls ih =>
      simp only [List.filter_cons]
      by_cases e : x.1 = k
      · simp [e, hk]; omega
      · cases S x.1 <;> simp [e] <;> omega
  omega
/-- What a name hangs on: over lines that do not go on behind a thing. -/
inductive Dp (L : ByteArray → ByteArray → Bool) (T : ByteArray → Bool) (s : ByteArray) : ByteArray → Prop
  | base {k : ByteArray} : L s k = true → Dp L T s k
  | step {j k : ByteArray} : Dp L T s j → j ≠ s → T j = false → L j k = true → Dp L T s k
/-- What lies between two rounds of Deps. -/
structure DI (L : ByteArray → ByteArray → Bool) (T : ByteArray → Bool) (s : ByteArray) (S : ByteArray → Bool) (dl ol : List ByteArray) : Prop where
  opens : ∀ k ∈ ol, Dp L T s k
  seen : ∀ k, S k = true → k = s ∨ Dp L T s k
  start : S s = true
  nodup : dl.Nodup
  deps : ∀ k, k ∈ dl ↔ (S k = true ∧ k ≠ s ∧ T k = true)
  first : ∀ k, L s k = true → S k = true ∨ k ∈ ol
  next : ∀ j k, S j = true → j ≠ s → T j = false → L j k = true → S k = true ∨ k ∈ ol
section
variable {L : ByteArray → ByteArray → Bool} {T : ByteArray → Bool} {s : ByteArray} {S : ByteArray → Bool} {dl ol : List ByteArray} {k : ByteArray}
theorem DI.begin {l : List ByteArray} (hl : ∀ t, t ∈ l ↔ L s t = true) : DI L T s (fun x => false || decide (x = s)) [] l := by
  refine ⟨fun k hk => .base ((hl k).1 hk), fun k hk => .inl (by simpa using hk), by simp, List.nodup_nil, fun k => ?_, fun k hk => .inr ((hl k).2 hk), fun j k hj hne => absurd (by simpa using hj) hne⟩
  simp
  intro h1 h2
  exact absurd h1 h2
theorem DI.skip (h : DI L T s S dl (k :: ol)) (hk : S k = true) : DI L T s S dl ol := by
  refine ⟨fun x hx => h.opens x (by simp [hx]), h.seen, h.start, h.nodup, h.deps, fun x hx => ?_, fun j x h1 h2 h3 h4 => ?_⟩
  · rcases h.first x hx with a | a
    · exact .inl a
    · rcases List.mem_cons.1 a with rfl | a
      · exact .inl hk
      · exact .inr a
  · rcases h.next j x h1 h2 h3 h4 with a | a
    · exact .inl a
    · rcases List.mem_cons.1 a with rfl | a
      · exact .inl hk
      · exact .inr a
theorem DI.thing (h : DI L T s S dl (k :: ol)) (hk : S k = false) (hT : T k = true) : DI L T s (fun x => S x || decide (x = k)) (dl ++ [k]) ol := by
  have hks : k ≠ s := fun e => by rw [e, h.start] at hk; cases hk
  refine ⟨fun x hx => h.opens x (by simp [hx]), fun x hx => ?_, by simp [h.start], ?_, fun x => ?_, fun x hx => ?_, fun j x h1 h2 h3 h4 => ?_⟩
  · rcases Bool.or_eq_true _ _ ▸ hx with a | a
    · exact h.seen x a
    · have : x = k := by simpa using a
      subst this
      exact .inr (h.opens x (by simp))
  · refine List.nodup_append.2 ⟨h.nodup, by simp, fun a ha b hb e => ?_⟩
    have : b = k := by simpa using hb
    subst this
    subst e
    have := ((h.deps a).1 ha).1
    rw [hk] at this
    cases this
  · rw [List.mem_append, h.deps x]
    by_cases e : x = k
    · subst e; simp [hks, hT]
    · simp [e]
  · rcases h.first x hx with a | a
    · exact .inl (by simp [a])
    · rcases List.mem_cons.1 a with rfl | a
      · exact .inl (by simp)
      · exact .inr a
  · have hj : S j = true := by
      rcases Bool.or_eq_true _ _ ▸ h1 with a | a
      · exact a
      · have : j = k := by simpa using a
        subst this
        rw [hT] at h3; cases h3
    rcases h.next j x hj h2 h3 h4 with a | a
    · exact .inl (by simp [a])
    · rcases List.mem_cons.1 a with rfl | a
      · exact .inl (by simp)
      · exact .inr a
theorem DI.more (h : DI L T s S dl (k :: ol)) (hk : S k = false) (hT : T k = false) {l : List ByteArray} (hl : ∀ t, t ∈ l ↔ L k t = true) : DI L T s (fun x => S x || decide (x = k)) dl (ol ++ l) := by
  have hks : k ≠ s := fun e => by rw [e, h.start] at hk; cases hk
  have hDk := h.opens k (by simp)
  refine ⟨fun x hx => ?_, fun x hx => ?_, by simp [h.start], h.nodup, fun x => ?_, fun x hx => ?_, fun j x h1 h2 h3 h4 => ?_⟩
  · rcases List.mem_append.1 hx with a | a
    · exact h.opens x (by simp [a])
    · exact .step hDk hks hT ((hl x).1 a)
  · rcases Bool.or_eq_true _ _ ▸ hx with a | a
    · exact h.seen x a
    · have : x = k := by simpa using a
      subst this
      exact .inr hDk
  · rw [h.deps x]
    by_cases e : x = k
    · subst e; simp [hT]
    · simp [e]
  · rcases h.first x hx with a | a
    · exact .inl (by simp [a])
    · rcases List.mem_cons.1 a with rfl | a
      · exact .inl (by simp)
      · exact .inr (by simp [a])
  · by_cases e : j = k
    · subst e
      exact .inr (by simp [(hl x).2 h4])
    · have hj : S j = true := by
        rcases Bool.or_eq_true _ _ ▸ h1 with a | a
        · exact a
        · exact absurd (by simpa using a) e
      rcases h.next j x hj h2 h3 h4 with a | a
      · exact .inl (by simp [a])
      · rcases List.mem_cons.1 a with rfl | a
        · exact .inl (by simp)
        · exact .inr (by simp [a])
theorem DI.done (h : DI L T s S dl []) : ∀ k, k ∈ dl ↔ (Dp L T s k ∧ k ≠ s ∧ T k = true) := by
  have hD : ∀ k, Dp L T s k → S k = true := fun k hk => by
    induction hk with
    | base h1 => exact (h.first _ h1).resolve_right (by simp)
    | step _ h2 h3 h4 ih => exact (h.next _ _ ih h2 h3 h4).resolve_right (by simp)
  intro k
  rw [h.deps k]
  constructor
  · rintro ⟨a, b, c⟩
    exact ⟨(h.seen k a).resolve_left b, b, c⟩
  · rintro ⟨a, b, c⟩
    exact ⟨hD k a, b, c⟩
end
/-- What is reached from some points. -/
inductive Rc (L : ByteArray → ByteArray → Bool) (P : ByteArray → Bool) (l : List ByteArray) : ByteArray → Prop
  | base {k : ByteArray} : k ∈ l → P k = true → Rc L P l k
  | step {j k : ByteArray} : Rc L P l j → L j k = true → Rc L P l k
/-- What lies between two rounds of Reach. -/
structure RI (L : ByteArray → ByteArray → Bool) (P : ByteArray → Bool) (l : List ByteArray) (S : ByteArray → Bool) (rl ol : List ByteArray) : Prop where
  opens : ∀ k ∈ ol, P k = true → Rc L P l k
  nodup : rl.Nodup
  mem : ∀ k, k ∈ rl ↔ S k = true
  seen : ∀ k, S k = true → Rc L P l k
  first : ∀ k ∈ l, P k = true → S k = true ∨ k ∈ ol
  next : ∀ j k, S j = true → L j k = true → S k = true ∨ k ∈ ol
section
variable {L : ByteArray → ByteArray → Bool} {P : ByteArray → Bool} {l : List ByteArray} {S : ByteArray → Bool} {rl ol : List ByteArray} {k : ByteArray}
theorem RI.begin : RI L P l (fun _ => false) [] l :=
  ⟨fun _ hk hP => .base hk hP, List.nodup_nil, fun k => by simp, fun k hk => by simp at hk, fun k hk _ => .inr hk, fun j k hj => by simp at hj⟩
theorem RI.skip (h : RI L P l S rl (ol ++ [k])) (hk : P k = true → S k = true) (hLP : ∀ j t, L j t = true → P t = true) : RI L P l S rl ol := by
  refine ⟨fun x hx => h.opens x (by simp [hx]), h.nodup, h.mem, h.seen, fun x hx hP => ?_, fun j x h1 h2 => ?_⟩
  · rcases h.first x hx hP with a | a
    · exact .inl a
    · rcases List.mem_append.1 a with a | a
      · exact .inr a
      · have : x = k := by simpa using a
        subst this
        exact .inl (hk hP)
  · rcases h.next j x h1 h2 with a | a
    · exact .inl a
    · rcases List.mem_append.1 a with a | a
      · exact .inr a
      · have : x = k := by simpa using a
        subst this
        exact .inl (hk (hLP _ _ h2))
theorem RI.more (h : RI L P l S rl (ol ++ [k])) (hP : P k = true) (hk : S k = false) {tl : List ByteArray} (hl : ∀ t, t ∈ tl ↔ L k t = true) : RI L P l (fun x => S x || decide (x = k)) (rl ++ [k]) (ol ++ tl) := by
  have hDk := h.opens k (by simp) hP
  refine ⟨fun x hx hx2 => ?_, ?_, fun x => ?_, fun x hx => ?_, fun x hx hx2 => ?_, fun j x h1 h2 => ?_⟩
  · rcases List.mem_append.1 hx with a | a
    · exact h.opens x (by simp [a]) hx2
    · exact .step hDk ((hl x).1 a)
  · refine List.nodup_append.2 ⟨h.nodup, by simp, fun a ha b hb e => ?_⟩
    have : b = k := by simpa using hb
    subst this
    subst e
    have := (h.mem a).1 ha
    rw [hk] at this
    cases this
  · rw [List.mem_append, h.mem x]
    simp
  · rcases Bool.or_eq_true _ _ ▸ hx with a | a
    · exact h.seen x a
    · have : x = k := by simpa using a
      subst this
      exact hDk
  · rcases h.first x hx hx2 with a | a
    · exact .inl (by simp [a])
    · rcases List.mem_append.1 a with a | a
      · exact .inr (by simp [a])
      · exact .inl (by simp at a; simp [a])
  · by_cases e : j = k
    · subst e
      exact .inr (by simp [(hl x).2 h2])
    · have hj : S j = true := by
        rcases Bool.or_eq_true _ _ ▸ h1 with a | a
        · exact a
        · exact absurd (by simpa using a) e
      rcases h.next j x hj h2 with a | a
      · exact .inl (by simp [a])
      · rcases List.mem_append.1 a with a | a
        · exact .inr (by simp [a])
        · exact .inl (by simp at a; simp [a])
theorem RI.done (h : RI L P l S rl []) : ∀ k, k ∈ rl ↔ Rc L P l k := by
  have hD : ∀ k, Rc L P l k → S k = true := fun k hk => by
    induction hk with
    | base h1 h2 => exact (h.first _ h1 h2).resolve_right (by simp)
    | step _ h2 ih => exact (h.next _ _ ih h2).resolve_right (by simp)
  intro k
  rw [h.mem k]
  exact ⟨h.seen k, hD k⟩
end
end Go.Proofs.Ytngnegnofmpgkaa.Gr
/- A row of one's own, sorted; append to a queue: as the walks ask for it. -/
namespace Go.Proofs.Ytngnegnofmpgkaa.Gr
open Go.RowKit Go.Maps Go.Sort
open Go.Proofs.Ytngnegnofmpgkaa.Nm (StrRow)
def SortP (l : List ByteArray) (base : Nat) (v : Value) (w : World) (e : Ending) (w' : World) : Prop := e = .returned (.tuple #[]) ∧ ∃ r, SetL (fun s => inB s l) r ∧ r.length = l.length ∧ w'.ownsRow base 9 1 v r.length (r.map Value.string) ∧ w.grownBy w' v.ownBlock
theorem sort_own {w : World} {base : Nat} {v : Value} {l : List ByteArray} (hr : w.ownsRow base 9 1 v l.length (l.map Value.string)) (hnd : l.Nodup) (hok : ∀ s ∈ l, okS s) (hl : l.length ≤ 1000000) : Calls Try.prog 35 #[v] w (SortP l base v w) := by
  have hss := set_sorted rfl hnd hok
  rw [row_enc] at hr
  obtain ⟨ss, e⟩ : ∃ ss, (l.map fun s => s.data.toList) = ss := ⟨_, rfl⟩
  have hls : ss.length = l.length := by rw [← e, List.length_map]
  rw [e] at hss hr
  rw [← hls] at hr hl
  have hl2 : (ss.mergeSort leB).length = ss.length := by simp
  rcases hr.2 with ⟨rfl, h0⟩ | ⟨g, cp, cur, rfl, hbase, hb, h1, h2, h3, h4⟩
  · obtain rfl : ss = [] := List.eq_nil_of_length_eq_zero h0
    refine (Try.slices_Sort_string_none _ _ _).mono ?_
    rintro e w2 ⟨rfl, rfl⟩
    exact ⟨rfl, [], by simpa using hss, by simpa using hls, World.ownsRow_nil _ _ _ _, ⟨rfl, rfl, rfl, Nat.le_refl _, fun _ _ _ => rfl⟩⟩
  · refine (Try.slices_Sort_string g 0 cp ss w (holds_of_block hb (by simpa using h4)) (Array.getElem?_eq_some_iff.1 hb).1 (by omega)).mono ?_
    rintro e w2 ⟨rfl, n, os, rfl⟩
    have hrow := ownsRow_sorted (ts := ss.mergeSort leB) (n := n) (os := os) hl2 hbase hb h1 h2 h3
    refine ⟨rfl, (ss.mergeSort leB).map mk, hss, by rw [List.length_map, hl2]; exact hls, ?_, grownBy_sorted _⟩
    rw [← row_map, List.length_map, hl2]
    exact hrow
set_option maxRecDepth 100000 in
/-- Texts appended to a queue. -/
theorem run_q {w : World} {base : Nat} {v : Value} {xs news : List ByteArray} (hq : Qrow w base 9 v (xs.map Value.string)) {a : Option Addr} {c : Nat} (hn : StrRow w a news.length news) (hl : xs.length + news.length ≤ 1000000) (hb : base ≤ w.heap.size) (ty : TypeId) :
    ∃ v' w', (Builtin.append_ #[26, 26] ty #[v, .slice a news.length c]).run Try.prog w = .ok v' w' ∧ Qrow w' base 9 v' ((xs ++ news).map Value.string) ∧ w.grownBy w' v.ownBlock ∧ (v'.ownBlock = v.ownBlock ∨ v'.ownBlock = some w.heap.size) := by
  obtain ⟨i0, hi, hz0, hz1, hz2⟩ := info_parts info9
  rw [List.map_append]
  by_cases h0 : 0 < news.length
  · obtain ⟨b, off, rfl, hlt, hc⟩ := hn.at_ h0
    refine run_append_q w base 26 ty 9 i0 _ Try.underlying26 hi hz0 hz1 16 hz2 rfl v _ hq ⟨b, off, none⟩ news.length c (news.map Value.string) (by simp) (fun j u hj => ?_) (fun u hu => ?_) (by unfold maxLen; simp; omega) (by simp; omega) hb
    · rw [List.getElem?_map] at hj
      cases hx : news[j]? with
      | none => rw [hx] at hj; cases hj
      | some x =>
        rw [hx] at hj
        injection hj with hj
        subst hj
        have hadd : (⟨b, off, none⟩ : Addr).add j = ⟨b, off + j, none⟩ := by unfold Addr.add; split <;> simp_all
        rw [hadd]
        exact hc j x hx
    · obtain ⟨x, -, rfl⟩ := List.mem_map.1 hu
      rfl
  · obtain rfl : news = [] := List.eq_nil_of_length_eq_zero (by omega)
    refine ⟨v, w, ?_, by simpa using hq, ⟨rfl, rfl, rfl, Nat.le_refl _, fun _ _ _ => rfl⟩, .inl rfl⟩
    rcases hq with ⟨rfl, -⟩ | ⟨g, off, cap, cur, rfl, -, -, hcap, -⟩
    · cases a <;> simp [Builtin.append_, run_underlying Try.underlying26, sizeOf, typeInfo, hi, Builtin.lenOf, Builtin.firstCells, loadCells, loadCellsFrom]
    · simp only [List.length_map] at hcap
      cases a <;> simp [Builtin.append_, run_underlying Try.underlying26, sizeOf, typeInfo, hi, hcap, Builtin.lenOf, Builtin.firstCells, loadCells, loadCellsFrom, storeCells]
end Go.Proofs.Ytngnegnofmpgkaa.Gr
/- WALK of refs' Deps. -/
namespace Go.Proofs.Ytngnegnofmpgkaa.Gr
open Go.RowKit Go.Maps Go.Sort
open Go.Proofs.Ytngnegnofmpgkaa.Nm (StrRow)
/-- What Deps tells. -/
def DepsP (L : ByteArray → ByteArray → Bool) (T : ByteArray → Bool) (s : ByteArray) (w : World) (e : Ending) (w' : World) : Prop := ∃ r, TxtsP r w e w' ∧ Rise r ∧ ∀ k, k ∈ r ↔ (Dp L T s k ∧ k ≠ s ∧ T k = true)
/-- What lies between two rounds of Deps. -/
structure DW (w3 : World) (B4 : Nat) (ls : List Ln2) (T : ByteArray → Bool) (s : ByteArray) (wr : World) (v7 v9 : Value) (S : ByteArray → Bool) (dl ol : List ByteArray) (c : Nat) : Prop where
  below : Below w3.heap.size w3 wr
  low : w3.heap.size < B4
  size : B4 ≤ wr.heap.size
  map : SM wr w3.heap.size c S
  deps : wr.ownsRow B4 9 1 v7 dl.length (dl.map Value.string)
  queue : Qrow wr B4 9 v9 (ol.map Value.string)
  apart : ∀ g, v7.ownBlock = some g → v9.ownBlock ≠ some g
  inv : DI (inL ls) T s S dl ol
  okd : ∀ k ∈ dl, okS k
  oko : ∀ k ∈ ol, okS k
  few : ol.length + freshL ls S + c ≤ 300001
  less : dl.length ≤ c
section
variable {w3 wr : World} {B4 c : Nat} {ls : List Ln2} {T S : ByteArray → Bool} {s k : ByteArray} {v7 v9 : Value} {dl ol : List ByteArray}
theorem DW.skip {v9' : Value} (h : DW w3 B4 ls T s wr v7 v9 S dl (k :: ol) c) (hk : S k = true) (hq : Qrow wr B4 9 v9' (ol.map Value.string)) (hv : v9'.ownBlock = v9.ownBlock) : DW w3 B4 ls T s wr v7 v9' S dl ol c :=
  ⟨h.below, h.low, h.size, h.map, h.deps, hq, fun g hg => by rw [hv]; exact h.apart g hg, h.inv.skip hk, h.okd, fun x hx => h.oko x (by simp [hx]), by have := h.few; rw [List.length_cons] at this; omega, h.less⟩
theorem DW.thing {v9' v' : Value} {w6 w7 : World} {o : Obj} (h : DW w3 B4 ls T s wr v7 v9 S dl (k :: ol) c) (hk : S k = false) (hT : T k = true) (hq : Qrow wr B4 9 v9' (ol.map Value.string)) (hv : v9'.ownBlock = v9.ownBlock)
    (hown : w6.ownsRow B4 9 1 v' (dl.length + 1) (dl.map Value.string ++ [.string k])) (hg : (wr.alloc o).grownBy w6 v7.ownBlock) (hat : v'.ownBlock = v7.ownBlock ∨ v'.ownBlock = some (wr.alloc o).heap.size)
    (hS : SM w7 w3.heap.size (c + 1) (fun x => S x || decide (x = k))) (hg7 : w6.grownBy w7 (some w3.heap.size)) : DW w3 B4 ls T s w7 v' v9' (fun x => S x || decide (x = k)) (dl ++ [k]) ol (c + 1) := by
  have hlow := h.low
  have hsz := h.size
  have hbase := own_base h.deps
  have hsa : (wr.alloc o).heap.size = wr.heap.size + 1 := by simp
  have hs6 := hg.size
  have hs7 := hg7.size
  have hB6 := (h.below.alloc (by omega) o).grown hg (by omega) (fun r e => by have := hbase r e; omega)
  have hB7 := hB6.grown hg7 (by omega) (fun r e => by injection e with e; omega)
  have hq7 : Qrow w7 B4 9 v9' (ol.map Value.string) := ((hq.kept (r := none) (grow_of ((Below.refl wr.heap.size wr).alloc (Nat.le_refl _) o)) (by simp)).kept hg (fun g hg' e => by rw [hv] at hg'; exact h.apart g e hg')).kept hg7 (fun g hg' e => by have := (hq.lt hg').1; injection e with e; omega)
  refine ⟨hB7, hlow, by omega, hS, ?_, hq7, fun g hg' => ?_, h.inv.thing hk hT, fun x hx => ?_, fun x hx => h.oko x (by simp [hx]), ?_, by have := h.less; simp; omega⟩
  · rw [List.length_append, List.map_append]
    refine hown.kept hg7 ?_
    cases hb : v'.ownBlock with
    | none => exact .inl rfl
    | some g => exact .inr (by have := own_base hown g hb; intro e; injection e with e; omega)
  · rw [hv]
    rcases hat with e | e
    · rw [e] at hg'; exact h.apart g hg'
    · rw [e] at hg'
      injection hg' with hg'
      intro e2
      rw [← hv] at e2
      have := (hq.lt e2).2
      omega
  · rcases List.mem_append.1 hx with a | a
    · exact h.okd x a
    · exact h.oko x (by simp at a; simp [a])
  · have h1 := h.few
    have h2 := fresh_skip ls S k
    rw [List.length_cons] at h1
    omega
theorem DW.more {v9' v' : Value} {w5 w6 w7 : World} {tl : List ByteArray} (h : DW w3 B4 ls T s wr v7 v9 S dl (k :: ol) c) (hk : S k = false) (hT : T k = false) (hq : Qrow wr B4 9 v9' (ol.map Value.string)) (hv : v9'.ownBlock = v9.ownBlock)
    (hl : SetL (fun t => inL ls k t) tl) (hLn : ∀ y ∈ ls, okS y.1 ∧ okS y.2) (h5 : Below wr.heap.size wr w5) (hq6 : Qrow w6 B4 9 v' ((ol ++ tl).map Value.string)) (hg : w5.grownBy w6 v9'.ownBlock) (hat : v'.ownBlock = v9'.ownBlock ∨ v'.ownBlock = some w5.heap.size)
    (hS : SM w7 w3.heap.size (c + 1) (fun x => S x || decide (x = k))) (hg7 : w6.grownBy w7 (some w3.heap.size)) : DW w3 B4 ls T s w7 v7 v' (fun x => S x || decide (x = k)) dl (ol ++ tl) (c + 1) := by
  have hlow := h.low
  have hsz := h.size
  have hbase := own_base h.deps
  have hs5 := h5.size
  have hs6 := hg.size
  have hs7 := hg7.size
  have hB6 := (below_step h.below h5).grown hg (by have := h.below.size; omega) (fun r e => by have := (hq.lt e).1; omega)
  have hB7 := hB6.grown hg7 (by have := h.below.size; omega) (fun r e => by injection e with e; omega)
  have hmem : ∀ t, t ∈ tl ↔ inL ls k t = true := fun t => (hl.2 t).trans ⟨fun a => a.2, fun a => ⟨(hLn _ (inL_iff.1 a)).2, a⟩⟩
  refine ⟨hB7, hlow, by omega, hS, ?_, hq6.kept hg7 (fun g hg' e => by have := (hq6.lt hg').1; injection e with e; omega), fun g hg' => ?_, h.inv.more hk hT hmem, h.okd, fun x hx => ?_, ?_, by have := h.less; omega⟩
  · have h6 := (h.deps.kept (grow_of h5) (by cases v7.ownBlock <;> simp)).kept hg (by
      cases hb : v7.ownBlock with
      | none => exact .inl rfl
      | some g => exact .inr (by rw [hv]; intro e; exact h.apart g hb e.symm))
    refine h6.kept hg7 ?_
    cases hb : v7.ownBlock with
    | none => exact .inl rfl
    | some g => exact .inr (by have := hbase g hb; intro e; injection e with e; omega)
  · rcases hat with e | e
    · rw [e, hv]; exact h.apart g hg'
    · rw [e]
      intro e2
      injection e2 with e2
      have := (h.deps.lt g hg').2
      omega
  · rcases List.mem_append.1 hx with a | a
    · exact h.oko x (by simp [a])
    · exact (hLn _ (inL_iff.1 ((hmem x).1 a))).2
  · have h1 := h.few
    have h2 := fresh_more ls S k hk tl hl.1.nodup (fun t ht => inL_iff.1 ((hmem t).1 ht))
    rw [List.length_cons] at h1
    rw [List.length_append]
    omega
end
end Go.Proofs.Ytngnegnofmpgkaa.Gr
/- WALK of refs' Deps. -/
namespace Go.Proofs.Ytngnegnofmpgkaa.Gr
open Go.RowKit Go.Maps Go.Sort
open Go.Proofs.Ytngnegnofmpgkaa.Nm (StrRow)
set_option maxRecDepth 100000 in
/-- A queue is cut from its front. -/
theorem run_tail {w : World} {base g off cap n : Nat} {k : ByteArray} {ol : List ByteArray} (hn : n = ol.length + 1) (h : Qrow w base 9 (.slice (some ⟨g, off, none⟩) n cap) ((k :: ol).map Value.string)) :
    ∃ v', (Instr.slice 26 (.slice (some ⟨g, off, none⟩) n cap) (some (.int .i64 1)) none none).run Try.prog w = .ok v' w ∧ Qrow w base 9 v' (ol.map Value.string) ∧ v'.ownBlock = some g := by
  subst hn
  have ht := h.tail (x := .string k) (xs := ol.map Value.string)
  have hs := run_slice_l (P := Try.prog) w 26 (some ⟨g, off, none⟩) (ol.length + 1) cap Try.underlying26 .i64 1 (by omega) (by omega)
  rw [hs, show Try.prog.elem 26 = 9 by kernel_rfl, Try.sizeOf9]
  simp only [Result.andThen, sliced]
  by_cases hc : cap = 1
  · subst hc
    refine ⟨_, rfl, ?_, by simp [Value.ownBlock]⟩
    have hl : ol = [] := by
      obtain ⟨g', off', cap', hv, hle, -⟩ := h.shape (by simp)
      injection hv with _ _ e3
      simp at hle
      exact List.eq_nil_of_length_eq_zero (by omega)
    subst hl
    rcases h with ⟨h1, -⟩ | ⟨g', off', cap', cur, hv, hb, hg, hn, hm, hfit, hx⟩
    · cases h1
    · injection hv with e1 e2 e3
      injection e1 with e1
      injection e1 with e1 e4
      subst e1 e4
      exact .inr ⟨g, off, 0, cur, by simp, hb, hg, by simp, by omega, by omega, by simp⟩
  · have h1 : ¬ cap = Int.toNat 1 := by simpa using hc
    refine ⟨_, rfl, ?_, ?_⟩
    · rw [if_neg h1]
      exact ht
    · rw [if_neg h1]; rfl

end Go.Proofs.Ytngnegnofmpgkaa.Gr
/- WALK of graph's Reach. -/
namespace Go.Proofs.Ytngnegnofmpgkaa.Gr
open Go.RowKit Go.Maps Go.Sort
open Go.Proofs.Ytngnegnofmpgkaa.Nm (StrRow)
theorem clone_any {w : World} {a : Option Addr} {len cap : Nat} {xs : List ByteArray} (h : StrRow w a len xs) (hl : len ≤ 1000000) : Calls Try.prog 74 #[.slice a len cap] w (TxtsP xs w) := by
  have hcx := h.count
  subst hcx
  by_cases h0 : 0 < xs.length
  · obtain ⟨b, off, rfl, hlt, hc⟩ := h.at_ h0
    refine (Try.slices_Clone_string b off xs.length cap xs w (Nat.le_refl _) (by omega) (fun j hj => ?_)).mono ?_
    · rw [hc j (xs.getD j ByteArray.empty) (by simp [List.getD, List.getElem?_eq_getElem hj])]
    · rintro e w' ⟨v', rfl, hown, -, hb⟩
      exact ⟨v', rfl, by rw [List.take_length] at hown; exact hown, hb⟩
  · obtain rfl : xs = [] := List.eq_nil_of_length_eq_zero (by omega)
    cases a with
    | none =>
      refine (Try.slices_Clone_string_nil 0 cap w).mono ?_
      rintro e w' ⟨rfl, rfl⟩
      exact ⟨_, rfl, World.ownsRow_nil _ _ _ _, Below.refl _ _⟩
    | some ad =>
      refine (Try.slices_Clone_string_zero ad cap w).mono ?_
      rintro e w' ⟨v', rfl, hown, -, hb⟩
      exact ⟨v', rfl, hown, hb⟩
/-- A row of one's own without its last. -/
theorem own_cut {w : World} {base g n cap : Nat} {k : ByteArray} {ol : List ByteArray} (hn : n = ol.length + 1) (h : w.ownsRow base 9 1 (.slice (some ⟨g, 0, none⟩) n cap) n ((ol ++ [k]).map Value.string)) :
    w.ownsRow base 9 1 (.slice (some ⟨g, 0, none⟩) ol.length cap) ol.length (ol.map Value.string) := by
  subst hn
  rcases h.2 with ⟨h1, -⟩ | ⟨g', cap', cur, hv, hb, hg, hle, hm, hs, ht⟩
  · cases h1
  · injection hv with e1 e2 e3
    injection e1 with e1
    injection e1 with e1 e4
    subst e1 e3
    refine ⟨by simp, .inr ⟨g, cap, cur, rfl, hb, hg, by omega, hm, hs, ?_⟩⟩
    rw [Nat.mul_one] at ht ⊢
    have h2 : (cur.toList.take (ol.length + 1)).take ol.length = cur.toList.take ol.length := by rw [List.take_take, Nat.min_eq_left (by omega)]
    rw [← h2, ht, List.map_append, List.take_left' (by simp)]
/-- What Reach tells. -/
def ReachP (L : ByteArray → ByteArray → Bool) (P : ByteArray → Bool) (l : List ByteArray) (w : World) (e : Ending) (w' : World) : Prop := ∃ r, TxtsP r w e w' ∧ Rise r ∧ (∀ k, k ∈ r ↔ Rc L P l k) ∧ (∀ k ∈ r, okS k) ∧ r.length ≤ 1000000
/-- What lies between two rounds of Reach. -/
structure RW (w3 : World) (B4 : Nat) (ls : List Ln2) (P : ByteArray → Bool) (l : List ByteArray) (wr : World) (v5 v7 : Value) (S : ByteArray → Bool) (rl ol : List ByteArray) (c : Nat) : Prop where
  below : Below w3.heap.size w3 wr
  low : w3.heap.size < B4
  size : B4 ≤ wr.heap.size
  map : SM wr w3.heap.size c S
  reached : wr.ownsRow B4 9 1 v5 rl.length (rl.map Value.string)
  opened : wr.ownsRow B4 9 1 v7 ol.length (ol.map Value.string)
  apart : ∀ g, v5.ownBlock = some g → v7.ownBlock ≠ some g
  inv : RI (inL ls) P l S rl ol
  okr : ∀ k ∈ rl, okS k
  oko : ∀ k ∈ ol, okS k
  few : ol.length + freshL ls S + c ≤ 500000
  less : rl.length ≤ c
section
variable {w3 wr : World} {B4 c : Nat} {ls : List Ln2} {P S : ByteArray → Bool} {l : List ByteArray} {k : ByteArray} {v5 v7 : Value} {rl ol : List ByteArray}
theorem RW.skip {v7' : Value} (h : RW w3 B4 ls P l wr v5 v7 S rl (ol ++ [k]) c) (hk : P k = true → S k = true) (hLP : ∀ j t, inL ls j t = true → P t = true) (hq : wr.ownsRow B4 9 1 v7' ol.length (ol.map Value.string)) (hv : v7'.ownBlock = v7.ownBlock) : RW w3 B4 ls P l wr v5 v7' S rl ol c :=
  ⟨h.below, h.low, h.size, h.map, h.reached, hq, fun g hg => by rw [hv]; exact h.apart g hg, h.inv.skip hk hLP, h.okr, fun x hx => h.oko x (by simp [hx]), by have := h.few; rw [List.length_append] at this; simp at this; omega, h.less⟩
/-- A point is reached: seen is written (w4), the point laid behind those that are reached (w6), its lines' ends behind those that are open (w8). -/
theorem RW.more {v7' v5' v8 : Value} {w4 w6 w7 w8 : World} {o : Obj} {tl : List ByteArray} (h : RW w3 B4 ls P l wr v5 v7 S rl (ol ++ [k]) c) (hP : P k = true) (hk : S k = false) (hq : wr.ownsRow B4 9 1 v7' ol.length (ol.map Value.string)) (hv : v7'.ownBlock = v7.ownBlock)
    (hS : SM w4 w3.heap.size (c + 1) (fun x => S x || decide (x = k))) (hg4 : wr.grownBy w4 (some w3.heap.size))
    (hown : w6.ownsRow B4 9 1 v5' (rl.length + 1) (rl.map Value.string ++ [.string k])) (hg6 : (w4.alloc o).grownBy w6 v5.ownBlock) (hat : v5'.ownBlock = v5.ownBlock ∨ v5'.ownBlock = some (w4.alloc o).heap.size)
    (hl : SetL (fun t => inL ls k t) tl) (hLn : ∀ y ∈ ls, okS y.1 ∧ okS y.2) (h7 : Below w6.heap.size w6 w7)
    (h8 : w8.ownsRow B4 9 1 v8 (ol ++ tl).length ((ol ++ tl).map Value.string)) (hg8 : w7.grownBy w8 v7'.ownBlock) (hat8 : v8.ownBlock = v7'.ownBlock ∨ v8.ownBlock = some w7.heap.size) :
    RW w3 B4 ls P l w8 v5' v8 (fun x => S x || decide (x = k)) (rl ++ [k]) (ol ++ tl) (c + 1) := by
  have hlow := h.low
  have hsz := h.size
  have hb3 := h.below.size
  have hbase := own_base h.reached
  have hbq := own_base hq
  have hsa : (w4.alloc o).heap.size = w4.heap.size + 1 := by simp
  have hs4 := hg4.size
  have hs6 := hg6.size
  have hs7 := h7.size
  have hs8 := hg8.size
  have hB4 := h.below.grown hg4 (by omega) (fun r e => by injection e with e; omega)
  have hB6 := (hB4.alloc (by omega) o).grown hg6 (by omega) (fun r e => by have := hbase r e; omega)
  have hB7 := hB6.trans (h7.mono (by omega))
  have hB8 := hB7.grown hg8 (by omega) (fun r e => by have := hbq r e; omega)
  have hmem : ∀ t, t ∈ tl ↔ inL ls k t = true := fun t => (hl.2 t).trans ⟨fun a => a.2, fun a => ⟨(hLn _ (inL_iff.1 a)).2, a⟩⟩
  have hS6 : SM w6 w3.heap.size (c + 1) (fun x => S x || decide (x = k)) := (hS.kept (r := none) (grow_of ((Below.refl w4.heap.size w4).alloc (Nat.le_refl _) o)) (by simp)).kept hg6 (fun e => by have := hbase _ e; omega)
  have hS8 : SM w8 w3.heap.size (c + 1) (fun x => S x || decide (x = k)) := (hS6.below h7).kept hg8 (fun e => by have := hbq _ e; omega)
  have hap : ∀ g, v5'.ownBlock = some g → v7'.ownBlock ≠ some g := fun g hg e => by
    rcases hat with e1 | e1
    · rw [e1] at hg; rw [hv] at e; exact h.apart g hg e
    · rw [e1] at hg
      injection hg with hg
      have := (hq.lt g e).2
      omega
  refine ⟨hB8, hlow, by omega, hS8, ?_, h8, fun g hg => ?_, h.inv.more hP hk hmem, fun x hx => ?_, fun x hx => ?_, ?_, by have := h.less; simp; omega⟩
  · rw [List.length_append, List.map_append]
    refine (hown.kept (grow_of h7) (by cases v5'.ownBlock <;> simp)).kept hg8 ?_
    cases hb : v5'.ownBlock with
    | none => exact .inl rfl
    | some g => exact .inr (fun e => hap g hb e.symm)
  · rcases hat8 with e | e
    · rw [e]; exact hap g hg
    · rw [e]
      intro e2
      injection e2 with e2
      have := (hown.lt g hg).2
      omega
  · rcases List.mem_append.1 hx with a | a
    · exact h.okr x a
    · exact h.oko x (by simp at a; simp [a])
  · rcases List.mem_append.1 hx with a | a
    · exact h.oko x (by simp [a])
    · exact (hLn _ (inL_iff.1 ((hmem x).1 a))).2
  · have h1 := h.few
    have h2 := fresh_more ls S k hk tl hl.1.nodup (fun t ht => inL_iff.1 ((hmem t).1 ht))
    rw [List.length_append] at h1
    simp at h1
    rw [List.length_append]
    omega
end
end Go.Proofs.Ytngnegnofmpgkaa.Gr
