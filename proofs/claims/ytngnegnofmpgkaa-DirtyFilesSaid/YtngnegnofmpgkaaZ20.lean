/- In, Io, Ip -/
import Derived.Test.YtngnegnofmpgkaaZ18
/- WHAT THE REFERENCE's Reach AND Deps COME TO: plain mathematics. -/
namespace Go.Proofs.Ytngnegnofmpgkaa.Gr
open Go
/-- So many rounds. -/
def it {α : Type} (f : α → α) : Nat → α → α
  | 0, a => a
  | n + 1, a => f (it f n a)
/-- One round of the reference's Reach. -/
def rr1 (acc : List ByteArray) (l : Ln2) : List ByteArray := if inB l.1 acc = true then putL l.2 acc else acc
def rrL (ls : List Ln2) (acc : List ByteArray) : List ByteArray := ls.foldl rr1 acc
/-- Where the reference's Reach begins. -/
def r01 (pts : List ByteArray) (acc : List ByteArray) (s : ByteArray) : List ByteArray := if inB s pts = true then putL s acc else acc
def r0L (pts l : List ByteArray) : List ByteArray := l.foldl (r01 pts) []
def reachL (pts : List ByteArray) (ls : List Ln2) (l : List ByteArray) : List ByteArray := it (rrL ls) pts.length (r0L pts l)
theorem rr1_sub {acc : List ByteArray} {l : Ln2} {s : ByteArray} (h : s ∈ acc) : s ∈ rr1 acc l := by
  unfold rr1
  split
  · exact (putL_mem _ _ _).2 (.inr h)
  · exact h
theorem rrL_sub : ∀ {ls : List Ln2} {acc : List ByteArray} {s : ByteArray}, s ∈ acc → s ∈ rrL ls acc
  | [], _, _, h => h
  | _ :: ls, _, _, h => rrL_sub (ls := ls) (rr1_sub h)
theorem rr1_rise {acc : List ByteArray} {l : Ln2} (h : Rise acc) : Rise (rr1 acc l) := by
  unfold rr1
  split
  · exact putL_rise _ _ h
  · exact h
theorem rrL_rise : ∀ {ls : List Ln2} {acc : List ByteArray}, Rise acc → Rise (rrL ls acc)
  | [], _, h => h
  | _ :: ls, _, h => rrL_rise (ls := ls) (rr1_rise h)
theorem rr1_of {acc : List ByteArray} {l : Ln2} {s : ByteArray} (h : s ∈ rr1 acc l) : s ∈ acc ∨ (l.1 ∈ acc ∧ s = l.2) := by
  unfold rr1 at h
  split at h
  · rename_i e
    rcases (putL_mem _ _ _).1 h with h | h
    · exact .inr ⟨inB_iff.1 e, h⟩
    · exact .inl h
  · exact .inl h
/-- Closed: over each line that goes from it. -/
def Clo (ls : List Ln2) (acc : List ByteArray) : Prop := ∀ l ∈ ls, l.1 ∈ acc → l.2 ∈ acc
theorem rrL_clo {ls0 : List Ln2} {acc0 : List ByteArray} (hc : Clo ls0 acc0) : ∀ {ls : List Ln2} {acc : List ByteArray}, (∀ l ∈ ls, l ∈ ls0) → (∀ s, s ∈ acc ↔ s ∈ acc0) → ∀ s, s ∈ rrL ls acc ↔ s ∈ acc0
  | [], _, _, h => h
  | l :: ls, acc, hl, h => by
    refine rrL_clo hc (ls := ls) (fun x hx => hl x (by simp [hx])) fun s => ⟨fun hs => ?_, fun hs => rr1_sub ((h s).2 hs)⟩
    rcases rr1_of hs with h1 | ⟨h1, rfl⟩
    · exact (h s).1 h1
    · exact hc l (hl l (by simp)) ((h _).1 h1)
/-- A round that adds nothing: closed. -/
theorem rrL_same {acc0 : List ByteArray} : ∀ {ls : List Ln2} {acc : List ByteArray}, (∀ s, s ∈ acc ↔ s ∈ acc0) → (∀ s, s ∈ rrL ls acc ↔ s ∈ acc0) → Clo ls acc0
  | [], _, _, _ => fun l hl => by simp at hl
  | l :: ls, acc, h, h2 => by
    have h3 : ∀ s, s ∈ rr1 acc l ↔ s ∈ acc0 := fun s => ⟨fun hs => (h2 s).1 (rrL_sub (ls := ls) hs), fun hs => rr1_sub ((h s).2 hs)⟩
    intro x hx hx1
    rcases List.mem_cons.1 hx with rfl | hx
    · refine (h3 _).1 ?_
      unfold rr1
      rw [if_pos (inB_iff.2 ((h _).2 hx1))]
      exact (putL_mem _ _ _).2 (.inl rfl)
    · exact rrL_same h3 h2 x hx hx1
/-- Rising lists, one in the other, of one length: the same. -/
theorem same_mem {l m : List ByteArray} (hl : l.Nodup) (hs : ∀ s ∈ l, s ∈ m) (he : m.length ≤ l.length) : ∀ s, s ∈ m → s ∈ l := by
  intro s hs2
  refine Classical.byContradiction fun hn => ?_
  have := nodup_le (s :: l) m (List.nodup_cons.2 ⟨hn, hl⟩) (fun x hx => by
    rcases List.mem_cons.1 hx with rfl | hx
    · exact hs2
    · exact hs x hx)
  rw [List.length_cons] at this
  omega
theorem reach_set {pts l : List ByteArray} {ls : List Ln2} (hls : ∀ y ∈ ls, inB y.2 pts = true) : Rise (reachL pts ls l) ∧ ∀ k, k ∈ reachL pts ls l ↔ Rc (inL ls) (fun s => inB s pts) l k := by
  -- the begin
  have h0 : ∀ (l : List ByteArray) (acc : List ByteArray), Rise acc → Rise (l.foldl (r01 pts) acc) ∧ ∀ k, k ∈ l.foldl (r01 pts) acc ↔ k ∈ acc ∨ (k ∈ l ∧ inB k pts = true) := by
    intro l
    induction l with
    | nil => intro acc h; exact ⟨h, fun k => by simp⟩
    | cons x l ih =>
      intro acc h
      have hr : Rise (r01 pts acc x) := by
        unfold r01
        split
        · exact putL_rise _ _ h
        · exact h
      obtain ⟨h1, h2⟩ := ih _ hr
      refine ⟨h1, fun k => ?_⟩
      rw [List.foldl_cons, h2 k]
      unfold r01
      by_cases e : inB x pts = true
      · rw [if_pos e, putL_mem, List.mem_cons]
        constructor
        · rintro ((rfl | h) | h)
          · exact .inr ⟨.inl rfl, e⟩
          · exact .inl h
          · exact .inr ⟨.inr h.1, h.2⟩
        · rintro (h | ⟨rfl | h, h3⟩)
          · exact .inl (.inr h)
          · exact .inl (.inl rfl)
          · exact .inr ⟨h, h3⟩
      · rw [if_neg e, List.mem_cons]
        constructor
        · rintro (h | h)
          · exact .inl h
          · exact .inr ⟨.inr h.1, h.2⟩
        · rintro (h | ⟨rfl | h, h3⟩)
          · exact .inl h
          · exact absurd h3 e
          · exact .inr ⟨h, h3⟩
  obtain ⟨hr0, hm0⟩ := h0 l [] List.Pairwise.nil
  have hm0' : ∀ k, k ∈ r0L pts l ↔ (k ∈ l ∧ inB k pts = true) := fun k => by rw [show r0L pts l = l.foldl (r01 pts) [] from rfl, hm0]; simp
  -- each round: rising, of what is reached
  have hround : ∀ (n : Nat), Rise (it (rrL ls) n (r0L pts l)) ∧ ∀ k ∈ it (rrL ls) n (r0L pts l), Rc (inL ls) (fun s => inB s pts) l k := by
    intro n
    induction n with
    | zero => exact ⟨hr0, fun k hk => .base ((hm0' k).1 hk).1 ((hm0' k).1 hk).2⟩
    | succ n ih =>
      refine ⟨rrL_rise ih.1, ?_⟩
      have h2 : ∀ (ms : List Ln2) (acc : List ByteArray), (∀ y ∈ ms, y ∈ ls) → (∀ k ∈ acc, Rc (inL ls) (fun s => inB s pts) l k) → ∀ k ∈ rrL ms acc, Rc (inL ls) (fun s => inB s pts) l k := by
        intro ms
        induction ms with
        | nil => exact fun acc _ h => h
        | cons y ms ihm =>
          intro acc hy h
          refine ihm _ (fun z hz => hy z (by simp [hz])) fun k hk => ?_
          rcases rr1_of hk with h1 | ⟨h1, rfl⟩
          · exact h k h1
          · exact .step (h _ h1) (inL_iff.2 (hy y (by simp)))
      exact h2 ls _ (fun _ h => h) ih.2
  have hpt : ∀ n, ∀ k ∈ it (rrL ls) n (r0L pts l), k ∈ pts := fun n k hk => by
    have := (hround n).2 k hk
    cases this with
    | base _ h => exact inB_iff.1 h
    | step _ h => exact inB_iff.1 (hls _ (inL_iff.1 h))
  have hsub : ∀ n, ∀ k ∈ r0L pts l, k ∈ it (rrL ls) n (r0L pts l) := by
    intro n
    induction n with
    | zero => exact fun k h => h
    | succ n ih => exact fun k h => rrL_sub (ih k h)
  refine ⟨(hround _).1, fun k => ⟨(hround _).2 k, fun hk => ?_⟩⟩
  -- closed at the end
  have hclo : Clo ls (reachL pts ls l) := by
    unfold reachL
    by_cases he : r0L pts l = []
    · have hn : ∀ n, it (rrL ls) n (r0L pts l) = [] := by
        intro n
        induction n with
        | zero => exact he
        | succ n ih =>
          show rrL ls (it (rrL ls) n (r0L pts l)) = []
          rw [ih]
          have : ∀ ms : List Ln2, rrL ms [] = [] := by
            intro ms
            induction ms with
            | nil => rfl
            | cons y ms ih => show rrL ms (rr1 [] y) = []; rw [show rr1 [] y = [] from rfl]; exact ih
          exact this ls
      intro y _ h
      rw [hn] at h
      simp at h
    · have hlen : 0 < (r0L pts l).length := List.length_pos_iff.2 he
      have hpos : 0 < pts.length := by
        cases hx : r0L pts l with
        | nil => exact absurd hx he
        | cons x xs => exact List.length_pos_of_mem (hpt 0 x (by show x ∈ r0L pts l; rw [hx]; simp))
      obtain ⟨m, hm⟩ : ∃ m, pts.length = m + 1 := ⟨pts.length - 1, by omega⟩
      -- over those that rise
      have key : ∀ n, Clo ls (it (rrL ls) (n + 1) (r0L pts l)) ∨ (r0L pts l).length + (n + 1) ≤ (it (rrL ls) (n + 1) (r0L pts l)).length := by
        have step : ∀ a, Rise a → Clo ls (rrL ls a) ∨ a.length + 1 ≤ (rrL ls a).length := fun a ha => by
          by_cases e : a.length + 1 ≤ (rrL ls a).length
          · exact .inr e
          · have h1 := same_mem (l := a) (m := rrL ls a) ha.nodup (fun s hs => rrL_sub hs) (by omega)
            have h2 := rrL_same (acc0 := a) (ls := ls) (acc := a) (fun _ => Iff.rfl) (fun s => ⟨h1 s, fun hs => rrL_sub hs⟩)
            exact .inl fun y hy hy1 => rrL_sub (h2 y hy (h1 _ hy1))
        have stay : ∀ a, Clo ls a → Clo ls (rrL ls a) := fun a ha y hy hy1 => by
          have h1 := rrL_clo ha (ls := ls) (acc := a) (fun _ h => h) (fun _ => Iff.rfl)
          exact (h1 _).2 (ha y hy ((h1 _).1 hy1))
        intro n
        induction n with
        | zero => exact step _ hr0
        | succ n ih =>
          rcases ih with h | h
          · exact .inl (stay _ h)
          · rcases step _ (hround (n + 1)).1 with h2 | h2
            · exact .inl h2
            · exact .inr (by show _ ≤ (rrL ls (it (rrL ls) (n + 1) (r0L pts l))).length; omega)
      rw [hm]
      rcases key m with h | h
      · exact h
      · have := nodup_le _ pts (hround (m + 1)).1.nodup (hpt (m + 1))
        omega
  induction hk with
  | base h1 h2 => exact hsub _ _ ((hm0' _).2 ⟨h1, h2⟩)
  | step _ h2 ih => exact hclo _ (inL_iff.1 h2) ih
/-- One node's turn in a round of the reference's Deps. -/
def rd1 (n : Nat) (s : ByteArray) (met : List ByteArray) (x : Nd) : List ByteArray := if inB x.name met = true ∧ (x.res = false ∨ x.name = s) then (ofL n x.defs).foldl (fun m t => putL t m) met else met
def rdL (n : Nat) (s : ByteArray) (xs : List Nd) (met : List ByteArray) : List ByteArray := xs.foldl (rd1 n s) met
def metL (n : Nat) (s : ByteArray) (xs : List Nd) : List ByteArray := it (rdL n s xs) (xs.length + 1) [s]
def depL (n : Nat) (s : ByteArray) (xs : List Nd) : List ByteArray := (metL n s xs).filter fun k => inB k (resL xs) && !decide (k = s)
theorem puts_mem (t : ByteArray) : ∀ (ts acc : List ByteArray), t ∈ ts.foldl (fun m t => putL t m) acc ↔ t ∈ acc ∨ t ∈ ts
  | [], acc => by simp
  | x :: ts, acc => by
    rw [List.foldl_cons, puts_mem t ts, putL_mem, List.mem_cons]
    constructor
    · rintro ((h | h) | h)
      · exact .inr (.inl h)
      · exact .inl h
      · exact .inr (.inr h)
    · rintro (h | h | h)
      · exact .inl (.inr h)
      · exact .inl (.inl h)
      · exact .inr h
theorem puts_rise : ∀ (ts : List ByteArray) {acc : List ByteArray}, Rise acc → Rise (ts.foldl (fun m t => putL t m) acc)
  | [], _, h => h
  | _ :: ts, _, h => puts_rise ts (putL_rise _ _ h)
theorem rd1_sub {n : Nat} {s t : ByteArray} {met : List ByteArray} {x : Nd} (h : t ∈ met) : t ∈ rd1 n s met x := by
  unfold rd1
  split
  · exact (puts_mem _ _ _).2 (.inl h)
  · exact h
theorem rdL_sub {n : Nat} {s t : ByteArray} : ∀ {xs : List Nd} {met : List ByteArray}, t ∈ met → t ∈ rdL n s xs met
  | [], _, h => h
  | _ :: xs, _, h => rdL_sub (xs := xs) (rd1_sub h)
theorem rd1_rise {n : Nat} {s : ByteArray} {met : List ByteArray} {x : Nd} (h : Rise met) : Rise (rd1 n s met x) := by
  unfold rd1
  split
  · exact puts_rise _ h
  · exact h
theorem rdL_rise {n : Nat} {s : ByteArray} : ∀ {xs : List Nd} {met : List ByteArray}, Rise met → Rise (rdL n s xs met)
  | [], _, h => h
  | _ :: xs, _, h => rdL_rise (xs := xs) (rd1_rise h)
theorem rdL_exp {n : Nat} {s : ByteArray} {x : Nd} (he : x.res = false ∨ x.name = s) : ∀ {xs : List Nd} {met : List ByteArray}, x ∈ xs → x.name ∈ met → ∀ t ∈ ofL n x.defs, t ∈ rdL n s xs met
  | y :: xs, met, hx, hm, t, ht => by
    rcases List.mem_cons.1 hx with rfl | hx
    · refine rdL_sub (xs := xs) ?_
      unfold rd1
      rw [if_pos ⟨inB_iff.2 hm, he⟩]
      exact (puts_mem _ _ _).2 (.inr ht)
    · exact rdL_exp he (xs := xs) hx (rd1_sub hm) t ht
/-- Closed for the reference's Deps. -/
def CloD (n : Nat) (s : ByteArray) (xs : List Nd) (met : List ByteArray) : Prop := ∀ x ∈ xs, x.name ∈ met → (x.res = false ∨ x.name = s) → ∀ t ∈ ofL n x.defs, t ∈ met
theorem rdL_stay {n : Nat} {s : ByteArray} {xs0 : List Nd} {met0 : List ByteArray} (hc : CloD n s xs0 met0) : ∀ {xs : List Nd} {met : List ByteArray}, (∀ x ∈ xs, x ∈ xs0) → (∀ t, t ∈ met ↔ t ∈ met0) → ∀ t, t ∈ rdL n s xs met ↔ t ∈ met0
  | [], _, _, h => h
  | x :: xs, met, hx, h => by
    refine rdL_stay hc (xs := xs) (fun y hy => hx y (by simp [hy])) fun t => ⟨fun ht => ?_, fun ht => rd1_sub ((h t).2 ht)⟩
    unfold rd1 at ht
    split at ht
    · rename_i e
      rcases (puts_mem _ _ _).1 ht with ht | ht
      · exact (h t).1 ht
      · exact hc x (hx x (by simp)) ((h _).1 (inB_iff.1 e.1)) e.2 t ht
    · exact (h t).1 ht
theorem line_iff {n : Nat} {xs : List Nd} {j k : ByteArray} : inL (lnL n xs) j k = true ↔ ∃ x ∈ xs, x.name = j ∧ k ∈ ofL n x.defs := by
  rw [inL_iff]
  unfold lnL ln1
  rw [List.mem_flatMap]
  constructor
  · rintro ⟨x, hx, h⟩
    obtain ⟨t, ht, e⟩ := List.mem_map.1 h
    injection e with e1 e2
    subst e1 e2
    exact ⟨x, hx, rfl, ht⟩
  · rintro ⟨x, hx, rfl, h⟩
    exact ⟨x, hx, List.mem_map.2 ⟨k, h, rfl⟩⟩
theorem name_inj {xs : List Nd} (hnd : (xs.map Nd.name).Nodup) {x y : Nd} (hx : x ∈ xs) (hy : y ∈ xs) (h : x.name = y.name) : x = y := by
  induction xs with
  | nil => cases hx
  | cons z zs ih =>
    rw [List.map_cons, List.nodup_cons] at hnd
    rcases List.mem_cons.1 hx with e1 | h1
    · rcases List.mem_cons.1 hy with e2 | h2
      · rw [e1, e2]
      · exact absurd (List.mem_map.2 ⟨y, h2, by rw [← h, e1]⟩) hnd.1
    · rcases List.mem_cons.1 hy with e2 | h2
      · exact absurd (List.mem_map.2 ⟨x, h1, by rw [h, e2]⟩) hnd.1
      · exact ih hnd.2 h1 h2
theorem res_iff {xs : List Nd} (hnd : (xs.map Nd.name).Nodup) {x : Nd} (hx : x ∈ xs) : inB x.name (resL xs) = x.res := by
  rw [Bool.eq_iff_iff, inB_iff]
  unfold resL
  rw [List.mem_map]
  constructor
  · rintro ⟨y, hy, e⟩
    obtain ⟨hy1, hy2⟩ := List.mem_filter.1 hy
    rw [← name_inj hnd hy1 hx e]
    exact hy2
  · exact fun h => ⟨x, List.mem_filter.2 ⟨hx, h⟩, rfl⟩
theorem filter_len {names a b : List ByteArray} (h : ∀ s ∈ a, s ∈ b) : (names.filter fun s => inB s a).length ≤ (names.filter fun s => inB s b).length := by
  induction names with
  | nil => simp
  | cons x l ih =>
    simp only [List.filter_cons]
    cases ha : inB x a with
    | true =>
      rw [inB_iff.2 (h x (inB_iff.1 ha))]
      simpa using ih
    | false =>
      cases inB x b
      · simpa using ih
      · simp; omega
theorem deps_set {n : Nat} {s : ByteArray} {xs : List Nd} (hnd : (xs.map Nd.name).Nodup) (hs : s ∈ xs.map Nd.name) : Rise (depL n s xs) ∧ ∀ k, k ∈ depL n s xs ↔ (Dp (inL (lnL n xs)) (fun t => inB t (resL xs)) s k ∧ k ≠ s ∧ inB k (resL xs) = true) := by
  have hround : ∀ m, Rise (it (rdL n s xs) m [s]) ∧ s ∈ it (rdL n s xs) m [s] ∧ ∀ k ∈ it (rdL n s xs) m [s], k = s ∨ Dp (inL (lnL n xs)) (fun t => inB t (resL xs)) s k := by
    intro m
    induction m with
    | zero => exact ⟨List.pairwise_singleton _ _, by simp [it], fun k hk => .inl (by simpa [it] using hk)⟩
    | succ m ih =>
      refine ⟨rdL_rise ih.1, rdL_sub ih.2.1, ?_⟩
      have h2 : ∀ (ms : List Nd) (acc : List ByteArray), (∀ y ∈ ms, y ∈ xs) → (∀ k ∈ acc, k = s ∨ Dp (inL (lnL n xs)) (fun t => inB t (resL xs)) s k) → ∀ k ∈ rdL n s ms acc, k = s ∨ Dp (inL (lnL n xs)) (fun t => inB t (resL xs)) s k := by
        intro ms
        induction ms with
        | nil => exact fun acc _ h => h
        | cons y ms ihm =>
          intro acc hy h
          refine ihm _ (fun z hz => hy z (by simp [hz])) fun k hk => ?_
          unfold rd1 at hk
          split at hk
          · rename_i e
            rcases (puts_mem _ _ _).1 hk with hk | hk
            · exact h k hk
            · have hyx := hy y (by simp)
              by_cases es : y.name = s
              · exact .inr (.base (line_iff.2 ⟨y, hyx, es, hk⟩))
              · have hres : y.res = false := e.2.resolve_right es
                refine .inr (.step (j := y.name) ((h _ (inB_iff.1 e.1)).resolve_left es) es ?_ (line_iff.2 ⟨y, hyx, rfl, hk⟩))
                show inB y.name (resL xs) = false
                rw [res_iff hnd hyx, hres]
          · exact h k hk
      exact h2 xs _ (fun _ h => h) ih.2.2
  have hclo : CloD n s xs (metL n s xs) := by
    have step : ∀ a, CloD n s xs (rdL n s xs a) ∨ ((xs.map Nd.name).filter fun t => inB t a).length + 1 ≤ ((xs.map Nd.name).filter fun t => inB t (rdL n s xs a)).length := fun a => by
      have hle := filter_len (names := xs.map Nd.name) (a := a) (b := rdL n s xs a) (fun t ht => rdL_sub ht)
      by_cases e : ((xs.map Nd.name).filter fun t => inB t a).length + 1 ≤ ((xs.map Nd.name).filter fun t => inB t (rdL n s xs a)).length
      · exact .inr e
      · refine .inl fun x hx hm he t ht => ?_
        have h1 := same_mem (l := (xs.map Nd.name).filter fun t => inB t a) (m := (xs.map Nd.name).filter fun t => inB t (rdL n s xs a)) (hnd.sublist List.filter_sublist) (fun t ht => by
          obtain ⟨p, q⟩ := List.mem_filter.1 ht
          exact List.mem_filter.2 ⟨p, inB_iff.2 (rdL_sub (inB_iff.1 q))⟩) (by omega) x.name (List.mem_filter.2 ⟨List.mem_map.2 ⟨x, hx, rfl⟩, inB_iff.2 hm⟩)
        exact rdL_exp he hx (inB_iff.1 (List.mem_filter.1 h1).2) t ht
    have stay : ∀ a, CloD n s xs a → CloD n s xs (rdL n s xs a) := fun a ha x hx hm he t ht => by
      have h1 := rdL_stay ha (xs := xs) (met := a) (fun _ h => h) (fun _ => Iff.rfl)
      exact (h1 t).2 (ha x hx ((h1 _).1 hm) he t ht)
    have key : ∀ m, CloD n s xs (it (rdL n s xs) (m + 1) [s]) ∨ ((xs.map Nd.name).filter fun t => inB t [s]).length + (m + 1) ≤ ((xs.map Nd.name).filter fun t => inB t (it (rdL n s xs) (m + 1) [s])).length := by
      intro m
      induction m with
      | zero => exact step _
      | succ m ih =>
        rcases ih with h | h
        · exact .inl (stay _ h)
        · rcases step (it (rdL n s xs) (m + 1) [s]) with h2 | h2
          · exact .inl h2
          · exact .inr (by show _ ≤ ((xs.map Nd.name).filter fun t => inB t (rdL n s xs (it (rdL n s xs) (m + 1) [s]))).length; omega)
    rcases key xs.length with h | h
    · exact h
    · have h1 := List.length_filter_le (fun t => inB t (it (rdL n s xs) (xs.length + 1) [s])) (xs.map Nd.name)
      have h2 : 0 < ((xs.map Nd.name).filter fun t => inB t [s]).length := List.length_pos_of_mem (List.mem_filter.2 ⟨hs, by simp [inB]⟩)
      rw [List.length_map] at h1
      omega
  obtain ⟨hr, hsm, hsnd⟩ := hround (xs.length + 1)
  have hcpl : ∀ k, Dp (inL (lnL n xs)) (fun t => inB t (resL xs)) s k → k ∈ metL n s xs := fun k hk => by
    induction hk with
    | base h =>
      obtain ⟨x, hx, e, ht⟩ := line_iff.1 h
      exact hclo x hx (by rw [e]; exact hsm) (.inr e) _ ht
    | step _ h2 h3 h4 ih =>
      obtain ⟨x, hx, e, ht⟩ := line_iff.1 h4
      subst e
      refine hclo x hx ih (.inl ?_) _ ht
      rw [← res_iff hnd hx]
      exact h3
  refine ⟨List.Pairwise.sublist List.filter_sublist hr, fun k => ?_⟩
  unfold depL
  rw [List.mem_filter]
  simp only [Bool.and_eq_true, Bool.not_eq_true', decide_eq_false_iff_not]
  constructor
  · rintro ⟨h1, h2, h3⟩
    exact ⟨(hsnd k h1).resolve_left h3, h3, h2⟩
  · rintro ⟨h1, h2, h3⟩
    exact ⟨hcpl k h1, h3, h2⟩
theorem deps_none {n : Nat} {s : ByteArray} {xs : List Nd} (hs : s ∉ xs.map Nd.name) : ∀ k, ¬ Dp (inL (lnL n xs)) (fun t => inB t (resL xs)) s k := by
  intro k hk
  induction hk with
  | base h =>
    obtain ⟨x, hx, e, -⟩ := line_iff.1 h
    exact hs (List.mem_map.2 ⟨x, hx, e⟩)
  | step _ _ _ _ ih => exact ih
end Go.Proofs.Ytngnegnofmpgkaa.Gr
/- WALK of the reference's Reach. -/
namespace Go.Proofs.Ytngnegnofmpgkaa.Gr
open Go.RowKit Go.Maps Go.Sort
open Go.Proofs.Ytngnegnofmpgkaa.Nm (StrRow)
/-- Rising, and among the points. -/
def GoodR (pts acc : List ByteArray) : Prop := Rise acc ∧ ∀ s ∈ acc, s ∈ pts
theorem GoodR.len {pts acc : List ByteArray} (h : GoodR pts acc) : acc.length ≤ pts.length := nodup_le _ _ h.1.nodup h.2
theorem GoodR.r01 {pts acc : List ByteArray} (h : GoodR pts acc) (s : ByteArray) : GoodR pts (r01 pts acc s) := by
  unfold Gr.r01
  split
  · rename_i e
    refine ⟨putL_rise _ _ h.1, fun t ht => ?_⟩
    rcases (putL_mem _ _ _).1 ht with rfl | ht
    · exact inB_iff.1 e
    · exact h.2 t ht
  · exact h
theorem GoodR.rr1 {pts acc : List ByteArray} (h : GoodR pts acc) {l : Ln2} (hl : l.2 ∈ pts) : GoodR pts (rr1 acc l) := by
  refine ⟨rr1_rise h.1, fun t ht => ?_⟩
  rcases rr1_of ht with ht | ⟨-, rfl⟩
  · exact h.2 t ht
  · exact hl
theorem take_all {α : Type} {l : List α} {k : Nat} (h : l.length ≤ k) : l.take k = l := List.take_of_length_le h
theorem str_at {w : World} {a : Option Addr} {len : Nat} {xs : List ByteArray} (h : StrRow w a len xs) {k : Nat} (hk : k < len) : ∃ b off s, a = some ⟨b, off, none⟩ ∧ b < w.heap.size ∧ w.cell? ⟨b, off + k, none⟩ = some (.string s) ∧ xs[k]? = some s ∧ okS s := by
  obtain ⟨b, off, e, hb, hc⟩ := h.at_ (by omega)
  have hx : xs[k]? = some (xs[k]'(by rw [h.count]; exact hk)) := List.getElem?_eq_getElem _
  exact ⟨b, off, _, e, hb, hc k _ hx, hx, h.each k _ hx⟩
set_option maxRecDepth 100000 in
set_option maxHeartbeats 16000000 in
theorem rreach_any (a1 a2 a3 : Option Addr) (c1 c2 c3 : Nat) (pts l : List ByteArray) (ls : List Ln2) (w : World) (hP : StrRow w a1 pts.length pts) (hL : LineRow w a2 ls.length ls) (hS : StrRow w a3 l.length l) (hls : ∀ y ∈ ls, y.2 ∈ pts) (hl : pts.length ≤ 900000) :
    Calls Try.prog 51 #[.slice a1 pts.length c1, .slice a2 ls.length c2, .slice a3 l.length c3] w (RowR (reachL pts ls l) w) := by
  have HP := Lib.hid hP
  have HL := Lib.hid hL
  have HS := Lib.hid hS
  have HI := Lib.hid hls
  have hm1 := hL.max
  have hm2 := hS.max
  clear hP hL hS hls
  go_enter Try.func51, Try.ntmps51
  go_upto_region 3 with fail
  go_loopw [7, 8] (fun v i wr => ∃ (k : Nat) (a : Option Addr) (c : Nat) (acc : List ByteArray), k ≤ l.length ∧ i = .int .i64 k ∧ v = .slice a acc.length c ∧ Hid (acc = (l.take k).foldl (r01 pts) []) ∧ Hid (GoodR pts acc) ∧ Hid (StrRow wr a acc.length acc) ∧ Hid (Below w.heap.size w wr)) (fun _ i _ => l.length - (intOf i).toNat)
  case atStart => exact ⟨0, none, 0, [], by omega, rfl, rfl, Lib.hid rfl, Lib.hid ⟨List.Pairwise.nil, fun s h => by simp at h⟩, Lib.hid (str0 _), Lib.hid (Below.refl _ _)⟩
  case round =>
    obtain ⟨k, a, c, acc, hk, rfl, rfl, hacc, hG, hO, hB⟩ := hrel
    rename World => wr
    have HA := Lib.hid hacc.out
    have HG := Lib.hid hG.out
    have HO := Lib.hid hO.out
    have HB := Lib.hid hB.out
    have hal : acc.length ≤ 900000 := Nat.le_trans HG.out.len hl
    clear hacc hG hO hB
    by_cases hlt : k < l.length
    · obtain ⟨b0, off, s, rfl, hb, hc, hx, hok⟩ := str_at (HS.out.below HB.out) hlt
      have HE := Lib.hid (show (l.take (k + 1)).foldl (r01 pts) [] = r01 pts acc s by rw [HA.out]; exact fold_at _ _ hx)
      have HHS := Lib.hid (rhas_any a1 pts.length c1 pts s wr (HP.out.below HB.out))
      have HGG := Lib.hid (HG.out.r01 s)
      cases hp : inB s pts with
      | false =>
        rw [hp] at HHS
        have HEE := Lib.hid (show r01 pts acc s = acc by unfold r01; rw [if_neg (by rw [hp]; decide)])
        clear hp hx hb
        go_wp2_with fail
        go_at_call 36; refine HHS.out.mono ?_; rintro e w2 ⟨rfl, rfl⟩
        go_wp2_with fail
        go_roundw
        case rel => exact ⟨k + 1, a, c, acc, by omega, by go_num, rfl, Lib.hid (by rw [HE.out, HEE.out]), HG, HO, HB⟩
        case measure => simp [intOf]; omega
      | true =>
        rw [hp] at HHS
        have HEE := Lib.hid (show r01 pts acc s = putL s acc by unfold r01; rw [if_pos hp])
        have HPU := Lib.hid (rput_any a acc.length c acc s wr HO.out hok (by omega))
        clear hp hx hb
        go_wp2_with fail
        go_at_call 36; refine HHS.out.mono ?_; rintro e w2 ⟨rfl, rfl⟩
        go_wp2_with fail
        go_at_call 21; refine HPU.out.mono ?_; rintro e w3 ⟨a4, c4, rfl, hS3, hB3⟩
        have HO3 := Lib.hid hS3
        have HB3 := Lib.hid (below_step HB.out hB3)
        clear hS3 hB3
        go_wp2_with fail
        go_roundw
        case rel => exact ⟨k + 1, a4, c4, putL s acc, by omega, by go_num, rfl, Lib.hid (by rw [HE.out, HEE.out]), Lib.hid (by rw [← HEE.out]; exact HGG.out), HO3, HB3⟩
        case measure => simp [intOf]; omega
    · have HA0 := Lib.hid (show acc = r0L pts l by rw [HA.out, take_all (by omega)]; rfl)
      go_wp2_with fail
      go_loopw [7, 9] (fun v i wr => ∃ (n : Nat) (a : Option Addr) (c : Nat) (acc : List ByteArray), n ≤ pts.length ∧ i = .int .i64 n ∧ v = .slice a acc.length c ∧ Hid (acc = it (rrL ls) n (r0L pts l)) ∧ Hid (GoodR pts acc) ∧ Hid (StrRow wr a acc.length acc) ∧ Hid (Below w.heap.size w wr)) (fun _ i _ => pts.length - (intOf i).toNat)
      case atStart => exact ⟨0, a, c, acc, by omega, rfl, rfl, HA0, HG, HO, HB⟩
      case round =>
        clear HA HA0 HG HO HB hal hlt hk
        obtain ⟨n, a, c, acc, hn, rfl, rfl, hacc, hG, hO, hB⟩ := hrel
        rename World => wr
        have HA := Lib.hid hacc.out
        have HG := Lib.hid hG.out
        have HO := Lib.hid hO.out
        have HB := Lib.hid hB.out
        clear hacc hG hO hB
        by_cases hlt : n < pts.length
        · go_wp2_with fail
          go_loopw [7, 10] (fun v i wr => ∃ (k : Nat) (a : Option Addr) (c : Nat) (acc : List ByteArray), k ≤ ls.length ∧ i = .int .i64 k ∧ v = .slice a acc.length c ∧ Hid (acc = (ls.take k).foldl rr1 (it (rrL ls) n (r0L pts l))) ∧ Hid (GoodR pts acc) ∧ Hid (StrRow wr a acc.length acc) ∧ Hid (Below w.heap.size w wr)) (fun _ i _ => ls.length - (intOf i).toNat)
          case atStart => exact ⟨0, a, c, acc, by omega, rfl, rfl, Lib.hid (by rw [HA.out]; rfl), HG, HO, HB⟩
          case round =>
            clear HA HG HO HB
            obtain ⟨k, a, c, acc, hk, rfl, rfl, hacc, hG, hO, hB⟩ := hrel
            rename World => wr
            have HA := Lib.hid hacc.out
            have HG := Lib.hid hG.out
            have HO := Lib.hid hO.out
            have HB := Lib.hid hB.out
            have hal : acc.length ≤ 900000 := Nat.le_trans HG.out.len hl
            clear hacc hG hO hB
            by_cases hlt2 : k < ls.length
            · obtain ⟨b0, off, rfl, hb, hc⟩ := (HL.out.below HB.out).at_ (by omega)
              obtain ⟨⟨x, y⟩, hx⟩ : ∃ x, ls[k]? = some x := ⟨ls[k], List.getElem?_eq_getElem _⟩
              have hc1 : wr.cell? ⟨b0, off + k * 2, none⟩ = some (.string x) := (hc k _ hx).1
              have hc2 : wr.cell? ⟨b0, off + k * 2 + 1, none⟩ = some (.string y) := (hc k _ hx).2
              have hok : okS y := (HL.out.each k _ hx).2
              have HE := Lib.hid (show (ls.take (k + 1)).foldl rr1 (it (rrL ls) n (r0L pts l)) = rr1 acc (x, y) by rw [HA.out]; exact fold_at _ _ hx)
              have HHS := Lib.hid (rhas_any a acc.length c acc x wr HO.out)
              have HGG := Lib.hid (HG.out.rr1 (l := (x, y)) (HI.out _ (List.mem_of_getElem? hx)))
              cases hp : inB x acc with
              | false =>
                rw [hp] at HHS
                have HEE := Lib.hid (show rr1 acc (x, y) = acc by unfold rr1; rw [if_neg (by rw [hp]; decide)])
                clear hp hx hb hc
                go_wp2_with fail
                go_at_call 36; refine HHS.out.mono ?_; rintro e w2 ⟨rfl, rfl⟩
                go_wp2_with fail
                go_roundw
                case rel => exact ⟨k + 1, a, c, acc, by omega, by go_num, rfl, Lib.hid (by rw [HE.out, HEE.out]), HG, HO, HB⟩
                case measure => simp [intOf]; omega
              | true =>
                rw [hp] at HHS
                have HEE := Lib.hid (show rr1 acc (x, y) = putL y acc by unfold rr1; rw [if_pos hp])
                have HPU := Lib.hid (rput_any a acc.length c acc y wr HO.out hok (by omega))
                clear hp hx hb hc
                go_wp2_with fail
                go_at_call 36; refine HHS.out.mono ?_; rintro e w2 ⟨rfl, rfl⟩
                go_wp2_with fail
                go_at_call 21; refine HPU.out.mono ?_; rintro e w3 ⟨a4, c4, rfl, hS3, hB3⟩
                have HO3 := Lib.hid hS3
                have HB3 := Lib.hid (below_step HB.out hB3)
                clear hS3 hB3
                go_wp2_with fail
                go_roundw
                case rel => exact ⟨k + 1, a4, c4, putL y acc, by omega, by go_num, rfl, Lib.hid (by rw [HE.out, HEE.out]), Lib.hid (by rw [← HEE.out]; exact HGG.out), HO3, HB3⟩
                case measure => simp [intOf]; omega
            · have HA1 := Lib.hid (show acc = it (rrL ls) (n + 1) (r0L pts l) by rw [HA.out, take_all (by omega)]; rfl)
              go_wp2_with fail
              go_roundw
              case rel => exact ⟨n + 1, a, c, acc, by omega, by go_num, rfl, HA1, HG, HO, HB⟩
              case measure => simp [intOf]; omega
        · have HA1 := Lib.hid (show acc = reachL pts ls l by rw [HA.out, show n = pts.length by omega]; rfl)
          go_wp2_with fail
          go_ret
          have hE := HA1.out
          subst hE
          exact ⟨a, c, rfl, HO.out, HB.out⟩
end Go.Proofs.Ytngnegnofmpgkaa.Gr
/- WALK of the reference's Deps. -/
namespace Go.Proofs.Ytngnegnofmpgkaa.Gr
open Go.RowKit Go.Maps Go.Sort
open Go.Proofs.Ytngnegnofmpgkaa.Nm (StrRow)
/-- Rising, and of a list. -/
theorem good_puts {U : List ByteArray} : ∀ {ts acc : List ByteArray}, GoodR U acc → (∀ t ∈ ts, t ∈ U) → GoodR U (ts.foldl (fun m t => putL t m) acc) := fun {ts acc} h ht =>
  ⟨puts_rise ts h.1, fun t hm => by
    rcases (puts_mem _ _ _).1 hm with hm | hm
    · exact h.2 t hm
    · exact ht t hm⟩
theorem good_rd1 {U : List ByteArray} {n : Nat} {s : ByteArray} {met : List ByteArray} {x : Nd} (h : GoodR U met) (ht : ∀ t ∈ ofL n x.defs, t ∈ U) : GoodR U (rd1 n s met x) := by
  unfold rd1
  split
  · exact good_puts h ht
  · exact h
theorem fil_at {Q : ByteArray → Bool} {l : List ByteArray} {k : Nat} {s : ByteArray} (h : l[k]? = some s) : (l.take (k + 1)).filter Q = if Q s = true then (l.take k).filter Q ++ [s] else (l.take k).filter Q := by
  obtain ⟨hk, e⟩ := List.getElem?_eq_some_iff.1 h
  rw [List.take_succ_eq_append_getElem hk, List.filter_append, e]
  cases hq : Q s <;> simp [hq]
/-- A node at a place. -/
theorem node_at {w : World} {n : Nat} {a : Option Addr} {len : Nat} {xs : List Nd} (h : NodeRow w n a len xs) {k : Nat} (hk : k < len) : ∃ b off x a' dl dc, a = some ⟨b, off, none⟩ ∧ b < w.heap.size ∧ xs[k]? = some x ∧ NdAt w n b (off + k * 3) a' dl dc x := by
  obtain ⟨b, off, e, hb, hc⟩ := h.at_ (by omega)
  have hx : xs[k]? = some (xs[k]'(by rw [h.count]; exact hk)) := List.getElem?_eq_getElem _
  obtain ⟨a', dl, dc, hN⟩ := hc k _ hx
  exact ⟨b, off, _, a', dl, dc, e, hb, hx, hN⟩
/-- Where an index is the one of a name. -/
theorem at_iff {xs : List Nd} (hnd : (xs.map Nd.name).Nodup) {i j : Nat} {x y : Nd} (hx : xs[i]? = some x) (hy : xs[j]? = some y) : i = j ↔ x.name = y.name := by
  constructor
  · rintro rfl
    rw [hx] at hy
    injection hy with hy
    rw [hy]
  · intro h
    obtain ⟨hi, ei⟩ := List.getElem?_eq_some_iff.1 hx
    obtain ⟨hj, ej⟩ := List.getElem?_eq_some_iff.1 hy
    have h1 := (List.getElem_inj (xs := xs.map Nd.name) (i := i) (j := j) (h₀ := by simpa using hi) (h₁ := by simpa using hj) hnd).1 (by simp [ei, ej, h])
    exact h1
end Go.Proofs.Ytngnegnofmpgkaa.Gr
