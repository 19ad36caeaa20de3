/- Rows that grow: what a copy by hand holds. -/
import Derived.Test.YtkmbhjcedkojjaaSd
import Derived.Deep.AppendLies
namespace Go.Proofs.Ytkmbhjcedkojjaa
open Go.RowKit
theorem flat_get {α : Type} {s : Nat} : ∀ (L : List (List α)) (i r : Nat) (_ : ∀ x ∈ L, x.length = s) (_ : r < s) (hi : i < L.length), L.flatten[i * s + r]? = L[i][r]?
  | x :: L, 0, r, hs, hr, _ => by
    have : x.length = s := hs x (by simp)
    rw [Nat.zero_mul, Nat.zero_add, List.flatten_cons, List.getElem?_append_left (by omega)]
    rfl
  | x :: L, i + 1, r, hs, hr, hi => by
    have hx : x.length = s := hs x (by simp)
    rw [List.flatten_cons, List.getElem?_append_right (by rw [hx, Nat.add_mul]; omega)]
    have e : (i + 1) * s + r - x.length = i * s + r := by rw [hx, Nat.add_mul]; omega
    rw [e, flat_get L i r (fun y hy => hs y (by simp [hy])) hr (by simpa using hi)]
    rfl
/-- A row of a call's own: its block, its cells. -/
theorem owned_row {w : World} {base E size n : Nat} {f : Option Addr} {fl fc : Nat} {xs : List Value} (h : w.ownsRow base E size (.slice f fl fc) n xs) (hn : 0 < n) :
    ∃ g, f = some ⟨g, 0, none⟩ ∧ base ≤ g ∧ g < w.heap.size ∧ (∀ o, w.frozen? ⟨g, o, none⟩ = false) ∧ (∀ j, j < xs.length → w.cell? ⟨g, j, none⟩ = xs[j]?) := by
  obtain ⟨g, cap, e, h1, h2, h3, h4⟩ := row_of_owns h (by
    rcases h.2 with ⟨_, h0⟩ | ⟨g, cap, cur, e, _⟩
    · omega
    · rw [e]; simp)
  cases e
  exact ⟨g, rfl, h1, h2, h3, h4⟩
/-- Fields that were appended. -/
def FM (n : Nat) (P : Nat → Prop) (w : World) (M : List (List Value)) (fs : List (ByteArray × List Tm)) : Prop :=
  M.length ≤ fs.length ∧ ∀ i (_ : i < M.length) (_ : i < fs.length), ∃ (t : Option Addr) (tl tc : Nat), M[i] = [.string fs[i].1, .slice t tl tc] ∧ OwV P w n t tl tc fs[i].2
theorem FM.nil {n : Nat} {P : Nat → Prop} {w : World} {fs : List (ByteArray × List Tm)} : FM n P w [] fs := ⟨Nat.zero_le _, fun _ h => absurd h (Nat.not_lt_zero _)⟩
theorem FM.to {n : Nat} {P Q : Nat → Prop} {w w' : World} {M : List (List Value)} {fs : List (ByteArray × List Tm)} (h : FM n P w M fs) (hs : w.heap.size ≤ w'.heap.size) (hP : ∀ b, P b → b < w.heap.size → Q b ∧ w'.heap[b]? = w.heap[b]?) : FM n Q w' M fs :=
  ⟨h.1, fun i a b => by obtain ⟨t, tl, tc, e, o⟩ := h.2 i a b; exact ⟨t, tl, tc, e, o.to hs hP⟩⟩
theorem FM.add {n : Nat} {P : Nat → Prop} {w : World} {M : List (List Value)} {fs : List (ByteArray × List Tm)} (h : FM n P w M fs) {j : Nat} (hj : j < fs.length) (hM : M.length = j) {t : Option Addr} {tl tc : Nat} (o : OwV P w n t tl tc fs[j].2) : FM n P w (M ++ [[.string fs[j].1, .slice t tl tc]]) fs := by
  subst hM
  refine ⟨by simp; omega, fun i a b => ?_⟩
  by_cases e : i < M.length
  · rw [List.getElem_append_left e]
    exact h.2 i e b
  · have e' : i = M.length := by simp at a; omega
    subst e'
    exact ⟨t, tl, tc, by simp, o⟩
theorem FM.len {n : Nat} {P : Nat → Prop} {w : World} {M : List (List Value)} {fs : List (ByteArray × List Tm)} (h : FM n P w M fs) : ∀ x ∈ M, x.length = 2 := fun x hx => by
  obtain ⟨i, hi, rfl⟩ := List.getElem_of_mem hx
  obtain ⟨t, tl, tc, e, _⟩ := h.2 i hi (Nat.lt_of_lt_of_le hi h.1)
  rw [e]; rfl
theorem FM.owF {n : Nat} {P Q : Nat → Prop} {w : World} {M : List (List Value)} {fs : List (ByteArray × List Tm)} (h : FM n P w M fs) (hM : M.length = fs.length) (hm : (fs.length : Int) ≤ 9223372036854775807) {base : Nat} {f : Option Addr} {fl fc : Nat} (ho : w.ownsRow base 59 2 (.slice f fl fc) fs.length M.flatten) (hl : fl = fs.length)
    (hPQ : ∀ b, P b → b < w.heap.size → Q b) (hQ : ∀ g, base ≤ g → Q g) : OwF Q (fun t tl tc V => OwV Q w n t tl tc V) w f fl fs := by
  subst hl
  refine ⟨rfl, hm, fun i hi => ?_⟩
  obtain ⟨g, rfl, hb, hlt, hfz, hc⟩ := owned_row ho (by omega)
  obtain ⟨t, tl, tc, e, o⟩ := h.2 i (by omega) hi
  have hlen := h.len
  have hz : M.flatten.length = fs.length * 2 := ho.1
  have c0 := hc (i * 2 + 0) (by omega)
  have c1 := hc (i * 2 + 1) (by omega)
  rw [flat_get M i 0 hlen (by omega) (by omega), e] at c0
  rw [flat_get M i 1 hlen (by omega) (by omega), e] at c1
  exact ⟨g, 0, tl, tc, t, rfl, hQ g hb, hlt, hfz, by rw [Nat.zero_add]; exact c0, by rw [Nat.zero_add]; exact c1, o.imp hPQ⟩
/-- A term's cells, told. -/
def TC (n : Nat) (P : Nat → Prop) (w : World) (cs : List Value) : Tm → Prop
  | .mk k lo hi s y m o fs => ∃ (f : Option Addr) (fl fc : Nat), cs = [.int .i64 k, .int .i64 lo, .int .i64 hi, .string s, .bool y, .bool m, .bool o, .slice f fl fc] ∧ OwF P (fun t tl tc V => OwV P w n t tl tc V) w f fl fs
theorem TC.to {n : Nat} {P Q : Nat → Prop} {w w' : World} {cs : List Value} {x : Tm} (h : TC n P w cs x) (hs : w.heap.size ≤ w'.heap.size) (hP : ∀ b, P b → b < w.heap.size → Q b ∧ w'.heap[b]? = w.heap[b]?) : TC n Q w' cs x := by
  obtain ⟨k, lo, hi, s, y, m, o, fs⟩ := x
  obtain ⟨f, fl, fc, e, hf⟩ := h
  exact ⟨f, fl, fc, e, hf.to hs hP (fun t tl tc V h => h.to hs hP)⟩
theorem TC.len {n : Nat} {P : Nat → Prop} {w : World} {cs : List Value} {x : Tm} (h : TC n P w cs x) : cs.length = 8 := by
  obtain ⟨k, lo, hi, s, y, m, o, fs⟩ := x
  obtain ⟨f, fl, fc, rfl, hf⟩ := h
  rfl
/-- Terms that were appended. -/
def TM (n : Nat) (P : Nat → Prop) (w : World) (L : List (List Value)) (A : List Tm) : Prop :=
  L.length ≤ A.length ∧ ∀ i (_ : i < L.length) (_ : i < A.length), TC n P w L[i] A[i]
theorem TM.nil {n : Nat} {P : Nat → Prop} {w : World} {A : List Tm} : TM n P w [] A := ⟨Nat.zero_le _, fun _ h => absurd h (Nat.not_lt_zero _)⟩
theorem TM.to {n : Nat} {P Q : Nat → Prop} {w w' : World} {L : List (List Value)} {A : List Tm} (h : TM n P w L A) (hs : w.heap.size ≤ w'.heap.size) (hP : ∀ b, P b → b < w.heap.size → Q b ∧ w'.heap[b]? = w.heap[b]?) : TM n Q w' L A :=
  ⟨h.1, fun i a b => (h.2 i a b).to hs hP⟩
theorem TM.add {n : Nat} {P : Nat → Prop} {w : World} {L : List (List Value)} {A : List Tm} (h : TM n P w L A) {k : Nat} (hk : k < A.length) (hL : L.length = k) {cs : List Value} (o : TC n P w cs A[k]) : TM n P w (L ++ [cs]) A := by
  subst hL
  refine ⟨by simp; omega, fun i a b => ?_⟩
  by_cases e : i < L.length
  · rw [List.getElem_append_left e]
    exact h.2 i e b
  · have e' : i = L.length := by simp at a; omega
    subst e'
    simpa using o
theorem TM.len {n : Nat} {P : Nat → Prop} {w : World} {L : List (List Value)} {A : List Tm} (h : TM n P w L A) : ∀ x ∈ L, x.length = 8 := fun x hx => by
  obtain ⟨i, hi, rfl⟩ := List.getElem_of_mem hx
  exact (h.2 i hi (Nat.lt_of_lt_of_le hi h.1)).len
theorem TM.owV {n : Nat} {P Q : Nat → Prop} {w : World} {L : List (List Value)} {A : List Tm} (h : TM n P w L A) (hL : L.length = A.length) (hm : (A.length : Int) ≤ 9223372036854775807) {base : Nat} {t : Option Addr} {tl tc : Nat} (ho : w.ownsRow base 24 8 (.slice t tl tc) A.length L.flatten) (hl : tl = A.length)
    (hPQ : ∀ b, P b → b < w.heap.size → Q b) (hQ : ∀ g, base ≤ g → Q g) : OwV Q w (n + 1) t tl tc A := by
  subst hl
  refine ⟨rfl, hm, fun i hi => ?_⟩
  obtain ⟨g, rfl, hb, hlt, hfz, hc⟩ := owned_row ho (by omega)
  have hz : L.flatten.length = A.length * 8 := ho.1
  have hlen := h.len
  refine ⟨g, 0, rfl, hQ g hb, hlt, hfz, ?_⟩
  rw [Nat.zero_add]
  have hr : ∀ r, r < 8 → w.cell? ⟨g, i * 8 + r, none⟩ = (L[i]'(by omega))[r]? := fun r hr => by rw [hc _ (by omega), flat_get L i r hlen hr (by omega)]
  have hx := h.2 i (by omega) hi
  generalize L[i]'(by omega) = cs at hr hx
  generalize A[i] = x at hx
  obtain ⟨k, lo, hi', s, y, m, o, fs⟩ := x
  obtain ⟨f, fl, fc, rfl, hf⟩ := hx
  exact ⟨f, fl, fc, hr 0 (by omega), hr 1 (by omega), hr 2 (by omega), hr 3 (by omega), hr 4 (by omega), hr 5 (by omega), hr 6 (by omega), hr 7 (by omega), hf.to (Nat.le_refl _) (fun b hb lt => ⟨hPQ b hb lt, rfl⟩) (fun t tl tc V h => h.imp hPQ)⟩

theorem owns_below {w w' : World} {base E size n : Nat} {v : Value} {xs : List Value} (h : w.ownsRow base E size v n xs) (hb : Below w.heap.size w w') : w'.ownsRow base E size v n xs := by
  obtain ⟨h1, h2⟩ := h
  refine ⟨h1, ?_⟩
  rcases h2 with h2 | ⟨g, cap, cur, hv, hg, hh, r⟩
  · exact Or.inl h2
  · exact Or.inr ⟨g, cap, cur, hv, hg, by rw [hb.block g (Array.getElem?_eq_some_iff.1 hh).1]; exact hh, r⟩
theorem owns_set {w : World} {base E size n : Nat} {v : Value} {xs : List Value} (h : w.ownsRow base E size v n xs) {T o : Nat} {u : Value} (hT : T < base) : (w.setCell ⟨T, o, none⟩ u).ownsRow base E size v n xs := by
  obtain ⟨h1, h2⟩ := h
  refine ⟨h1, ?_⟩
  rcases h2 with h2 | ⟨g, cap, cur, hv, hg, hh, r⟩
  · exact Or.inl h2
  · exact Or.inr ⟨g, cap, cur, hv, hg, by rw [set_heap (by omega)]; exact hh, r⟩
/-- One field more. -/
theorem plain_append {n : Nat} {w3 : World} {B T H3 j : Nat} {uf : Value} {M : List (List Value)} {fs : List (ByteArray × List Tm)} (ho : w3.ownsRow B 59 2 uf j M.flatten) (hM : M.length = j) (hj : j < fs.length) (hby : fs.length * 40 ≤ 140737488355328)
    (hF : FM n (fun b => T < b ∧ some b ≠ uf.ownBlock) w3 M fs) {t3 : Option Addr} {tl tc : Nat} (hO : OwV (fun b => H3 ≤ b) w3 n t3 tl tc fs[j].2) (hH : ∀ g, uf.ownBlock = some g → g < H3) (hTH : T < H3) (hT : T < B) (hB : B ≤ w3.heap.size) {nm : ByteArray} (hnm : fs[j].1 = nm) :
    ∃ (g cap : Nat) (w4 : World), (Builtin.append_ #[22, 22] 22 #[uf, .slice (some ⟨w3.heap.size, 0, none⟩) 1 1]).run Try.prog (w3.alloc (.cells #[.string nm, .slice t3 tl tc] 59)) = .ok (.slice (some ⟨g, 0, none⟩) (j + 1) cap) w4 ∧
      Below B w3 w4 ∧ (∀ b, b < w3.heap.size → some b ≠ uf.ownBlock → w4.heap[b]? = w3.heap[b]?) ∧
      ∀ u, (w4.setCell ⟨T, 7, none⟩ u).ownsRow B 59 2 (.slice (some ⟨g, 0, none⟩) (j + 1) cap) (j + 1) (M ++ [[Value.string nm, Value.slice t3 tl tc]]).flatten ∧
        FM n (fun b => T < b ∧ some b ≠ (Value.slice (some ⟨g, 0, none⟩) (j + 1) cap).ownBlock) (w4.setCell ⟨T, 7, none⟩ u) (M ++ [[.string nm, .slice t3 tl tc]]) fs := by
  obtain ⟨i59, hi59, hz59, hs59, hb59⟩ := info_parts info59
  have ha := bl_alloc (o := .cells #[.string nm, .slice t3 tl tc] 59) (Below.refl w3.heap.size w3)
  obtain ⟨g, cap, w4, hap, hown, hgrow, hloc, hlt⟩ := run_append_lies (P := Try.prog) (w3.alloc (.cells #[.string nm, .slice t3 tl tc] 59)) 22 22 B 59 i59 _ 2 40 Try.underlying22 hi59 hz59 hs59 hb59 rfl (by omega) uf j M.flatten (owns_below ho ha)
    ⟨w3.heap.size, 0, none⟩ 1 1 [.string nm, .slice t3 tl tc] rfl (World.news_of_block (cs := #[.string nm, .slice t3 tl tc]) (t := 59) (fr := (0, 0)) (heap_alloc_new w3 _)) (by simp [Value.oneCell']) (by omega) (by unfold maxLen; omega) (by omega) (by simp; omega) (w3.heap.size + 1) (by simp)
  have hstep : ∀ b, b < w3.heap.size → some b ≠ uf.ownBlock → w4.heap[b]? = w3.heap[b]? := fun b hb hne => (hgrow.block b (by simp; omega) hne).trans (ha.block b hb)
  have hsz : w3.heap.size ≤ w4.heap.size := Nat.le_trans ha.size hgrow.size
  refine ⟨g, cap, w4, hap, ?_, hstep, fun u => ⟨?_, ?_⟩⟩
  · exact (ha.mono hB).trans ((Below.refl B _).grown hgrow (by simp; omega) (fun k hk => (ho.lt k hk).1))
  · rw [List.flatten_append]
    simp only [List.flatten_cons, List.flatten_nil, List.append_nil]
    exact owns_set hown hT
  · have hgb : ∀ b, b < w3.heap.size → some b ≠ uf.ownBlock → b ≠ g := fun b hb hne e => by
      subst e
      rcases hloc with h | h
      · exact hne h.symm
      · omega
    have hF' : FM n (fun b => T < b ∧ some b ≠ (Value.slice (some ⟨g, 0, none⟩) (j + 1) cap).ownBlock) (w4.setCell ⟨T, 7, none⟩ u) M fs :=
      hF.to (by rw [set_size]; exact hsz) (fun b hb hlt => ⟨⟨hb.1, fun e => hgb b hlt hb.2 (Option.some.inj e)⟩, (set_heap (by omega)).trans (hstep b hlt hb.2)⟩)
    have := hF'.add hj hM (hO.to (Q := fun b => T < b ∧ some b ≠ (Value.slice (some ⟨g, 0, none⟩) (j + 1) cap).ownBlock) (by rw [set_size]; exact hsz) (fun b hb hlt => by
      have hne : some b ≠ uf.ownBlock := fun e => by have := hH b e.symm; omega
      exact ⟨⟨by omega, fun e => hgb b hlt hne (Option.some.inj e)⟩, (set_heap (by omega)).trans (hstep b hlt hne)⟩))
    rwa [hnm] at this
/-- One term more. -/
theorem plain_append2 {n : Nat} {w3 : World} {B T k : Nat} {u : Value} {L : List (List Value)} {A : List Tm} (ho : w3.ownsRow B 24 8 u k L.flatten) (hL : L.length = k) (hk : k < A.length) (hby : A.length * 72 ≤ 140737488355328)
    (hF : TM n (fun b => T < b ∧ some b ≠ u.ownBlock) w3 L A) {cs : List Value} (hC : TC n (fun b => T < b ∧ some b ≠ u.ownBlock) w3 cs A[k]) (hT : T < B) (hB : B ≤ w3.heap.size) (h1 : ∀ v ∈ cs, v.oneCell' = true) :
    ∃ (g cap : Nat) (w4 : World), (Builtin.append_ #[39, 39] 39 #[u, .slice (some ⟨w3.heap.size, 0, none⟩) 1 1]).run Try.prog (w3.alloc (.cells cs.toArray 24)) = .ok (.slice (some ⟨g, 0, none⟩) (k + 1) cap) w4 ∧
      Below B w3 w4 ∧ (∀ b, b < w3.heap.size → some b ≠ u.ownBlock → w4.heap[b]? = w3.heap[b]?) ∧
      ∀ x, (w4.setCell ⟨T, 0, none⟩ x).ownsRow B 24 8 (.slice (some ⟨g, 0, none⟩) (k + 1) cap) (k + 1) (L ++ [cs]).flatten ∧
        TM n (fun b => T < b ∧ some b ≠ (Value.slice (some ⟨g, 0, none⟩) (k + 1) cap).ownBlock) (w4.setCell ⟨T, 0, none⟩ x) (L ++ [cs]) A := by
  obtain ⟨i24, hi24, hz24, hs24, hb24⟩ := info_parts info24
  have ha := bl_alloc (o := .cells cs.toArray 24) (Below.refl w3.heap.size w3)
  have hlen := hC.len
  obtain ⟨g, cap, w4, hap, hown, hgrow, hloc, hlt⟩ := run_append_lies (P := Try.prog) (w3.alloc (.cells cs.toArray 24)) 39 39 B 24 i24 _ 8 72 Try.underlying39 hi24 hz24 hs24 hb24 rfl (by omega) u k L.flatten (owns_below ho ha)
    ⟨w3.heap.size, 0, none⟩ 1 1 cs (by omega) (World.news_of_block (cs := cs.toArray) (t := 24) (fr := (0, 0)) (heap_alloc_new w3 _)) h1 (by omega) (by unfold maxLen; omega) (by omega) (by simp; omega) (w3.heap.size + 1) (by simp)
  have hstep : ∀ b, b < w3.heap.size → some b ≠ u.ownBlock → w4.heap[b]? = w3.heap[b]? := fun b hb hne => (hgrow.block b (by simp; omega) hne).trans (ha.block b hb)
  have hsz : w3.heap.size ≤ w4.heap.size := Nat.le_trans ha.size hgrow.size
  refine ⟨g, cap, w4, hap, ?_, hstep, fun x => ⟨?_, ?_⟩⟩
  · exact (ha.mono hB).trans ((Below.refl B _).grown hgrow (by simp; omega) (fun k hk => (ho.lt k hk).1))
  · rw [List.flatten_append]
    simp only [List.flatten_cons, List.flatten_nil, List.append_nil]
    exact owns_set hown hT
  · have hgb : ∀ b, b < w3.heap.size → some b ≠ u.ownBlock → b ≠ g := fun b hb hne e => by
      subst e
      rcases hloc with h | h
      · exact hne h.symm
      · omega
    have hto : ∀ b, T < b ∧ some b ≠ u.ownBlock → b < w3.heap.size → (T < b ∧ some b ≠ (Value.slice (some ⟨g, 0, none⟩) (k + 1) cap).ownBlock) ∧ (w4.setCell ⟨T, 0, none⟩ x).heap[b]? = w3.heap[b]? :=
      fun b hb hlt => ⟨⟨hb.1, fun e => hgb b hlt hb.2 (Option.some.inj e)⟩, (set_heap (by omega)).trans (hstep b hlt hb.2)⟩
    exact (hF.to (by rw [set_size]; exact hsz) hto).add hk hL (hC.to (by rw [set_size]; exact hsz) hto)

end Go.Proofs.Ytkmbhjcedkojjaa
