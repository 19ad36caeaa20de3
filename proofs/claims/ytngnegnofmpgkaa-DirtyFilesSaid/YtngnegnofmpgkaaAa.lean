/- A MAP THAT HOLDS VALUES BY NAMES; what has changed, as mathematics. -/
import Derived.Test.YtngnegnofmpgkaaZ9
namespace Go.Proofs.Ytngnegnofmpgkaa.Gr
open Go.RowKit Go.Maps Go.Sort
open Go.Proofs.Ytngnegnofmpgkaa.Nm (StrRow)
section
variable {ι : Type}
/-- Block b holds, by names, what stands for each of xs. -/
structure VM (R : Value → Option (DataW Value × List MemPlace)) (nm : ι → ByteArray) (V : Value → ι → Prop) (w : World) (b m : Nat) (D : DataW Value) (xs : List ι) : Prop where
  own : w.ownsMap Try.prog 9 R b (Maps.size D) D
  rin : ∀ v y, R v = some y → y = (.held v, [])
  vin : ∀ v x, V v x → R v = some (.held v, [])
  siz : Maps.size D ≤ m
  has : ∀ s, okS s → Maps.has D (kS s) = inB s (xs.map nm)
  kok : ∀ s, Maps.has D (kS s) = true → okS s
  at_ : ∀ x ∈ xs, ∃ v, V v x ∧ ∀ zd, D.atKey (kS (nm x)) zd = .held v
variable {R : Value → Option (DataW Value × List MemPlace)} {nm : ι → ByteArray} {V : Value → ι → Prop} {w w' : World} {b m : Nat} {D : DataW Value} {xs : List ι}
theorem VM.made (hr : ∀ v y, R v = some y → y = (.held v, [])) (hv : ∀ v x, V v x → R v = some (.held v, [])) (w : World) : VM R nm V (w.alloc (.map #[] 0)) w.heap.size 0 (.map []) [] :=
  ⟨World.ownsMap_made w Try.prog 9 R, hr, hv, Nat.zero_le _, fun _ _ => rfl, fun s h => by simp [Maps.has] at h, fun x hx => by cases hx⟩
theorem VM.kept (h : VM R nm V w b m D xs) {r : Option Nat} (hg : w.grownBy w' r) (hr : r ≠ some b) : VM R nm V w' b m D xs := { h with own := h.own.kept hg hr.symm }
theorem VM.below (h : VM R nm V w b m D xs) (hb : Below w.heap.size w w') : VM R nm V w' b m D xs := h.kept (grow_of hb) (by simp)
theorem VM.put (h : VM R nm V w b m D xs) {T E : TypeId} (hT : Try.prog.underlying T = some (.map 9 E)) {x : ι} {v : Value} (hk : okS (nm x)) (hn : nm x ∉ xs.map nm) (hv : V v x) (hm : m < 1000000000) :
    ∃ w2 D2, (Instr.mapUpdate T (.map (some b)) (.string (nm x)) v).run Try.prog w = .ok () w2 ∧ VM R nm V w2 b (m + 1) D2 (xs ++ [x]) ∧ w.grownBy w2 (some b) := by
  obtain ⟨es, hDe, hti, -⟩ := h.own.entries law9
  have hty : Maps.Tidy D := ⟨es, hDe, hti⟩
  obtain ⟨w2, hrun, hmap, hg⟩ := h.own.update law9 hT (by have := h.siz; unfold maxLen; omega) (key9 hk) (val := v) (d := .held v) (ps := []) (h.vin _ _ hv)
  refine ⟨w2, _, hrun, ⟨ownsMap_tight hmap, h.rin, h.vin, ?_, ?_, ?_, ?_⟩, hg⟩
  · have := hmap.size_le
    have := h.siz
    omega
  · intro s hs
    by_cases e : s = nm x
    · subst e
      rw [Maps.has_put_same hty.isMap (kS_key _), inB_iff.2 (by simp)]
    · rw [Maps.has_put_other (kS_ne e), h.has s hs]
      rw [Bool.eq_iff_iff, inB_iff, inB_iff]
      simp [e]
  · intro s hs
    by_cases e : s = nm x
    · subst e; exact hk
    · rw [Maps.has_put_other (kS_ne e)] at hs
      exact h.kok s hs
  · intro y hy
    rcases List.mem_append.1 hy with hy | hy
    · obtain ⟨v', hv', hat⟩ := h.at_ y hy
      refine ⟨v', hv', fun zd => ?_⟩
      rw [Maps.atKey_put_other (kS_ne (fun e => hn (by rw [← e]; exact List.mem_map.2 ⟨y, hy, rfl⟩)))]
      exact hat zd
    · obtain rfl := List.mem_singleton.1 hy
      exact ⟨v, hv, fun zd => Maps.atKey_put_same hty.isMap (kS_key _) _ _⟩
/-- A name is asked for: it is there. -/
theorem VM.look_in (h : VM R nm V w b m D xs) {T E : TypeId} (hT : Try.prog.underlying T = some (.map 9 E)) {z : Value} (hz : (zeroValue E).run Try.prog w = .ok z w) (hRz : R z = some (.held z, [])) {x : ι} (hx : x ∈ xs) (hk : okS (nm x)) :
    ∃ v, V v x ∧ (Instr.lookup T (.map (some b)) (.string (nm x)) true).run Try.prog w = .ok (.tuple #[v, .bool true]) w := by
  obtain ⟨v', ps, hrun, hR⟩ := h.own.look_ok law9 hT hz hRz (key9 hk)
  obtain ⟨v, hv, hat⟩ := h.at_ x hx
  rw [hat] at hR
  have e := h.rin _ _ hR
  injection e with e _
  injection e with e
  subst e
  rw [h.has _ hk, inB_iff.2 (List.mem_map.2 ⟨x, hx, rfl⟩)] at hrun
  exact ⟨_, hv, hrun⟩
/-- .. whether it is or not. -/
theorem VM.look_any (h : VM R nm V w b m D xs) {T E : TypeId} (hT : Try.prog.underlying T = some (.map 9 E)) {z : Value} (hz : (zeroValue E).run Try.prog w = .ok z w) (hRz : R z = some (.held z, [])) {s : ByteArray} (hk : okS s) :
    ∃ v y, R v = some y ∧ (Instr.lookup T (.map (some b)) (.string s) true).run Try.prog w = .ok (.tuple #[v, .bool (inB s (xs.map nm))]) w := by
  obtain ⟨v', ps, hrun, hR⟩ := h.own.look_ok law9 hT hz hRz (key9 hk)
  rw [h.has _ hk] at hrun
  exact ⟨_, _, hR, hrun⟩
/-- An entry that has come is one of xs. -/
theorem vm_entry (h : VM R nm V w b m D xs) {s : List UInt8} {c : Value} {y : DataW Value × List MemPlace} (hv : R c = some y) (hat : ∀ zd, D.atKey (.string s) zd = y.1) : ∃ x ∈ xs, nm x = mk s ∧ V c x ∧ okS (mk s) := by
  have hh : Maps.has D (kS (mk s)) = true := Maps.has_true_of_atKey (y := y.1) hat
  have hk := h.kok _ hh
  have hi := hh
  rw [h.has _ hk, inB_iff] at hi
  obtain ⟨x, hx, e⟩ := List.mem_map.1 hi
  obtain ⟨v, hV, ha⟩ := h.at_ x hx
  have h1 := ha (.held .nilFunc)
  rw [e] at h1
  have h2 := hat (.held .nilFunc)
  change D.atKey (kS (mk s)) _ = _ at h2
  rw [h1] at h2
  rw [h.rin _ _ hv] at h2
  injection h2 with h2
  subst h2
  exact ⟨x, hx, e, hV, hk⟩
end
/-- Is what stands at a name on one side alone, or not the same on both? -/
def chB {ι : Type} (nm : ι → ByteArray) (q : ι → ι → Bool) (now : List ι) (x : ι) : Bool := !(now.any fun y => decide (nm y = nm x) && q x y)
/-- Which names have changed. -/
def chS {ι : Type} (nm : ι → ByteArray) (q : ι → ι → Bool) (old now : List ι) (s : ByteArray) : Bool := (old.any fun x => decide (nm x = s) && chB nm q now x) || (inB s (now.map nm) && !inB s (old.map nm))
section
variable {ι : Type} {nm : ι → ByteArray} {q : ι → ι → Bool} {old now : List ι}
theorem uniq {xs : List ι} (h : (xs.map nm).Nodup) {x y : ι} (hx : x ∈ xs) (hy : y ∈ xs) (e : nm x = nm y) : x = y := by
  induction xs with
  | nil => cases hx
  | cons z zs ih =>
    rw [List.map_cons, List.nodup_cons] at h
    rcases List.mem_cons.1 hx with rfl | hx' <;> rcases List.mem_cons.1 hy with rfl | hy'
    · rfl
    · exact absurd (List.mem_map.2 ⟨y, hy', e.symm⟩) h.1
    · exact absurd (List.mem_map.2 ⟨x, hx', e⟩) h.1
    · exact ih h.2 hx' hy'
theorem chB_in (hn : (now.map nm).Nodup) {x y : ι} (hy : y ∈ now) (e : nm y = nm x) : chB nm q now x = !q x y := by
  unfold chB
  congr 1
  rw [Bool.eq_iff_iff, List.any_eq_true]
  constructor
  · rintro ⟨z, hz, h⟩
    rw [Bool.and_eq_true, decide_eq_true_eq] at h
    obtain rfl := uniq hn hz hy (h.1.trans e.symm)
    exact h.2
  · exact fun h => ⟨y, hy, by rw [Bool.and_eq_true, decide_eq_true_eq]; exact ⟨e, h⟩⟩
theorem chB_out {x : ι} (h : nm x ∉ now.map nm) : chB nm q now x = true := by
  unfold chB
  rw [Bool.not_eq_true', List.any_eq_false]
  intro y hy h2
  rw [Bool.and_eq_true, decide_eq_true_eq] at h2
  exact h (List.mem_map.2 ⟨y, hy, h2.1⟩)
/-- Of the same nothing has changed. -/
theorem chS_none {xs : List ι} (hr : ∀ x, q x x = true) (s : ByteArray) : chS nm q xs xs s = false := by
  unfold chS
  rw [Bool.or_eq_false_iff]
  constructor
  · rw [List.any_eq_false]
    intro x hx h
    rw [Bool.and_eq_true] at h
    have h2 := h.2
    unfold chB at h2
    rw [Bool.not_eq_true', List.any_eq_false] at h2
    exact h2 x hx (by rw [Bool.and_eq_true, decide_eq_true_eq]; exact ⟨rfl, hr x⟩)
  · cases inB s (xs.map nm) <;> rfl
/-- What the first range's round appends, by the name that has come. -/
def fstB (nm : ι → ByteArray) (q : ι → ι → Bool) (old now : List ι) (s : List UInt8) : Bool := old.any fun x => decide (nm x = mk s) && chB nm q now x
def sndB (nm : ι → ByteArray) (old : List ι) (s : List UInt8) : Bool := !inB (mk s) (old.map nm)
theorem fstB_in (ho : (old.map nm).Nodup) {x : ι} {s : List UInt8} (hx : x ∈ old) (e : nm x = mk s) : fstB nm q old now s = chB nm q now x := by
  unfold fstB
  rw [Bool.eq_iff_iff, List.any_eq_true]
  constructor
  · rintro ⟨z, hz, h⟩
    rw [Bool.and_eq_true, decide_eq_true_eq] at h
    obtain rfl := uniq ho hz hx (h.1.trans e.symm)
    exact h.2
  · exact fun h => ⟨x, hx, by rw [Bool.and_eq_true, decide_eq_true_eq]; exact ⟨e, h⟩⟩
/-- What both ranges have collected, sorted. -/
theorem ch_set {D1 D2 : DataW Value} {l1 l2 : Lit → Bool} {ss tt : List (List UInt8)} (h1 : Collected D1 l1 ss) (h2 : Collected D2 l2 tt) (e1 : ∀ k, l1 k = false) (e2 : ∀ k, l2 k = false)
    (g1 : ∀ s, okS s → Maps.has D1 (kS s) = inB s (old.map nm)) (g2 : ∀ s, okS s → Maps.has D2 (kS s) = inB s (now.map nm)) (k1 : ∀ s, Maps.has D1 (kS s) = true → okS s) (k2 : ∀ s, Maps.has D2 (kS s) = true → okS s) :
    SetL (chS nm q old now) (((ss.filter (fstB nm q old now) ++ tt.filter (sndB nm old)).mergeSort leB).map mk) := by
  have hs : ∀ x, x ∈ ss ↔ okS (mk x) ∧ inB (mk x) (old.map nm) = true := fun x => by
    rw [h1.2 x]
    constructor
    · rintro ⟨a, -⟩
      have := k1 (mk x) a
      exact ⟨this, by rw [← g1 _ this]; exact a⟩
    · rintro ⟨a, c⟩
      exact ⟨by have := g1 _ a; rw [c] at this; exact this, e1 _⟩
  have ht : ∀ x, x ∈ tt ↔ okS (mk x) ∧ inB (mk x) (now.map nm) = true := fun x => by
    rw [h2.2 x]
    constructor
    · rintro ⟨a, -⟩
      have := k2 (mk x) a
      exact ⟨this, by rw [← g2 _ this]; exact a⟩
    · rintro ⟨a, c⟩
      exact ⟨by have := g2 _ a; rw [c] at this; exact this, e2 _⟩
  have hnd : (ss.filter (fstB nm q old now) ++ tt.filter (sndB nm old)).Nodup := by
    refine List.nodup_append.2 ⟨h1.1.filter _, h2.1.filter _, fun a ha c hc e => ?_⟩
    subst e
    have p1 := (hs a).1 (List.mem_filter.1 ha).1
    have p2 := (List.mem_filter.1 hc).2
    unfold sndB at p2
    rw [p1.2] at p2
    exact absurd p2 (by decide)
  refine ⟨?_, fun s => ?_⟩
  · unfold Rise
    rw [List.pairwise_map]
    have hn3 := (List.mergeSort_perm (ss.filter (fstB nm q old now) ++ tt.filter (sndB nm old)) leB).symm.nodup_iff.1 hnd
    refine List.Pairwise.imp₂ (fun a b (h1 : a ≤ b) (h2 : a ≠ b) => ?_) (sorted_le _) hn3
    rw [of_mk, of_mk]
    exact Classical.byContradiction fun h => h2 (List.le_antisymm h1 (List.not_lt.1 h))
  · rw [List.mem_map]
    have hm : ∀ x, x ∈ (ss.filter (fstB nm q old now) ++ tt.filter (sndB nm old)).mergeSort leB ↔ okS (mk x) ∧ chS nm q old now (mk x) = true := fun x => by
      rw [(List.mergeSort_perm _ leB).mem_iff, List.mem_append, List.mem_filter, List.mem_filter, hs, ht]
      unfold chS fstB sndB
      rw [Bool.or_eq_true, Bool.and_eq_true, Bool.not_eq_true']
      constructor
      · rintro (⟨⟨a, c⟩, d⟩ | ⟨⟨a, c⟩, d⟩)
        · exact ⟨a, .inl d⟩
        · exact ⟨a, .inr ⟨c, by simpa using d⟩⟩
      · rintro ⟨a, (d | ⟨c, d⟩)⟩
        · refine .inl ⟨⟨a, ?_⟩, d⟩
          obtain ⟨z, hz, h⟩ := List.any_eq_true.1 d
          rw [Bool.and_eq_true, decide_eq_true_eq] at h
          exact inB_iff.2 (List.mem_map.2 ⟨z, hz, h.1⟩)
        · exact .inr ⟨⟨a, c⟩, by simpa using d⟩
    constructor
    · rintro ⟨x, hx, rfl⟩
      exact (hm x).1 hx
    · exact fun h => ⟨s.data.toList, (hm _).2 h, rfl⟩
end
end Go.Proofs.Ytngnegnofmpgkaa.Gr
