/- WALK of the law's spoil: what it writes to keeps its kinds. -/
import Derived.Test.YtngikbimlhoigaaDoorWb
import Derived.Test.YtngikbimlhoigaaDoorUa
namespace Go.Proofs.YtngikbimlhoigaaDoor
open Go.RowKit
/-- From B on the cells keep their kinds, the lists' headers themselves; below B all lies as it lay. -/
structure Kin (B : Nat) (W W' : World) : Prop where
  low : Below B W W'
  str : ∀ b o s, b < W.heap.size → W.cell? ⟨b, o, none⟩ = some (.string s) → ∃ s', W'.cell? ⟨b, o, none⟩ = some (.string s')
  int : ∀ b o i, b < W.heap.size → W.cell? ⟨b, o, none⟩ = some (.int .i64 i) → ∃ i', W'.cell? ⟨b, o, none⟩ = some (.int .i64 i')
  sli : ∀ b o a l c, b < W.heap.size → W.cell? ⟨b, o, none⟩ = some (.slice a l c) → W'.cell? ⟨b, o, none⟩ = some (.slice a l c)
  boo : ∀ b o x, b < W.heap.size → W.cell? ⟨b, o, none⟩ = some (.bool x) → W'.cell? ⟨b, o, none⟩ = some (.bool x)
  frz : ∀ b o, b < W.heap.size → W'.frozen? ⟨b, o, none⟩ = W.frozen? ⟨b, o, none⟩
theorem Kin.refl (B : Nat) (W : World) : Kin B W W := ⟨Below.refl B W, fun _ _ s _ h => ⟨s, h⟩, fun _ _ i _ h => ⟨i, h⟩, fun _ _ _ _ _ _ h => h, fun _ _ _ _ h => h, fun _ _ _ => rfl⟩
theorem Kin.trans {B : Nat} {W X Y : World} (h : Kin B W X) (k : Kin B X Y) : Kin B W Y :=
  have e : ∀ {b}, b < W.heap.size → b < X.heap.size := fun hb => Nat.lt_of_lt_of_le hb h.low.size
  ⟨h.low.trans k.low, fun b o s hb hs => by obtain ⟨s1, h1⟩ := h.str b o s hb hs; exact k.str b o s1 (e hb) h1, fun b o s hb hs => by obtain ⟨s1, h1⟩ := h.int b o s hb hs; exact k.int b o s1 (e hb) h1,
    fun b o a l c hb hs => k.sli b o a l c (e hb) (h.sli b o a l c hb hs), fun b o x hb hs => k.boo b o x (e hb) (h.boo b o x hb hs), fun b o hb => (k.frz b o (e hb)).trans (h.frz b o hb)⟩
theorem Kin.of_below {B : Nat} {W X : World} (hB : B ≤ W.heap.size) (h : Below W.heap.size W X) : Kin B W X :=
  have e : ∀ {b o}, b < W.heap.size → X.cell? ⟨b, o, none⟩ = W.cell? ⟨b, o, none⟩ := fun {b o} hb => h.cell (p := ⟨b, o, none⟩) hb
  ⟨h.mono hB, fun _ _ s hb hs => ⟨s, (e hb).trans hs⟩, fun _ _ s hb hs => ⟨s, (e hb).trans hs⟩, fun _ _ _ _ _ hb hs => (e hb).trans hs, fun _ _ _ hb hs => (e hb).trans hs, fun b o hb => h.frozen (p := ⟨b, o, none⟩) hb⟩
theorem kin_str {B : Nat} {W : World} {g q : Nat} {s t : ByteArray} (hB : B ≤ g) (hc : W.cell? ⟨g, q, none⟩ = some (.string s)) : Kin B W (W.setCell ⟨g, q, none⟩ (.string t)) := by
  have far : ∀ b o, ¬ (b = g ∧ o = q) → (W.setCell ⟨g, q, none⟩ (.string t)).cell? ⟨b, o, none⟩ = W.cell? ⟨b, o, none⟩ := fun b o h => set_far (by omega)
  refine ⟨(Below.refl B W).setCell (p := ⟨g, q, none⟩) hB _, fun b o s' _ h => ?_, fun b o s' _ h => ?_, fun b o a l c _ h => ?_, fun b o x _ h => ?_, fun b o _ => World.frozen?_setCell ..⟩
  · by_cases e : b = g ∧ o = q
    · obtain ⟨rfl, rfl⟩ := e; exact ⟨t, set_here hc⟩
    · exact ⟨s', (far b o e).trans h⟩
  all_goals
    by_cases e : b = g ∧ o = q
    · obtain ⟨rfl, rfl⟩ := e; rw [hc] at h; cases h
    · first | exact ⟨s', (far b o e).trans h⟩ | exact (far b o e).trans h
theorem kin_int {B : Nat} {W : World} {g q : Nat} {s t : Int} (hB : B ≤ g) (hc : W.cell? ⟨g, q, none⟩ = some (.int .i64 s)) : Kin B W (W.setCell ⟨g, q, none⟩ (.int .i64 t)) := by
  have far : ∀ b o, ¬ (b = g ∧ o = q) → (W.setCell ⟨g, q, none⟩ (.int .i64 t)).cell? ⟨b, o, none⟩ = W.cell? ⟨b, o, none⟩ := fun b o h => set_far (by omega)
  refine ⟨(Below.refl B W).setCell (p := ⟨g, q, none⟩) hB _, fun b o s' _ h => ?_, fun b o s' _ h => ?_, fun b o a l c _ h => ?_, fun b o x _ h => ?_, fun b o _ => World.frozen?_setCell ..⟩
  rotate_left
  · by_cases e : b = g ∧ o = q
    · obtain ⟨rfl, rfl⟩ := e; exact ⟨t, set_here hc⟩
    · exact ⟨s', (far b o e).trans h⟩
  all_goals
    by_cases e : b = g ∧ o = q
    · obtain ⟨rfl, rfl⟩ := e; rw [hc] at h; cases h
    · first | exact ⟨s', (far b o e).trans h⟩ | exact (far b o e).trans h
/-- An expression whose lists lie from B on, so deep at most; what it holds is not told. -/
def ShX (W : World) (B : Nat) : Nat → Hd → Prop
  | 0, _ => False
  | n + 1, h => (h.pl ≤ 140737488355328 ∧ h.ql ≤ 140737488355328 ∧ h.kl ≤ 140737488355328) ∧
    (0 < h.pl → ∃ b, h.p = some ⟨b, 0, none⟩ ∧ B ≤ b ∧ b < W.heap.size ∧ (∀ o, W.frozen? ⟨b, o, none⟩ = false) ∧ ∀ i, i < h.pl → ∃ s, W.cell? ⟨b, i, none⟩ = some (.string s)) ∧
    (0 < h.ql → ∃ b, h.q = some ⟨b, 0, none⟩ ∧ B ≤ b ∧ b < W.heap.size ∧ (∀ o, W.frozen? ⟨b, o, none⟩ = false) ∧ ∀ i, i < h.ql → ∃ (s : ByteArray) (x : Hd), W.cell? ⟨b, i * 8, none⟩ = some (.string s) ∧ HdAt W b (i * 8 + 1) x ∧ ShX W B n x) ∧
    (0 < h.kl → ∃ b, h.k = some ⟨b, 0, none⟩ ∧ B ≤ b ∧ b < W.heap.size ∧ (∀ o, W.frozen? ⟨b, o, none⟩ = false) ∧ ∀ i, i < h.kl → ∃ x : Hd, HdAt W b (i * 7) x ∧ ShX W B n x)
theorem kin_hd {B : Nat} {W X : World} (k : Kin B W X) {b o : Nat} {x : Hd} (hb : b < W.heap.size) (h : HdAt W b o x) : ∃ (op nn : Int) (s : ByteArray), HdAt X b o { x with op := op, n := nn, s := s } := by
  obtain ⟨op, h0⟩ := k.int b _ _ hb h.c0
  obtain ⟨nn, h1⟩ := k.int b _ _ hb h.c1
  obtain ⟨s, h2⟩ := k.str b _ _ hb h.c2
  exact ⟨op, nn, s, h0, h1, h2, k.sli b _ _ _ _ hb h.c3, k.sli b _ _ _ _ hb h.c4, k.boo b _ _ hb h.c5, k.sli b _ _ _ _ hb h.c6⟩
theorem sh_hd {W : World} {B : Nat} {x : Hd} {op nn : Int} {s : ByteArray} : ∀ {n : Nat}, ShX W B n x → ShX W B n { x with op := op, n := nn, s := s }
  | 0, h => h.elim
  | _ + 1, h => h
theorem ShX.kin {B : Nat} {W X : World} (k : Kin B W X) : ∀ {n : Nat} {h : Hd}, ShX W B n h → ShX X B n h
  | 0, _, h => h.elim
  | n + 1, h, ⟨h0, h1, h2, h3⟩ => by
    refine ⟨h0, fun l => ?_, fun l => ?_, fun l => ?_⟩
    · obtain ⟨b, e, hb, hl, hf, hc⟩ := h1 l
      exact ⟨b, e, hb, Nat.lt_of_lt_of_le hl k.low.size, fun o => (k.frz b o hl).trans (hf o), fun i hi => by obtain ⟨s, hs⟩ := hc i hi; exact k.str b i s hl hs⟩
    · obtain ⟨b, e, hb, hl, hf, hc⟩ := h2 l
      refine ⟨b, e, hb, Nat.lt_of_lt_of_le hl k.low.size, fun o => (k.frz b o hl).trans (hf o), fun i hi => ?_⟩
      obtain ⟨s, x, hs, hx, hI⟩ := hc i hi
      obtain ⟨s', hs'⟩ := k.str b _ s hl hs
      obtain ⟨op, nn, t, hx'⟩ := kin_hd k hl hx
      exact ⟨s', _, hs', hx', sh_hd (ShX.kin k hI)⟩
    · obtain ⟨b, e, hb, hl, hf, hc⟩ := h3 l
      refine ⟨b, e, hb, Nat.lt_of_lt_of_le hl k.low.size, fun o => (k.frz b o hl).trans (hf o), fun i hi => ?_⟩
      obtain ⟨x, hx, hI⟩ := hc i hi
      obtain ⟨op, nn, t, hx'⟩ := kin_hd k hl hx
      exact ⟨_, hx', sh_hd (ShX.kin k hI)⟩
theorem OwX.sh {W : World} {B : Nat} : ∀ {n : Nat} {h : Hd} {x : Ex}, OwX W B n h x → ShX W B n h
  | 0, _, _, h => h.elim
  | n + 1, h, .mk _ _ _ _ _ _ _, ⟨_, _, _, _, _, h5, h6, h7⟩ => by
    refine ⟨⟨h5.max, h6.max, h7.max⟩, fun l => ?_, fun l => ?_, fun l => ?_⟩
    · obtain ⟨b, e, hb, hl, hf, hc⟩ := h5.at_ l
      have := h5.count
      exact ⟨b, e, hb, hl, hf, fun i hi => ⟨_, hc i _ (List.getElem?_eq_getElem (by omega))⟩⟩
    · obtain ⟨b, e, hb, hl, hf, hc⟩ := h6.at_ l
      have := h6.count
      refine ⟨b, e, hb, hl, hf, fun i hi => ?_⟩
      obtain ⟨x, hn, hx, hI⟩ := hc i (by omega)
      exact ⟨_, x, hn, hx, OwX.sh hI⟩
    · obtain ⟨b, e, hb, hl, hf, hc⟩ := h7.at_ l
      have := h7.count
      refine ⟨b, e, hb, hl, hf, fun i hi => ?_⟩
      obtain ⟨x, hx, hI⟩ := hc i (by omega)
      exact ⟨x, hx, OwX.sh hI⟩
end Go.Proofs.YtngikbimlhoigaaDoor
