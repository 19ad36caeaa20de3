/- Ti, Tj, Ua, Ub, Vt, Vu -/
import Derived.Maps.AppendAt
import Derived.Deep.AppendLies
import Derived.Test.YtlpilbghblbpbaaDoorY9
import Derived.Test.YtlpilbghblbpbaaDoorY13
/- WALK of expr's Refs. -/
namespace Go.Proofs.YtlpilbghblbpbaaDoor
open Go.RowKit Go.Shelf
attribute [local go_sem] Oper.semAt_some
/-- The name that an expression reads. -/
def ref1 (x : Ex) : List ByteArray := if x.op = 9 then x.path.take 1 else []
def refsL (l : List Ex) : List ByteArray := l.flatMap ref1
theorem ref1_len (x : Ex) : (ref1 x).length ≤ 1 := by unfold ref1; split <;> simp; omega
theorem refsL_len : ∀ l : List Ex, (refsL l).length ≤ l.length
  | [] => by simp [refsL]
  | x :: l => by
    have h1 := ref1_len x
    have h2 := refsL_len l
    simp only [refsL, List.flatMap_cons, List.length_append, List.length_cons] at h2 ⊢
    omega
theorem refsL_snoc (l : List Ex) (x : Ex) : refsL (l ++ [x]) = refsL l ++ ref1 x := by simp [refsL]
/-- Between two rounds. -/
structure RefI (w : World) (h : Hd) (F : Nat → Prop) (pre : List HX) (X : World) : Prop where
  far : ∀ r, F r → w.heap.size + 3 ≤ r
  bnd : ∀ r, F r → r < X.heap.size
  size : w.heap.size + 3 ≤ X.heap.size
  low : Below w.heap.size w X
  box : BoxH X (w.heap.size + 1 + 1) h
  row : ∃ v, Boxed X (w.heap.size + 1) 27 v ∧ X.ownsRow (w.heap.size + 3) 9 1 v (refsL (pre.map (·.2))).length ((refsL (pre.map (·.2))).map Value.string) ∧ ∀ g, v.ownBlock = some g → ¬ F g
theorem own_lt {W : World} {base e size k : Nat} {v : Value} {xs : List Value} (hr : W.ownsRow base e size v k xs) : ∀ g, v.ownBlock = some g → g < W.heap.size := fun g hg => by
  rcases hr.2 with ⟨rfl, _⟩ | ⟨g', cap, cur, rfl, _, hgb, _⟩
  · simp [Value.ownBlock] at hg
  · obtain rfl : g' = g := by simpa [Value.ownBlock] using hg
    exact (Array.getElem?_eq_some_iff.1 hgb).1
theorem refI_fr (w : World) (h : Hd) : Fr (RefI w h) where
  grow := fun {F pre X Y} hi hg => ⟨fun r hr => hr.elim (hi.far r) (fun h3 => Nat.le_trans hi.size h3.1), fun r hr => hr.elim (fun h3 => Nat.lt_of_lt_of_le (hi.bnd r h3) hg.size) (fun h3 => h3.2), Nat.le_trans hi.size hg.size, hi.low.grown hg hi.low.size (fun _ e => by cases e), (hg.block _ hi.box.lt (fun e => by cases e)).trans hi.box, by
    obtain ⟨v, h1, h2, h3⟩ := hi.row
    exact ⟨v, h1.kept hg (by simp), h2.kept hg (by cases v.ownBlock <;> simp), fun g hv hF => hF.elim (h3 g hv) (fun h4 => by have := own_lt h2 g hv; omega)⟩⟩
  put := fun {F pre X Y r} hi hr hg => ⟨hi.far, fun r h3 => Nat.lt_of_lt_of_le (hi.bnd r h3) hg.size, Nat.le_trans hi.size hg.size, hi.low.grown hg hi.low.size (fun k e => by cases e; have := hi.far _ hr; omega), (hg.block _ hi.box.lt (fun e => by cases e; have := hi.far _ hr; omega)).trans hi.box, by
    obtain ⟨v, h1, h2, h3⟩ := hi.row
    exact ⟨v, h1.kept hg (fun e => by cases e; have := hi.far _ hr; omega), h2.kept hg (.inr (fun e => h3 r e hr)), h3⟩⟩
  less := fun hF hi => ⟨fun r hr => hi.far r (hF r hr), fun r hr => hi.bnd r (hF r hr), hi.size, hi.low, hi.box, by
    obtain ⟨v, h1, h2, h3⟩ := hi.row
    exact ⟨v, h1, h2, fun g hg hFg => h3 g hg (hF g hFg)⟩⟩
/-- A list of texts of the call's own. -/
def TxtsP (l : List ByteArray) (w : World) (e : Ending) (w' : World) : Prop := ∃ v, e = .returned v ∧ w'.ownsRow w.heap.size 9 1 v l.length (l.map Value.string) ∧ Below w.heap.size w w'
theorem owns_up {W : World} {base base' e size k : Nat} {v : Value} {xs : List Value} (hr : W.ownsRow base e size v k xs) (h : base' ≤ base) : W.ownsRow base' e size v k xs := by
  refine ⟨hr.1, ?_⟩
  rcases hr.2 with h1 | ⟨g, cap, cur, hv, hb, rest⟩
  · exact .inl h1
  · exact .inr ⟨g, cap, cur, hv, Nat.le_trans h hb, rest⟩
end Go.Proofs.YtlpilbghblbpbaaDoor
/- WALKS of the law's sample and awake: the page's example. -/
namespace Go.Proofs.YtlpilbghblbpbaaDoor
open Go.RowKit
def tA : ByteArray := ⟨#[97]⟩
def tB : ByteArray := ⟨#[98]⟩
def tC : ByteArray := ⟨#[99]⟩
def tX : ByteArray := ⟨#[120]⟩
def exC : Ex := .mk 9 0 ⟨#[]⟩ [tC] [] false []
def exS : Ex := .mk 10 0 ⟨#[]⟩ [] [(tX, exC)] false []
def exA : Ex := .mk 9 0 ⟨#[]⟩ [tA, tB] [] false []
def smp : Ex := .mk 11 0 ⟨#[]⟩ [] [] false [exA, exS]
def SmpP (w : World) (e : Ending) (w' : World) : Prop := ∃ h : Hd, e = .returned h.agg ∧ InX w' 3 h smp ∧ Below w.heap.size w w'
theorem str0 (w : World) : Nm.StrRow w none 0 [] := ⟨rfl, by omega, fun i x h => by simp at h, fun h => absurd h (by omega)⟩
theorem ks0 (I : Hd → Ex → Prop) (w : World) : InKs I w none 0 [] := ⟨rfl, by omega, fun i h => absurd h (by simp)⟩
theorem ps0 (I : Hd → Ex → Prop) (w : World) : InPs I w none 0 [] := ⟨rfl, by omega, fun i h => absurd h (by simp)⟩
/-- A reference's header over a row of its own. -/
theorem inx_ref {w : World} {n b l c : Nat} {pa : List ByteArray} (hb : w.heap[b]? = some (.cells (pa.map Value.string).toArray 9)) (hl : pa.length = l) (hz : l ≤ 1000) (hs : ∀ x ∈ pa, x.size ≤ 1000) :
    InX w (n + 1) ⟨9, 0, ⟨#[]⟩, some ⟨b, 0, none⟩, l, c, none, 0, 0, false, none, 0, 0⟩ (.mk 9 0 ⟨#[]⟩ pa [] false []) :=
  ⟨rfl, rfl, rfl, rfl, (by show (0 : Nat) ≤ _; omega), ⟨hl, by show l ≤ _; omega, fun i x h => by have := hs x (List.mem_of_getElem? h); omega, fun _ => ⟨b, 0, rfl, (Array.getElem?_eq_some_iff.1 hb).1, fun i x h => by simp [World.cell?, hb, h]⟩⟩, ps0 _ _, ks0 _ _⟩
theorem heap_at {X : World} {k : Nat} (o : Obj) (h : X.heap.size = k) : (X.alloc o).heap[k]? = some o := by subst h; exact World.alloc_heap_new X o
theorem heap_on {X : World} {k : Nat} {x : Obj} (o : Obj) (h : X.heap[k]? = some x) : (X.alloc o).heap[k]? = some x := (Below.heap_alloc _ _ _ (Array.getElem?_eq_some_iff.1 h).1).trans h
theorem smp_in {W : World} {a b c d : Nat} (h1 : W.heap[a]? = some (.cells #[.string ⟨#[97]⟩, .string ⟨#[98]⟩] 9)) (h2 : W.heap[b]? = some (.cells #[.string ⟨#[99]⟩] 9))
    (h3 : W.heap[c]? = some (.cells #[.string ⟨#[120]⟩, .int .i64 9, .int .i64 0, .string ⟨#[]⟩, .slice (some ⟨b, 0, none⟩) 1 1, .slice none 0 0, .bool false, .slice none 0 0] 69))
    (h4 : W.heap[d]? = some (.cells #[.int .i64 9, .int .i64 0, .string ⟨#[]⟩, .slice (some ⟨a, 0, none⟩) 2 2, .slice none 0 0, .bool false, .slice none 0 0, .int .i64 10, .int .i64 0, .string ⟨#[]⟩, .slice none 0 0, .slice (some ⟨c, 0, none⟩) 1 1, .bool false, .slice none 0 0] 38)) :
    InX W 3 ⟨11, 0, ⟨#[]⟩, none, 0, 0, none, 0, 0, false, some ⟨d, 0, none⟩, 2, 2⟩ smp := by
  have lc := (Array.getElem?_eq_some_iff.1 h3).1
  have ld := (Array.getElem?_eq_some_iff.1 h4).1
  have hC : InX W 1 ⟨9, 0, ⟨#[]⟩, some ⟨b, 0, none⟩, 1, 1, none, 0, 0, false, none, 0, 0⟩ exC := inx_ref (pa := [tC]) h2 rfl (by omega) (fun x hx => by simp at hx; subst hx; decide)
  have hA : InX W 2 ⟨9, 0, ⟨#[]⟩, some ⟨a, 0, none⟩, 2, 2, none, 0, 0, false, none, 0, 0⟩ exA := inx_ref (pa := [tA, tB]) h1 rfl (by omega) (fun x hx => by simp at hx; rcases hx with rfl | rfl <;> decide)
  have hS : InX W 2 ⟨10, 0, ⟨#[]⟩, none, 0, 0, some ⟨c, 0, none⟩, 1, 1, false, none, 0, 0⟩ exS := by
    refine ⟨rfl, rfl, rfl, rfl, (by show (0 : Nat) ≤ _; omega), str0 W, ⟨rfl, by show (1 : Nat) ≤ _; omega, fun i hi => ?_⟩, ks0 _ _⟩
    obtain rfl : i = 0 := by simpa using hi
    exact ⟨c, 0, _, rfl, lc, by show (1 : Nat) ≤ _; omega, by simp [World.cell?, h3]; rfl, ⟨by simp [World.cell?, h3], by simp [World.cell?, h3], by simp [World.cell?, h3], by simp [World.cell?, h3], by simp [World.cell?, h3], by simp [World.cell?, h3], by simp [World.cell?, h3]⟩, hC⟩
  refine ⟨rfl, rfl, rfl, rfl, (by show (0 : Nat) ≤ _; omega), str0 W, ps0 _ _, ⟨rfl, by show (2 : Nat) ≤ _; omega, fun i hi => ?_⟩⟩
  have hi2 : i = 0 ∨ i = 1 := by simp at hi; omega
  rcases hi2 with rfl | rfl
  · exact ⟨d, 0, _, rfl, ld, ⟨by simp [World.cell?, h4], by simp [World.cell?, h4], by simp [World.cell?, h4], by simp [World.cell?, h4], by simp [World.cell?, h4], by simp [World.cell?, h4], by simp [World.cell?, h4]⟩, hA⟩
  · exact ⟨d, 0, _, rfl, ld, ⟨by simp [World.cell?, h4], by simp [World.cell?, h4], by simp [World.cell?, h4], by simp [World.cell?, h4], by simp [World.cell?, h4], by simp [World.cell?, h4], by simp [World.cell?, h4]⟩, hS⟩
theorem smp_refs : refsL (allN 3 smp) = [tA, tC] := by kernel_rfl
theorem smp_size : szW (allN 3 smp).length = 4 := by kernel_rfl
theorem smp_depth : depW 3 smp = 3 := by kernel_rfl
theorem smp_ris : Nm.risB [tX] = true := (Nm.ris_yes (Nm.Ris.one (x := tX) rfl (by kernel_rfl))).symm
theorem smp_right : rightB 3 smp = true := by
  have h1 : ownB smp = true := by unfold smp; rw [ownB_eq, if_neg (by decide), if_pos (by decide)]; rfl
  have h2 : ownB exA = true := by unfold exA; rw [ownB_eq, if_neg (by decide), if_neg (by decide), if_neg (by decide), if_pos (by decide)]; kernel_rfl
  have h3 : ownB exS = true := by
    unfold exS; rw [ownB_eq, if_pos rfl]
    have : risP [(tX, exC)] = true := by unfold risP; show (decide (1 ≤ 32) && Nm.risB [tX]) = true; rw [smp_ris]; rfl
    rw [this]; rfl
  have h4 : ownB exC = true := by unfold exC; rw [ownB_eq, if_neg (by decide), if_neg (by decide), if_neg (by decide), if_pos (by decide)]; kernel_rfl
  show [smp, exA, exS, exC].all ownB = true
  simp [h1, h2, h3, h4]
end Go.Proofs.YtlpilbghblbpbaaDoor
/- WALK of the reference's Parts; rows of expressions of a call's own. -/
namespace Go.Proofs.YtlpilbghblbpbaaDoor
open Go.RowKit
theorem flat_get {α : Type} {s : Nat} : ∀ (L : List (List α)) (i r : Nat) (_ : ∀ x ∈ L, x.length = s) (_ : r < s) (hi : i < L.length), L.flatten[i * s + r]? = L[i][r]?
  | x :: L, 0, r, hs, hr, _ => by
    have : x.length = s := hs x (by simp)
    rw [Nat.zero_mul, Nat.zero_add, List.flatten_cons, List.getElem?_append_left (by omega)]
    rfl
  | x :: L, i + 1, r, hs, hr, hi => by
    have hx : x.length = s := hs x (by simp)
    rw [List.flatten_cons, List.getElem?_append_right (by rw [hx, Nat.add_mul]; omega)]
    have e : (i + 1) * s + r - x.length = i * s + r := by rw [hx, Nat.add_mul]; omega
    rw [e, flat_get L i r (fun y hy => hs y (by simp [hy])) hr (by simpa using hi)]
    rfl
theorem info26 : (Tryd.prog.info? 38).map (fun i => (i.zero, i.size, i.bytes)) = some (some (.agg #[.int .i64 0, .int .i64 0, .string ByteArray.empty, .slice none 0 0, .slice none 0 0, .bool false, .slice none 0 0]), 7, 112) := by kernel_rfl
/-- The cells of heads, one behind the other. -/
def hcells (L : List HX) : List Value := (L.map fun y => y.1.vals.toList).flatten
theorem hcells_snoc (L : List HX) (y : HX) : hcells (L ++ [y]) = hcells L ++ y.1.vals.toList := by simp [hcells]
theorem hcells_append (L M : List HX) : hcells (L ++ M) = hcells L ++ hcells M := by simp [hcells]
theorem hcells_len : ∀ L : List HX, (hcells L).length = L.length * 7
  | [] => rfl
  | y :: L => by
    have := hcells_len L
    simp only [hcells, List.map_cons, List.flatten_cons, List.length_append, List.length_cons] at this ⊢
    rw [this]; simp [Hd.vals]; omega
theorem vals_one (h : Hd) : ∀ u ∈ h.vals.toList, u.oneCell' = true := by
  intro u hu; simp [Hd.vals] at hu; rcases hu with rfl | rfl | rfl | rfl | rfl | rfl | rfl <;> rfl
theorem hcells_one (L : List HX) : ∀ u ∈ hcells L, u.oneCell' = true := by
  intro u hu
  obtain ⟨l, hl, hu2⟩ := List.mem_flatten.1 hu
  obtain ⟨y, _, rfl⟩ := List.mem_map.1 hl
  exact vals_one y.1 u hu2
/-- A row of heads that a call owns, as a list of expressions. -/
theorem row_ks {w : World} {base n : Nat} {v : Value} {L : List HX} {I : Hd → Ex → Prop} (h : w.ownsRow base 38 7 v n (hcells L)) (hn : L.length = n) (hz : n ≤ 140737488355328) (hI : ∀ y ∈ L, I y.1 y.2) :
    ∃ a c, v = .slice a n c ∧ InKs I w a n (L.map (·.2)) := by
  rcases h.2 with ⟨rfl, hn0⟩ | ⟨g, cap, cur, rfl, hb, hg, hcap, hm, hsz, htake⟩
  · obtain rfl : n = 0 := hn0
    obtain rfl : L = [] := List.length_eq_zero_iff.1 hn
    exact ⟨none, 0, rfl, ks0 _ _⟩
  · refine ⟨_, cap, rfl, by simpa using hn, hz, fun i hi => ?_⟩
    have hi2 : i < L.length := by simpa using hi
    have hc : ∀ r, r < 7 → w.cell? ⟨g, i * 7 + r, none⟩ = (L[i].1.vals.toList)[r]? := fun r hr => by
      have h1 := h.cells (g := g) rfl (i * 7 + r)
      have h2 : (hcells L)[i * 7 + r]? = (L[i].1.vals.toList)[r]? := by
        unfold hcells
        rw [flat_get _ i r (fun x hx => by obtain ⟨y, _, rfl⟩ := List.mem_map.1 hx; rfl) hr (by simpa using hi2)]
        simp
      have h3 : ∃ u, (L[i].1.vals.toList)[r]? = some u := ⟨_, List.getElem?_eq_getElem (by simp [Hd.vals]; omega)⟩
      obtain ⟨u, hu⟩ := h3
      rw [hu] at h2 ⊢
      have := h1 u h2
      rwa [show (⟨g, 0, none⟩ : Addr).add (i * 7 + r) = ⟨g, i * 7 + r, none⟩ by unfold Addr.add; split <;> simp_all] at this
    refine ⟨g, 0, L[i].1, rfl, (Array.getElem?_eq_some_iff.1 hg).1, ?_, by simpa using hI _ (List.getElem_mem hi2)⟩
    rw [Nat.zero_add]
    exact ⟨hc 0 (by omega), hc 1 (by omega), hc 2 (by omega), hc 3 (by omega), hc 4 (by omega), hc 5 (by omega), hc 6 (by omega)⟩
/-- A list of expressions, and nothing that was there has changed. -/
def KsP (w0 : World) (n : Nat) (l : List Ex) (w : World) (e : Ending) (w' : World) : Prop := ∃ a k c, e = .returned (.slice a k c) ∧ InKs (InX w0 n) w' a k l ∧ Below w.heap.size w w' ∧ ∀ b off, a = some ⟨b, off, none⟩ → 0 < k → b < w0.heap.size ∨ w.heap.size ≤ b
set_option maxRecDepth 100000 in
set_option maxHeartbeats 4000000 in
theorem rparts_any (w0 w : World) (n : Nat) (h : Hd) (x : Ex) (hx : InX w0 (n + 1) h x) (hb0 : Below w0.heap.size w0 w) (hsm : x.ps.length ≤ 1000000) : Calls Tryd.prog 56 #[h.agg] w (KsP w0 n x.parts w) := by
  obtain ⟨xop, xn, xs, xpath, ps, xo, ks⟩ := x
  obtain ⟨op, nn, s, p, pl, pc, q, ql, qc, o, k, kl, kc⟩ := h
  replace hsm : ps.length ≤ 1000000 := hsm
  obtain ⟨rfl, rfl, rfl, rfl, _, _, hps, hks⟩ := hx
  dsimp only at hps hks
  unfold Hd.agg
  dsimp only
  by_cases h10 : op = 10
  · subst h10
    obtain ⟨i0, hi, hz0, hz1, hz2⟩ := info_parts info26
    have hmax := hps.max
    obtain rfl := hps.count
    have HPS := Lib.hid hps.at_
    have HB0 := Lib.hid hb0
    have HBX : Hid (BoxH (w.alloc (.cells #[.int .i64 10, .int .i64 nn, .string s, .slice p pl pc, .slice q ps.length qc, .bool o, .slice k kl kc] 38)) w.heap.size ⟨10, nn, s, p, pl, pc, q, ps.length, qc, o, k, kl, kc⟩) := World.alloc_heap_new w _
    have HB1 : Hid (Below w.heap.size w (w.alloc (.cells #[.int .i64 10, .int .i64 nn, .string s, .slice p pl pc, .slice q ps.length qc, .bool o, .slice k kl kc] 38))) := below_alloc (Below.refl _ _) _
    clear hps hks hb0
    go_enter Tryd.func56, Tryd.ntmps56
    go_wp2_with fail
    obtain ⟨W1, hW1⟩ : ∃ W1, w.alloc (.cells #[.int .i64 10, .int .i64 nn, .string s, .slice p pl pc, .slice q ps.length qc, .bool o, .slice k kl kc] 38) = W1 := ⟨_, rfl⟩
    rw [hW1] at HBX HB1 ⊢
    clear hW1
    go_loopw [3, 4] (fun v i wr => ∃ (j : Nat) (L : List HX), j ≤ ps.length ∧ i = .int .i64 j ∧ Hid (L.map (·.2) = (ps.take j).map (·.2) ∧ ∀ y ∈ L, InX w0 n y.1 y.2) ∧ Hid (wr.ownsRow W1.heap.size 38 7 v j (hcells L)) ∧ Hid (Below W1.heap.size W1 wr)) (fun _ i _ => ps.length - (intOf i).toNat)
    case atStart => exact ⟨0, [], Nat.zero_le _, rfl, ⟨rfl, fun y hy => absurd hy (by simp)⟩, World.ownsRow_nil _ _ _ _, Below.refl _ _⟩
    case round =>
      obtain ⟨j, L, hj, rfl, hL, hO, hB⟩ := hrel
      rename World => wr
      have v1 := ((hB.out.block _ HBX.out.lt).trans HBX.out : BoxH wr w.heap.size _) |> BoxH.cells |> HdAt.c4
      simp only [Nat.zero_add] at v1
      have hbw := below_step HB0.out (below_step HB1.out hB.out)
      have hz1b := hB.out.size
      have hlb := HBX.out.lt
      by_cases hlt : j < ps.length
      · have hki : (j : Int) < (ps.length : Int) := by omega
        have hk0 : (0 : Int) ≤ (j : Int) := by omega
        obtain ⟨b, off, x, rfl, lt, -, -, hx, hI⟩ := HPS.out j hlt
        have hx2 := HdAt.below hx hbw lt
        have HL2 := Lib.hid (show (L ++ [((x, ps[j].2) : HX)]).map (·.2) = (ps.take (j + 1)).map (·.2) ∧ ∀ y ∈ L ++ [((x, ps[j].2) : HX)], InX w0 n y.1 y.2 from ⟨by rw [List.map_append, hL.out.1, List.take_succ_eq_append_getElem hlt, List.map_append]; rfl, fun y hy => by
          rcases List.mem_append.1 hy with h | h
          · exact hL.out.2 y h
          · rw [List.mem_singleton.1 h]; exact hI⟩)
        have HS2 := Lib.hid (hcells_snoc L (x, ps[j].2))
        obtain ⟨op2, nn2, s2, p2, pl2, pc2, q2, ql2, qc2, o2, k2, kl2, kc2⟩ := x
        obtain ⟨c0, c1, c2, c3, c4, c5, c6⟩ := hx2
        dsimp only at c0 c1 c2 c3 c4 c5 c6
        clear hx hI hbw lt hL
        have HCN : Hid (∀ r u, [Value.int .i64 op2, .int .i64 nn2, .string s2, .slice p2 pl2 pc2, .slice q2 ql2 qc2, .bool o2, .slice k2 kl2 kc2][r]? = some u → (wr.alloc (.cells #[.int .i64 op2, .int .i64 nn2, .string s2, .slice p2 pl2 pc2, .slice q2 ql2 qc2, .bool o2, .slice k2 kl2 kc2] 38)).cell? ((⟨wr.heap.size, 0, none⟩ : Addr).add r) = some u) := World.news_of_block (World.alloc_heap_new wr _)
        go_wp2_with (at_builtin; refine wpList_append_own _ rfl _ _ 22 rfl W1.heap.size 38 i0 _ 7 112 Tryd.underlying22 hi hz0 hz1 hz2 rfl (by decide) _ j _ rfl (hO.out.alloc _) ⟨wr.heap.size, 0, none⟩ 1 1 [.int .i64 op2, .int .i64 nn2, .string s2, .slice p2 pl2 pc2, .slice q2 ql2 qc2, .bool o2, .slice k2 kl2 kc2] rfl rfl HCN.out (fun x hx => by simp at hx; rcases hx with rfl | rfl | rfl | rfl | rfl | rfl | rfl <;> rfl) (by unfold maxLen; omega) (by omega) (by simp; omega) ?_; intro v' w3 hown' hgrow3 hnil3; have OW3 := Lib.hid hown'; have G3 := Lib.hid hgrow3; clear hown' hgrow3 hnil3)
        go_roundw
        case rel => exact ⟨j + 1, _, by omega, by go_num, HL2.out, (by rw [HS2.out]; exact OW3.out), ((hB.out.alloc hz1b _).grown G3.out (by simp; omega) (own_base hO.out))⟩
        case measure => simp [intOf]; omega
      · obtain rfl : j = ps.length := by omega
        have hl2 : L.length = ps.length := by have := congrArg List.length hL.out.1; simpa using this
        obtain ⟨a, c, rfl, hK⟩ := row_ks hO.out hl2 hmax hL.out.2
        have HK := Lib.hid hK
        have HL := Lib.hid hL.out.1
        have HOB := Lib.hid (own_base hO.out)
        clear hK hbw
        go_wp2_with fail
        go_ret
        refine ⟨_, _, _, rfl, ?_, below_step HB1.out hB.out, fun b off e _ => .inr (by subst e; have := HOB.out b rfl; have := HB1.out.size; omega)⟩
        rw [HL.out, List.take_length] at HK
        exact HK.out
  · have e1 : (op == 10) = false := by simpa using h10
    have e2 : (op != 10) = true := by simpa using h10
    have HK := Lib.hid (show InKs (InX w0 n) w k kl ks from hks.below (fun _ _ h => h) hb0)
    have HE := Lib.hid (show (Ex.mk op nn s xpath ps o ks).parts = ks from if_neg h10)
    have HK0 := Lib.hid hks
    clear h10 hps hks
    go_enter Tryd.func56, Tryd.ntmps56
    go_wp2_with fail
    go_ret
    refine ⟨_, _, _, rfl, ?_, below_alloc (Below.refl _ _) _, fun b off e h0 => .inl ?_⟩
    case refine_2 =>
      obtain ⟨b2, off2, y, e2, lt, _⟩ := HK0.out.at_ 0 (by rw [HK0.out.count]; exact h0)
      rw [e2] at e
      injection e with e3
      injection e3 with e4
      omega
    rw [HE.out]
    exact HK.out.below (fun _ _ h => h) (below_alloc (Below.refl _ _) _)
end Go.Proofs.YtlpilbghblbpbaaDoor
/- WALKS of the reference's Depth and All. -/
namespace Go.Proofs.YtlpilbghblbpbaaDoor
open Go.RowKit
/-- How many expressions there are in all, those of all lists. -/
def tN : Nat → Ex → Nat
  | 0, _ => 0
  | n + 1, x => 1 + (x.ps.map fun p => tN n p.2).sum + (x.ks.map (tN n)).sum
theorem sum_mem {l : List Nat} {a : Nat} (h : a ∈ l) : a ≤ l.sum := by
  induction l with
  | nil => cases h
  | cons b l ih =>
    rw [List.sum_cons]
    rcases List.mem_cons.1 h with rfl | h
    · omega
    · have := ih h; omega
theorem sum_len {l : List Nat} (h : ∀ a ∈ l, 1 ≤ a) : l.length ≤ l.sum := by
  induction l with
  | nil => simp
  | cons b l ih =>
    rw [List.sum_cons, List.length_cons]
    have h1 := h b (by simp)
    have h2 := ih fun a ha => h a (by simp [ha])
    omega
theorem tN_pos {w : World} {n : Nat} {h : Hd} {x : Ex} (hx : InX w n h x) : 1 ≤ tN n x := by
  obtain ⟨m, rfl⟩ := hx.pos
  show 1 ≤ 1 + _ + _
  omega
theorem ps_each {w : World} {n : Nat} {h : Hd} {x : Ex} (hx : InX w (n + 1) h x) : ∀ p ∈ x.ps, ∃ h', InX w n h' p.2 := fun p hp => by
  obtain ⟨op, m, s, pa, ps, o, ks⟩ := x
  obtain ⟨i, hi, rfl⟩ := List.mem_iff_getElem.1 hp
  obtain ⟨b, off, y, _, _, _, _, _, hI⟩ := hx.2.2.2.2.2.2.1.at_ i hi
  exact ⟨y, hI⟩
theorem ks_each {w : World} {n : Nat} {h : Hd} {x : Ex} (hx : InX w (n + 1) h x) : ∀ k ∈ x.ks, ∃ h', InX w n h' k := fun k hk => by
  obtain ⟨op, m, s, pa, ps, o, ks⟩ := x
  obtain ⟨i, hi, rfl⟩ := List.mem_iff_getElem.1 hk
  obtain ⟨b, off, y, _, _, _, hI⟩ := hx.2.2.2.2.2.2.2.at_ i hi
  exact ⟨y, hI⟩
theorem ps_len {w : World} {n : Nat} {h : Hd} {x : Ex} (hx : InX w (n + 1) h x) : x.ps.length + x.ks.length + 1 ≤ tN (n + 1) x := by
  have h1 := sum_len (l := x.ps.map fun p => tN n p.2) (fun a ha => by obtain ⟨p, hp, rfl⟩ := List.mem_map.1 ha; obtain ⟨h', hh⟩ := ps_each hx p hp; exact tN_pos hh)
  have h2 := sum_len (l := x.ks.map (tN n)) (fun a ha => by obtain ⟨p, hp, rfl⟩ := List.mem_map.1 ha; obtain ⟨h', hh⟩ := ks_each hx p hp; exact tN_pos hh)
  rw [List.length_map] at h1 h2
  show _ ≤ 1 + _ + _
  omega
theorem part_le {n : Nat} {x y : Ex} (hy : y ∈ x.parts) : tN n y ≤ tN (n + 1) x := by
  unfold Ex.parts at hy
  show _ ≤ 1 + _ + _
  split at hy
  · obtain ⟨p, hp, rfl⟩ := List.mem_map.1 hy
    have := sum_mem (l := x.ps.map fun p => tN n p.2) (List.mem_map.2 ⟨p, hp, rfl⟩)
    omega
  · have := sum_mem (l := x.ks.map (tN n)) (List.mem_map.2 ⟨y, hy, rfl⟩)
    omega
theorem parts_sum {n : Nat} {x : Ex} : 1 + (x.parts.map (tN n)).sum ≤ tN (n + 1) x := by
  unfold Ex.parts
  show _ ≤ 1 + _ + _
  split
  · rw [List.map_map]; show 1 + (x.ps.map fun p => tN n p.2).sum ≤ _; omega
  · omega
theorem allN_le : ∀ (n : Nat) (x : Ex), (allN n x).length ≤ tN n x
  | 0, _ => Nat.le_refl _
  | n + 1, x => by
    have h := parts_sum (n := n) (x := x)
    have h2 : ∀ l : List Ex, (l.flatMap (allN n)).length ≤ (l.map (tN n)).sum := fun l => by
      induction l with
      | nil => simp
      | cons y l ih =>
        rw [List.flatMap_cons, List.length_append, List.map_cons, List.sum_cons]
        have := allN_le n y; omega
    have h3 := h2 x.parts
    show (x :: x.parts.flatMap (allN n)).length ≤ _
    rw [List.length_cons]; omega
theorem mxL_max (l : List Int) (x : Int) : mxL (l ++ [x]) = if mxL l < x then x else mxL l := by
  rw [mxL_snoc]; omega
set_option maxRecDepth 100000 in
set_option maxHeartbeats 4000000 in
theorem rdepth_step (w0 : World) (n : Nat) (ih : ∀ (h : Hd) (x : Ex) (w : World), InX w0 n h x → Below w0.heap.size w0 w → tN n x ≤ 1000000 → Calls Tryd.prog 41 #[h.agg] w (IntP (depW n x) w))
    (h : Hd) (x : Ex) (w : World) (hx : InX w0 (n + 1) h x) (hb0 : Below w0.heap.size w0 w) (hsm : tN (n + 1) x ≤ 1000000) : Calls Tryd.prog 41 #[h.agg] w (IntP (depW (n + 1) x) w) := by
  have hpl := ps_len hx
  have KP := fun (W : World) (hW : Below w.heap.size w W) => Lib.hid (rparts_any w0 W n h x hx (below_step hb0 hW) (by omega))
  have HP := Lib.hid (fun y (hy : y ∈ x.parts) => part_le (n := n) hy)
  have HSM := Lib.hid hsm
  have IH := Lib.hid ih
  have HB0 := Lib.hid hb0
  obtain ⟨op, nn, s, p, pl, pc, q, ql, qc, o, k, kl, kc⟩ := h
  unfold Hd.agg at KP
  unfold Hd.agg
  dsimp only at KP ⊢
  have HB1 : Hid (Below w.heap.size w (w.alloc (.cells #[.int .i64 op, .int .i64 nn, .string s, .slice p pl pc, .slice q ql qc, .bool o, .slice k kl kc] 38))) := below_alloc (Below.refl _ _) _
  obtain ⟨L, hL⟩ : ∃ L, x.parts = L := ⟨_, rfl⟩
  have HD := Lib.hid (show depW (n + 1) x = wrap64 (1 + mxL (L.map (depW n))) by rw [← hL]; rfl)
  rw [hL] at HP KP
  clear hx hb0 hsm ih hpl hL
  go_enter Tryd.func41, Tryd.ntmps41
  go_wp2_with (go_at_call 56; refine (KP _ HB1.out).out.mono ?_; rintro e w2 ⟨a, kk, cc, rfl, hk, hb2, -⟩; have HK := Lib.hid hk; have HB2 := Lib.hid (below_step HB1.out hb2); clear hk hb2)
  clear KP HB1
  obtain rfl := HK.out.count
  have hkm := HK.out.max
  go_loopw [3, 5, 6] (fun v i _ wr => ∃ (j : Nat), j ≤ L.length ∧ i = .int .i64 j ∧ v = .int .i64 (mxL ((L.take j).map (depW n))) ∧ Hid (Below w2.heap.size w2 wr)) (fun _ i _ _ => L.length - (intOf i).toNat)
  case atStart => exact ⟨0, Nat.zero_le _, rfl, rfl, Below.refl _ _⟩
  case round =>
    obtain ⟨j, hj, rfl, rfl, hB⟩ := hrel
    rename World => wr
    obtain ⟨v, hv⟩ : ∃ v, mxL ((L.take j).map (depW n)) = v := ⟨_, rfl⟩
    rw [hv]
    by_cases hlt : j < L.length
    · have hki : (j : Int) < (L.length : Int) := by omega
      have hk0 : (0 : Int) ≤ (j : Int) := by omega
      obtain ⟨b, off, y, rfl, lt, hy, hI⟩ := HK.out.at_ j hlt
      have hy2 := HdAt.below hy hB.out lt
      have hlz := Nat.lt_of_lt_of_le lt hB.out.size
      have KD := Lib.hid (IH.out y L[j] wr hI (below_step HB0.out (below_step HB2.out hB.out)) (Nat.le_trans (HP.out _ (List.getElem_mem hlt)) HSM.out))
      obtain ⟨d, hd⟩ : ∃ d, depW n L[j] = d := ⟨_, rfl⟩
      rw [hd] at KD
      have HM := Lib.hid (show mxL ((L.take (j + 1)).map (depW n)) = if v < d then d else v by
        rw [List.take_succ_eq_append_getElem hlt, List.map_append, List.map_cons, List.map_nil, mxL_max, hv, hd])
      obtain ⟨op2, nn2, s2, p2, pl2, pc2, q2, ql2, qc2, o2, k2, kl2, kc2⟩ := y
      obtain ⟨c0, c1, c2, c3, c4, c5, c6⟩ := hy2
      dsimp only at c0 c1 c2 c3 c4 c5 c6
      unfold Hd.agg at KD
      dsimp only at KD
      clear hy hI lt hv hd
      by_cases hvd : v < d
      · go_wp2_with (go_at_call 41; refine KD.out.mono ?_; rintro e w5 ⟨rfl, hb5⟩; have HB5 := Lib.hid hb5; clear hb5)
        go_roundw
        case rel => exact ⟨j + 1, by omega, by go_num, by rw [HM.out, if_pos hvd], below_step hB.out HB5.out⟩
        case measure => simp [intOf]; omega
      · go_wp2_with (go_at_call 41; refine KD.out.mono ?_; rintro e w5 ⟨rfl, hb5⟩; have HB5 := Lib.hid hb5; clear hb5)
        go_roundw
        case rel => exact ⟨j + 1, by omega, by go_num, by rw [HM.out, if_neg (by omega)], below_step hB.out HB5.out⟩
        case measure => simp [intOf]; omega
    · obtain rfl : j = L.length := by omega
      have HM := Lib.hid (show depW (n + 1) x = wrap64 (1 + v) by rw [HD.out, ← hv, List.take_length])
      clear hv
      go_wp2_with fail
      go_ret
      exact ⟨ret_int (by rw [HM.out]), below_step HB2.out hB.out⟩
theorem rdepth_any (w0 : World) : ∀ (n : Nat) (h : Hd) (x : Ex) (w : World), InX w0 n h x → Below w0.heap.size w0 w → tN n x ≤ 1000000 → Calls Tryd.prog 41 #[h.agg] w (IntP (depW n x) w)
  | 0, _, _, _, h, _, _ => h.elim
  | n + 1, h, x, w, hx, hb, hs => rdepth_step w0 n (rdepth_any w0 n) h x w hx hb hs
end Go.Proofs.YtlpilbghblbpbaaDoor
/- PLAIN MATHEMATICS: a right expression's text is never empty, and how long it is at most. -/
namespace Go.Proofs.YtlpilbghblbpbaaDoor.Sw
open Go.RowKit
open Lx (bs)
theorem dg_ne (n : Nat) : Nt.dg n ≠ [] := by
  unfold Nt.dg
  exact fun h => by have := congrArg List.length h; simp at this
theorem textL_ne (n : Int) : Nt.textL n ≠ [] := by
  unfold Nt.textL
  split
  · exact fun h => by cases h
  · exact dg_ne _
theorem quote_ne (l : List UInt8) : Lx.quoteL l ≠ [] := fun h => by unfold Lx.quoteL at h; cases h
theorem right_size {x : ByteArray} (h : Nm.rightL x.toList = true) : 1 ≤ x.toList.length ∧ x.toList.length ≤ 16 := by
  unfold Nm.rightL at h
  simp only [Bool.and_eq_true, decide_eq_true_eq] at h
  exact ⟨h.1.1.1.1, h.1.1.1.2⟩
theorem path_right {p : List ByteArray} (h : Nm.pathB p = true) : 1 ≤ p.length ∧ p.length ≤ 16 ∧ ∀ x ∈ p, Nm.rightL x.toList = true := by
  unfold Nm.pathB at h
  simp only [Bool.and_eq_true, decide_eq_true_eq, List.all_eq_true] at h
  exact ⟨h.1.1, h.1.2, h.2⟩
theorem ris_right {xs : List ByteArray} (h : Nm.risB xs = true) : ∀ x ∈ xs, Nm.rightL x.toList = true := fun x hx => by
  obtain ⟨i, hi, rfl⟩ := List.mem_iff_getElem.1 hx
  cases hr : Nm.rightL xs[i].toList with
  | true => rfl
  | false =>
    have := Nm.ris_bad_name (List.getElem?_eq_getElem hi) hr
    rw [h] at this
    cases this
theorem join_ne : ∀ (p : List ByteArray), (∀ x ∈ p, 1 ≤ x.data.toList.length) → 1 ≤ p.length → Lib.join (p.map (·.data.toList)) [46] ≠ []
  | [], _, h => absurd h (by simp)
  | x :: r, h, _ => fun e => by
    have h1 := h x (List.mem_cons_self ..)
    have h2 := congrArg List.length e
    cases r with
    | nil => simp [Lib.join] at h2; rw [h2] at h1; simp at h1
    | cons y r => simp [Lib.join] at h2
theorem join_len : ∀ (p : List ByteArray), (∀ x ∈ p, x.data.toList.length ≤ 16) → (Lib.join (p.map (·.data.toList)) [46]).length ≤ 17 * p.length
  | [], _ => by simp [Lib.join]
  | [x], h => by have := h x (List.mem_cons_self ..); simp [Lib.join] at this ⊢; omega
  | x :: y :: r, h => by
    have h1 := h x (List.mem_cons_self ..)
    have h2 := join_len (y :: r) fun z hz => h z (List.mem_cons_of_mem _ hz)
    rw [show Lib.join ((x :: y :: r).map (·.data.toList)) [46] = x.data.toList ++ ([46] ++ Lib.join ((y :: r).map (·.data.toList)) [46]) by simp [Lib.join, List.intercalate]]
    simp only [List.length_append, List.length_cons, List.length_nil] at h1 h2 ⊢
    omega
theorem xt_ne {n : Nat} {x : Ex} (h : rightB (n + 1) x = true) : xt (n + 1) x ≠ [] := by
  obtain ⟨op, m, s, p, ps, o, ks⟩ := x
  obtain ⟨hown, -⟩ := right_step h
  have h2 := hown
  rcases own_ops hown with ⟨hop, -⟩ | ⟨rfl, -⟩ | ⟨rfl, -⟩ | ⟨rfl, -⟩ | rfl | rfl | ⟨rfl, hn⟩ | ⟨rfl, -, -⟩ | ⟨hop, -⟩
  · rcases hop with rfl | rfl | rfl
    · exact textL_ne m
    · exact fun e => by cases (show [62, 61] ++ Nt.textL m = [] from e)
    · exact fun e => by cases (show [60, 61] ++ Nt.textL m = [] from e)
  · exact quote_ne _
  · show boolT m ≠ []
    unfold boolT
    split <;> exact fun e => by cases e
  · show kindT m ≠ []
    unfold kindT
    split
    · exact fun e => by cases e
    · split
      · exact fun e => by cases e
      · split <;> exact fun e => by cases e
  · exact fun e => by cases (show ([110, 111, 110, 101] : List UInt8) = [] from e)
  · exact fun e => by cases (show ([99, 111, 109, 112, 117, 116, 101, 100] : List UInt8) = [] from e)
  · obtain ⟨h1, -, h3⟩ := path_right hn
    exact join_ne p (fun x hx => by have := (right_size (h3 x hx)).1; rw [Lib.toList_data] at this; exact this) h1
  · show fT (xt n) ps o ≠ []
    unfold fT
    exact fun e => by have := congrArg List.length e; simp at this
  · have hb5 : ¬ bnd op = 5 := by rcases hop with e | e | e | e | e <;> rw [e] <;> decide
    have hx : xt (n + 1) (.mk op m s p ps o ks) = kT (xt n) op ks ks.length := if_neg hb5
    have hlen : 2 ≤ ks.length := by
      rw [ownB_eq] at h2
      rw [if_neg (by omega)] at h2
      by_cases h11 : op = 11 ∨ op = 12
      · rw [if_pos h11] at h2
        simp only [Bool.and_eq_true, decide_eq_true_eq] at h2
        exact h2.1.1
      · rw [if_neg h11, if_pos (by omega)] at h2
        simp only [Bool.and_eq_true, decide_eq_true_eq] at h2
        omega
    rw [hx]
    intro e
    have h3 := kT_le (xt n) op ks (show 2 ≤ ks.length from hlen)
    rw [e, kT_step (xt n) op (show 1 < ks.length by omega), List.length_append] at h3
    unfold kp at h3
    simp at h3
end Go.Proofs.YtlpilbghblbpbaaDoor.Sw
/- PLAIN MATHEMATICS: how long a right expression's text is at most. -/
namespace Go.Proofs.YtlpilbghblbpbaaDoor.Sw
open Go.RowKit
open Lx (bs)
theorem btw_len (j : Nat) : (btw j).data.toList.length ≤ 1 := by
  unfold btw
  split
  · exact Nat.zero_le _
  · exact Nat.le_refl 1
theorem pT_len (f : Ex → List UInt8) (g : Ex → Nat) (ps : List (ByteArray × Ex)) (hf : ∀ p ∈ ps, (f p.2).length ≤ 1100 * g p.2 ∧ p.1.toList.length ≤ 16) : ∀ j, j ≤ ps.length → (pT f ps j).length ≤ 20 * j + 1100 * ((ps.take j).map fun p => g p.2).sum
  | 0, _ => by rw [pT_zero]; exact Nat.zero_le _
  | j + 1, h => by
    have hj : j < ps.length := h
    have ih := pT_len f g ps hf j (by omega)
    obtain ⟨h1, h2⟩ := hf _ (List.getElem_mem hj)
    have h3 := btw_len j
    rw [pT_step f hj, pp_is, show ps.take (j + 1) = ps.take j ++ [ps[j]] by rw [List.take_add_one, List.getElem?_eq_getElem hj]; rfl]
    simp only [List.length_append, List.length_cons, List.length_nil, List.map_append, List.map_cons, List.map_nil, List.sum_append, List.sum_cons, List.sum_nil]
    omega
theorem kT_len (f : Ex → List UInt8) (g : Ex → Nat) (op : Int) (ks : List Ex) (hf : ∀ y ∈ ks, (f y).length ≤ 1100 * g y) : ∀ j, j ≤ ks.length → (kT f op ks j).length ≤ 5 * j + 1100 * ((ks.take j).map g).sum
  | 0, _ => by rw [kT_zero]; exact Nat.zero_le _
  | j + 1, h => by
    have hj : j < ks.length := h
    have ih := kT_len f g op ks hf j (by omega)
    have h1 := hf _ (List.getElem_mem hj)
    have h2 : (kp f op j ks[j]).length ≤ 5 + (f ks[j]).length := by
      unfold kp br
      split <;> split <;> simp only [List.length_append, List.length_cons, List.length_nil] <;> omega
    rw [kT_step f op hj, show ks.take (j + 1) = ks.take j ++ [ks[j]] by rw [List.take_add_one, List.getElem?_eq_getElem hj]; rfl]
    simp only [List.length_append, List.map_append, List.map_cons, List.map_nil, List.sum_append, List.sum_cons, List.sum_nil]
    omega
theorem quote_len (s : ByteArray) (h : s.size ≤ 256) : (Lx.quoteL s.toList).length ≤ 1026 := by
  unfold Lx.quoteL
  have h1 := Lx.qL_len s.toList s.toList.length
  unfold Lx.qL at h1
  rw [List.take_length] at h1
  have h2 := Nm.size_list s
  simp only [List.length_append, List.length_cons, List.length_nil] at h1 ⊢
  omega
theorem xt_len : ∀ (n : Nat) (x : Ex), rightB n x = true → (xt n x).length ≤ 1100 * tN n x
  | 0, _, _ => Nat.zero_le _
  | n + 1, .mk op m s p ps o ks, h => by
    obtain ⟨hown, hparts⟩ := right_step h
    have hN : tN (n + 1) (.mk op m s p ps o ks) = 1 + (ps.map fun p => tN n p.2).sum + (ks.map (tN n)).sum := rfl
    rcases own_ops hown with ⟨hop, hn⟩ | ⟨rfl, hn⟩ | ⟨rfl, -⟩ | ⟨rfl, -⟩ | rfl | rfl | ⟨rfl, hn⟩ | ⟨rfl, h32, hri⟩ | ⟨hop, h32⟩
    · have hl : (Nt.textL m).length ≤ 20 := Nt.textL_len m (by unfold inB at hn; simp only [Bool.and_eq_true, decide_eq_true_eq] at hn; omega)
      rcases hop with rfl | rfl | rfl
      · show (Nt.textL m).length ≤ _; omega
      · show (Nt.textL m).length + 1 + 1 ≤ _; omega
      · show (Nt.textL m).length + 1 + 1 ≤ _; omega
    · have hl := quote_len s hn
      show (Lx.quoteL s.toList).length ≤ _; omega
    · have hl : (boolT m).length ≤ 5 := by unfold boolT; split <;> decide
      show (boolT m).length ≤ _; omega
    · have hl : (kindT m).length ≤ 6 := by
        unfold kindT
        split
        · decide
        · split
          · decide
          · split <;> decide
      show (kindT m).length ≤ _; omega
    · show 4 ≤ _; omega
    · show 8 ≤ _; omega
    · obtain ⟨-, h2, h3⟩ := path_right hn
      have hl := join_len p fun x hx => by have := (right_size (h3 x hx)).2; rw [Lib.toList_data] at this; exact this
      show (pathT p).length ≤ _
      unfold pathT
      omega
    · have hl := pT_len (xt n) (tN n) ps (fun y hy => ⟨xt_len n y.2 (hparts y.2 (List.mem_map.2 ⟨y, hy, rfl⟩)), (right_size (ris_right hri y.1 (List.mem_map.2 ⟨y, hy, rfl⟩))).2⟩) ps.length (Nat.le_refl _)
      rw [List.take_length] at hl
      have hf : (fT (xt n) ps o).length ≤ (pT (xt n) ps ps.length).length + 6 := by
        unfold fT
        simp only [List.length_append, List.length_cons, List.length_nil]
        split
        · simp only [List.length_append, List.length_cons, List.length_nil]
          split <;> simp only [List.length_cons, List.length_nil] <;> omega
        · simp only [List.length_nil]; omega
      show (fT (xt n) ps o).length ≤ _
      omega
    · have hnt : ¬ op = 10 := by omega
      have hl := kT_len (xt n) (tN n) op ks (fun y hy => xt_len n y (hparts y (by
        show y ∈ (if op = 10 then ps.map (·.2) else ks)
        rw [if_neg hnt]; exact hy))) ks.length (Nat.le_refl _)
      rw [List.take_length] at hl
      have hb5 : ¬ bnd op = 5 := by rcases hop with e | e | e | e | e <;> rw [e] <;> decide
      have hx : xt (n + 1) (.mk op m s p ps o ks) = kT (xt n) op ks ks.length := if_neg hb5
      rw [hx]
      omega
end Go.Proofs.YtlpilbghblbpbaaDoor.Sw
