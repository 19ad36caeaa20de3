/- ShelfC, Bf, Bg -/
import Derived.Shelf.Small.Strs
import Derived.Test.YtddleeenlpigfaaGreatDoorProg
import Derived.Test.YtddleeenlpigfaaGreatDoorY27
import Derived.Test.YtddleeenlpigfaaGreatDoorY20
/- The library's contract of strings.Compare at this program's own numbers, laid by the library's command and written out in plain words. -/
namespace Go.Proofs
open Go.Shelf
end Go.Proofs
/- A field as it lies in a row; SortFunc at fields; Clone at fields. -/
namespace Go.Proofs.YtddleeenlpigfaaGreatDoor
open Go.RowKit
open Go.Sort (grow PermIn SortedIn HoldsK SWO flatK putRowK)
/-- A field as it lies in a row: its value by address. -/
structure Fh where
  nm : ByteArray
  V : List Tm
  t : Option Addr
  tl : Nat
  tc : Nat
abbrev Fh.v (h : Fh) : Value := .agg #[.string h.nm, .slice h.t h.tl h.tc]
def Fh.enc (h : Fh) : List Value := [.string h.nm, .slice h.t h.tl h.tc]
def Fh.f (h : Fh) : Fd := (h.nm, h.V)
def Fh.ok (I : Option Addr → Nat → Nat → List Tm → Prop) (h : Fh) : Prop := I h.t h.tl h.tc h.V
instance : Inhabited Fh := ⟨⟨⟨#[]⟩, [], none, 0, 0⟩⟩
def T2 (w : World) (g o : Nat) (h : Fh) : Prop := w.cell? ⟨g, o, none⟩ = some (.string h.nm) ∧ w.cell? ⟨g, o + 1, none⟩ = some (.slice h.t h.tl h.tc)
/-- A row of fields, in a block of its own. -/
def RowF (w : World) (g : Nat) (d : List Fh) : Prop := g < w.heap.size ∧ (∀ o, w.frozen? ⟨g, o, none⟩ = false) ∧ ∀ j (h : j < d.length), T2 w g (j * 2) d[j]
theorem RowF.below {w w' : World} {g : Nat} {d : List Fh} (h : RowF w g d) (hb : Below w.heap.size w w') : RowF w' g d :=
  ⟨Nat.lt_of_lt_of_le h.1 hb.size, fun o => (hb.frozen (p := ⟨g, o, none⟩) h.1).trans (h.2.1 o), fun j hj => ⟨(hb.cell (p := ⟨g, j * 2, none⟩) h.1).trans (h.2.2 j hj).1, (hb.cell (p := ⟨g, j * 2 + 1, none⟩) h.1).trans (h.2.2 j hj).2⟩⟩
theorem t2_of {w : World} {g o : Nat} {h : Fh} (k : ∀ r, r < 2 → w.cell? ⟨g, o + r, none⟩ = some (h.enc[r]!)) : T2 w g o h := ⟨k 0 (by decide), k 1 (by decide)⟩
end Go.Proofs.YtddleeenlpigfaaGreatDoor
/- WALK of united. -/
namespace Go.Proofs.YtddleeenlpigfaaGreatDoor
open Go.RowKit
/-- A row of a call's own that holds fields. -/
def OwnFh (w : World) (base : Nat) (u : Value) (L : List Fh) : Prop := w.ownsRow base 59 2 u L.length (L.map Fh.enc).flatten
theorem OwnFh.nil (w : World) (base : Nat) : OwnFh w base (.slice none 0 0) [] := World.ownsRow_nil _ _ _ _
theorem OwnFh.below {w w' : World} {base : Nat} {u : Value} {L : List Fh} (h : OwnFh w base u L) (hb : Below w.heap.size w w') : OwnFh w' base u L := owns_below h hb
theorem encF_len (h : Fh) : h.enc.length = 2 := rfl
theorem encs_len (L : List Fh) : (L.map Fh.enc).flatten.length = L.length * 2 := by
  induction L with
  | nil => rfl
  | cons x L ih => rw [List.map_cons, List.flatten_cons, List.length_append, ih, encF_len, List.length_cons]; omega
/-- The row that is owned, as a slice of fields. -/
theorem OwnFh.row {w : World} {base : Nat} {u : Value} {L : List Fh} (ho : OwnFh w base u L) : ∃ a cap, u = .slice a L.length cap ∧ (L = [] ∨ ∃ g, a = some ⟨g, 0, none⟩ ∧ base ≤ g ∧ RowF w g L) := by
  by_cases h0 : L = []
  · subst h0
    obtain ⟨a, c, rfl⟩ := slice_of_owns ho
    exact ⟨a, c, rfl, .inl rfl⟩
  · have hnn : u ≠ .slice none 0 0 := fun e => by
      rcases ho.2 with ⟨_, hn⟩ | ⟨g, cap, cur, e2, _⟩
      · exact h0 (List.eq_nil_of_length_eq_zero hn)
      · rw [e] at e2; cases e2
    obtain ⟨g, cap, rfl, hg, hlt, hfz, hce⟩ := row_of_owns ho hnn
    refine ⟨_, cap, rfl, .inr ⟨g, rfl, hg, hlt, hfz, fun j hj => t2_of fun r hr => ?_⟩⟩
    rw [hce (j * 2 + r) (by rw [encs_len]; omega), flat_get (s := 2) (L.map Fh.enc) j r (fun x hx => by obtain ⟨h, _, rfl⟩ := List.mem_map.1 hx; rfl) hr (by simpa using hj), List.getElem_map]
    match r, hr with
    | 0, _ => rfl
    | 1, _ => rfl
/-- A variable's cell. -/
def Dx (w : World) (N : Nat) (v : Value) : Prop := N < w.heap.size ∧ w.cell? ⟨N, 0, none⟩ = some v
theorem Dx.later {w w' : World} {N : Nat} {v : Value} (h : Dx w N v) (hb : Below w.heap.size w w') : Dx w' N v := ⟨Nat.lt_of_lt_of_le h.1 hb.size, (hb.cell (p := ⟨N, 0, none⟩) h.1).trans h.2⟩
theorem info59' : (Tryz.prog.info? 59).map (fun i => (i.zero, i.size, i.bytes)) = some (some (.agg #[.string ByteArray.empty, .slice none 0 0]), 2, 40) := info59
end Go.Proofs.YtddleeenlpigfaaGreatDoor
