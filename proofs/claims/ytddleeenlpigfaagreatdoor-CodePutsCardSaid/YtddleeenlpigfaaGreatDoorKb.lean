/- WALKS of code's head; what an append of bytes does. -/
import Derived.Test.YtddleeenlpigfaaGreatDoorKa
import Derived.Maps.AppendAt
import Derived.Lib.AppendZeros
namespace Go.Proofs.YtddleeenlpigfaaGreatDoor.Ec
open Go.RowKit
theorem grown_below {W W' : World} {row : Option Nat} (h : Below W.heap.size W W') : W.grownBy W' row := ⟨h.os, h.tape, h.output, h.size, fun k hk _ => h.block k hk⟩
/-- A row was appended to. -/
structure Gr (W W' : World) (v v' : Value) : Prop where
  grow : W.grownBy W' v.ownBlock
  at_ : v'.ownBlock = v.ownBlock ∨ ∃ g, v'.ownBlock = some g ∧ W.heap.size ≤ g
theorem Gr.size {W W' : World} {v v' : Value} (h : Gr W W' v v') : W.heap.size ≤ W'.heap.size := h.grow.size
theorem Gr.refl (W : World) (v : Value) : Gr W W v v := ⟨⟨rfl, rfl, rfl, Nat.le_refl _, fun _ _ _ => rfl⟩, .inl rfl⟩
theorem Gr.of_below {W W' : World} (v : Value) (h : Below W.heap.size W W') : Gr W W' v v := ⟨grown_below h, .inl rfl⟩
theorem Gr.trans {W W' W'' : World} {v v' v'' : Value} (h : Gr W W' v v') (k : Gr W' W'' v' v'') : Gr W W'' v v'' := by
  refine ⟨⟨k.grow.os.trans h.grow.os, k.grow.tape.trans h.grow.tape, k.grow.output.trans h.grow.output, Nat.le_trans h.grow.size k.grow.size, fun i hl hn => ?_⟩, ?_⟩
  · refine (k.grow.block i (Nat.lt_of_lt_of_le hl h.grow.size) (fun e => ?_)).trans (h.grow.block i hl hn)
    rcases h.at_ with h1 | ⟨g, h1, h2⟩
    · exact hn (e.trans h1)
    · rw [h1] at e; injection e with e; omega
  · rcases k.at_ with k1 | ⟨g, k1, k2⟩
    · rcases h.at_ with h1 | ⟨g, h1, h2⟩
      · exact .inl (k1.trans h1)
      · exact .inr ⟨g, k1.trans h1, h2⟩
    · exact .inr ⟨g, k1, Nat.le_trans h.grow.size k2⟩
/-- Bytes appended to a row of one's own. -/
theorem app_bytes {w : World} {B : Nat} {v : Value} {L N : List UInt8} {a : Option Addr} (c : Nat) (hrow : w.ownsRow B 5 1 v L.length (Vn.u8s L)) (hR : Vn.SRow w a N) (hne : N ≠ []) (hlen : (L ++ N).length ≤ 140737488355328) (hB : B ≤ w.heap.size) :
    ∃ v' w', (Builtin.append_ #[74, 74] 74 #[v, .slice a N.length c]).run Tryz.prog w = .ok v' w' ∧ w'.ownsRow B 5 1 v' (L ++ N).length (Vn.u8s (L ++ N)) ∧ Gr w w' v v' := by
  rcases hR with ⟨_, h⟩ | ⟨ad, rfl, hl, hc⟩
  · exact absurd h hne
  · obtain ⟨i0, hi, hz0, hz1, hz2⟩ := info_parts Vn.Tryz.info5
    rw [List.length_append] at hlen
    obtain ⟨v', w', hrun, hown, hg, _, hat⟩ := run_append_own_at (P := Tryz.prog) (w := w) B 74 74 5 i0 (.int .u8 0) 1 1 Tryz.underlying74 hi hz0 hz1 hz2 rfl (by decide) v L.length _ hrow ad N.length c (Vn.u8s N) (by simp [Vn.u8s])
      (fun j u hu => by
        unfold Vn.u8s at hu
        rw [List.getElem?_map] at hu
        obtain ⟨x, hx, rfl⟩ := Option.map_eq_some_iff.1 hu
        obtain ⟨hj, rfl⟩ := List.getElem?_eq_some_iff.1 hx
        exact hc j hj)
      (by intro u hu; obtain ⟨x, _, rfl⟩ := List.mem_map.1 hu; rfl) (by unfold maxLen; omega) (by omega) hB
    refine ⟨v', w', hrun, ?_, hg, ?_⟩
    · rw [List.length_append]
      have : Vn.u8s (L ++ N) = Vn.u8s L ++ Vn.u8s N := by simp [Vn.u8s]
      rw [this]; exact hown
    · rcases hat with h | h
      · exact .inl h
      · exact .inr ⟨_, h, Nat.le_refl _⟩
/-- Between two steps of the writer: the row of one's own. -/
structure AIn (w0 w : World) (v : Value) (L : List UInt8) : Prop where
  low : Below w0.heap.size w0 w
  row : w.ownsRow w0.heap.size 5 1 v L.length (Vn.u8s L)
theorem AIn.size {w0 w : World} {v : Value} {L : List UInt8} (h : AIn w0 w v L) : w0.heap.size ≤ w.heap.size := h.low.size
theorem AIn.own {w0 w : World} {v : Value} {L : List UInt8} (h : AIn w0 w v L) : ∀ g, v.ownBlock = some g → w0.heap.size ≤ g ∧ g < w.heap.size := fun g e => h.row.lt g e
theorem AIn.step {w0 w w' : World} {v : Value} {L : List UInt8} (h : AIn w0 w v L) (hb : Below w.heap.size w w') : AIn w0 w' v L :=
  ⟨h.low.trans (hb.mono h.low.size), h.row.kept (grown_below (row := none) hb) (by cases v.ownBlock <;> simp)⟩
theorem AIn.app {w0 w w' : World} {v v' : Value} {L L' : List UInt8} (h : AIn w0 w v L) (hg : Gr w w' v v') (hr : w'.ownsRow w0.heap.size 5 1 v' L'.length (Vn.u8s L')) : AIn w0 w' v' L' :=
  ⟨h.low.grown hg.grow h.low.size (fun r e => (h.own r e).1), hr⟩
/-- What a block of one's own outside of the row is, it stays. -/
theorem Gr.other {w w' : World} {v v' : Value} (hg : Gr w w' v v') {b : Nat} {o : Obj} (hb : w.heap[b]? = some o) (hn : ∀ g, v.ownBlock = some g → g ≠ b) : w'.heap[b]? = some o :=
  (hg.grow.block b (Array.getElem?_eq_some_iff.1 hb).1 (fun e => hn b e.symm rfl)).trans hb
/-- What the writer answers. -/
def AppP (w0 w : World) (v : Value) (L' : List UInt8) (e : Ending) (w' : World) : Prop := ∃ v', e = .returned v' ∧ w'.ownsRow w0.heap.size 5 1 v' L'.length (Vn.u8s L') ∧ Gr w w' v v'
end Go.Proofs.YtddleeenlpigfaaGreatDoor.Ec
