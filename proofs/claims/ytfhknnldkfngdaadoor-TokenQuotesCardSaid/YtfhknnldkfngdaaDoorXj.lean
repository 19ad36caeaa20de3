/- WALK of TokenNext. -/
import Derived.Test.YtfhknnldkfngdaaDoorXi
namespace Go.Proofs.YtfhknnldkfngdaaDoor
open Go.RowKit
/-- A token in cells, behind it a place and an error. -/
def NxC (k n a E : Int) (t : ByteArray) (z : Nat) (w : World) (e : Ending) (w' : World) : Prop := e = .returned (.tuple #[.agg #[.int .i64 k, .int .i64 n, .string t, .int .i64 a], .int .i64 (z : Int), .int .i64 E]) ∧ Below w.heap.size w w'
theorem NxP.c {r : Int × Tok × Nat} {w w' : World} {e : Ending} (h : NxP r w e w') : NxC r.2.1.x.k r.2.1.x.n r.2.1.at_ r.1 (bs r.2.1.x.t) r.2.2 w e w' := h
theorem both_next (s : ByteArray) (p : Int) (w : World) (hE : Ent w) (hs : s.size ≤ 140737488355328) :
    ∃ (k n a E : Int) (t : ByteArray) (z : Nat), (∀ W, Below w.heap.size w W → Calls Tryd.prog 7 #[.string s, .int .i64 p] W (NxC k n a E t z W)) ∧ (∀ W, Calls Tryd.prog 8 #[.string s, .int .i64 p] W (NxC k n a E t z W)) := by
  by_cases h : p < 0 ∨ (¬ p < 0 ∧ (s.size : Int) < p)
  · exact ⟨_, _, _, _, _, _, fun W _ => (next_out s p W h).mono fun _ _ h => h.c, fun W => (rnext_out s p W h).mono fun _ _ h => h.c⟩
  · obtain ⟨q, rfl⟩ : ∃ q : Nat, p = q := ⟨p.toNat, by omega⟩
    have hq : q ≤ s.size := by omega
    exact ⟨_, _, _, _, _, _, fun W hW => (next_any s q W (hE.below hW) hs hq).mono fun _ _ h => h.c, fun W => (rnext_any s q W hs hq).mono fun _ _ h => h.c⟩
/-- A block that holds a token. -/
def T4 (w : World) (g : Nat) (k n a : Int) (t : ByteArray) : Prop := g < w.heap.size ∧ w.cell? ⟨g, 0, none⟩ = some (.int .i64 k) ∧ w.cell? ⟨g, 1, none⟩ = some (.int .i64 n) ∧ w.cell? ⟨g, 2, none⟩ = some (.string t) ∧ w.cell? ⟨g, 3, none⟩ = some (.int .i64 a)
theorem T4.later {w w' : World} {g : Nat} {k n a : Int} {t : ByteArray} (h : T4 w g k n a t) (hb : Below w.heap.size w w') : T4 w' g k n a t :=
  ⟨Nat.lt_of_lt_of_le h.1 hb.size, (hb.cell (p := ⟨g, 0, none⟩) h.1).trans h.2.1, (hb.cell (p := ⟨g, 1, none⟩) h.1).trans h.2.2.1, (hb.cell (p := ⟨g, 2, none⟩) h.1).trans h.2.2.2.1, (hb.cell (p := ⟨g, 3, none⟩) h.1).trans h.2.2.2.2⟩
theorem T4.new (w : World) (k n a : Int) (t : ByteArray) (ty : TypeId) : T4 (w.alloc (.cells #[.int .i64 k, .int .i64 n, .string t, .int .i64 a] ty)) w.heap.size k n a t := ⟨by simp, by simp, by simp, by simp, by simp⟩
theorem awake_out (w : World) (hE : Hid (Ent w)) : Calls Tryd.prog 6 #[] w fun e w' => e = .returned (.bool true) ∧ Below w.heap.size w w' := awake_any w hE.out
set_option maxRecDepth 100000 in
set_option maxHeartbeats 2000000 in
theorem tnext_walk (s : ByteArray) (p : Int) (w : World) (hE : Ent w) (hs : s.size ≤ 140737488355328) : Calls Tryd.prog 3 #[.string s, .int .i64 p] w fun e w' => e = .returned (.bool true) ∧ Below w.heap.size w w' := by
  have HE := Lib.hid hE
  by_cases h8 : 800 < s.size
  · clear hE
    go_enter Tryd.func3, Tryd.ntmps3
    go_wp2_with (go_at_call 6; ((with_reducible refine (awake_out _ HE).mono ?_); rintro e w1 ⟨rfl, hb⟩; have HB := Lib.hid hb; clear hb))
    go_ret
    exact ⟨rfl, HB.out⟩
  · obtain ⟨k, n, a, E, t, z, h7, h8⟩ := both_next s p w hE hs
    have H7 := Lib.hid h7
    have H8 := Lib.hid h8
    clear hE h7 h8
    go_enter Tryd.func3, Tryd.ntmps3
    go_wp2_with (first
      | (go_at_call 7; refine (H7.out _ (Below.refl _ _)).mono ?_; rintro e w1 ⟨rfl, hb⟩; have HB1 := Lib.hid (bl_alloc (o := .cells #[.int .i64 k, .int .i64 n, .string t, .int .i64 a] 24) hb); have HT1 := Lib.hid (T4.new w1 k n a t 24); clear hb)
      | (go_at_call 8; refine (H8.out _).mono ?_; rintro e w2 ⟨rfl, hb⟩; have HB2 := Lib.hid (bl_alloc (o := .cells #[.int .i64 k, .int .i64 n, .string t, .int .i64 a] 28) (bl_step HB1.out hb)); have HT2 := Lib.hid (T4.new w2 k n a t 28); have HT1' := Lib.hid ((HT1.out.later hb).later (bl_alloc (o := .cells #[.int .i64 k, .int .i64 n, .string t, .int .i64 a] 28) (Below.refl _ _))); clear hb)
      | (go_at_call 6; ((with_reducible refine (awake_out _ (Lib.hid (HE.out.below HB2.out))).mono ?_); rintro e w3 ⟨rfl, hb⟩; obtain ⟨-, x0, x1, x2, x3⟩ := HT1'.out.later hb; obtain ⟨-, y0, y1, y2, y3⟩ := HT2.out.later hb; have HB3 := Lib.hid (bl_step HB2.out hb); clear hb))
      | (go_at_call 9; ((with_reducible refine (like_same _ _ _ _ _).mono ?_); rintro e w4 ⟨rfl, hb⟩; have HB4 := Lib.hid (bl_step HB3.out hb); clear hb)))
    go_ret
    exact ⟨rfl, HB4.out⟩
end Go.Proofs.YtfhknnldkfngdaaDoor
