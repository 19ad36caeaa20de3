/- WALK of the page's example. -/
import Derived.Test.YtkmbhjcedkojjaaN
import Derived.Test.YtkmbhjcedkojjaaM
import Derived.Test.YtkmbhjcedkojjaaZ
import Derived.Deep.RegionWith
import Derived.Deep.DeepCutAuto
import Derived.Deep.CutBlock
namespace Go.Proofs.Ytkmbhjcedkojjaa
open Go.RowKit
theorem r19 : RightP 2 1 9 ⟨#[]⟩ false false false 0 := by unfold RightP; rw [toList_nil]; simp
theorem r520 : RightP 2 5 20 ⟨#[]⟩ false false false 0 := by unfold RightP; rw [toList_nil]; simp
theorem rx : RightP 3 0 0 ⟨#[120]⟩ false false false 0 := by unfold RightP; simp [singleB]; decide
theorem rany : RightP 3 0 0 ⟨#[]⟩ true true false 0 := by unfold RightP; rw [toList_nil]; simp [singleB]; decide
theorem rany' : RightP 3 0 0 ⟨#[]⟩ true false false 0 := right_any3
def zc : Obj := .cells #[.int .i64 0, .int .i64 0, .int .i64 0, .string ⟨#[]⟩, .bool false, .bool false, .bool false, .slice none 0 0] 24
/-- A new block of zeros, behind a call. -/
def Fresh (w : World) (N : Nat) : Prop := N < w.heap.size ∧ Tc w N 0 0 0 ⟨#[]⟩ false false false none 0 0 ∧ ∀ i, w.frozen? ⟨N, i, none⟩ = false
theorem Fresh.new {Y w' : World} (h : Below (Y.alloc (.cells #[.int .i64 0, .int .i64 0, .int .i64 0, .string ⟨#[]⟩, .bool false, .bool false, .bool false, .slice none 0 0] 24)).heap.size (Y.alloc (.cells #[.int .i64 0, .int .i64 0, .int .i64 0, .string ⟨#[]⟩, .bool false, .bool false, .bool false, .slice none 0 0] 24)) w') : Fresh w' Y.heap.size :=
  ⟨Nat.lt_of_lt_of_le new_lt h.size, (Tc.new _ _ _ _ _ _ _ _ _ _ _).later h new_lt, fun i => (h.frozen (p := ⟨Y.heap.size, i, none⟩) new_lt).trans (by simp)⟩
theorem Fresh.later {N : Nat} {w w' : World} (h : Fresh w N) (hb : Below w.heap.size w w') : Fresh w' N :=
  ⟨Nat.lt_of_lt_of_le h.1 hb.size, h.2.1.later hb h.1, fun i => (hb.frozen (p := ⟨N, i, none⟩) h.1).trans (h.2.2 i)⟩
theorem set_other {w : World} {p q : Addr} {v : Value} (h : p.block ≠ q.block) : (w.setCell p v).cell? q = w.cell? q := World.cell?_of_block (Below.heap_setCell w p v q.block (fun e => h e.symm))
theorem Tc.put {w : World} {N : Nat} (h : Tc w N 0 0 0 ⟨#[]⟩ false false false none 0 0) (k lo hi : Int) (s : ByteArray) (y m o : Bool) (f : Option Addr) (fl fc : Nat) :
    Tc ((((((((w.setCell ⟨N, 0, none⟩ (.int .i64 k)).setCell ⟨N, 1, none⟩ (.int .i64 lo)).setCell ⟨N, 2, none⟩ (.int .i64 hi)).setCell ⟨N, 3, none⟩ (.string s)).setCell ⟨N, 4, none⟩ (.bool y)).setCell ⟨N, 5, none⟩ (.bool m)).setCell ⟨N, 6, none⟩ (.bool o)).setCell ⟨N, 7, none⟩ (.slice f fl fc)) N k lo hi s y m o f fl fc := by
  obtain ⟨h0, h1, h2, h3, h4, h5, h6, h7⟩ := h
  simp [Tc, go_sem, h0, h1, h2, h3, h4, h5, h6, h7]
/-- What its last meet has laid. -/
def Laid2 (w X : World) (v11 v12 : Value) (wc : World) : Prop :=
  v12 = .bool true ∧ ∃ N : Nat, v11 = .pointer (some ⟨N, 0, none⟩) ∧ Tc wc N 3 0 0 ⟨#[120]⟩ false false false none 0 0 ∧ Below w.heap.size w wc ∧ ∀ b o, b < X.heap.size → wc.cell? ⟨b, o, none⟩ = X.cell? ⟨b, o, none⟩
theorem Laid2.late {w X w7 : World} (hX : Below w.heap.size w X) (hK : Below X.heap.size X w7) :
    Laid2 w X (.pointer (some ⟨w7.heap.size, 0, none⟩)) (.bool true) (w7.alloc (.cells #[.int .i64 3, .int .i64 0, .int .i64 0, .string ⟨#[120]⟩, .bool false, .bool false, .bool false, .slice none 0 0] 24)) :=
  ⟨rfl, _, rfl, Tc.new _ _ _ _ _ _ _ _ _ _ _, bl_alloc (bl_step hX hK), (bcell (bl_alloc hK)).1⟩
theorem Laid2.soon {w X w7 : World} {N : Nat} (hX : Below w.heap.size w X) (hK : Below X.heap.size X w7) (hN : Fresh w7 N) (hl : X.heap.size ≤ N) :
    Laid2 w X (.pointer (some ⟨N, 0, none⟩)) (.bool true) ((((((((w7.setCell ⟨N, 0, none⟩ (.int .i64 3)).setCell ⟨N, 1, none⟩ (.int .i64 0)).setCell ⟨N, 2, none⟩ (.int .i64 0)).setCell ⟨N, 3, none⟩ (.string ⟨#[120]⟩)).setCell ⟨N, 4, none⟩ (.bool false)).setCell ⟨N, 5, none⟩ (.bool false)).setCell ⟨N, 6, none⟩ (.bool false)).setCell ⟨N, 7, none⟩ (.slice none 0 0)) :=
  ⟨rfl, _, rfl, Tc.put hN.2.1 _ _ _ _ _ _ _ _ _ _, bl_step hX (bl_set (bl_set (bl_set (bl_set (bl_set (bl_set (bl_set (bl_set hK hl) hl) hl) hl) hl) hl) hl) hl),
    (bcell (bl_set (bl_set (bl_set (bl_set (bl_set (bl_set (bl_set (bl_set hK hl) hl) hl) hl) hl) hl) hl) hl)).1⟩
set_option maxRecDepth 100000 in
set_option maxHeartbeats 20000000 in
theorem sawake_any (w : World) : Calls Try.prog 11 #[] w fun e w' => e = .returned (.bool true) ∧ Below w.heap.size w w' := by
  have HA := fun W => Lib.hid (between_yes 1 9 W (rightB_iff.2 r19))
  have HE := fun W => Lib.hid (between_yes 5 20 W (rightB_iff.2 r520))
  have HM := fun W => Lib.hid (meet_some 2 1 9 ⟨#[]⟩ false false none 0 5 20 ⟨#[]⟩ false false none 0 W r19 r520 (lo := 5) (hi := 9) (s := ⟨#[]⟩) (y := false) (by rfl))
  have HW := fun W => Lib.hid (whole_text W)
  have HT := fun W => Lib.hid (text_yes ⟨#[120]⟩ W (rightB_iff.2 rx))
  have HL := fun W => Lib.hid (later_nil 3 0 0 ⟨#[]⟩ true false false W)
  rw [rightB_iff.2 rany', show singleB 3 0 0 true = false from rfl] at HL
  have HN := fun W => Lib.hid (meet_some 3 0 0 ⟨#[]⟩ true true none 0 0 0 ⟨#[120]⟩ false false none 0 W rany rx (lo := 0) (hi := 0) (s := ⟨#[120]⟩) (y := false) (by rfl))
  rw [show singleB 3 0 0 false = true from rfl] at HN
  rw [show singleB 2 5 9 false = false from rfl] at HM
  simp only [Bool.false_or, Bool.not_false, Bool.not_true, Bool.and_false, Bool.or_false, Bool.and_true] at HL HN HM
  go_enter Try.func11, Try.ntmps11
  go_upto_region 6 with (first
    | (go_at_call 19; (with_reducible refine ((HA _).out).mono ?_); rintro e w1 ⟨rfl, hB⟩; (first | (replace HB := Lib.hid (bl_step HB.out hB)) | (replace HB := Lib.hid (bl_step (bl_alloc HB.out) hB)) | (replace HB := Lib.hid (bl_step ((bl_alloc HB.out).drew) hB)) | (replace HB := Lib.hid (bl_step (HB.out.drew) hB)) | (have HB := Lib.hid hB)); obtain ⟨c1, d1⟩ := bcell hB; have hz := hB.size; (first | (simp at hz; done) | (simp at hz) | skip); have HB1 := Lib.hid hB; clear hB hz)
    | (go_at_call 19; (with_reducible refine ((HE _).out).mono ?_); rintro e w2 ⟨rfl, hB⟩; (first | (replace HB := Lib.hid (bl_step HB.out hB)) | (replace HB := Lib.hid (bl_step (bl_alloc HB.out) hB)) | (replace HB := Lib.hid (bl_step ((bl_alloc HB.out).drew) hB)) | (replace HB := Lib.hid (bl_step (HB.out.drew) hB)) | (have HB := Lib.hid hB)); obtain ⟨c2, d2⟩ := bcell hB; have hz := hB.size; (first | (simp at hz; done) | (simp at hz) | skip); have z12 : w1.heap.size < w2.heap.size := (by omega); have HB2 := Lib.hid hB; clear hB hz)
    | (go_at_call 24; (with_reducible refine ((HM _).out).mono ?_); rintro e w3 ⟨rfl, hB⟩; (first | (replace HB := Lib.hid (bl_step HB.out hB)) | (replace HB := Lib.hid (bl_step (bl_alloc HB.out) hB)) | (replace HB := Lib.hid (bl_step ((bl_alloc HB.out).drew) hB)) | (replace HB := Lib.hid (bl_step (HB.out.drew) hB)) | (have HB := Lib.hid hB)); obtain ⟨c3, d3⟩ := bcell hB; have hz := hB.size; (first | (simp at hz; done) | (simp at hz) | skip); have z23 : w2.heap.size < w3.heap.size := (by omega); have z13 : w1.heap.size < w3.heap.size := (by omega); have HB3 := Lib.hid hB; clear hB hz)
    | (go_at_call 18; (with_reducible refine ((HW _).out).mono ?_); rintro e w4 ⟨rfl, hB⟩; (first | (replace HB := Lib.hid (bl_step HB.out hB)) | (replace HB := Lib.hid (bl_step (bl_alloc HB.out) hB)) | (replace HB := Lib.hid (bl_step ((bl_alloc HB.out).drew) hB)) | (replace HB := Lib.hid (bl_step (HB.out.drew) hB)) | (have HB := Lib.hid hB)); obtain ⟨c4, d4⟩ := bcell hB; have hz := hB.size; (first | (simp at hz; done) | (simp at hz) | skip); have z34 : w3.heap.size < w4.heap.size := (by omega); have HB4 := Lib.hid hB; clear hB hz)
    | (go_at_call 20; (with_reducible refine ((HT _).out).mono ?_); rintro e w5 ⟨rfl, hB⟩; (first | (replace HB := Lib.hid (bl_step HB.out hB)) | (replace HB := Lib.hid (bl_step (bl_alloc HB.out) hB)) | (replace HB := Lib.hid (bl_step ((bl_alloc HB.out).drew) hB)) | (replace HB := Lib.hid (bl_step (HB.out.drew) hB)) | (have HB := Lib.hid hB)); obtain ⟨c5, d5⟩ := bcell hB; have hz := hB.size; (first | (simp at hz; done) | (simp at hz) | skip); have z45 : w4.heap.size < w5.heap.size := (by omega); have z35 : w3.heap.size < w5.heap.size := (by omega); have HB5 := Lib.hid hB; clear hB hz))
  have hA : w3.heap.size < (w5.alloc (.cells #[.int .i64 3, .int .i64 0, .int .i64 0, .string ⟨#[120]⟩, .bool false, .bool false, .bool false, .slice none 0 0] 24)).heap.size := by simp; omega
  have hB : w4.heap.size < (w5.alloc (.cells #[.int .i64 3, .int .i64 0, .int .i64 0, .string ⟨#[120]⟩, .bool false, .bool false, .bool false, .slice none 0 0] 24)).heap.size := by simp; omega
  have hC : w5.heap.size < (w5.alloc (.cells #[.int .i64 3, .int .i64 0, .int .i64 0, .string ⟨#[120]⟩, .bool false, .bool false, .bool false, .slice none 0 0] 24)).heap.size := by simp
  have tA : Tc (w5.alloc (.cells #[.int .i64 3, .int .i64 0, .int .i64 0, .string ⟨#[120]⟩, .bool false, .bool false, .bool false, .slice none 0 0] 24)) w3.heap.size 2 5 9 ⟨#[]⟩ false false false none 0 0 := (((Tc.new _ _ _ _ _ _ _ _ _ _ _).later HB4.out new_lt |>.alloc z34 _).later HB5.out (lt_alloc z34) |>.alloc z35 _)
  have tB : Tc (w5.alloc (.cells #[.int .i64 3, .int .i64 0, .int .i64 0, .string ⟨#[120]⟩, .bool false, .bool false, .bool false, .slice none 0 0] 24)) w4.heap.size 3 0 0 ⟨#[]⟩ true false false none 0 0 := ((Tc.new _ _ _ _ _ _ _ _ _ _ _).later HB5.out new_lt |>.alloc z45 _)
  have tC : Tc (w5.alloc (.cells #[.int .i64 3, .int .i64 0, .int .i64 0, .string ⟨#[120]⟩, .bool false, .bool false, .bool false, .slice none 0 0] 24)) w5.heap.size 3 0 0 ⟨#[120]⟩ false false false none 0 0 := Tc.new _ _ _ _ _ _ _ _ _ _ _
  have HX : Hid (Below w.heap.size w (w5.alloc (.cells #[.int .i64 3, .int .i64 0, .int .i64 0, .string ⟨#[120]⟩, .bool false, .bool false, .bool false, .slice none 0 0] 24))) := bl_alloc (bl_step ((by first | exact Below.refl _ _ | exact bl_alloc (Below.refl _ _))) HB.out)
  clear HA HE HM HW HT HB1 HB2 HB3 HB4 HB5 c2 d2 c3 d3 c4 d4 c5 d5 HB c1 d1
  generalize w5.alloc (.cells #[.int .i64 3, .int .i64 0, .int .i64 0, .string ⟨#[120]⟩, .bool false, .bool false, .bool false, .slice none 0 0] 24) = X at *
  generalize w3.heap.size = A at *
  generalize w4.heap.size = B at *
  generalize w5.heap.size = C at *
  clear z12 z23 z13 z34 z45 z35
  go_cut [11, 12] (fun v11 v12 wc => Laid2 w X v11 v12 wc)
  case first =>
    obtain ⟨b0, b1, b2, b3, b4, b5, b6, b7⟩ := tB
    have TC := Lib.hid tC
    obtain ⟨e0, e1, e2, e3, e4, e5, e6, e7⟩ := tC
    clear tA
    go_region_with ((first | (go_at_call 22; (with_reducible refine ((HL _).out).mono ?_); rintro e w6 ⟨rfl, hD⟩; have KW := Lib.hid (show Below X.heap.size X w6 from by first | exact bl_step ((Below.refl _ _).drew) hD | exact bl_step (((Below.refl _ _).drew).alloc (Nat.le_refl _) _) hD); have zc : C < w6.heap.size := Nat.lt_of_lt_of_le hC KW.out.size; obtain ⟨g0, g1, g2, g3, g4, g5, g6, g7⟩ := TC.out.later KW.out hC; (first | (have N6 := Lib.hid (show Fresh w6 X.heap.size from Fresh.new (Y := X.drew) hD); obtain ⟨nz, ⟨n0, n1, n2, n3, n4, n5, n6, n7⟩, nf⟩ := N6.out) | skip); clear hD) | (go_at_call 24; (with_reducible refine ((HN _).out).mono ?_); rintro e w7 ⟨rfl, hD⟩; have KV := Lib.hid (show Below X.heap.size X w7 from by first | exact bl_step KW.out hD | exact bl_step (bl_alloc KW.out) hD); (first | (have N7 := Lib.hid (show Fresh w7 w6.heap.size from Fresh.new (Y := w6) hD); obtain ⟨nz, ⟨n0, n1, n2, n3, n4, n5, n6, n7⟩, nf⟩ := N7.out) | (have N7 := Lib.hid (show Fresh w7 X.heap.size from N6.out.later hD); obtain ⟨nz, ⟨n0, n1, n2, n3, n4, n5, n6, n7⟩, nf⟩ := N7.out) | skip); clear hD)))
    all_goals go_wp2_with fail
    all_goals go_meet
    all_goals first
      | with_reducible exact Laid2.late HX.out KV.out
      | with_reducible exact Laid2.soon HX.out KV.out N7.out (Nat.le_refl _)
      | with_reducible exact Laid2.soon HX.out KV.out N7.out KW.out.size
  case rest =>
    obtain ⟨rfl, N, rfl, hN, hB2, hK⟩ := hcut
    unfold Tc at tA
    obtain ⟨a0, a1, a2, a3, a4, a5, a6, a7⟩ := tA
    have q1 : wc.cell? ⟨A, 1, none⟩ = some (.int .i64 5) := (hK A 1 hA).trans a1
    have q2 : wc.cell? ⟨A, 2, none⟩ = some (.int .i64 9) := (hK A 2 hA).trans a2
    obtain ⟨n0, n1, n2, n3, n4, n5, n6, n7⟩ := hN
    have HB := Lib.hid hB2
    clear hB2 hK
    go_wp2_with fail
    go_ret
    exact ⟨rfl, HB.out⟩

end Go.Proofs.Ytkmbhjcedkojjaa
