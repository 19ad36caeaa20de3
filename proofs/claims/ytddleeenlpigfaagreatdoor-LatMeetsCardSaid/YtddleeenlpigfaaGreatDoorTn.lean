/- WALK of LatMeets. -/
import Derived.Test.YtddleeenlpigfaaGreatDoorTm
namespace Go.Proofs.YtddleeenlpigfaaGreatDoor
open Go.RowKit
set_option maxRecDepth 100000 in
set_option maxHeartbeats 8000000 in
theorem lmeets_walk (n : Nat) (w : World) (ta : Option Addr) (la ca : Nat) (A : List Tm) (tb : Option Addr) (lb cb : Nat) (B : List Tm)
    (hA : InV w (n + 1) ta la ca A) (hB : InV w (n + 1) tb lb cb B) (nA : NmV (n + 1) A) (nB : NmV (n + 1) B) (eA : LnV (n + 1) A) (eB : LnV (n + 1) B) (hE : Nm.Env w) :
    Calls Tryz.prog 5 #[.agg #[.slice ta la ca], .agg #[.slice tb lb cb]] w (LackP true w) := by
  obtain ⟨X, hX⟩ : ∃ X, (w.alloc (.cells #[.slice ta la ca] 24)).alloc (.cells #[.slice tb lb cb] 24) = X := ⟨_, rfl⟩
  have HXB : Hid (Below w.heap.size w X ∧ Bx X w.heap.size ta la ca ∧ Bx X (w.heap.size + 1) tb lb cb) := by
    rw [← hX]; exact ⟨bl_alloc (bl_alloc (Below.refl _ _)), ⟨by simp; omega, by simp [go_sem]⟩, ⟨by simp, by simp [go_sem]⟩⟩
  have HXW := Lib.hid HXB.out.1
  have V : Hid (∀ W, Below X.heap.size X W → W.cell? ⟨w.heap.size, 0, none⟩ = some (.slice ta la ca) ∧ W.cell? ⟨w.heap.size + 1, 0, none⟩ = some (.slice tb lb cb)) := Lib.hid fun W hW => ⟨(HXB.out.2.1.later hW).2, (HXB.out.2.2.later hW).2⟩
  have iA := Lib.hid (fun (W : World) (hW : Below X.heap.size X W) => (show Vin W (n + 1) ta la ca A from ⟨InV.below (bl_step HXW.out hW) hA, nA, hE.below (bl_step HXW.out hW)⟩))
  have iB := Lib.hid (fun (W : World) (hW : Below X.heap.size X W) => (show Vin W (n + 1) tb lb cb B from ⟨InV.below (bl_step HXW.out hW) hB, nB, hE.below (bl_step HXW.out hW)⟩))
  have FA := Lib.hid (fun (W : World) (hW : Below X.heap.size X W) => few9_any (n + 1) W ta la ca A (iA.out W hW).v)
  have FB := Lib.hid (fun (W : World) (hW : Below X.heap.size X W) => few9_any (n + 1) W tb lb cb B (iB.out W hW).v)
  have AW := Lib.hid (fun (W : World) (hW : Below X.heap.size X W) => awake_in W (iA.out W hW).env)
  have ME := Lib.hid (fun (W : World) (hW : Below X.heap.size X W) => lmeet_in (n + 1) W ta la ca A tb lb cb B (iA.out W hW) (iB.out W hW))
  have RME := Lib.hid (fun (W : World) (hW : Below X.heap.size X W) => rmeet9_in (n + 1) W ta la ca A tb lb cb B (iA.out W hW) eA (iB.out W hW) eB)
  have JO := Lib.hid (fun (W : World) (hW : Below X.heap.size X W) => ljoin_in (n + 1) W ta la ca A tb lb cb B (iA.out W hW) (iB.out W hW))
  have RJO := Lib.hid (fun (W : World) (hW : Below X.heap.size X W) => rjoin9_in (n + 1) W ta la ca A tb lb cb B (iA.out W hW) eA (iB.out W hW) eB)
  obtain ⟨⟨e1, M1⟩, hr1⟩ : ∃ r, meetR (n + 1) A B = r := ⟨_, rfl⟩
  obtain ⟨⟨e2, M2⟩, hr2⟩ : ∃ r, joinR (n + 1) A B = r := ⟨_, rfl⟩
  rw [hr1] at ME RME
  rw [hr2] at JO RJO
  clear hr1 hr2 iA iB hA hB nA nB eA eB hE HXB
  go_enter Tryz.func5, Tryz.ntmps5
  go_upto_region 1 with fail
  clear hX
  have KW : Hid (Below X.heap.size X X) := Below.refl _ _
  obtain ⟨x2, x3⟩ := V.out _ KW.out
  go_wp2_with (first
    | (go_at_call 12; (with_reducible refine (FA.out _ KW.out).mono ?_); rintro e w1 ⟨b, rfl, hB, -⟩; replace KW := Lib.hid (bl_step KW.out hB); clear hB; obtain ⟨x2, x3⟩ := V.out _ KW.out; cases b)
    | (go_at_call 12; (with_reducible refine (FB.out _ KW.out).mono ?_); rintro e w1 ⟨b, rfl, hB, -⟩; replace KW := Lib.hid (bl_step KW.out hB); clear hB; obtain ⟨x2, x3⟩ := V.out _ KW.out; cases b)
    | (go_at_call 13; (with_reducible refine (AW.out _ KW.out).mono ?_); rintro e w1 ⟨rfl, hB⟩; replace KW := Lib.hid (bl_step KW.out hB); clear hB; obtain ⟨x2, x3⟩ := V.out _ KW.out))
  · go_ret
    exact ⟨rfl, bl_step HXW.out KW.out⟩
  · go_ret
    exact ⟨rfl, bl_step HXW.out KW.out⟩
  go_upto_region 7 with (first
    | (go_at_call 26; (with_reducible refine (ME.out _ KW.out).mono ?_); rintro e w3 ⟨t3, tl3, tc3, rfl, hB, hI⟩; have HI3 := Lib.hid hI; have HB3 := Lib.hid (show Bx (w3.alloc (.cells #[.slice t3 tl3 tc3] 24)) w3.heap.size t3 tl3 tc3 from ⟨by simp, by simp [go_sem]⟩); have KL3 := Lib.hid hB; replace KW := Lib.hid (bl_step KW.out (bl_alloc (o := .cells #[.slice t3 tl3 tc3] 24) hB)); clear hB hI; obtain ⟨x2, x3⟩ := V.out _ KW.out)
    | (go_at_call 27; (with_reducible refine (RME.out _ KW.out).mono ?_); rintro e w4 ⟨t4, tl4, tc4, rfl, hB, hI⟩; have HI4 := Lib.hid hI; have HB4 := Lib.hid (show Bx (w4.alloc (.cells #[.slice t4 tl4 tc4] 24)) w4.heap.size t4 tl4 tc4 from ⟨by simp, by simp [go_sem]⟩); have KL4 := Lib.hid hB; replace KW := Lib.hid (bl_step KW.out (bl_alloc (o := .cells #[.slice t4 tl4 tc4] 24) hB)); clear hB hI; obtain ⟨x2, x3⟩ := V.out _ KW.out)
    | (go_at_call 28; (with_reducible refine (JO.out _ KW.out).mono ?_); rintro e w5 ⟨t5, tl5, tc5, rfl, hB, hI⟩; have HI5 := Lib.hid hI; have HB5 := Lib.hid (show Bx (w5.alloc (.cells #[.slice t5 tl5 tc5] 24)) w5.heap.size t5 tl5 tc5 from ⟨by simp, by simp [go_sem]⟩); have KL5 := Lib.hid hB; replace KW := Lib.hid (bl_step KW.out (bl_alloc (o := .cells #[.slice t5 tl5 tc5] 24) hB)); clear hB hI; obtain ⟨x2, x3⟩ := V.out _ KW.out)
    | (go_at_call 29; (with_reducible refine (RJO.out _ KW.out).mono ?_); rintro e w6 ⟨t6, tl6, tc6, rfl, hB, hI⟩; have HI6 := Lib.hid hI; have HB6 := Lib.hid (show Bx (w6.alloc (.cells #[.slice t6 tl6 tc6] 24)) w6.heap.size t6 tl6 tc6 from ⟨by simp, by simp [go_sem]⟩); have KL6 := Lib.hid hB; replace KW := Lib.hid (bl_step KW.out (bl_alloc (o := .cells #[.slice t6 tl6 tc6] 24) hB)); clear hB hI; obtain ⟨x2, x3⟩ := V.out _ KW.out))
  obtain ⟨Z, hZ⟩ : ∃ Z, (w6.alloc (.cells #[.slice t6 tl6 tc6] 24)) = Z := ⟨_, rfl⟩
  have b6 : Below w6.heap.size w6 Z := by rw [← hZ]; exact bl_alloc (Below.refl _ _)
  have b5 : Below (w5.alloc (.cells #[.slice t5 tl5 tc5] 24)).heap.size (w5.alloc (.cells #[.slice t5 tl5 tc5] 24)) Z := bl_step KL6.out b6
  have b5' : Below w5.heap.size w5 Z := bl_step (bl_alloc (Below.refl _ _)) b5
  have b4 : Below (w4.alloc (.cells #[.slice t4 tl4 tc4] 24)).heap.size (w4.alloc (.cells #[.slice t4 tl4 tc4] 24)) Z := bl_step KL5.out b5'
  have b4' : Below w4.heap.size w4 Z := bl_step (bl_alloc (Below.refl _ _)) b4
  have b3 : Below (w3.alloc (.cells #[.slice t3 tl3 tc3] 24)).heap.size (w3.alloc (.cells #[.slice t3 tl3 tc3] 24)) Z := bl_step KL4.out b4'
  have b3' : Below w3.heap.size w3 Z := bl_step (bl_alloc (Below.refl _ _)) b3
  have VZ : Hid (∀ W, Below Z.heap.size Z W → W.cell? ⟨w3.heap.size, 0, none⟩ = some (.slice t3 tl3 tc3) ∧ W.cell? ⟨w4.heap.size, 0, none⟩ = some (.slice t4 tl4 tc4) ∧ W.cell? ⟨w5.heap.size, 0, none⟩ = some (.slice t5 tl5 tc5) ∧ W.cell? ⟨w6.heap.size, 0, none⟩ = some (.slice t6 tl6 tc6)) := Lib.hid fun W hW =>
    ⟨((HB3.out.later b3).later hW).2, ((HB4.out.later b4).later hW).2, ((HB5.out.later b5).later hW).2, (show Bx W w6.heap.size t6 tl6 tc6 from Bx.later (by rw [← hZ]; exact HB6.out) hW).2⟩
  have L1 : Hid (∀ W, Below Z.heap.size Z W → Calls Tryz.prog 25 #[.agg #[.slice t3 tl3 tc3], .int .i64 e1, .agg #[.slice t4 tl4 tc4], .int .i64 e1] W (LackP true W)) := Lib.hid fun W hW => like_same (n + 1) W t3 tl3 tc3 t4 tl4 tc4 M1 e1 (InV.below (bl_step b3' hW) HI3.out) (InV.below (bl_step b4' hW) HI4.out)
  have L2 : Hid (∀ W, Below Z.heap.size Z W → Calls Tryz.prog 25 #[.agg #[.slice t5 tl5 tc5], .int .i64 e2, .agg #[.slice t6 tl6 tc6], .int .i64 e2] W (LackP true W)) := Lib.hid fun W hW => like_same (n + 1) W t5 tl5 tc5 t6 tl6 tc6 M2 e2 (InV.below (bl_step b5' hW) HI5.out) (InV.below (bl_step b6 hW) HI6.out)
  have KZ : Hid (Below X.heap.size X Z) := by rw [← hZ]; exact KW
  have AZ : Hid (∀ W, Below Z.heap.size Z W → Calls Tryz.prog 13 #[] W (LackP true W)) := Lib.hid fun W hW => AW.out W (bl_step KZ.out hW)
  rw [hZ]
  clear b6 b5 b5' b4 b4' b3 b3' hZ HB3 HB4 HB5 HB6 KL3 KL4 KL5 KL6 HI3 HI4 HI5 HI6 KW AW FA FB ME RME JO RJO x2 x3 V
  generalize w3.heap.size = g3 at *
  generalize w4.heap.size = g4 at *
  generalize w5.heap.size = g5 at *
  generalize w6.heap.size = g6 at *
  have KK : Hid (Below Z.heap.size Z Z) := Below.refl _ _
  obtain ⟨c3, c4, c5, c6⟩ := VZ.out _ KK.out
  go_wp2_with (first
    | (go_at_call 13; (with_reducible refine (AZ.out _ KK.out).mono ?_); rintro e w7 ⟨rfl, hB⟩; replace KK := Lib.hid (bl_step KK.out hB); clear hB c3 c4 c5 c6; obtain ⟨c3, c4, c5, c6⟩ := VZ.out _ KK.out)
    | (go_at_call 25; (with_reducible refine (L1.out _ KK.out).mono ?_); rintro e w8 ⟨rfl, hB⟩; replace KK := Lib.hid (bl_step KK.out hB); clear hB c3 c4 c5 c6; obtain ⟨c3, c4, c5, c6⟩ := VZ.out _ KK.out)
    | (go_at_call 25; (with_reducible refine (L2.out _ KK.out).mono ?_); rintro e w9 ⟨rfl, hB⟩; replace KK := Lib.hid (bl_step KK.out hB); clear hB c3 c4 c5 c6; obtain ⟨c3, c4, c5, c6⟩ := VZ.out _ KK.out))
  go_ret
  exact ⟨rfl, bl_step HXW.out (bl_step KZ.out KK.out)⟩
end Go.Proofs.YtddleeenlpigfaaGreatDoor
