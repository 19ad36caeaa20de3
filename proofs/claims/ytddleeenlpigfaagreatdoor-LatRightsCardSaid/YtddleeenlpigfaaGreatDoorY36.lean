/- WALK of LatRights. -/
import Derived.Test.YtddleeenlpigfaaGreatDoorY34
namespace Go.Proofs.YtddleeenlpigfaaGreatDoor
open Go.RowKit
def anyV : List Tm := [.mk 5 0 0 ⟨#[]⟩ false false false []]
theorem rg_any {m : Nat} : RG (m + 1) anyV :=
  ⟨⟨fun x hx => by rw [List.mem_singleton.1 hx]; exact (show RT _ _ from by unfold RT; rw [if_pos (by rfl)]; rfl), List.pairwise_singleton _ _, List.pairwise_singleton _ _⟩, by rw [anyV, wN_cons, wN_nil]; show 1 + 0 + 0 ≤ 512; omega⟩
theorem rg_nil0 {m : Nat} : RG (m + 1) [] := ⟨⟨fun x h => absurd h (by simp), List.Pairwise.nil, List.Pairwise.nil⟩, by rw [wN_nil]; omega⟩
theorem und_any {m : Nat} (A : List Tm) : undV (m + 1) A anyV = true := undV_iff.2 fun _ _ => ⟨_, List.mem_singleton.2 rfl, undT_five rfl⟩
theorem und_none {m : Nat} (A : List Tm) : undV (m + 1) [] A = true := undV_iff.2 fun _ h => absurd h (by simp)
theorem nm_any {m : Nat} : NmV (m + 1) anyV := fun x hx f hf => by
  rw [List.mem_singleton.1 hx] at hf
  exact absurd (show f ∈ ([] : List Fd) from hf) (by simp)
theorem nm_nil {m : Nat} : NmV (m + 1) [] := fun x hx => absurd hx (by simp)
set_option maxRecDepth 100000 in
set_option maxHeartbeats 8000000 in
theorem lrights_walk (n : Nat) (w : World) (ta : Option Addr) (la ca : Nat) (A : List Tm) (tb : Option Addr) (lb cb : Nat) (B : List Tm)
    (hA : InV w (n + 1) ta la ca A) (hB : InV w (n + 1) tb lb cb B) (nA : NmV (n + 1) A) (nB : NmV (n + 1) B) (eA : LnV (n + 1) A) (eB : LnV (n + 1) B) (hE : Nm.Env w) :
    Calls Tryz.prog 3 #[.agg #[.slice ta la ca], .agg #[.slice tb lb cb]] w (LackP true w) := by
  have HXE : ∃ X, (w.alloc (.cells #[.slice ta la ca] 24)).alloc (.cells #[.slice tb lb cb] 24) = X := ⟨_, rfl⟩
  obtain ⟨X, hX⟩ := HXE
  have HXB : Hid (Below w.heap.size w X ∧ Bx X w.heap.size ta la ca ∧ Bx X (w.heap.size + 1) tb lb cb) := by
    rw [← hX]; exact ⟨bl_alloc (bl_alloc (Below.refl _ _)), ⟨by simp; omega, by simp [go_sem]⟩, ⟨by simp, by simp [go_sem]⟩⟩
  have HXW := Lib.hid HXB.out.1
  have V : Hid (∀ W, Below X.heap.size X W → W.cell? ⟨w.heap.size, 0, none⟩ = some (.slice ta la ca) ∧ W.cell? ⟨w.heap.size + 1, 0, none⟩ = some (.slice tb lb cb)) := fun W hW => ⟨(HXB.out.2.1.later hW).2, (HXB.out.2.2.later hW).2⟩
  have iA := Lib.hid (fun (W : World) (hW : Below X.heap.size X W) => InV.below (bl_step HXW.out hW) hA)
  have iB := Lib.hid (fun (W : World) (hW : Below X.heap.size X W) => InV.below (bl_step HXW.out hW) hB)
  have iE := Lib.hid (fun (W : World) (hW : Below X.heap.size X W) => hE.below (bl_step HXW.out hW))
  have FA := Lib.hid (fun (W : World) (hW : Below X.heap.size X W) => few9_any (n + 1) W ta la ca A (iA.out W hW))
  have FB := Lib.hid (fun (W : World) (hW : Below X.heap.size X W) => few9_any (n + 1) W tb lb cb B (iB.out W hW))
  obtain ⟨qa, hqa⟩ : ∃ q, rgV (n + 1) A = q := ⟨_, rfl⟩
  obtain ⟨qb, hqb⟩ : ∃ q, rgV (n + 1) B = q := ⟨_, rfl⟩
  obtain ⟨u, hu⟩ : ∃ u, undV (n + 1) A B = u := ⟨_, rfl⟩
  have CA : Hid (∀ W, Below X.heap.size X W → Calls Tryz.prog 14 #[.agg #[.slice ta la ca]] W fun e w' => e = .returned (.bool qa) ∧ Below W.heap.size W w') := fun W hW => by
    rw [← hqa]; exact (rrv_in (n + 1) W ta la ca A (iA.out W hW) nA eA).mono fun _ _ ⟨a, b⟩ => ⟨a, b⟩
  have CB : Hid (∀ W, Below X.heap.size X W → Calls Tryz.prog 14 #[.agg #[.slice tb lb cb]] W fun e w' => e = .returned (.bool qb) ∧ Below W.heap.size W w') := fun W hW => by
    rw [← hqb]; exact (rrv_in (n + 1) W tb lb cb B (iB.out W hW) nB eB).mono fun _ _ ⟨a, b⟩ => ⟨a, b⟩
  have DA : Hid (∀ W, Below X.heap.size X W → Calls Tryz.prog 18 #[.agg #[.slice ta la ca]] W fun e w' => e = .returned (.bool qa) ∧ Below W.heap.size W w') := fun W hW => by
    rw [← hqa]; exact (lright_in (n + 1) W ta la ca A ⟨iA.out W hW, nA, iE.out W hW⟩).mono fun _ _ ⟨a, b⟩ => ⟨a, b⟩
  have DB : Hid (∀ W, Below X.heap.size X W → Calls Tryz.prog 18 #[.agg #[.slice tb lb cb]] W fun e w' => e = .returned (.bool qb) ∧ Below W.heap.size W w') := fun W hW => by
    rw [← hqb]; exact (lright_in (n + 1) W tb lb cb B ⟨iB.out W hW, nB, iE.out W hW⟩).mono fun _ _ ⟨a, b⟩ => ⟨a, b⟩
  have BL : Hid (∀ W, Below X.heap.size X W → Calls Tryz.prog 19 #[.agg #[.slice ta la ca], .agg #[.slice tb lb cb]] W fun e w' => e = .returned (.bool (qa && qb && u)) ∧ Below W.heap.size W w') := fun W hW => by
    rw [← hqa, ← hqb, ← hu]; exact (lbelow_in (n + 1) W ta la ca A tb lb cb B ⟨iA.out W hW, nA, iE.out W hW⟩ ⟨iB.out W hW, nB, iE.out W hW⟩).mono fun _ _ ⟨a, b⟩ => ⟨a, b⟩
  have UN : Hid (∀ W, Below X.heap.size X W → Calls Tryz.prog 20 #[.agg #[.slice ta la ca], .agg #[.slice tb lb cb]] W fun e w' => e = .returned (.bool u) ∧ Below W.heap.size W w') := fun W hW => by
    rw [← hu]; exact (runder_in (n + 1) W ta la ca A tb lb cb B (iA.out W hW) (iB.out W hW)).mono fun _ _ ⟨a, b⟩ => ⟨a, b⟩
  have NA : Hid (∀ W, Below X.heap.size X W → Calls Tryz.prog 19 #[.agg #[.slice none 0 0], .agg #[.slice ta la ca]] W fun e w' => e = .returned (.bool qa) ∧ Below W.heap.size W w') := fun W hW => by
    have h := lbelow_in (n + 1) W none 0 0 [] ta la ca A ⟨inV_nil, nm_nil, iE.out W hW⟩ ⟨iA.out W hW, nA, iE.out W hW⟩
    rw [rgV_yes.2 rg_nil0, hqa, und_none] at h
    exact h.mono fun _ _ ⟨a, b⟩ => ⟨by rw [a]; cases qa <;> rfl, b⟩
  have AN : Hid (∀ W g, Below X.heap.size X W → InV W (n + 1) (some ⟨g, 0, none⟩) 1 1 anyV → Calls Tryz.prog 19 #[.agg #[.slice ta la ca], .agg #[.slice (some ⟨g, 0, none⟩) 1 1]] W fun e w' => e = .returned (.bool qa) ∧ Below W.heap.size W w') := fun W g hW hv => by
    have h := lbelow_in (n + 1) W ta la ca A (some ⟨g, 0, none⟩) 1 1 anyV ⟨iA.out W hW, nA, iE.out W hW⟩ ⟨hv, nm_any, iE.out W hW⟩
    rw [rgV_yes.2 rg_any, hqa, und_any] at h
    exact h.mono fun _ _ ⟨a, b⟩ => ⟨by rw [a]; cases qa <;> rfl, b⟩
  have SM : Hid (∀ W g g2, Below X.heap.size X W → InV W (n + 1) (some ⟨g, 0, none⟩) 1 1 anyV → InV W (n + 1) (some ⟨g2, 0, none⟩) 1 1 anyV → Calls Tryz.prog 17 #[.agg #[.slice (some ⟨g, 0, none⟩) 1 1], .agg #[.slice (some ⟨g2, 0, none⟩) 1 1]] W fun e w' => e = .returned (.bool true) ∧ Below W.heap.size W w') := fun W g g2 hW h1 h2 => by
    have h := rsame_in (n + 1) W _ 1 1 anyV _ 1 1 anyV h1 h2
    rw [(cmpV_cmp (n + 1)).refl] at h
    exact h.mono fun _ _ ⟨a, b⟩ => ⟨a, b⟩
  have AW : Hid (∀ W, Below X.heap.size X W → Calls Tryz.prog 13 #[] W fun e w' => e = .returned (.bool true) ∧ Below W.heap.size W w') := fun W hW => (awake_in W (iE.out W hW)).mono fun _ _ ⟨a, b⟩ => ⟨a, b⟩
  clear hA hB nA nB eA eB hE hqa hqb hu iA iB iE HXB
  go_enter Tryz.func3, Tryz.ntmps3
  go_upto_region 1 with fail
  clear hX
  have KW : Hid (Below X.heap.size X X) := Below.refl _ _
  obtain ⟨x2, x3⟩ := V.out _ KW.out
  go_wp2_with (first
    | (go_at_call 12; (with_reducible refine (FA.out _ KW.out).mono ?_); rintro e w1 ⟨b, rfl, hB, -⟩; replace KW := Lib.hid (bl_step KW.out hB); clear hB; obtain ⟨x2, x3⟩ := V.out _ KW.out; cases b)
    | (go_at_call 13; (with_reducible refine (AW.out _ KW.out).mono ?_); rintro e w1 ⟨rfl, hB⟩; replace KW := Lib.hid (bl_step KW.out hB); clear hB; obtain ⟨x2, x3⟩ := V.out _ KW.out))
  · go_ret
    exact ⟨rfl, bl_step HXW.out KW.out⟩
  go_wp2_with (first
    | (go_at_call 12; (with_reducible refine (FB.out _ KW.out).mono ?_); rintro e w1 ⟨b, rfl, hB, -⟩; replace KW := Lib.hid (bl_step KW.out hB); clear hB; obtain ⟨x2, x3⟩ := V.out _ KW.out; cases b)
    | (go_at_call 13; (with_reducible refine (AW.out _ KW.out).mono ?_); rintro e w1 ⟨rfl, hB⟩; replace KW := Lib.hid (bl_step KW.out hB); clear hB; obtain ⟨x2, x3⟩ := V.out _ KW.out))
  · go_ret
    exact ⟨rfl, bl_step HXW.out KW.out⟩
  go_upto_region 3 with fail
  clear x2 x3
  refine region_class (C := fun W => Below X.heap.size X W) (by kernel_rfl) (by kernel_rfl) (KW.out.drew) ?_
  repeat (first | go_big_quiet_skip | (go_big_quiet_want; go_big_quiet_op; first | go_big_quiet_on | (apply Exists.intro; refine ⟨fun W hW => ?_, ?_⟩; (first | rfl | with_reducible exact ((CA.out W hW).mono fun _ _ h => ⟨h.1, bl_step hW h.2⟩) | with_reducible exact ((CB.out W hW).mono fun _ _ h => ⟨h.1, bl_step hW h.2⟩) | (obtain ⟨q2, q3⟩ := V.out W hW; go_simp; first | done | rfl | exact ⟨rfl, rfl⟩)); go_big_quiet_on)))
  refine wpQuiet_nil ?_
  intro w9 hW9
  replace KW := Lib.hid hW9
  clear hW9 CA CB FA FB
  obtain ⟨x2, x3⟩ := V.out _ KW.out
  go_upto_region 5 with (first
    | (go_at_call 15; (with_reducible refine (none_any _).mono ?_); rintro e w4 ⟨rfl, hB⟩; replace KW := Lib.hid (bl_step KW.out hB); clear hB)
    | (go_at_call 16; (with_reducible refine (lany_any _).mono ?_); rintro e w5 ⟨g5, rfl, hB, hg, hT⟩; replace KW := Lib.hid (bl_step KW.out hB); have IG := Lib.hid (OneP.inV hg hT n); clear hB hg hT))
  obtain ⟨Z, hZ⟩ : ∃ Z, (w5.alloc (.cells #[.slice none 0 0] 24)).alloc (.cells #[.slice (some ⟨g5, 0, none⟩) 1 1] 24) = Z := ⟨_, rfl⟩
  have HZ : Hid (Below w5.heap.size w5 Z ∧ Bx Z w5.heap.size none 0 0 ∧ Bx Z (w5.heap.size + 1) (some ⟨g5, 0, none⟩) 1 1) := by
    rw [← hZ]; exact ⟨bl_alloc (bl_alloc (Below.refl _ _)), ⟨by simp; omega, by simp [go_sem]⟩, ⟨by simp, by simp [go_sem]⟩⟩
  rw [hZ]
  clear hZ
  have KX := Lib.hid (bl_step KW.out HZ.out.1)
  have IZ : Hid (InV Z (n + 1) (some ⟨g5, 0, none⟩) 1 1 anyV) := InV.below HZ.out.1 IG.out
  have SM2 : Hid (∀ W, Below Z.heap.size Z W → Calls Tryz.prog 17 #[.agg #[.slice (some ⟨g5, 0, none⟩) 1 1], .agg #[.slice (some ⟨W.heap.size, 0, none⟩) 1 1]] (W.alloc (.cells #[.int .i64 5, .int .i64 0, .int .i64 0, .string ⟨#[]⟩, .bool false, .bool false, .bool false, .slice none 0 0] 31)) fun e w' => e = .returned (.bool true) ∧ Below W.heap.size W w') := fun W hW =>
    (SM.out _ g5 _ (bl_step KX.out (bl_alloc hW)) (InV.below (bl_alloc hW) IZ.out) (OneP.inV new_lt (Tc.new W 5 0 0 ⟨#[]⟩ false false false none 0 0) n)).mono fun _ _ ⟨a, b⟩ => ⟨a, bl_step (bl_alloc (Below.refl _ _)) b⟩
  have VZ : Hid (∀ W, Below Z.heap.size Z W → W.cell? ⟨w.heap.size, 0, none⟩ = some (.slice ta la ca) ∧ W.cell? ⟨w.heap.size + 1, 0, none⟩ = some (.slice tb lb cb) ∧ W.cell? ⟨w5.heap.size, 0, none⟩ = some (.slice none 0 0) ∧ W.cell? ⟨w5.heap.size + 1, 0, none⟩ = some (.slice (some ⟨g5, 0, none⟩) 1 1)) := fun W hW => by
    obtain ⟨a, b⟩ := V.out W (bl_step KX.out hW)
    exact ⟨a, b, (HZ.out.2.1.later hW).2, (HZ.out.2.2.later hW).2⟩
  clear x2 x3 V KW IG HZ
  generalize w5.heap.size = N5 at *
  have KW : Hid (Below Z.heap.size Z Z) := Below.refl _ _
  obtain ⟨x2, x3, x7, x8⟩ := VZ.out _ KW.out
  cases qa <;> cases qb <;> cases u
  all_goals
    go_wp2_with (first
      | (go_at_call 17; (with_reducible refine (SM2.out _ KW.out).mono ?_); rintro e w6 ⟨rfl, hB⟩; replace KW := Lib.hid (bl_step KW.out hB); clear hB; obtain ⟨x2, x3, x7, x8⟩ := VZ.out _ KW.out)
      | (go_at_call 13; (with_reducible refine (AW.out _ (bl_step KX.out KW.out)).mono ?_); rintro e w6 ⟨rfl, hB⟩; replace KW := Lib.hid (bl_step KW.out hB); clear hB; obtain ⟨x2, x3, x7, x8⟩ := VZ.out _ KW.out)
      | (go_at_call 18; (with_reducible refine (DA.out _ (bl_step KX.out KW.out)).mono ?_); rintro e w6 ⟨rfl, hB⟩; replace KW := Lib.hid (bl_step KW.out hB); clear hB; obtain ⟨x2, x3, x7, x8⟩ := VZ.out _ KW.out)
      | (go_at_call 18; (with_reducible refine (DB.out _ (bl_step KX.out KW.out)).mono ?_); rintro e w6 ⟨rfl, hB⟩; replace KW := Lib.hid (bl_step KW.out hB); clear hB; obtain ⟨x2, x3, x7, x8⟩ := VZ.out _ KW.out)
      | (go_at_call 19; (with_reducible refine (BL.out _ (bl_step KX.out KW.out)).mono ?_); rintro e w6 ⟨rfl, hB⟩; replace KW := Lib.hid (bl_step KW.out hB); clear hB; obtain ⟨x2, x3, x7, x8⟩ := VZ.out _ KW.out)
      | (go_at_call 20; (with_reducible refine (UN.out _ (bl_step KX.out KW.out)).mono ?_); rintro e w6 ⟨rfl, hB⟩; replace KW := Lib.hid (bl_step KW.out hB); clear hB; obtain ⟨x2, x3, x7, x8⟩ := VZ.out _ KW.out)
      | (go_at_call 19; (with_reducible refine (NA.out _ (bl_step KX.out KW.out)).mono ?_); rintro e w6 ⟨rfl, hB⟩; replace KW := Lib.hid (bl_step KW.out hB); clear hB; obtain ⟨x2, x3, x7, x8⟩ := VZ.out _ KW.out)
      | (go_at_call 19; (with_reducible refine (AN.out _ g5 (bl_step KX.out KW.out) (InV.below KW.out IZ.out)).mono ?_); rintro e w6 ⟨rfl, hB⟩; replace KW := Lib.hid (bl_step KW.out hB); clear hB; obtain ⟨x2, x3, x7, x8⟩ := VZ.out _ KW.out))
    go_ret
    exact ⟨rfl, bl_step HXW.out (bl_step KX.out KW.out)⟩
end Go.Proofs.YtddleeenlpigfaaGreatDoor
