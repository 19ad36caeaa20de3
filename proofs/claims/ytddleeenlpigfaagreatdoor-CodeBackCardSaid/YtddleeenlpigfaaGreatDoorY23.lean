/- Re, Rg, Rh -/
import Derived.Deep.DeepCutAuto
import Derived.Deep.CutBlock
import Derived.Test.YtddleeenlpigfaaGreatDoorY19
import Derived.Test.YtddleeenlpigfaaGreatDoorY22
/- WALK of Depth. -/
namespace Go.Proofs.YtddleeenlpigfaaGreatDoor
open Go.RowKit
/-- The depths of the fields' values, one behind the other. -/
def deps (d : List Tm → Int) (A : List Tm) : List Int := A.flatMap fun t => t.fs.map fun x => d x.2
def mx (l : List Int) : Int := l.foldl max 0
def depV : Nat → List Tm → Int
  | 0, _ => 0
  | n + 1, A => wrap64 (1 + mx (deps (depV n) A))
theorem mx_snoc (l : List Int) (x : Int) : mx (l ++ [x]) = max (mx l) x := by unfold mx; rw [List.foldl_append]; rfl
theorem deps_snoc (d : List Tm → Int) (A : List Tm) (k : Nat) (h : k < A.length) : deps d (A.take (k + 1)) = deps d (A.take k) ++ (A[k].fs.map fun x => d x.2) := by
  unfold deps; rw [List.take_succ_eq_append_getElem h, List.flatMap_append, List.flatMap_cons, List.flatMap_nil, List.append_nil]
theorem part_snoc (d : List Tm → Int) (fs : List (ByteArray × List Tm)) (j : Nat) (h : j < fs.length) : ((fs.take (j + 1)).map fun x => d x.2) = ((fs.take j).map fun x => d x.2) ++ [d fs[j].2] := by
  rw [List.take_succ_eq_append_getElem h, List.map_append]; rfl
def DepPost (w : World) (r : Int) (e : Ending) (w' : World) : Prop := e = .returned (.int .i64 r) ∧ Below w.heap.size w w'
end Go.Proofs.YtddleeenlpigfaaGreatDoor
/- WALK of Weight. -/
namespace Go.Proofs.YtddleeenlpigfaaGreatDoor
open Go.RowKit
def sm (l : List Int) : Int := l.foldl (· + ·) 0
def wtV : Nat → List Tm → Int
  | 0, _ => 0
  | n + 1, A => wrap64 (A.length + sm (deps (wtV n) A))
theorem sm_snoc (l : List Int) (x : Int) : sm (l ++ [x]) = sm l + x := by unfold sm; rw [List.foldl_append]; rfl
theorem wrap_left (x y : Int) : wrap64 (wrap64 x + y) = wrap64 (x + y) := by unfold wrap64; omega
theorem wrap_small {x : Int} (h0 : 0 ≤ x) (h : x ≤ 9223372036854775807) : wrap64 x = x := by unfold wrap64; omega
set_option maxRecDepth 100000 in
set_option maxHeartbeats 8000000 in
theorem weight_step (n : Nat) (ih : ∀ (W : World) (t : Option Addr) (tl tc : Nat) (A : List Tm), InV W n t tl tc A → Calls Tryz.prog 91 #[.agg #[.slice t tl tc]] W (DepPost W (wtV n A)))
    (w : World) (t : Option Addr) (tl tc : Nat) (A : List Tm) (h : InV w (n + 1) t tl tc A) : Calls Tryz.prog 91 #[.agg #[.slice t tl tc]] w (DepPost w (wtV (n + 1) A)) := by
  obtain ⟨hl, hz, hA⟩ := h
  subst hl
  have IH := Lib.hid ih
  have HA := Lib.hid hA
  clear ih hA
  go_enter Tryz.func91, Tryz.ntmps91
  go_wp2_with fail
  go_loopw [3, 14] (fun a i wr => ∃ (k : Nat) (u : Int), k ≤ A.length ∧ i = .int .i64 k ∧ a = .int .i64 u ∧ Hid (u = wrap64 (A.length + sm (deps (wtV n) (A.take k)))) ∧ Hid (Below w.heap.size w wr)) (fun _ i _ => A.length - (intOf i).toNat)
  case atStart => exact ⟨0, A.length, Nat.zero_le _, rfl, rfl, (by rw [List.take_zero]; show (A.length : Int) = wrap64 (A.length + 0); rw [Int.add_zero, wrap_small (by omega) hz]), bl_alloc (Below.refl _ _)⟩
  case round =>
    obtain ⟨k, u, hk, rfl, rfl, hu, hB⟩ := hrel
    rename World => wr
    by_cases hlt : k < A.length
    · have hki : (k : Int) < (A.length : Int) := by omega
      have hk0 : (0 : Int) ≤ (k : Int) := by omega
      obtain ⟨b1, off1, rfl, i1⟩ := HA.out k hlt
      have HD := Lib.hid (deps_snoc (wtV n) A k hlt)
      generalize hgx : A[k] = x9 at i1
      rw [hgx] at HD
      clear hgx
      obtain ⟨k5, lo5, hi5, s5, y5, m5, o5, g5⟩ := x9
      obtain ⟨lt1, f5, fl5, fc5, c0, c1, c2, c3, c4, c5, c6, c7, j1⟩ := i1
      have e : ∀ i, wr.cell? ⟨b1, i, none⟩ = w.cell? ⟨b1, i, none⟩ := fun i => hB.out.cell (p := ⟨b1, i, none⟩) lt1
      replace c0 := (e _).trans c0
      replace c1 := (e _).trans c1
      replace c2 := (e _).trans c2
      replace c3 := (e _).trans c3
      replace c4 := (e _).trans c4
      replace c5 := (e _).trans c5
      replace c6 := (e _).trans c6
      replace c7 := (e _).trans c7
      have lt1' : b1 < wr.heap.size := Nat.lt_of_lt_of_le lt1 hB.out.size
      obtain ⟨l5, z5, j5⟩ := j1
      have J5 := Lib.hid j5
      have L5 := Lib.hid l5
      clear e lt1 j5 l5
      go_upto_region 6 with fail
      go_loopw [3, 21] (fun a i wi => ∃ (j : Nat) (v : Int), j ≤ fl5 ∧ i = .int .i64 j ∧ a = .int .i64 v ∧ Hid (v = wrap64 (A.length + sm (deps (wtV n) (A.take k) ++ ((g5.take j).map fun x => wtV n x.2)))) ∧ Hid (Below w.heap.size w wi)) (fun _ i _ => fl5 - (intOf i).toNat)
      case atStart => exact ⟨0, u, Nat.zero_le _, rfl, rfl, hu.out.trans (by simp), bl_alloc hB.out⟩
      case round =>
        obtain ⟨j, v, hj, rfl, rfl, hv, hBi⟩ := hrel
        rename World => wi
        clear c0 c1 c2 c3 c4 c5 c6 c7
        by_cases hjl : j < fl5
        · have hji : (j : Int) < (fl5 : Int) := by omega
          have hj0 : (0 : Int) ≤ (j : Int) := by omega
          have hjs : j < g5.length := by rw [L5.out]; exact hjl
          obtain ⟨b2, off2, tl2, tc2, t2, rfl, lt2, d0, d1, i2⟩ := J5.out j hjs
          replace d0 := (hBi.out.cell (p := ⟨b2, off2 + j * 2, none⟩) lt2).trans d0
          replace d1 := (hBi.out.cell (p := ⟨b2, off2 + j * 2 + 1, none⟩) lt2).trans d1
          have lt2' : b2 < wi.heap.size := Nat.lt_of_lt_of_le lt2 hBi.out.size
          have HP := Lib.hid (part_snoc (wtV n) g5 j hjs)
          generalize hnm : (g5[j]).1 = nm at *
          generalize hvv : (g5[j]).2 = vv at *
          clear hnm hvv
          have IC := Lib.hid (fun (W : World) (hW : Below w.heap.size w W) => IH.out W t2 tl2 tc2 vv (InV.below hW i2))
          generalize wtV n vv = r at *
          have HWI := Lib.hid hBi.out
          clear lt2 i2
          go_wp2_with (go_at_call 91; refine (IC.out _ (bl_alloc HWI.out)).mono ?_; rintro e w2 ⟨rfl, hB2⟩; have HB2 := Lib.hid hB2; clear hB2)
          go_roundw
          case rel => exact ⟨j + 1, wrap64 (v + r), by omega, by go_num, rfl, Lib.hid (by rw [HP.out, ← List.append_assoc, sm_snoc, hv.out, wrap_left, Int.add_assoc]), bl_step (bl_alloc HWI.out) HB2.out⟩
          case measure => simp [intOf]; omega
        · go_wp2_with fail
          go_roundw
          case rel => exact ⟨k + 1, v, by omega, by go_num, rfl, Lib.hid (by rw [HD.out, hv.out, show List.take j g5 = g5 from List.take_of_length_le (by rw [L5.out]; omega)]; rfl), hBi⟩
          case measure => simp [intOf]; omega
    · go_wp2_with fail
      go_ret
      exact ⟨ret_int (by rw [wtV, hu.out, List.take_of_length_le (by omega)]), hB.out⟩
theorem weight_in : ∀ (n : Nat) (W : World) (t : Option Addr) (tl tc : Nat) (A : List Tm), InV W n t tl tc A → Calls Tryz.prog 91 #[.agg #[.slice t tl tc]] W (DepPost W (wtV n A))
  | 0, _, _, _, _, _, h => h.elim
  | n + 1, W, t, tl, tc, A, h => weight_step n (weight_in n) W t tl tc A h


end Go.Proofs.YtddleeenlpigfaaGreatDoor
/- WALK of the reference's Weight. -/
namespace Go.Proofs.YtddleeenlpigfaaGreatDoor
open Go.RowKit
set_option maxRecDepth 100000 in
set_option maxHeartbeats 8000000 in
theorem rweight_step (n : Nat) (ih : ∀ (W : World) (t : Option Addr) (tl tc : Nat) (A : List Tm), InV W n t tl tc A → Calls Tryz.prog 37 #[.agg #[.slice t tl tc]] W (DepPost W (wtV n A)))
    (w : World) (t : Option Addr) (tl tc : Nat) (A : List Tm) (h : InV w (n + 1) t tl tc A) : Calls Tryz.prog 37 #[.agg #[.slice t tl tc]] w (DepPost w (wtV (n + 1) A)) := by
  obtain ⟨hl, hz, hA⟩ := h
  subst hl
  have IH := Lib.hid ih
  have HA := Lib.hid hA
  clear ih hA
  go_enter Tryz.func37, Tryz.ntmps37
  go_wp2_with fail
  go_loopw [3, 4] (fun a i wr => ∃ (k : Nat) (u : Int), k ≤ A.length ∧ i = .int .i64 k ∧ a = .int .i64 u ∧ Hid (u = wrap64 (k + sm (deps (wtV n) (A.take k)))) ∧ Bx wr w.heap.size t A.length tc ∧ Hid (Below w.heap.size w wr)) (fun _ i _ => A.length - (intOf i).toNat)
  case atStart => exact ⟨0, 0, Nat.zero_le _, rfl, rfl, Lib.hid (show (0 : Int) = wrap64 (((0 : Nat) : Int) + sm (deps (wtV n) (A.take 0))) by rw [List.take_zero]; show (0 : Int) = wrap64 (0 + 0); rw [Int.add_zero]; exact (wrap_small (x := 0) (by omega) (by omega)).symm), ⟨by simp, by simp [go_sem]⟩, bl_alloc (Below.refl _ _)⟩
  case round =>
    obtain ⟨k, u, hk, rfl, rfl, hu, hX, hB⟩ := hrel
    rename World => wr
    have bx := hX.2
    have HX := Lib.hid hX
    clear hX
    by_cases hlt : k < A.length
    · have hki : (k : Int) < (A.length : Int) := by omega
      have hk0 : (0 : Int) ≤ (k : Int) := by omega
      obtain ⟨b1, off1, rfl, i1⟩ := HA.out k hlt
      have HD := Lib.hid (deps_snoc (wtV n) A k hlt)
      generalize hgx : A[k] = x9 at i1
      rw [hgx] at HD
      clear hgx
      obtain ⟨k5, lo5, hi5, s5, y5, m5, o5, g5⟩ := x9
      obtain ⟨lt1, f5, fl5, fc5, c0, c1, c2, c3, c4, c5, c6, c7, j1⟩ := i1
      have e : ∀ i, wr.cell? ⟨b1, i, none⟩ = w.cell? ⟨b1, i, none⟩ := fun i => hB.out.cell (p := ⟨b1, i, none⟩) lt1
      replace c0 := (e _).trans c0
      replace c1 := (e _).trans c1
      replace c2 := (e _).trans c2
      replace c3 := (e _).trans c3
      replace c4 := (e _).trans c4
      replace c5 := (e _).trans c5
      replace c6 := (e _).trans c6
      replace c7 := (e _).trans c7
      have lt1' : b1 < wr.heap.size := Nat.lt_of_lt_of_le lt1 hB.out.size
      obtain ⟨l5, z5, j5⟩ := j1
      have J5 := Lib.hid j5
      have L5 := Lib.hid l5
      clear e lt1 j5 l5
      go_upto_region 8 with fail
      go_loopw [3, 6] (fun a i wi => ∃ (j : Nat) (v : Int), j ≤ fl5 ∧ i = .int .i64 j ∧ a = .int .i64 v ∧ Hid (v = wrap64 (k + 1 + sm (deps (wtV n) (A.take k) ++ ((g5.take j).map fun x => wtV n x.2)))) ∧ Bx wi w.heap.size (some ⟨b1, off1, none⟩) A.length tc ∧ Hid (Below w.heap.size w wi)) (fun _ i _ => fl5 - (intOf i).toNat)
      case atStart => exact ⟨0, wrap64 (u + 1), Nat.zero_le _, rfl, rfl, Lib.hid (by rw [hu.out, wrap_left, List.take_zero, List.map_nil, List.append_nil, Int.add_right_comm]), HX.out, hB⟩
      case round =>
        obtain ⟨j, v, hj, rfl, rfl, hv, hXi, hBi⟩ := hrel
        rename World => wi
        have HXi := Lib.hid hXi
        clear hXi bx
        clear c0 c1 c2 c3 c4 c5 c6 c7
        by_cases hjl : j < fl5
        · have hji : (j : Int) < (fl5 : Int) := by omega
          have hj0 : (0 : Int) ≤ (j : Int) := by omega
          have hjs : j < g5.length := by rw [L5.out]; exact hjl
          obtain ⟨b2, off2, tl2, tc2, t2, rfl, lt2, d0, d1, i2⟩ := J5.out j hjs
          replace d0 := (hBi.out.cell (p := ⟨b2, off2 + j * 2, none⟩) lt2).trans d0
          replace d1 := (hBi.out.cell (p := ⟨b2, off2 + j * 2 + 1, none⟩) lt2).trans d1
          have lt2' : b2 < wi.heap.size := Nat.lt_of_lt_of_le lt2 hBi.out.size
          have HP := Lib.hid (part_snoc (wtV n) g5 j hjs)
          generalize hnm : (g5[j]).1 = nm at *
          generalize hvv : (g5[j]).2 = vv at *
          clear hnm hvv
          have IC := Lib.hid (fun (W : World) (hW : Below w.heap.size w W) => IH.out W t2 tl2 tc2 vv (InV.below hW i2))
          generalize wtV n vv = r at *
          have HWI := Lib.hid hBi.out
          clear lt2 i2
          go_wp2_with (go_at_call 37; refine (IC.out _ HWI.out).mono ?_; rintro e w2 ⟨rfl, hB2⟩; have HB2 := Lib.hid hB2; clear hB2)
          go_roundw
          case rel => exact ⟨j + 1, wrap64 (v + r), by omega, by go_num, rfl, Lib.hid (by rw [HP.out, ← List.append_assoc, sm_snoc, hv.out, wrap_left, Int.add_assoc]), HXi.out.later HB2.out, bl_step HWI.out HB2.out⟩
          case measure => simp [intOf]; omega
        · go_wp2_with fail
          go_roundw
          case rel => exact ⟨k + 1, v, by omega, by go_num, rfl, Lib.hid (by rw [HD.out, hv.out, show List.take j g5 = g5 from List.take_of_length_le (by rw [L5.out]; omega), show ((k + 1 : Nat) : Int) = (k : Int) + 1 by omega]; rfl), HXi.out, hBi⟩
          case measure => simp [intOf]; omega
    · go_wp2_with fail
      go_ret
      exact ⟨ret_int (by rw [wtV, hu.out, List.take_of_length_le (by omega), show k = A.length by omega]), hB.out⟩
theorem rweight_in : ∀ (n : Nat) (W : World) (t : Option Addr) (tl tc : Nat) (A : List Tm), InV W n t tl tc A → Calls Tryz.prog 37 #[.agg #[.slice t tl tc]] W (DepPost W (wtV n A))
  | 0, _, _, _, _, _, h => h.elim
  | n + 1, W, t, tl, tc, A, h => rweight_step n (rweight_in n) W t tl tc A h


end Go.Proofs.YtddleeenlpigfaaGreatDoor
