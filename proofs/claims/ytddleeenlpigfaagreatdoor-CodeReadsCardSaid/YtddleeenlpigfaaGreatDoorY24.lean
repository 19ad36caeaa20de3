/- Rf, Al, Bq, Ba, Bb, Bc -/
import Derived.Test.YtddleeenlpigfaaGreatDoorY11
import Derived.Test.YtddleeenlpigfaaGreatDoorY19
import Derived.Test.YtddleeenlpigfaaGreatDoorY22
import Derived.Test.YtddleeenlpigfaaGreatDoorY23
/- WALK of the reference's Depth. -/
namespace Go.Proofs.YtddleeenlpigfaaGreatDoor
open Go.RowKit
set_option maxRecDepth 100000 in
set_option maxHeartbeats 8000000 in
theorem rdepth_step (n : Nat) (ih : ∀ (W : World) (t : Option Addr) (tl tc : Nat) (A : List Tm), InV W n t tl tc A → Calls Tryz.prog 38 #[.agg #[.slice t tl tc]] W (DepPost W (depV n A)))
    (w : World) (t : Option Addr) (tl tc : Nat) (A : List Tm) (h : InV w (n + 1) t tl tc A) : Calls Tryz.prog 38 #[.agg #[.slice t tl tc]] w (DepPost w (depV (n + 1) A)) := by
  obtain ⟨hl, hz, hA⟩ := h
  subst hl
  have IH := Lib.hid ih
  have HA := Lib.hid hA
  clear ih hA
  go_enter Tryz.func38, Tryz.ntmps38
  go_wp2_with fail
  go_loopw [3, 4] (fun a i wr => ∃ (k : Nat) (u : Int), k ≤ A.length ∧ i = .int .i64 k ∧ a = .int .i64 u ∧ Hid (u = mx (deps (depV n) (A.take k))) ∧ Bx wr w.heap.size t A.length tc ∧ Hid (Below w.heap.size w wr)) (fun _ i _ => A.length - (intOf i).toNat)
  case atStart => exact ⟨0, 0, Nat.zero_le _, rfl, rfl, rfl, ⟨by simp, by simp [go_sem]⟩, bl_alloc (Below.refl _ _)⟩
  case round =>
    obtain ⟨k, u, hk, rfl, rfl, hu, hX, hB⟩ := hrel
    rename World => wr
    have bx := hX.2
    have HX := Lib.hid hX
    clear hX
    by_cases hlt : k < A.length
    · have hki : (k : Int) < (A.length : Int) := by omega
      have hk0 : (0 : Int) ≤ (k : Int) := by omega
      obtain ⟨b1, off1, rfl, i1⟩ := HA.out k hlt
      have HD := Lib.hid (deps_snoc (depV n) A k hlt)
      generalize hgx : A[k] = x9 at i1
      rw [hgx] at HD
      clear hgx
      obtain ⟨k5, lo5, hi5, s5, y5, m5, o5, g5⟩ := x9
      obtain ⟨lt1, f5, fl5, fc5, c0, c1, c2, c3, c4, c5, c6, c7, j1⟩ := i1
      have e : ∀ i, wr.cell? ⟨b1, i, none⟩ = w.cell? ⟨b1, i, none⟩ := fun i => hB.out.cell (p := ⟨b1, i, none⟩) lt1
      replace c0 := (e _).trans c0
      replace c1 := (e _).trans c1
      replace c2 := (e _).trans c2
      replace c3 := (e _).trans c3
      replace c4 := (e _).trans c4
      replace c5 := (e _).trans c5
      replace c6 := (e _).trans c6
      replace c7 := (e _).trans c7
      have lt1' : b1 < wr.heap.size := Nat.lt_of_lt_of_le lt1 hB.out.size
      obtain ⟨l5, z5, j5⟩ := j1
      have J5 := Lib.hid j5
      have L5 := Lib.hid l5
      clear e lt1 j5 l5
      go_upto_region 7 with fail
      go_loopw [3, 6] (fun a i wi => ∃ (j : Nat) (v : Int), j ≤ fl5 ∧ i = .int .i64 j ∧ a = .int .i64 v ∧ Hid (v = mx (deps (depV n) (A.take k) ++ ((g5.take j).map fun x => depV n x.2))) ∧ Bx wi w.heap.size (some ⟨b1, off1, none⟩) A.length tc ∧ Hid (Below w.heap.size w wi)) (fun _ i _ => fl5 - (intOf i).toNat)
      case atStart => exact ⟨0, u, Nat.zero_le _, rfl, rfl, hu.out.trans (by simp), HX.out, hB⟩
      case round =>
        obtain ⟨j, v, hj, rfl, rfl, hv, hXi, hBi⟩ := hrel
        rename World => wi
        have HXi := Lib.hid hXi
        clear hXi bx
        clear c0 c1 c2 c3 c4 c5 c6 c7
        by_cases hjl : j < fl5
        · have hji : (j : Int) < (fl5 : Int) := by omega
          have hj0 : (0 : Int) ≤ (j : Int) := by omega
          have hjs : j < g5.length := by rw [L5.out]; exact hjl
          obtain ⟨b2, off2, tl2, tc2, t2, rfl, lt2, d0, d1, i2⟩ := J5.out j hjs
          replace d0 := (hBi.out.cell (p := ⟨b2, off2 + j * 2, none⟩) lt2).trans d0
          replace d1 := (hBi.out.cell (p := ⟨b2, off2 + j * 2 + 1, none⟩) lt2).trans d1
          have lt2' : b2 < wi.heap.size := Nat.lt_of_lt_of_le lt2 hBi.out.size
          have HP := Lib.hid (part_snoc (depV n) g5 j hjs)
          generalize hnm : (g5[j]).1 = nm at *
          generalize hvv : (g5[j]).2 = vv at *
          clear hnm hvv
          have IC := Lib.hid (fun (W : World) (hW : Below w.heap.size w W) => IH.out W t2 tl2 tc2 vv (InV.below hW i2))
          generalize depV n vv = r at *
          have HWI := Lib.hid hBi.out
          clear lt2 i2
          go_wp2_with (go_at_call 38; refine (IC.out _ HWI.out).mono ?_; rintro e w2 ⟨rfl, hB2⟩; have HB2 := Lib.hid hB2; clear hB2)
          · rename_i hlt'
            go_roundw
            case rel => exact ⟨j + 1, r, by omega, by go_num, rfl, Lib.hid (by rw [HP.out, ← List.append_assoc, mx_snoc, ← hv.out]; omega), HXi.out.later HB2.out, bl_step HWI.out HB2.out⟩
            case measure => simp [intOf]; omega
          · rename_i hlt'
            go_roundw
            case rel => exact ⟨j + 1, v, by omega, by go_num, rfl, Lib.hid (by rw [HP.out, ← List.append_assoc, mx_snoc, ← hv.out]; omega), HXi.out.later HB2.out, bl_step HWI.out HB2.out⟩
            case measure => simp [intOf]; omega
        · go_wp2_with fail
          go_roundw
          case rel => exact ⟨k + 1, v, by omega, by go_num, rfl, Lib.hid (by rw [HD.out, hv.out, show List.take j g5 = g5 from List.take_of_length_le (by rw [L5.out]; omega)]; rfl), HXi.out, hBi⟩
          case measure => simp [intOf]; omega
    · go_wp2_with fail
      go_ret
      exact ⟨ret_int (by rw [depV, hu.out, List.take_of_length_le (by omega)]), hB.out⟩
theorem rdepth_in : ∀ (n : Nat) (W : World) (t : Option Addr) (tl tc : Nat) (A : List Tm), InV W n t tl tc A → Calls Tryz.prog 38 #[.agg #[.slice t tl tc]] W (DepPost W (depV n A))
  | 0, _, _, _, _, _, h => h.elim
  | n + 1, W, t, tl, tc, A, h => rdepth_step n (rdepth_in n) W t tl tc A h

end Go.Proofs.YtddleeenlpigfaaGreatDoor
/- Growth told; a term's header; alone; weights and depths that do not run over. -/
namespace Go.Proofs.YtddleeenlpigfaaGreatDoor
open Go.RowKit
open Go.Sort (grow)
theorem grow_of {w w' : World} (h : Gr w.heap.size w w') : ∃ q os', w' = grow (w.drewN q) os' := by
  refine ⟨w'.drawn - w.drawn, w'.heap.extract w.heap.size w'.heap.size, ?_⟩
  have hh : w'.heap = w.heap ++ w'.heap.extract w.heap.size w'.heap.size := by
    apply Array.ext_getElem?
    intro i
    by_cases hi : i < w.heap.size
    · rw [Array.getElem?_append_left hi, h.1.block i hi]
    · rw [Array.getElem?_append_right (by omega), Array.getElem?_extract]
      by_cases hi2 : i < w'.heap.size
      · rw [if_pos (by have := h.size; omega)]
        congr 1; omega
      · rw [if_neg (by omega), Array.getElem?_eq_none (by omega)]
  obtain ⟨⟨h1, h2, h3, h4, h5⟩, h6⟩ := h
  cases w'
  cases w
  simp only [grow, World.drewN] at *
  subst h1 h2 h3
  congr 1
  omega
/-- The weight does not run over. -/
theorem sm_deps (n : Nat) (d : List Tm → Int) : ∀ A : List Tm, (∀ x ∈ A, ∀ f ∈ x.fs, d f.2 = wN n f.2) → A.length + sm (deps d A) = (wN (n + 1) A : Int) := by
  have key : ∀ (l : List Int) (a : Int), l.foldl (· + ·) a = a + sm l := by
    intro l
    induction l with
    | nil => intro a; simp [sm]
    | cons x l ih => intro a; rw [List.foldl_cons, ih]; unfold sm; rw [List.foldl_cons, ih (0 + x)]; unfold sm; omega
  have app : ∀ l r : List Int, sm (l ++ r) = sm l + sm r := by
    intro l r; unfold sm; rw [List.foldl_append, key]; rfl
  have fld : ∀ fs : List (ByteArray × List Tm), (∀ f ∈ fs, d f.2 = wN n f.2) → sm (fs.map fun x => d x.2) = wF n fs := by
    intro fs
    induction fs with
    | nil => intro _; rfl
    | cons f fs ih =>
      intro h
      rw [List.map_cons, wF_cons, show sm (d f.2 :: fs.map fun x => d x.2) = d f.2 + sm (fs.map fun x => d x.2) from by
        have := app [d f.2] (fs.map fun x => d x.2)
        simpa [sm] using this, h f (by simp), ih (fun g hg => h g (by simp [hg]))]
      omega
  intro A
  induction A with
  | nil => intro _; rfl
  | cons x A ih =>
    intro h
    have e : deps d (x :: A) = (x.fs.map fun y => d y.2) ++ deps d A := by unfold deps; rw [List.flatMap_cons]
    rw [e, app, fld x.fs (h x (by simp)), wN_cons]
    have := ih (fun y hy => h y (by simp [hy]))
    simp only [List.length_cons]
    omega
theorem wtV_exact : ∀ {n : Nat} {A : List Tm}, (wN n A : Int) ≤ 9223372036854775807 → wtV n A = wN n A
  | 0, _, _ => rfl
  | n + 1, A, h => by
    have : A.length + sm (deps (wtV n) A) = (wN (n + 1) A : Int) := sm_deps n (wtV n) A (fun x hx f hf => wtV_exact (by
      have h1 := wN_mem (n := n) hx
      have h2 := wF_mem (n := n) hf
      omega))
    show wrap64 _ = _
    rw [this, wrap_small (by omega) h]
set_option maxRecDepth 100000 in
set_option maxHeartbeats 2000000 in
/-- A term as a value. -/
theorem alone_any (k lo hi : Int) (s : ByteArray) (y m o : Bool) (f : Option Addr) (fl fc : Nat) (w : World) : Calls Tryz.prog 76 #[tv k lo hi s y m o f fl fc] w fun e w' => ∃ g, e = .returned (.agg #[.slice (some ⟨g, 0, none⟩) 1 1]) ∧ Below w.heap.size w w' ∧ w.heap.size ≤ g ∧ g < w'.heap.size ∧ Tc w' g k lo hi s y m o f fl fc := by
  go_enter Tryz.func76, Tryz.ntmps76
  go_wp2_with fail
  refine bodyPost_ret (v := .agg #[.slice (some ⟨w.heap.size + 1 + 1, 0, none⟩) 1 1]) (by simp [results, Tryz.results76, go_sem]) rfl ⟨_, rfl, bl_alloc (bl_alloc (bl_alloc (Below.refl _ _))), by omega, by simp, ?_⟩
  have h := Tc.new ((w.alloc (.cells #[.int .i64 k, .int .i64 lo, .int .i64 hi, .string s, .bool y, .bool m, .bool o, .slice f fl fc] 31)).alloc (.cells #[.slice (some ⟨w.heap.size + 1 + 1, 0, none⟩) 1 1] 24)) k lo hi s y m o f fl fc
  rw [show ((w.alloc (.cells #[.int .i64 k, .int .i64 lo, .int .i64 hi, .string s, .bool y, .bool m, .bool o, .slice f fl fc] 31)).alloc (.cells #[.slice (some ⟨w.heap.size + 1 + 1, 0, none⟩) 1 1] 24)).heap.size = w.heap.size + 1 + 1 by simp] at h
  exact h
end Go.Proofs.YtddleeenlpigfaaGreatDoor
/- A variable's cell. -/
namespace Go.Proofs.YtddleeenlpigfaaGreatDoor
open Go.RowKit
/-- A variable's cell. -/
def Cx (w : World) (N o : Nat) (v : Value) : Prop := N < w.heap.size ∧ w.cell? ⟨N, o, none⟩ = some v ∧ w.frozen? ⟨N, o, none⟩ = false
theorem Cx.later {w w' : World} {N o : Nat} {v : Value} (h : Cx w N o v) (hb : Below w.heap.size w w') : Cx w' N o v := ⟨Nat.lt_of_lt_of_le h.1 hb.size, (hb.cell (p := ⟨N, o, none⟩) h.1).trans h.2.1, (hb.frozen (p := ⟨N, o, none⟩) h.1).trans h.2.2⟩
theorem Cx.kp {w w' : World} {N o P : Nat} {v : Value} (h : Cx w N o v) (hb : Kp P w w') (hne : N ≠ P) : Cx w' N o v := ⟨Nat.lt_of_lt_of_le h.1 hb.size, (hb.cell (p := ⟨N, o, none⟩) h.1 hne).trans h.2.1, (hb.frozen (p := ⟨N, o, none⟩) h.1 hne).trans h.2.2⟩
end Go.Proofs.YtddleeenlpigfaaGreatDoor
/- PLAIN MATHEMATICS: what Right asks, step by step. -/
namespace Go.Proofs.YtddleeenlpigfaaGreatDoor
/-- Is a value right, so deep at most, and no heavier? -/
noncomputable def rgB (n l : Nat) (r : Int) (A : List Tm) : Bool := @decide (RV n l A ∧ (wN n A : Int) ≤ r) (Classical.propDecidable _)
theorem rgB_yes {n l : Nat} {r : Int} {A : List Tm} : rgB n l r A = true ↔ RV n l A ∧ (wN n A : Int) ≤ r := @decide_eq_true_iff _ (Classical.propDecidable _)
theorem rgB_no {n l : Nat} {r : Int} {A : List Tm} : rgB n l r A = false ↔ ¬ (RV n l A ∧ (wN n A : Int) ≤ r) := @decide_eq_false_iff_not _ (Classical.propDecidable _)
def fAt (fs : List (ByteArray × List Tm)) (i : Nat) : ByteArray × List Tm := fs[i]?.getD ⟨⟨#[]⟩, []⟩
theorem fAt_eq {fs : List (ByteArray × List Tm)} {i : Nat} (h : i < fs.length) : fAt fs i = fs[i] := by unfold fAt; rw [List.getElem?_eq_getElem h]; rfl
/-- Fields that a struct may have, if p tells it of their values. -/
def RFb (p : Nat → Bool) (fs : List (ByteArray × List Tm)) : Prop := fs.length ≤ 32 ∧ Nm.Ris (fs.map (·.1)) fs.length ∧ ∀ i, i < fs.length → p i = true
/-- A term is right, if p tells it of its fields' values. -/
def RTb (p : Nat → Bool) (x : Tm) : Prop :=
  if x.k = 5 then x = anyT5
  else if x.k = 4 then x.lo = 0 ∧ x.hi = 0 ∧ x.s = ⟨#[]⟩ ∧ x.y = false ∧ x.m = false ∧ RFb p x.fs ∧ ∀ f ∈ x.fs, f.2 ≠ []
  else scR x
/-- Each is right, and what is left of the room. -/
noncomputable def pW (n l : Nat) (r : Int) (fs : List (ByteArray × List Tm)) (i : Nat) : Bool := rgB n l (r - wF n (fs.take i)) (fAt fs i).2
theorem wF_append (n : Nat) (a b : List (ByteArray × List Tm)) : wF n (a ++ b) = wF n a + wF n b := by unfold wF; rw [List.map_append, List.sum_append]
theorem wF_succ (n : Nat) {fs : List (ByteArray × List Tm)} {i : Nat} (h : i < fs.length) : wF n (fs.take (i + 1)) = wF n (fs.take i) + wN n (fAt fs i).2 := by
  rw [List.take_succ_eq_append_getElem h, wF_append, fAt_eq h]; simp [wF]
theorem pW_all {n l : Nat} : ∀ {fs : List (ByteArray × List Tm)} {r : Int}, 0 ≤ r → ((∀ i, i < fs.length → pW n l r fs i = true) ↔ (∀ f ∈ fs, RV n l f.2) ∧ (wF n fs : Int) ≤ r)
  | [], r, h => by simp [wF]; omega
  | f :: fs, r, h => by
    have e0 : pW n l r (f :: fs) 0 = rgB n l r f.2 := by
      show rgB n l (r - ((0 : Nat) : Int)) f.2 = _
      rw [show r - ((0 : Nat) : Int) = r by omega]
    have es : ∀ i, pW n l r (f :: fs) (i + 1) = pW n l (r - wN n f.2) fs i := fun i => by
      show rgB n l (r - (wF n (f :: fs.take i) : Nat)) (fAt fs i).2 = _
      rw [wF_cons, show r - ((wN n f.2 + wF n (fs.take i) : Nat) : Int) = r - wN n f.2 - (wF n (fs.take i) : Nat) by omega]; rfl
    constructor
    · intro hp
      have h0 := rgB_yes.1 (e0 ▸ hp 0 (by simp))
      have ih := (pW_all (n := n) (l := l) (fs := fs) (r := r - wN n f.2) (by omega)).1 (fun i hi => by rw [← es]; exact hp (i + 1) (by simpa using hi))
      refine ⟨fun g hg => ?_, by rw [wF_cons]; omega⟩
      rcases List.mem_cons.1 hg with rfl | hg
      · exact h0.1
      · exact ih.1 g hg
    · rintro ⟨h1, h2⟩ i hi
      rw [wF_cons] at h2
      cases i with
      | zero => rw [e0]; exact rgB_yes.2 ⟨h1 f (by simp), by omega⟩
      | succ i =>
        rw [es]
        exact (pW_all (n := n) (l := l) (fs := fs) (r := r - wN n f.2) (by omega)).2 ⟨fun g hg => h1 g (by simp [hg]), by omega⟩ i (by simpa using hi)
theorem rtb_iff {n l : Nat} {r : Int} (h : 0 ≤ r) {x : Tm} : RTb (pW n l r x.fs) x ↔ RT (RV n l) x ∧ (wF n x.fs : Int) ≤ r := by
  unfold RTb RT RFb RF
  have hz : x = anyT5 → (wF n x.fs : Int) ≤ r := fun e => by rw [e]; simp [anyT5, Tm.fs, wF]; omega
  have hs : scR x → (wF n x.fs : Int) ≤ r := fun e => by rw [(sc_flat e).2]; simp [wF]; omega
  have := pW_all (n := n) (l := l) (fs := x.fs) h
  split
  · exact ⟨fun e => ⟨e, hz e⟩, fun e => e.1⟩
  · split
    · rw [this]
      constructor
      · rintro ⟨a, b, c, d, e, ⟨f1, f2, f3, f4⟩, g⟩; exact ⟨⟨a, b, c, d, e, ⟨f1, f2, f3⟩, g⟩, f4⟩
      · rintro ⟨⟨a, b, c, d, e, ⟨f1, f2, f3⟩, g⟩, f4⟩; exact ⟨a, b, c, d, e, ⟨f1, f2, f3, f4⟩, g⟩
    · exact ⟨fun e => ⟨e, hs e⟩, fun e => e.1⟩
/-- The weights of the first terms' fields. -/
def wU (n : Nat) (A : List Tm) : Nat := (A.map fun x => wF n x.fs).sum
theorem wU_succ (n : Nat) {A : List Tm} {k : Nat} (h : k < A.length) : wU n (A.take (k + 1)) = wU n (A.take k) + wF n A[k].fs := by
  rw [List.take_succ_eq_append_getElem h]; unfold wU; rw [List.map_append, List.sum_append]; simp
theorem wN_U (n : Nat) (A : List Tm) : wN (n + 1) A = A.length + wU n A := rfl
theorem wU_take (n : Nat) : ∀ (A : List Tm) (k : Nat), wU n (A.take k) ≤ wU n A
  | [], k => by simp [wU]
  | x :: A, 0 => by simp [wU]
  | x :: A, k + 1 => by have := wU_take n A k; simp only [wU, List.take_succ_cons, List.map_cons, List.sum_cons] at *; omega
theorem rv_iff {n l : Nat} {A : List Tm} (hd : ∀ x ∈ A, Dt n x) : RV (n + 1) (l + 1) A ↔ (∀ x ∈ A, RT (RV n l) x) ∧ normV n A = A := by
  rw [normV_self hd]; rfl
end Go.Proofs.YtddleeenlpigfaaGreatDoor
/- WALK of rightFields: a function of whatever make tells of the values. -/
namespace Go.Proofs.YtddleeenlpigfaaGreatDoor
open Go.RowKit
theorem own_base {w : World} {base e size n : Nat} {v : Value} {xs : List Value} (h : w.ownsRow base e size v n xs) : ∀ k, v.ownBlock = some k → base ≤ k := by
  intro k hk
  rcases h.2 with ⟨rfl, _⟩ | ⟨g, cap, cur, rfl, hb, _⟩
  · simp [Value.ownBlock] at hk
  · simp [Value.ownBlock] at hk; omega
/-- A row that the call owns, as a slice of texts. -/
theorem row_own {w : World} {base n : Nat} {v : Value} {xs : List ByteArray} (h : w.ownsRow base 9 1 v n (xs.map Value.string)) (hn : n ≤ 140737488355328) (hx : ∀ x ∈ xs, x.size ≤ 140737488355328) : ∃ a cap, v = .slice a n cap ∧ Nm.StrRow w a n xs := by
  have hl := h.1
  rw [List.length_map, Nat.mul_one] at hl
  rcases h.2 with ⟨rfl, hn0⟩ | ⟨g, cap, cur, rfl, hb, hg, hcap, hm, hsz, htake⟩
  · obtain rfl : n = 0 := hn0
    exact ⟨none, 0, rfl, hl, by omega, fun i x hi => hx x (List.mem_of_getElem? hi), fun h => absurd h (by omega)⟩
  · refine ⟨_, cap, rfl, hl, hn, fun i x hi => hx x (List.mem_of_getElem? hi), fun _ => ⟨g, 0, rfl, ?_, fun i x hi => ?_⟩⟩
    · exact (Array.getElem?_eq_some_iff.1 hg).1
    · have hi2 := (List.getElem?_eq_some_iff.1 hi).1
      have h1 : (xs.map Value.string)[i]? = some (.string x) := by simp [hi]
      rw [← htake, Nat.mul_one, List.getElem?_take_of_lt (by omega)] at h1
      simp [World.cell?, hg]
      simpa using h1
/-- A function that is asked of one field's value behind the other, as long as it tells true. -/
def AsksV (P : Nat) (I : Option Addr → Nat → Nat → List Tm → Prop) (fs : List (ByteArray × List Tm)) (g : Nat) (cb : Array Value) (J : Nat → World → Prop) (p : Nat → Bool) : Prop :=
  ∀ (i : Nat) (W : World) (h : i < fs.length) (t : Option Addr) (tl tc : Nat), J i W → I t tl tc fs[i].2 → Calls Tryz.prog g (#[.agg #[.slice t tl tc]] ++ cb) W fun e W' => e = .returned (.bool (p i)) ∧ Kp P W W' ∧ (p i = true → J (i + 1) W')
/-- What rightFields tells. -/
def RfP (P : Nat) (fs : List (ByteArray × List Tm)) (J : Nat → World → Prop) (p : Nat → Bool) (w : World) (e : Ending) (w' : World) : Prop :=
  ∃ q : Bool, e = .returned (.bool q) ∧ Kp P w w' ∧ (q = true → RFb p fs ∧ J fs.length w') ∧ (q = false → ¬ RFb p fs)
set_option maxRecDepth 100000 in
set_option maxHeartbeats 8000000 in
/-- The closure that asks of a field. -/
theorem wrong_one (P : Nat) (g : Nat) (cb : Array Value) (eg : ∀ args w, (callFunc g args).run Tryz.prog w = .ok (.enter g args) w) (R : Nat) (nm : ByteArray) (t : Option Addr) (tl tc : Nat) (w : World) (hR : w.cell? ⟨R, 0, none⟩ = some (.func (.func g) #[] cb)) (hRn : R < w.heap.size)
    (q : Bool) (K : World → Prop) (ask : ∀ W, Below w.heap.size w W → Calls Tryz.prog g (#[.agg #[.slice t tl tc]] ++ cb) W fun e W' => e = .returned (.bool q) ∧ Kp P W W' ∧ (q = true → K W')) :
    Calls Tryz.prog 78 #[.agg #[.string nm, .slice t tl tc], .pointer (some ⟨R, 0, none⟩)] w fun e W' => e = .returned (.bool (!q)) ∧ Kp P w W' ∧ (q = true → K W') := by
  have HA := Lib.hid ask
  clear ask
  go_enter Tryz.func78, Tryz.ntmps78
  cases q
  · go_wp2_with (go_at_fn g; refine (HA.out _ (bl_alloc (Below.refl _ _))).mono ?_; rintro e w1 ⟨rfl, hk1, hj1⟩; have HK1 := Lib.hid hk1; clear hk1 hj1)
    go_ret
    exact ⟨rfl, (Kp.alloc (Kp.refl _ _)).trans HK1.out, fun e => absurd e (by decide)⟩
  · go_wp2_with (go_at_fn g; refine (HA.out _ (bl_alloc (Below.refl _ _))).mono ?_; rintro e w1 ⟨rfl, hk1, hj1⟩; have HK1 := Lib.hid hk1; have HJ1 := Lib.hid (hj1 rfl); clear hk1 hj1)
    go_ret
    exact ⟨rfl, (Kp.alloc (Kp.refl _ _)).trans HK1.out, HJ1.out⟩

theorem info9 : (Tryz.prog.info? 9).map (fun i => (i.zero, i.size, i.bytes)) = some (some (.string ByteArray.empty), 1, 16) := by kernel_rfl
/-- make of texts. -/
theorem make97 (n : Nat) (hn : n ≤ 1000000) (W : World) : (Instr.makeSlice 97 (.int .i64 0) (.int .i64 (n : Int))).run Tryz.prog W = .ok (.slice (some ⟨W.heap.size, 0, none⟩) 0 n) (W.alloc (.cells (madeCells #[.string ByteArray.empty] n) 9)) := by
  obtain ⟨i0, hi, hx⟩ := Option.map_eq_some_iff.1 info9
  simp only [Prod.mk.injEq] at hx
  obtain ⟨hz0, hz1, hz2⟩ := hx
  have h := run_make (P := Tryz.prog) W 97 9 i0 (.string ByteArray.empty) (by kernel_rfl) hi hz0 .i64 .i64 0 n (by omega) (by omega) (by rw [hz2]; omega) (by omega)
  rw [hz1] at h
  simpa [Value.cells] using h
set_option maxRecDepth 100000 in
set_option maxHeartbeats 8000000 in
theorem rightFields_any (P : Nat) (I : Option Addr → Nat → Nat → List Tm → Prop) (g : Nat) (cb : Array Value) (eg : ∀ args w, (callFunc g args).run Tryz.prog w = .ok (.enter g args) w) (J : Nat → World → Prop) (p : Nat → Bool)
    (w0 : World) (f : Option Addr) (fl fc : Nat) (fs : List (ByteArray × List Tm)) (hF : InF I w0 f fl fs) (hnm : ∀ x ∈ fs, x.1.size ≤ 140737488355328) (hE : Nm.Env w0) (old : ∀ i W, J i W → Below w0.heap.size w0 W) (mono : ∀ i W W', J i W → Below W.heap.size W W' → J i W')
    (ask : AsksV P I fs g cb J p) (w : World) (hw : J 0 w) (hP : P ≠ w.heap.size) :
    Calls Tryz.prog 48 #[.slice f fl fc, .func (.func g) #[] cb] w (RfP P fs J p w) := by
  obtain rfl : fs.length = fl := hF.1
  by_cases hlen : fs.length ≤ 32
  · have hlen' : (fs.length : Int) ≤ 32 := by omega
    have hmk := make97 fs.length (by omega)
    obtain ⟨i0, hi, hx⟩ := Option.map_eq_some_iff.1 info9
    simp only [Prod.mk.injEq] at hx
    obtain ⟨hz0, hz1, hz2⟩ := hx
    have HF := Lib.hid hF
    have H1 := Lib.hid hF.2.2
    have HNM := Lib.hid hnm
    have HE := Lib.hid (hE.below (old 0 w hw))
    have HO := Lib.hid old
    have HM := Lib.hid mono
    have HA := Lib.hid ask
    have HW := Lib.hid hw
    have HB0 := Lib.hid (old 0 w hw)
    have HPN := Lib.hid hP
    clear hF hnm hE old mono ask hw hP
    go_enter Tryz.func48, Tryz.ntmps48
    go_wp2_with fail
    clear hmk
    have HW1 : ∃ W1, w.alloc (.cells #[.func (.func g) #[] cb] 25) = W1 := ⟨_, rfl⟩
    obtain ⟨W1, hW1⟩ := HW1
    have HS1 : Hid (W1.heap.size = w.heap.size + 1 ∧ Below w.heap.size w W1 ∧ Cx W1 w.heap.size 0 (.func (.func g) #[] cb)) := by
      rw [← hW1]; exact ⟨by simp, bl_alloc (Below.refl _ _), ⟨by simp, by simp [go_sem], by simp [go_sem]⟩⟩
    have HST : Hid ((W1.alloc (.cells (madeCells #[.string ByteArray.empty] fs.length) 9)).ownsRow (w.heap.size + 1) 9 1 (.slice (some ⟨w.heap.size + 1, 0, none⟩) 0 fs.length) 0 [] ∧ Below (w.heap.size + 1) W1 (W1.alloc (.cells (madeCells #[.string ByteArray.empty] fs.length) 9))) := by
      have h := World.ownsRow_made (base := w.heap.size + 1) (e := 9) (size := 1) W1 (madeCells #[.string ByteArray.empty] fs.length) fs.length (by have := HS1.out.1; omega) (by unfold maxLen; omega) (by rw [size_madeCells]; omega)
      rw [HS1.out.1] at h
      exact ⟨h, (Below.refl _ _).alloc (by have := HS1.out.1; omega) _⟩
    rw [hW1]
    clear hW1
    go_loopw [5, 17] (fun v i wr => ∃ k : Nat, k ≤ fs.length ∧ i = .int .i64 k ∧ Hid (wr.ownsRow (w.heap.size + 1) 9 1 v k (((fs.take k).map (·.1)).map Value.string)) ∧ Hid (Below (w.heap.size + 1) W1 wr)) (fun _ i _ => fs.length - (intOf i).toNat)
    case atStart => exact ⟨0, Nat.zero_le _, rfl, HST.out.1, HST.out.2⟩
    case round =>
      obtain ⟨k, hk, rfl, hO, hB1⟩ := hrel
      rename World => wr
      have hB : Hid (Below w.heap.size w wr) := HS1.out.2.1.trans (hB1.out.mono (Nat.le_succ _))
      have hC : Hid (Cx wr w.heap.size 0 (.func (.func g) #[] cb)) := HS1.out.2.2.later (by rw [HS1.out.1]; exact hB1.out)
      by_cases hlt : k < fs.length
      · have hki : (k : Int) < (fs.length : Int) := by omega
        have hk0 : (0 : Int) ≤ (k : Int) := by omega
        obtain ⟨b2, off2, tl2, tc2, t2, rfl, lt2, d0, d1, i2⟩ := H1.out k hlt
        have hb := bl_step HB0.out hB.out
        replace d0 := (hb.cell (p := ⟨b2, off2 + k * 2, none⟩) lt2).trans d0
        replace d1 := (hb.cell (p := ⟨b2, off2 + k * 2 + 1, none⟩) lt2).trans d1
        have hT : Hid (((fs.take (k + 1)).map (·.1)).map Value.string = ((fs.take k).map (·.1)).map Value.string ++ [.string fs[k].1]) := by
          rw [List.take_succ_eq_append_getElem hlt, List.map_append, List.map_append]; rfl
        clear i2 lt2 hb
        have hsz : w.heap.size + 1 ≤ wr.heap.size := hC.out.1
        generalize fs[k].1 = nm at *
        have HCN : Hid (∀ j u, [Value.string nm][j]? = some u → ((wr.alloc (.cells #[.string nm, .slice t2 tl2 tc2] 59)).alloc (.cells #[.string nm] 9)).cell? ((⟨wr.heap.size + 1, 0, none⟩ : Addr).add j) = some u) := by
          have h := cell_one_new (wr.alloc (.cells #[.string nm, .slice t2 tl2 tc2] 59)) (.string nm) 9
          rw [show (wr.alloc (.cells #[.string nm, .slice t2 tl2 tc2] 59)).heap.size = wr.heap.size + 1 by simp] at h; exact h
        go_wp2_with (at_builtin; refine wpList_append_own _ rfl _ _ 97 rfl (w.heap.size + 1) 9 i0 (.string ByteArray.empty) 1 16 Tryz.underlying97 hi hz0 hz1 hz2 rfl (by decide) _ _ _ rfl ((hO.out.alloc _).alloc _) ⟨wr.heap.size + 1, 0, none⟩ 1 1 [.string nm] rfl rfl HCN.out (fun x hx => by simp at hx; subst hx; rfl) (by unfold maxLen; omega) (by omega) (by simp; omega) ?_; intro v' w3 hown' hgrow3 hnil3; have OW3 := Lib.hid hown'; have G3 := Lib.hid hgrow3; clear hown' hgrow3 hnil3)
        go_roundw
        case rel => exact ⟨k + 1, by omega, by go_num, (by rw [hT.out]; exact OW3.out), (((hB1.out.alloc hsz _).alloc (by simp; omega) _).grown G3.out (by simp; omega) (own_base hO.out))⟩
        case measure => simp [intOf]; omega
      · obtain rfl : k = fs.length := by omega
        have hT : Hid (((fs.take fs.length).map (·.1)).map Value.string = (fs.map (·.1)).map Value.string) := by rw [List.take_length]; rfl
        rw [hT.out] at hO
        obtain ⟨a1, cap1, rfl, hS1⟩ := row_own (xs := fs.map (·.1)) hO.out (by omega) (fun x hx => by obtain ⟨y, hy, rfl⟩ := List.mem_map.1 hx; exact HNM.out y hy)
        have S1 := Lib.hid hS1
        clear hS1 hT
        have HBW : Hid (Below wr.heap.size wr wr) := Below.refl _ _
        have HEr := Lib.hid (HE.out.below hB.out)
        cases hr : Nm.risB (fs.map (·.1))
        · have HRN := Lib.hid hr
          go_wp2_with (go_at_call 79; refine (Nm.rising_any _ _ _ _ _ HEr.out S1.out).mono ?_; rintro e w4 ⟨rfl, hB4⟩; have HB4 := Lib.hid hB4; clear hB4; rw [hr])
          go_ret
          exact ⟨false, rfl, Kp.of (bl_step hB.out HB4.out), fun e => absurd e (by decide), fun _ h => by
            have := Nm.ris_yes (xs := fs.map (·.1)) (by simpa using h.2.1)
            rw [HRN.out] at this; exact absurd this (by decide)⟩
        · have HRN := Lib.hid hr
          have HCT : Hid (∀ W, Below wr.heap.size wr W → Calls Tryz.prog 49 #[.slice f fs.length fc, .func (.func 78) #[] #[.pointer (some ⟨w.heap.size, 0, none⟩)]] W (ContP P fs.length (fun i W => J i W ∧ Cx W w.heap.size 0 (.func (.func g) #[] cb)) (fun i => !p i) W)) := fun W hW =>
            contains_any P I 78 #[.pointer (some ⟨w.heap.size, 0, none⟩)] enters78 (fun i W => J i W ∧ Cx W w.heap.size 0 (.func (.func g) #[] cb)) (fun i => !p i) w0 f fs.length fc fs HF.out (fun i W h => HO.out i W h.1)
              (fun i W hi t tl tc hJ hI => (wrong_one P g cb eg w.heap.size fs[i].1 t tl tc W hJ.2.2.1 hJ.2.1 (p i) (fun W' => J (i + 1) W' ∧ Cx W' w.heap.size 0 (.func (.func g) #[] cb))
                (fun W2 hW2 => (HA.out i W2 hi t tl tc (HM.out i W W2 hJ.1 hW2) hI).mono (fun e W' ⟨a, b, c⟩ => ⟨a, b, fun hp => ⟨c hp, (hJ.2.later hW2).kp b (fun e => HPN.out e.symm)⟩⟩))).mono fun e W' ⟨a, b, c⟩ => ⟨a, b, fun h => c (by simpa using h)⟩)
              W ⟨HM.out 0 w W HW.out (bl_step hB.out hW), hC.out.later hW⟩
          go_wp2_with (first
            | (go_at_call 79; refine (Nm.rising_any _ _ _ _ _ HEr.out S1.out).mono ?_; rintro e w4 ⟨rfl, hB4⟩; have HB4 := Lib.hid hB4; clear hB4; rw [hr])
            | (go_at_call 49; refine (HCT.out _ HB4.out).mono ?_; rintro e w5 ⟨q, rfl, hk5, h0, h1⟩; have HK5 := Lib.hid hk5; have HQ0 := Lib.hid h0; have HQ1 := Lib.hid h1; clear hk5 h0 h1))
          go_ret
          have hkp := (Kp.of (P := P) (bl_step hB.out HB4.out)).trans HK5.out
          have hris : Nm.Ris (fs.map (·.1)) fs.length := by
            refine Classical.byContradiction fun hn => ?_
            have := Nm.ris_no (xs := fs.map (·.1)) (by simpa using hn)
            rw [HRN.out] at this; exact absurd this (by decide)
          cases q
          · obtain ⟨a, b⟩ := HQ0.out rfl
            exact ⟨true, rfl, hkp, fun _ => ⟨⟨hlen, hris, fun i hi => by have := a i hi; simpa using this⟩, b.1⟩, fun e => absurd e (by decide)⟩
          · obtain ⟨i, hi, h2⟩ := HQ1.out rfl
            exact ⟨false, rfl, hkp, fun e => absurd e (by decide), fun _ h => by rw [h.2.2 i hi] at h2; exact absurd h2 (by decide)⟩
  · have hlen' : 32 < (fs.length : Int) := by omega
    go_enter Tryz.func48, Tryz.ntmps48
    go_wp2_with fail
    go_ret
    exact ⟨false, rfl, Kp.alloc (Kp.refl _ _), fun e => absurd e (by decide), fun _ h => hlen h.1⟩
end Go.Proofs.YtddleeenlpigfaaGreatDoor
/- WALK of rightTerm. -/
namespace Go.Proofs.YtddleeenlpigfaaGreatDoor
open Go.RowKit
/-- What rightTerm tells. -/
def RtP (P : Nat) (x : Tm) (J : Nat → World → Prop) (p : Nat → Bool) (w : World) (e : Ending) (w' : World) : Prop :=
  ∃ q : Bool, e = .returned (.bool q) ∧ Kp P w w' ∧ (q = true → RTb p x ∧ J x.fs.length w') ∧ (q = false → ¬ RTb p x)
theorem RtP.no {P : Nat} {x : Tm} {J : Nat → World → Prop} {p : Nat → Bool} {w w' : World} (hk : Kp P w w') (h : ¬ RTb p x) : RtP P x J p w (.returned (.bool false)) w' := ⟨false, rfl, hk, fun e => absurd e (by decide), fun _ => h⟩
theorem rtb_k5 {p : Nat → Bool} {x : Tm} (h : x.k = 5) : RTb p x ↔ x = anyT5 := by unfold RTb; rw [if_pos h]
theorem rtb_k4 {p : Nat → Bool} {x : Tm} (h : x.k = 4) : RTb p x ↔ x.lo = 0 ∧ x.hi = 0 ∧ x.s = ⟨#[]⟩ ∧ x.y = false ∧ x.m = false ∧ RFb p x.fs ∧ ∀ f ∈ x.fs, f.2 ≠ [] := by unfold RTb; rw [if_neg (by omega), if_pos h]
theorem rtb_ks {p : Nat → Bool} {x : Tm} (h5 : x.k ≠ 5) (h4 : x.k ≠ 4) : RTb p x ↔ scR x := by unfold RTb; rw [if_neg h5, if_neg h4]
theorem rtb_zero {p : Nat → Bool} {x : Tm} (hk : x.k = 5 ∨ x.k = 4) (h : RTb p x) : x.lo = 0 ∧ x.hi = 0 ∧ x.s = ⟨#[]⟩ ∧ x.y = false ∧ x.m = false := by
  rcases hk with hk | hk
  · rw [rtb_k5 hk] at h; subst h; exact ⟨rfl, rfl, rfl, rfl, rfl⟩
  · rw [rtb_k4 hk] at h; exact ⟨h.1, h.2.1, h.2.2.1, h.2.2.2.1, h.2.2.2.2.1⟩
theorem rtb_four {p : Nat → Bool} {o : Bool} {fs : List (ByteArray × List Tm)} : RTb p (.mk 4 0 0 ⟨#[]⟩ false false o fs) ↔ RFb p fs ∧ ∀ f ∈ fs, f.2 ≠ [] :=
  (rtb_k4 (x := .mk 4 0 0 ⟨#[]⟩ false false o fs) rfl).trans ⟨fun h => h.2.2.2.2.2, fun h => ⟨rfl, rfl, rfl, rfl, rfl, h⟩⟩
theorem rtb_five {p : Nat → Bool} {o : Bool} {fs : List (ByteArray × List Tm)} : RTb p (.mk 5 0 0 ⟨#[]⟩ false false o fs) ↔ o = false ∧ fs = [] :=
  (rtb_k5 (x := .mk 5 0 0 ⟨#[]⟩ false false o fs) rfl).trans ⟨fun h => by unfold anyT5 at h; cases h; exact ⟨rfl, rfl⟩, fun h => by obtain ⟨rfl, rfl⟩ := h; rfl⟩
set_option maxRecDepth 100000 in
set_option maxHeartbeats 8000000 in
/-- A term that is no scalar and has something else is not right. -/
theorem rightTerm_bad (P : Nat) (x : Tm) (J : Nat → World → Prop) (p : Nat → Bool) (k lo hi : Int) (s : ByteArray) (y m o : Bool) (f : Option Addr) (fl fc : Nat) (fv : Value) (w : World) (hk : k = 5 ∨ k = 4) (hx : ¬ RTb p x)
    (hz : ¬ (lo = 0 ∧ hi = 0 ∧ s.toList = [] ∧ y = false ∧ m = false)) : Calls Tryz.prog 45 #[tv k lo hi s y m o f fl fc, fv] w (RtP P x J p w) := by
  have h0 : ((k != 5) = true ∧ (k != 4) = false) ∨ (k != 5) = false := by rcases hk with rfl | rfl <;> simp
  have HZ := Lib.hid hz
  have HX := Lib.hid hx
  clear hz hk hx
  rcases h0 with ⟨h5, h4⟩ | h5
  all_goals
    go_enter Tryz.func45, Tryz.ntmps45
    by_cases hl : lo = 0
    · have hl' : (lo != 0) = false := by simp [hl]
      by_cases hh : hi = 0
      · have hh' : (hi != 0) = false := by simp [hh]
        cases y
        · cases m
          · have hs : (!s.toList.isEmpty) = true := by
              have := HZ.out
              cases e : s.toList with
              | nil => exact absurd ⟨hl, hh, e, rfl, rfl⟩ this
              | cons a b => rfl
            have hs2 : s.toList.isEmpty = false := by simpa using hs
            have hs3 : ¬ s.toList = [] := by intro e; rw [e] at hs2; exact absurd hs2 (by decide)
            clear hl hh
            go_wp2_with fail
            go_ret
            exact RtP.no (Kp.alloc (Kp.refl _ _)) HX.out
          · clear hl hh
            by_cases hs3 : s.toList = []
            · have hs2 : s.toList.isEmpty = true := by rw [hs3]; rfl
              go_wp2_with fail
              go_ret
              exact RtP.no (Kp.alloc (Kp.refl _ _)) HX.out
            · have hs2 : s.toList.isEmpty = false := by cases e : s.toList with
                | nil => exact absurd e hs3
                | cons a b => rfl
              go_wp2_with fail
              go_ret
              exact RtP.no (Kp.alloc (Kp.refl _ _)) HX.out
        · clear hl hh
          by_cases hs3 : s.toList = []
          · have hs2 : s.toList.isEmpty = true := by rw [hs3]; rfl
            go_wp2_with fail
            go_ret
            exact RtP.no (Kp.alloc (Kp.refl _ _)) HX.out
          · have hs2 : s.toList.isEmpty = false := by cases e : s.toList with
              | nil => exact absurd e hs3
              | cons a b => rfl
            go_wp2_with fail
            go_ret
            exact RtP.no (Kp.alloc (Kp.refl _ _)) HX.out
      · have hh' : (hi != 0) = true := by simp [hh]
        clear hl hh
        go_wp2_with fail
        go_ret
        exact RtP.no (Kp.alloc (Kp.refl _ _)) HX.out
    · have hl' : (lo != 0) = true := by simp [hl]
      clear hl
      go_wp2_with fail
      go_ret
      exact RtP.no (Kp.alloc (Kp.refl _ _)) HX.out
set_option maxRecDepth 100000 in
set_option maxHeartbeats 8000000 in
theorem rightTerm_five (P : Nat) (J : Nat → World → Prop) (p : Nat → Bool) (o : Bool) (f : Option Addr) (fc : Nat) (fs : List (ByteArray × List Tm)) (fv : Value) (mono : ∀ i W W', J i W → Below W.heap.size W W' → J i W') (w : World) (hw : J 0 w) :
    Calls Tryz.prog 45 #[tv 5 0 0 ⟨#[]⟩ false false o f fs.length fc, fv] w (RtP P (.mk 5 0 0 ⟨#[]⟩ false false o fs) J p w) := by
  have HM := Lib.hid mono
  have HW := Lib.hid hw
  have h5 : ((5 : Int) != 5) = false := rfl
  clear mono hw
  cases o
  · by_cases hl : fs.length = 0
    · have hl' : ((fs.length : Int) == 0) = true := by rw [hl]; rfl
      have HL := Lib.hid hl
      clear hl
      go_enter Tryz.func45, Tryz.ntmps45
      go_wp2_with fail
      go_ret
      refine ⟨true, rfl, Kp.alloc (Kp.refl _ _), fun _ => ⟨rtb_five.2 ⟨rfl, List.eq_nil_of_length_eq_zero HL.out⟩, ?_⟩, fun e => absurd e (by decide)⟩
      show J fs.length _
      rw [HL.out]
      exact HM.out _ _ _ HW.out (bl_alloc (Below.refl _ _))
    · have hl' : ((fs.length : Int) == 0) = false := by simp; intro e; exact hl (by rw [e]; rfl)
      have HL := Lib.hid hl
      clear hl
      go_enter Tryz.func45, Tryz.ntmps45
      go_wp2_with fail
      go_ret
      exact RtP.no (Kp.alloc (Kp.refl _ _)) fun h => HL.out (by rw [(rtb_five.1 h).2]; rfl)
  · go_enter Tryz.func45, Tryz.ntmps45
    go_wp2_with fail
    go_ret
    exact RtP.no (Kp.alloc (Kp.refl _ _)) fun h => absurd (rtb_five.1 h).1 (by decide)
set_option maxRecDepth 100000 in
set_option maxHeartbeats 8000000 in
theorem rightTerm_scal (P : Nat) (J : Nat → World → Prop) (p : Nat → Bool) (k lo hi : Int) (s : ByteArray) (y m o : Bool) (f : Option Addr) (fc : Nat) (fs : List (ByteArray × List Tm)) (fv : Value) (h5 : k ≠ 5) (h4 : k ≠ 4) (mono : ∀ i W W', J i W → Below W.heap.size W W' → J i W') (w : World) (hw : J 0 w) :
    Calls Tryz.prog 45 #[tv k lo hi s y m o f fs.length fc, fv] w (RtP P (.mk k lo hi s y m o fs) J p w) := by
  have HM := Lib.hid mono
  have HW := Lib.hid hw
  have h5' : (k != 5) = true := by simpa using h5
  have h4' : (k != 4) = true := by simpa using h4
  have HR : Hid (RTb p (.mk k lo hi s y m o fs) ↔ scR (.mk k lo hi s y m o fs)) := rtb_ks h5 h4
  clear mono hw h5 h4
  go_enter Tryz.func45, Tryz.ntmps45
  go_wp2_with (go_at_call 74; (with_reducible refine (right_any _ _ _ _ _ _ _ _ _ _ _).mono ?_); rintro e w1 ⟨rfl, hB⟩; have HB := Lib.hid hB; clear hB)
  go_ret
  cases hr : rightB k lo hi s y m o fs.length
  · exact RtP.no (Kp.of (bl_step (bl_alloc (Below.refl _ _)) HB.out)) fun h => by
      have := rightB_iff.2 (show RightP k lo hi s y m o fs.length from HR.out.1 h)
      rw [hr] at this; exact absurd this (by decide)
  · have hs : scR (.mk k lo hi s y m o fs) := rightB_iff.1 hr
    refine ⟨true, rfl, Kp.of (bl_step (bl_alloc (Below.refl _ _)) HB.out), fun _ => ⟨HR.out.2 hs, ?_⟩, fun e => absurd e (by decide)⟩
    have e0 : fs = [] := (sc_flat hs).2
    show J fs.length _
    rw [e0]
    exact HM.out _ _ _ HW.out (bl_step (bl_alloc (Below.refl _ _)) HB.out)
set_option maxRecDepth 100000 in
set_option maxHeartbeats 8000000 in
theorem rightTerm_four (P : Nat) (I : Option Addr → Nat → Nat → List Tm → Prop) (hI : ∀ t tl tc V, I t tl tc V → V.length = tl) (g : Nat) (cb : Array Value) (eg : ∀ args w, (callFunc g args).run Tryz.prog w = .ok (.enter g args) w) (J : Nat → World → Prop) (p : Nat → Bool)
    (w0 : World) (o : Bool) (f : Option Addr) (fc : Nat) (fs : List (ByteArray × List Tm)) (hF : InF I w0 f fs.length fs) (hnm : ∀ x ∈ fs, x.1.size ≤ 140737488355328) (hE : Nm.Env w0) (old : ∀ i W, J i W → Below w0.heap.size w0 W) (mono : ∀ i W W', J i W → Below W.heap.size W W' → J i W')
    (ask : AsksV P I fs g cb J p) (w : World) (hw : J 0 w) (hP : P < w.heap.size ∨ w.heap.size + 2 ≤ P) :
    Calls Tryz.prog 45 #[tv 4 0 0 ⟨#[]⟩ false false o f fs.length fc, .func (.func g) #[] cb] w (RtP P (.mk 4 0 0 ⟨#[]⟩ false false o fs) J p w) := by
  have HBW : Hid (Below w.heap.size w (w.alloc (.cells #[.int .i64 4, .int .i64 0, .int .i64 0, .string ⟨#[]⟩, .bool false, .bool false, .bool o, .slice f fs.length fc] 31)) ∧ (w.alloc (.cells #[.int .i64 4, .int .i64 0, .int .i64 0, .string ⟨#[]⟩, .bool false, .bool false, .bool o, .slice f fs.length fc] 31)).heap.size = w.heap.size + 1) := ⟨bl_alloc (Below.refl _ _), by simp⟩
  have c7 : (w.alloc (.cells #[.int .i64 4, .int .i64 0, .int .i64 0, .string ⟨#[]⟩, .bool false, .bool false, .bool o, .slice f fs.length fc] 31)).cell? ⟨w.heap.size, 7, none⟩ = some (.slice f fs.length fc) := by simp [go_sem]
  have HC7 := Lib.hid c7
  have HRF := Lib.hid (rightFields_any P I g cb eg J p w0 f fs.length fc fs hF hnm hE old mono ask (w.alloc (.cells #[.int .i64 4, .int .i64 0, .int .i64 0, .string ⟨#[]⟩, .bool false, .bool false, .bool o, .slice f fs.length fc] 31)) (mono _ _ _ hw HBW.out.1) (by have := HBW.out.2; omega))
  have HCE : Hid (∀ W1, J fs.length W1 → Calls Tryz.prog 49 #[.slice f fs.length fc, .func (.func 50) #[] #[]] W1 (ContP P fs.length (fun _ W => J fs.length W) (fun i => (fAt fs i).2.length == 0) W1)) := fun W1 hj =>
    contains_any P I 50 #[] enters50 (fun _ W => J fs.length W) (fun i => (fAt fs i).2.length == 0) w0 f fs.length fc fs hF (fun i W h => old _ W h)
      (fun i W hi t tl tc hJ hii => by
        have e := hI _ _ _ _ hii
        show Calls _ _ _ _ fun e W' => e = .returned (.bool ((fAt fs i).2.length == 0)) ∧ Kp P W W' ∧ (((fAt fs i).2.length == 0) = false → J fs.length W')
        rw [fAt_eq hi, e]
        exact (empty_any fs[i].1 t tl tc W).mono fun e W' ⟨a, b⟩ => ⟨a, Kp.of b, fun _ => mono _ _ _ hJ b⟩) W1 hj
  have HO := Lib.hid old
  have HPN := Lib.hid hP
  clear hF hnm hE old mono ask hw hP hI
  clear c7
  go_enter Tryz.func45, Tryz.ntmps45
  go_wp2_with (go_at_call 48; refine HRF.out.mono ?_; rintro e w1 ⟨q, rfl, hk1, h1, h0⟩; have c71 := (hk1.cell (p := ⟨w.heap.size, 7, none⟩) (by show w.heap.size < _; rw [HBW.out.2]; omega) (by show w.heap.size ≠ P; have := HPN.out; omega)).trans HC7.out; have HK1 := Lib.hid hk1; clear hk1; cases q; all_goals ((first | (have H1 := Lib.hid (h0 rfl)) | (have H1 := Lib.hid (h1 rfl))); clear h1 h0))
  · go_ret
    exact RtP.no ((Kp.of HBW.out.1).trans HK1.out) fun h => H1.out (rtb_four.1 h).1
  · go_wp2_with (go_at_call 49; refine (HCE.out _ H1.out.2).mono ?_; rintro e w2 ⟨q, rfl, hk2, h3, h4⟩; have HK2 := Lib.hid hk2; clear hk2; cases q; all_goals ((first | (have H3 := Lib.hid (h3 rfl)) | (have H3 := Lib.hid (h4 rfl))); clear h3 h4))
    · go_ret
      refine ⟨true, rfl, ((Kp.of HBW.out.1).trans HK1.out).trans HK2.out, fun _ => ⟨rtb_four.2 ⟨H1.out.1, fun x hx he => ?_⟩, H3.out.2⟩, fun e => absurd e (by decide)⟩
      obtain ⟨i, hi, rfl⟩ := List.getElem_of_mem hx
      have := H3.out.1 i hi
      rw [fAt_eq hi, he] at this
      exact absurd this (by decide)
    · go_ret
      refine RtP.no (((Kp.of HBW.out.1).trans HK1.out).trans HK2.out) fun h => ?_
      obtain ⟨i, hi, h2⟩ := H3.out
      rw [fAt_eq hi] at h2
      exact (rtb_four.1 h).2 _ (List.getElem_mem hi) (List.eq_nil_of_length_eq_zero (by simpa using h2))
theorem rightTerm_any (P : Nat) (I : Option Addr → Nat → Nat → List Tm → Prop) (hI : ∀ t tl tc V, I t tl tc V → V.length = tl) (g : Nat) (cb : Array Value) (eg : ∀ args w, (callFunc g args).run Tryz.prog w = .ok (.enter g args) w) (J : Nat → World → Prop) (p : Nat → Bool)
    (w0 : World) (x : Tm) (f : Option Addr) (fl fc : Nat) (hF : InF I w0 f fl x.fs) (hnm : ∀ y ∈ x.fs, y.1.size ≤ 140737488355328) (hE : Nm.Env w0) (old : ∀ i W, J i W → Below w0.heap.size w0 W) (mono : ∀ i W W', J i W → Below W.heap.size W W' → J i W')
    (ask : AsksV P I x.fs g cb J p) (w : World) (hw : J 0 w) (hP : P < w.heap.size ∨ w.heap.size + 2 ≤ P) :
    Calls Tryz.prog 45 #[tv x.k x.lo x.hi x.s x.y x.m x.o f fl fc, .func (.func g) #[] cb] w (RtP P x J p w) := by
  obtain rfl : x.fs.length = fl := hF.1
  by_cases hk : x.k = 5 ∨ x.k = 4
  · by_cases hz : x.lo = 0 ∧ x.hi = 0 ∧ x.s.toList = [] ∧ x.y = false ∧ x.m = false
    · obtain ⟨k, lo, hi, s, y, m, o, fs⟩ := x
      simp only [Tm.k, Tm.lo, Tm.hi, Tm.s, Tm.y, Tm.m, Tm.o, Tm.fs] at *
      obtain ⟨rfl, rfl, hs, rfl, rfl⟩ := hz
      obtain rfl : s = ⟨#[]⟩ := bytes_ext (hs.trans toList_nil.symm)
      rcases hk with rfl | rfl
      · exact rightTerm_five P J p o f fc fs _ mono w hw
      · exact rightTerm_four P I hI g cb eg J p w0 o f fc fs hF hnm hE old mono ask w hw hP
    · exact rightTerm_bad P x J p _ _ _ _ _ _ _ _ _ _ _ w hk (fun h => hz (by obtain ⟨a, b, c, d, e⟩ := rtb_zero hk h; exact ⟨a, b, by rw [c]; exact toList_nil, d, e⟩)) hz
  · obtain ⟨k, lo, hi, s, y, m, o, fs⟩ := x
    exact rightTerm_scal P J p k lo hi s y m o f fc fs _ (fun h => hk (.inl h)) (fun h => hk (.inr h)) mono w hw
end Go.Proofs.YtddleeenlpigfaaGreatDoor
