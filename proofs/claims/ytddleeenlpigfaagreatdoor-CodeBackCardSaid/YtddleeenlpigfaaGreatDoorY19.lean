/- Pi, Sc, Sd, Ad, Ae, Af, Ag -/
import Derived.Deep.DeepCutAuto
import Derived.Deep.CutBlock
import Derived.Shelf.Abstract
import Derived.Deep.RegionHeld3
import Derived.Test.YtddleeenlpigfaaGreatDoorY4
import Derived.Test.YtddleeenlpigfaaGreatDoorY18
import Derived.Test.YtddleeenlpigfaaGreatDoorY10
/- WALKS of left and Few. -/
namespace Go.Proofs.YtddleeenlpigfaaGreatDoor
open Go.RowKit
/-- A number, at most so great; nothing that was there has changed. -/
def LeftPost (w : World) (e : Ending) (w' : World) : Prop := ∃ x : Int, -1 ≤ x ∧ x ≤ 200 ∧ e = .returned (.int .i64 x) ∧ Below w.heap.size w w'
/-- The value's box. -/
def Bx (w : World) (N : Nat) (t : Option Addr) (tl tc : Nat) : Prop := N < w.heap.size ∧ w.cell? ⟨N, 0, none⟩ = some (.slice t tl tc)
def B8 (w : World) (N : Nat) (t : Option Addr) (tl tc : Nat) : Prop := N < w.heap.size ∧ w.cell? ⟨N, 7, none⟩ = some (.slice t tl tc)
theorem B8.later {w w' : World} {N : Nat} {t : Option Addr} {tl tc : Nat} (h : B8 w N t tl tc) (hb : Below w.heap.size w w') : B8 w' N t tl tc := ⟨Nat.lt_of_lt_of_le h.1 hb.size, (hb.cell (p := ⟨N, 7, none⟩) h.1).trans h.2⟩
theorem Bx.later {w w' : World} {N : Nat} {t : Option Addr} {tl tc : Nat} (h : Bx w N t tl tc) (hb : Below w.heap.size w w') : Bx w' N t tl tc := ⟨Nat.lt_of_lt_of_le h.1 hb.size, (hb.cell (p := ⟨N, 0, none⟩) h.1).trans h.2⟩
set_option maxRecDepth 100000 in
set_option maxHeartbeats 8000000 in
theorem left_step (n : Nat) (ih : ∀ (W : World) (t : Option Addr) (tl tc : Nat) (A : List Tm) (d m : Int), InV W n t tl tc A → 0 ≤ d → d ≤ 20 → -1 ≤ m → m ≤ 200 → Calls Tryz.prog 64 #[.agg #[.slice t tl tc], .int .i64 d, .int .i64 m] W (LeftPost W))
    (w : World) (t : Option Addr) (tl tc : Nat) (A : List Tm) (d m : Int) (h : InV w (n + 1) t tl tc A) (hd0 : 0 ≤ d) (hd : d ≤ 20) (hm0 : -1 ≤ m) (hm : m ≤ 200) :
    Calls Tryz.prog 64 #[.agg #[.slice t tl tc], .int .i64 d, .int .i64 m] w (LeftPost w) := by
  obtain ⟨hl, hz, hA⟩ := h
  subst hl
  have IH := Lib.hid ih
  have HA := Lib.hid hA
  clear ih hA
  by_cases h0 : d = 0
  · subst h0
    go_enter Tryz.func64, Tryz.ntmps64
    go_wp2_with fail
    go_ret
    exact ⟨-1, by omega, by omega, rfl, bl_alloc (Below.refl _ _)⟩
  · have hd1 : 1 ≤ d := by omega
    have hdb : (d == 0) = false := by simpa using h0
    clear h0
    by_cases hlong : m < (A.length : Int)
    · go_enter Tryz.func64, Tryz.ntmps64
      go_wp2_with fail
      go_ret
      exact ⟨-1, by omega, by omega, rfl, bl_alloc (Below.refl _ _)⟩
    · have hle : (A.length : Int) ≤ m := by omega
      go_enter Tryz.func64, Tryz.ntmps64
      go_wp2_with fail
      go_loopw [2, 7] (fun nn i wr => ∃ (k : Nat) (x : Int), k ≤ A.length ∧ i = .int .i64 k ∧ nn = .int .i64 x ∧ -1 ≤ x ∧ x ≤ 200 ∧ Bx wr w.heap.size t A.length tc ∧ Hid (Below w.heap.size w wr)) (fun _ i _ => A.length - (intOf i).toNat)
      case atStart => exact ⟨0, m, Nat.zero_le _, rfl, rfl, hm0, hm, ⟨by simp, by simp⟩, bl_alloc (Below.refl _ _)⟩
      case round =>
        obtain ⟨k, x, hk, rfl, rfl, hx0, hx, hBx, hB⟩ := hrel
        rename World => wr
        have bx := hBx.2
        have bz := hBx.1
        have HBX := Lib.hid hBx
        clear hBx
        by_cases hlt : k < A.length
        · by_cases hx1 : 0 ≤ x
          · have hki : (k : Int) < (A.length : Int) := by omega
            have hk0 : (0 : Int) ≤ (k : Int) := by omega
            obtain ⟨b1, off1, rfl, i1⟩ := HA.out k hlt
            generalize hgx : A[k] = x9 at i1
            clear hgx
            obtain ⟨k5, lo5, hi5, s5, y5, m5, o5, g5⟩ := x9
            obtain ⟨lt1, f5, fl5, fc5, c0, c1, c2, c3, c4, c5, c6, c7, j1⟩ := i1
            have e : ∀ i, wr.cell? ⟨b1, i, none⟩ = w.cell? ⟨b1, i, none⟩ := fun i => hB.out.cell (p := ⟨b1, i, none⟩) lt1
            replace c0 := (e _).trans c0
            replace c1 := (e _).trans c1
            replace c2 := (e _).trans c2
            replace c3 := (e _).trans c3
            replace c4 := (e _).trans c4
            replace c5 := (e _).trans c5
            replace c6 := (e _).trans c6
            replace c7 := (e _).trans c7
            have lt1' : b1 < wr.heap.size := Nat.lt_of_lt_of_le lt1 hB.out.size
            have J1 := Lib.hid j1
            clear e lt1 j1
            go_upto_region 11 with fail
            · go_ret
              exact ⟨-1, by omega, by omega, rfl, bl_alloc hB.out⟩
            · have hy0 : -1 ≤ x - 1 := by omega
              have hy1 : x - 1 ≤ 200 := by omega
              have HWR := Lib.hid hB
              obtain ⟨l5, z5, j5⟩ := J1.out
              have J5 := Lib.hid j5
              have L5 := Lib.hid l5
              clear l5 j5 J1
              go_loopw [2, 9] (fun nn i wi => ∃ (j : Nat) (u : Int), j ≤ fl5 ∧ i = .int .i64 j ∧ nn = .int .i64 u ∧ -1 ≤ u ∧ u ≤ 200 ∧ Bx wi w.heap.size (some ⟨b1, off1, none⟩) A.length tc ∧ B8 wi wr.heap.size f5 fl5 fc5 ∧ Hid (Below w.heap.size w wi)) (fun _ i _ => fl5 - (intOf i).toNat)
              case atStart => exact ⟨0, x - 1, Nat.zero_le _, rfl, rfl, hy0, hy1, HBX.out.later (bl_alloc (Below.refl _ _)), ⟨by simp, by simp⟩, bl_alloc hB.out⟩
              case round =>
                obtain ⟨j, u, hj, rfl, rfl, hu0, hu, hBx, hB8, hBi⟩ := hrel
                rename World => wi
                have bxi := hBx.2
                have bzi := hBx.1
                have b8 := hB8.2
                have bz8 := hB8.1
                have HBXi := Lib.hid hBx
                have HB8i := Lib.hid hB8
                clear hBx hB8 bx bz c0 c1 c2 c3 c4 c5 c6 c7
                by_cases hjl : j < fl5
                · by_cases hun : 0 ≤ u
                  · have hji : (j : Int) < (fl5 : Int) := by omega
                    have hj0 : (0 : Int) ≤ (j : Int) := by omega
                    have hjs : j < g5.length := by rw [L5.out]; exact hjl
                    obtain ⟨b2, off2, tl2, tc2, t2, rfl, lt2, d0, d1, i2⟩ := J5.out j hjs
                    replace d0 := (hBi.out.cell (p := ⟨b2, off2 + j * 2, none⟩) lt2).trans d0
                    replace d1 := (hBi.out.cell (p := ⟨b2, off2 + j * 2 + 1, none⟩) lt2).trans d1
                    have lt2' : b2 < wi.heap.size := Nat.lt_of_lt_of_le lt2 hBi.out.size
                    generalize hnm : (g5[j]).1 = nm at *
                    generalize hvv : (g5[j]).2 = vv at *
                    clear hnm hvv
                    have IC := Lib.hid (fun (W : World) (hW : Below w.heap.size w W) => IH.out W t2 tl2 tc2 vv (d - 1) u (InV.below hW i2) (by omega) (by omega) hu0 hu)
                    have HWI := Lib.hid hBi.out
                    clear lt2 i2
                    go_wp2_with (go_at_call 64; refine (IC.out _ HWI.out).mono ?_; rintro e w2 ⟨v, hv0, hv, rfl, hB2⟩; have HB2 := Lib.hid hB2; clear hB2)
                    · go_ret
                      exact ⟨-1, by omega, by omega, rfl, HWI.out⟩
                    · go_roundw
                      case rel => exact ⟨j + 1, v, by omega, by go_num, rfl, hv0, hv, HBXi.out.later HB2.out, HB8i.out.later HB2.out, bl_step HWI.out HB2.out⟩
                      case measure => simp [intOf]; omega
                  · have hxn : ¬ 0 ≤ u := hun
                    go_wp2_with fail
                    go_roundw
                    case rel => exact ⟨k + 1, u, by omega, by go_num, rfl, hu0, hu, HBXi.out, hBi⟩
                    case measure => simp [intOf]; omega
                · go_wp2_with fail
                  go_roundw
                  case rel => exact ⟨k + 1, u, by omega, by go_num, rfl, hu0, hu, HBXi.out, hBi⟩
                  case measure => simp [intOf]; omega
            · go_ret
              exact ⟨-1, by omega, by omega, rfl, bl_alloc hB.out⟩
          · have hxn : ¬ 0 ≤ x := hx1
            go_wp2_with fail
            go_ret
            exact ⟨x, hx0, hx, rfl, hB.out⟩
        · go_wp2_with fail
          go_ret
          exact ⟨x, hx0, hx, rfl, hB.out⟩
theorem left_any : ∀ (n : Nat) (W : World) (t : Option Addr) (tl tc : Nat) (A : List Tm) (d m : Int), InV W n t tl tc A → 0 ≤ d → d ≤ 20 → -1 ≤ m → m ≤ 200 → Calls Tryz.prog 64 #[.agg #[.slice t tl tc], .int .i64 d, .int .i64 m] W (LeftPost W)
  | 0, _, _, _, _, _, _, _, h, _, _, _, _ => h.elim
  | n + 1, W, t, tl, tc, A, d, m, h, h1, h2, h3, h4 => left_step n (left_any n) W t tl tc A d m h h1 h2 h3 h4
/-- Few answers something. -/
def FewPost (w : World) (e : Ending) (w' : World) : Prop := ∃ b : Bool, e = .returned (.bool b) ∧ Below w.heap.size w w'
set_option maxHeartbeats 400000 in
theorem few_any (n : Nat) (w : World) (t : Option Addr) (tl tc : Nat) (A : List Tm) (h : InV w n t tl tc A) : Calls Tryz.prog 36 #[.agg #[.slice t tl tc]] w (FewPost w) := by
  have HL := fun W (hW : Below w.heap.size w W) => Lib.hid (left_any n W t tl tc A 20 200 (InV.below hW h) (by omega) (by omega) (by omega) (by omega))
  have HB : Hid (Below w.heap.size w w) := Below.refl _ _
  clear h
  go_enter Tryz.func36, Tryz.ntmps36
  go_wp2_with (go_at_call 64; refine (HL _ (bl_alloc HB.out)).out.mono ?_; rintro e w2 ⟨v, hv0, hv, rfl, hB2⟩; have HB2 := Lib.hid hB2; clear hB2)
  go_ret
  exact ⟨_, rfl, bl_step (bl_alloc HB.out) HB2.out⟩

end Go.Proofs.YtddleeenlpigfaaGreatDoor
/- What a copy's rows hold while they are filled. -/
namespace Go.Proofs.YtddleeenlpigfaaGreatDoor
open Go.RowKit
/-- Lists that are short enough to be copied. -/
def SlimV : Nat → List Tm → Prop
  | 0, _ => True
  | n + 1, V => V.length * 72 ≤ 140737488355328 ∧ ∀ i (h : i < V.length), V[i].fs.length * 40 ≤ 140737488355328 ∧ ∀ j (h2 : j < V[i].fs.length), SlimV n (V[i].fs[j]).2
theorem set_heap {w : World} {g o b : Nat} {v : Value} (h : b ≠ g) : (w.setCell ⟨g, o, none⟩ v).heap[b]? = w.heap[b]? := Below.heap_setCell _ _ _ _ h
theorem set_size {w : World} {a : Addr} {v : Value} : (w.setCell a v).heap.size = w.heap.size := by simp [World.setCell]
theorem set_far {w : World} {g o b q : Nat} {v : Value} (h : b ≠ g ∨ q ≠ o) : (w.setCell ⟨g, o, none⟩ v).cell? ⟨b, q, none⟩ = w.cell? ⟨b, q, none⟩ :=
  World.cell?_setCell_other _ _ _ _ (by intro e; cases e; rcases h with h | h <;> exact h rfl)
theorem set_here {w : World} {g o : Nat} {u v : Value} (h : w.cell? ⟨g, o, none⟩ = some u) : (w.setCell ⟨g, o, none⟩ v).cell? ⟨g, o, none⟩ = some v := World.cell?_setCell_same _ _ _ h
/-- The row of fields, j of them done. -/
def FRow (n : Nat) (w0 w : World) (g b off : Nat) (fs : List (ByteArray × List Tm)) (j : Nat) : Prop :=
  g < w.heap.size ∧ (∀ o, w.frozen? ⟨g, o, none⟩ = false) ∧ (∀ q, j * 2 ≤ q → q < fs.length * 2 → w.cell? ⟨g, q, none⟩ = w0.cell? ⟨b, off + q, none⟩) ∧
  ∀ i (h : i < fs.length), i < j → ∃ (tl tc : Nat) (t : Option Addr), w.cell? ⟨g, i * 2, none⟩ = some (.string fs[i].1) ∧ w.cell? ⟨g, i * 2 + 1, none⟩ = some (.slice t tl tc) ∧ OwV (fun b => g < b) w n t tl tc fs[i].2
theorem FRow.below {n : Nat} {w0 w w' : World} {g b off : Nat} {fs : List (ByteArray × List Tm)} {j : Nat} (h : FRow n w0 w g b off fs j) (hb : Below w.heap.size w w') : FRow n w0 w' g b off fs j := by
  obtain ⟨h1, h2, h3, h4⟩ := h
  have hh := hb.block g h1
  refine ⟨Nat.lt_of_lt_of_le h1 hb.size, fun o => (frozen_of_heap hh o).trans (h2 o), fun q a b => (cell_of_heap hh q).trans (h3 q a b), fun i a b => ?_⟩
  obtain ⟨tl, tc, t, c0, c1, i2⟩ := h4 i a b
  exact ⟨tl, tc, t, (cell_of_heap hh _).trans c0, (cell_of_heap hh _).trans c1, i2.below hb⟩
theorem FRow.step {n : Nat} {w0 w w' : World} {g b off : Nat} {fs : List (ByteArray × List Tm)} {j : Nat} (h : FRow n w0 w g b off fs j) (hb : Below w.heap.size w w') (hj : j < fs.length) {tl tc tc0 : Nat} {t t0 : Option Addr} (h0 : w0.cell? ⟨b, off + j * 2, none⟩ = some (.string fs[j].1)) (h1 : w0.cell? ⟨b, off + j * 2 + 1, none⟩ = some (.slice t0 tl tc0))
    {B : Nat} (hB : w.heap.size ≤ B) (ho : OwV (fun b => B ≤ b) w' n t tl tc fs[j].2) : FRow n w0 (w'.setCell ⟨g, j * 2 + 1, none⟩ (.slice t tl tc)) g b off fs (j + 1) := by
  have hl := h.1
  obtain ⟨g1, g2, g3, g4⟩ := h.below hb
  refine ⟨by rw [set_size]; exact g1, fun o => by rw [World.frozen?_setCell]; exact g2 o, fun q a b => ?_, fun i a b' => ?_⟩
  · rw [set_far (.inr (by omega))]
    exact g3 q (by omega) b
  · by_cases e : i = j
    · subst e
      refine ⟨tl, tc, t, ?_, set_here ((g3 (i * 2 + 1) (by omega) (by omega)).trans (by rw [← Nat.add_assoc]; exact h1)), ho.to (Nat.le_of_eq set_size.symm) fun b hb _ => ⟨by omega, set_heap (by omega)⟩⟩
      rw [set_far (.inr (by omega))]
      exact (g3 (i * 2) (by omega) (by omega)).trans h0
    · obtain ⟨tl', tc', t', c0, c1, i2⟩ := g4 i a (by omega)
      exact ⟨tl', tc', t', (set_far (.inr (by omega))).trans c0, (set_far (.inr (by omega))).trans c1, i2.to (Nat.le_of_eq set_size.symm) fun b hb _ => ⟨hb, set_heap (by omega)⟩⟩
/-- All of them done. -/
theorem FRow.done {n : Nat} {w0 w : World} {g b off : Nat} {fs : List (ByteArray × List Tm)} (h : FRow n w0 w g b off fs fs.length) (hm : (fs.length : Int) ≤ 9223372036854775807) {B : Nat} (hB : B < g) : OwF (fun b => B < b) (fun t tl tc V => OwV (fun b => B < b) w n t tl tc V) w (some ⟨g, 0, none⟩) fs.length fs := by
  refine ⟨rfl, hm, fun i hi => ?_⟩
  obtain ⟨tl, tc, t, c0, c1, i2⟩ := h.2.2.2 i hi hi
  exact ⟨g, 0, tl, tc, t, rfl, hB, h.1, h.2.1, by rw [Nat.zero_add]; exact c0, by rw [Nat.zero_add]; exact c1, i2.imp fun b hb _ => by omega⟩
/-- The row of terms, k of them done. -/
def TRow (n : Nat) (w0 w : World) (g b off : Nat) (A : List Tm) (k : Nat) : Prop :=
  g < w.heap.size ∧ (∀ o, w.frozen? ⟨g, o, none⟩ = false) ∧ (∀ q, k * 8 ≤ q → q < A.length * 8 → w.cell? ⟨g, q, none⟩ = w0.cell? ⟨b, off + q, none⟩) ∧
  ∀ i (h : i < A.length), i < k → OwT (fun b => g < b) (fun t tl tc V => OwV (fun b => g < b) w n t tl tc V) w g (i * 8) A[i]
theorem TRow.below {n : Nat} {w0 w w' : World} {g b off : Nat} {A : List Tm} {k : Nat} (h : TRow n w0 w g b off A k) (hb : Below w.heap.size w w') : TRow n w0 w' g b off A k := by
  obtain ⟨h1, h2, h3, h4⟩ := h
  have hh := hb.block g h1
  exact ⟨Nat.lt_of_lt_of_le h1 hb.size, fun o => (frozen_of_heap hh o).trans (h2 o), fun q a b => (cell_of_heap hh q).trans (h3 q a b), fun i a b => OwT.to' hb.size (fun b hp lt => ⟨hp, hb.block b lt⟩) (fun t tl tc V h => h.below hb) (fun r _ => cell_of_heap hh _) (h4 i a b)⟩
theorem TRow.step {n : Nat} {w0 w w' : World} {g b off : Nat} {A : List Tm} {k : Nat} (h : TRow n w0 w g b off A k) (hb : Below w.heap.size w w') (hk : k < A.length) (hi : InT (fun t tl tc V => InV w0 n t tl tc V) w0 b (off + k * 8) A[k])
    {f : Option Addr} {fl fc : Nat} (hf : OwF (fun b => g < b) (fun t tl tc V => OwV (fun b => g < b) w' n t tl tc V) w' f fl (A[k]).fs) : TRow n w0 (w'.setCell ⟨g, k * 8 + 7, none⟩ (.slice f fl fc)) g b off A (k + 1) := by
  obtain ⟨g1, g2, g3, g4⟩ := h.below hb
  have hP : ∀ b, g < b → b < w'.heap.size → g < b ∧ (w'.setCell ⟨g, k * 8 + 7, none⟩ (.slice f fl fc)).heap[b]? = w'.heap[b]? := fun b hb _ => ⟨hb, set_heap (by omega)⟩
  have hI : ∀ t tl tc V, OwV (fun b => g < b) w' n t tl tc V → OwV (fun b => g < b) (w'.setCell ⟨g, k * 8 + 7, none⟩ (.slice f fl fc)) n t tl tc V := fun t tl tc V h => h.to (Nat.le_of_eq set_size.symm) hP
  refine ⟨by rw [set_size]; exact g1, fun o => by rw [World.frozen?_setCell]; exact g2 o, fun q a b => ?_, fun i a b' => ?_⟩
  · rw [set_far (.inr (by omega))]
    exact g3 q (by omega) b
  · by_cases e : i = k
    · subst e
      have old : ∀ r, r < 8 → ∀ {v : Value}, w0.cell? ⟨b, off + i * 8 + r, none⟩ = some v → w'.cell? ⟨g, i * 8 + r, none⟩ = some v := fun r hr v hv => (g3 (i * 8 + r) (by omega) (by omega)).trans (by rw [← Nat.add_assoc]; exact hv)
      have old' : ∀ r, r < 7 → ∀ {v : Value}, w0.cell? ⟨b, off + i * 8 + r, none⟩ = some v → (w'.setCell ⟨g, i * 8 + 7, none⟩ (.slice f fl fc)).cell? ⟨g, i * 8 + r, none⟩ = some v := fun r hr v hv => (set_far (.inr (by omega))).trans (old r (by omega) hv)
      generalize A[i] = x at *
      obtain ⟨k, lo, hi', s, y, m, o, fs⟩ := x
      obtain ⟨lt, f0, fl0, fc0, c0, c1, c2, c3, c4, c5, c6, c7, _⟩ := hi
      exact ⟨f, fl, fc, old' 0 (by omega) c0, old' 1 (by omega) c1, old' 2 (by omega) c2, old' 3 (by omega) c3, old' 4 (by omega) c4, old' 5 (by omega) c5, old' 6 (by omega) c6, set_here (old 7 (by omega) c7), hf.to (Nat.le_of_eq set_size.symm) hP hI⟩
    · exact OwT.to' (Nat.le_of_eq set_size.symm) hP hI (fun r hr => set_far (.inr (by omega))) (g4 i a (by omega))
theorem TRow.done {n : Nat} {w0 w : World} {g b off : Nat} {A : List Tm} {tc : Nat} (h : TRow n w0 w g b off A A.length) (hm : (A.length : Int) ≤ 9223372036854775807) {B : Nat} (hB : B ≤ g) : OwV (fun b => B ≤ b) w (n + 1) (some ⟨g, 0, none⟩) A.length tc A := by
  refine ⟨rfl, hm, fun i hi => ⟨g, 0, rfl, hB, h.1, h.2.1, ?_⟩⟩
  exact OwT.to' (Nat.le_refl _) (fun b hb _ => ⟨by omega, rfl⟩) (fun t tl tc V h => h.imp fun b hb _ => by omega) (fun r _ => by rw [Nat.zero_add]) (h.2.2.2 i hi hi)
end Go.Proofs.YtddleeenlpigfaaGreatDoor
/- WALK of Copy. -/
namespace Go.Proofs.YtddleeenlpigfaaGreatDoor
open Go.RowKit
/-- The box of the answer. -/
def Rx (w : World) (N : Nat) : Prop := N < w.heap.size ∧ w.cell? ⟨N, 0, none⟩ = some (.slice none 0 0) ∧ w.frozen? ⟨N, 0, none⟩ = false
theorem Rx.later {w w' : World} {N : Nat} (h : Rx w N) (hb : Below w.heap.size w w') : Rx w' N := ⟨Nat.lt_of_lt_of_le h.1 hb.size, (hb.cell (p := ⟨N, 0, none⟩) h.1).trans h.2.1, (hb.frozen (p := ⟨N, 0, none⟩) h.1).trans h.2.2⟩
end Go.Proofs.YtddleeenlpigfaaGreatDoor
/- WALK of find. -/
namespace Go.Proofs.YtddleeenlpigfaaGreatDoor
open Go.RowKit
/-- None of the first k fields bears the name. -/
def NoF (fs : List (ByteArray × List Tm)) (key : ByteArray) (k : Nat) : Prop := ∀ j (h : j < fs.length), j < k → (fs[j].1.toList == key.toList) = false
theorem NoF.succ {fs : List (ByteArray × List Tm)} {key : ByteArray} {k : Nat} (h : NoF fs key k) (hk : k < fs.length) (h1 : (fs[k].1.toList == key.toList) = false) : NoF fs key (k + 1) := fun j hj hjk => by
  by_cases e : j = k
  · subst e; exact h1
  · exact h j hj (by omega)
theorem findF_none {fs : List (ByteArray × List Tm)} {key : ByteArray} (h : NoF fs key fs.length) : findF fs key = none := by
  unfold findF
  rw [List.find?_eq_none.2]
  · rfl
  · intro x hx
    obtain ⟨j, hj, rfl⟩ := List.getElem_of_mem hx
    rw [h j hj hj]; simp
theorem findF_at : ∀ {fs : List (ByteArray × List Tm)} {key : ByteArray} {k : Nat} (hk : k < fs.length), NoF fs key k → (fs[k].1.toList == key.toList) = true → findF fs key = some fs[k].2
  | g :: fs, key, 0, _, _, h => by
    have h' : (g.1.toList == key.toList) = true := h
    simp [findF, h']
  | g :: fs, key, k + 1, hk, hn, h => by
    have h0 : (g.1.toList == key.toList) = false := hn 0 (by simp) (by omega)
    have := findF_at (fs := fs) (key := key) (k := k) (by simpa using hk) (fun j hj hjk => hn (j + 1) (by simpa using hj) (by omega)) h
    simp only [findF, List.find?_cons, h0, List.getElem_cons_succ] at *
    exact this
/-- What find tells. -/
def FindP (I : Option Addr → Nat → Nat → List Tm → Prop) (r : Option (List Tm)) (w : World) (e : Ending) (w' : World) : Prop :=
  ∃ t tl tc bl, e = .returned (.tuple #[.agg #[.slice t tl tc], .bool bl]) ∧ Below w.heap.size w w' ∧ (match r with | some V => bl = true ∧ I t tl tc V | none => bl = false ∧ t = none ∧ tl = 0 ∧ tc = 0)
set_option maxRecDepth 100000 in
set_option maxHeartbeats 8000000 in
theorem find_any (I : Option Addr → Nat → Nat → List Tm → Prop) (w : World) (b off : Nat) (x : Tm) (h : InT I w b off x) (key : ByteArray) :
    Calls Tryz.prog 141 #[.pointer (some ⟨b, off, none⟩), .string key] w (FindP I (findF x.fs key) w) := by
  obtain ⟨k5, lo5, hi5, s5, y5, m5, o5, fs⟩ := x
  obtain ⟨lt1, f, fl, fc, c0, c1, c2, c3, c4, c5, c6, c7, hF⟩ := h
  obtain ⟨l1, z1, h1⟩ := hF
  have H1 := Lib.hid h1
  subst l1
  clear h1 c0 c1 c2 c3 c4 c5 c6
  show Calls _ _ _ _ (FindP I (findF fs key) w)
  go_enter Tryz.func141, Tryz.ntmps141
  go_wp2_with fail
  go_loopw [13] (fun i wr => ∃ k : Nat, k ≤ fs.length ∧ i = .int .i64 k ∧ Hid (NoF fs key k) ∧ Hid (Rx wr w.heap.size) ∧ Hid (Below w.heap.size w wr)) (fun i _ => fs.length - (intOf i).toNat)
  case atStart => exact ⟨0, Nat.zero_le _, rfl, fun j _ hj => absurd hj (Nat.not_lt_zero _), ⟨by simp, by simp [go_sem], by simp [go_sem]⟩, bl_alloc (Below.refl _ _)⟩
  case round =>
    obtain ⟨k, hk, rfl, hN, hR, hB⟩ := hrel
    rename World => wr
    obtain ⟨rz, rc, rf⟩ := hR.out
    by_cases hlt : k < fs.length
    · have hki : (k : Int) < (fs.length : Int) := by omega
      have hk0 : (0 : Int) ≤ (k : Int) := by omega
      obtain ⟨b2, off2, tl2, tc2, t2, rfl, lt2, d0, d1, i2⟩ := H1.out k hlt
      replace d0 := (hB.out.cell (p := ⟨b2, off2 + k * 2, none⟩) lt2).trans d0
      replace d1 := (hB.out.cell (p := ⟨b2, off2 + k * 2 + 1, none⟩) lt2).trans d1
      have HI2 := Lib.hid i2
      have HV : ∃ V, fs[k].2 = V := ⟨_, rfl⟩
      have HN : ∃ nm, fs[k].1 = nm := ⟨_, rfl⟩
      obtain ⟨vv, hv⟩ := HV
      obtain ⟨nm, hn⟩ := HN
      rw [hn] at d0
      clear i2 lt2
      have HVN := Lib.hid (And.intro hv hn)
      clear hv hn
      cases hc : (nm.toList == key.toList)
      · have HC := Lib.hid hc
        go_wp2_with fail
        go_roundw
        case rel => exact ⟨k + 1, by omega, by go_num, hN.out.succ hlt (by rw [HVN.out.2]; exact HC.out), ⟨by simp; omega, by simp [go_sem, rz, rc], by simp [go_sem, rz, rf]⟩, bl_alloc hB.out⟩
        case measure => simp [intOf]; omega
      · have HC := Lib.hid hc
        go_wp2_with fail
        refine bodyPost_ret (v := .tuple #[.agg #[.slice t2 tl2 tc2], .bool true]) (by simp [results, Tryz.results141, go_sem, rz, set_here rc]) rfl ⟨t2, tl2, tc2, true, rfl, bl_alloc (bl_set hB.out (Nat.le_refl _)), ?_⟩
        rw [findF_at hlt hN.out (by rw [HVN.out.2]; exact HC.out)]
        exact ⟨rfl, HI2.out⟩
    · go_wp2_with fail
      refine bodyPost_ret (v := .tuple #[.agg #[.slice none 0 0], .bool false]) (by simp [results, Tryz.results141, go_sem, rc]) rfl ⟨none, 0, 0, false, rfl, bl_set hB.out (Nat.le_refl _), ?_⟩
      rw [findF_none (by have : k = fs.length := by omega
                         rw [← this]; exact hN.out)]
      exact ⟨rfl, rfl, rfl, rfl⟩
end Go.Proofs.YtddleeenlpigfaaGreatDoor
/- WALKS of IndexFunc, ContainsFunc at fields: a function of whatever make. -/
namespace Go.Proofs.YtddleeenlpigfaaGreatDoor
open Go.RowKit
/-- All that was there is as it was, but for block P. -/
structure Kp (P : Nat) (w w' : World) : Prop where
  os : w'.os = w.os
  tape : w'.tape = w.tape
  output : w'.output = w.output
  size : w.heap.size ≤ w'.heap.size
  block : ∀ k, k < w.heap.size → k ≠ P → w'.heap[k]? = w.heap[k]?
theorem Kp.refl (P : Nat) (w : World) : Kp P w w := ⟨rfl, rfl, rfl, Nat.le_refl _, fun _ _ _ => rfl⟩
theorem Kp.of {P : Nat} {w w' : World} (h : Below w.heap.size w w') : Kp P w w' := ⟨h.os, h.tape, h.output, h.size, fun k hk _ => h.block k hk⟩
theorem Kp.trans {P : Nat} {a b c : World} (h : Kp P a b) (k : Kp P b c) : Kp P a c :=
  ⟨k.os.trans h.os, k.tape.trans h.tape, k.output.trans h.output, Nat.le_trans h.size k.size, fun i hi hp => (k.block i (Nat.lt_of_lt_of_le hi h.size) hp).trans (h.block i hi hp)⟩
theorem Kp.alloc {P : Nat} {w a : World} {o : Obj} (h : Kp P w a) : Kp P w (a.alloc o) := h.trans (Kp.of ((Below.refl _ _).alloc (Nat.le_refl _) _))
theorem Kp.drew {P : Nat} {w a : World} (h : Kp P w a) : Kp P w a.drew := ⟨h.os, h.tape, h.output, h.size, h.block⟩
theorem Kp.step {P : Nat} {w a b : World} (h : Kp P w a) (k : Below a.heap.size a b) : Kp P w b := h.trans (Kp.of k)
theorem Kp.set {P : Nat} {w a : World} {p : Addr} {v : Value} (h : Kp P w a) (hp : w.heap.size ≤ p.block ∨ p.block = P) : Kp P w (a.setCell p v) :=
  ⟨h.os, h.tape, h.output, by rw [set_size]; exact h.size, fun k hk hP => (Below.heap_setCell _ _ _ _ (by rcases hp with hp | hp <;> omega)).trans (h.block k hk hP)⟩
theorem Kp.below {P : Nat} {w0 w w' : World} (hb : Below w0.heap.size w0 w) (h : Kp P w w') (hP : w0.heap.size ≤ P) : Below w0.heap.size w0 w' :=
  ⟨h.os.trans hb.os, h.tape.trans hb.tape, h.output.trans hb.output, Nat.le_trans hb.size h.size, fun k hk => (h.block k (Nat.lt_of_lt_of_le hk hb.size) (by omega)).trans (hb.block k hk)⟩
theorem Kp.cell {P : Nat} {w w' : World} (h : Kp P w w') {p : Addr} (hp : p.block < w.heap.size) (hn : p.block ≠ P) : w'.cell? p = w.cell? p := World.cell?_of_block (w := w) (h.block p.block hp hn)
theorem Kp.frozen {P : Nat} {w w' : World} (h : Kp P w w') {p : Addr} (hp : p.block < w.heap.size) (hn : p.block ≠ P) : w'.frozen? p = w.frozen? p := World.frozen?_of_block (w := w) (h.block p.block hp hn)
/-- A function that is asked of one field behind the other: what it tells of each, as long as it tells false. -/
def Asks (P : Nat) (I : Option Addr → Nat → Nat → List Tm → Prop) (fs : List (ByteArray × List Tm)) (g : Nat) (cb : Array Value) (J : Nat → World → Prop) (p : Nat → Bool) : Prop :=
  ∀ (i : Nat) (W : World) (h : i < fs.length) (t : Option Addr) (tl tc : Nat), J i W → I t tl tc fs[i].2 → Calls Tryz.prog g (#[.agg #[.string fs[i].1, .slice t tl tc]] ++ cb) W fun e W' => e = .returned (.bool (p i)) ∧ Kp P W W' ∧ (p i = false → J (i + 1) W')
def IndexP (P : Nat) (n : Nat) (J : Nat → World → Prop) (p : Nat → Bool) (w : World) (e : Ending) (w' : World) : Prop :=
  ∃ r : Int, e = .returned (.int .i64 r) ∧ Kp P w w' ∧ ((r = -1 ∧ (∀ i, i < n → p i = false) ∧ J n w') ∨ (0 ≤ r ∧ ∃ i, i < n ∧ p i = true))
set_option maxRecDepth 100000 in
set_option maxHeartbeats 8000000 in
theorem index_any (P : Nat) (I : Option Addr → Nat → Nat → List Tm → Prop) (g : Nat) (cb : Array Value) (eg : ∀ args w, (callFunc g args).run Tryz.prog w = .ok (.enter g args) w) (J : Nat → World → Prop) (p : Nat → Bool)
    (w0 : World) (f : Option Addr) (fl fc : Nat) (fs : List (ByteArray × List Tm)) (hF : InF I w0 f fl fs) (old : ∀ i W, J i W → Below w0.heap.size w0 W) (ask : Asks P I fs g cb J p) (w : World) (hw : J 0 w) :
    Calls Tryz.prog 80 #[.slice f fl fc, .func (.func g) #[] cb] w (IndexP P fl J p w) := by
  obtain ⟨l1, z1, h1⟩ := hF
  have H1 := Lib.hid h1
  subst l1
  have HO := Lib.hid old
  have HA := Lib.hid ask
  have HW := Lib.hid hw
  clear h1 old ask hw
  go_enter Tryz.func80, Tryz.ntmps80
  go_wp2_with fail
  go_loopw [5, 8] (fun _ i wr => ∃ k : Nat, k ≤ fs.length ∧ i = .int .i64 k ∧ Hid (∀ j, j < k → p j = false) ∧ Hid (Kp P w wr) ∧ Hid (J k wr)) (fun _ i _ => fs.length - (intOf i).toNat)
  case atStart => exact ⟨0, Nat.zero_le _, rfl, fun j hj => absurd hj (Nat.not_lt_zero _), Kp.refl _ _, HW⟩
  case round =>
    obtain ⟨k, hk, rfl, hN, hK, hJ⟩ := hrel
    rename World => wr
    by_cases hlt : k < fs.length
    · have hki : (k : Int) < (fs.length : Int) := by omega
      have hk0 : (0 : Int) ≤ (k : Int) := by omega
      obtain ⟨b2, off2, tl2, tc2, t2, rfl, lt2, d0, d1, i2⟩ := H1.out k hlt
      have hb := HO.out k wr hJ.out
      replace d0 := (hb.cell (p := ⟨b2, off2 + k * 2, none⟩) lt2).trans d0
      replace d1 := (hb.cell (p := ⟨b2, off2 + k * 2 + 1, none⟩) lt2).trans d1
      have HC := Lib.hid (HA.out k wr hlt t2 tl2 tc2 hJ.out i2)
      clear i2 lt2 hb
      generalize fs[k].1 = nm at *
      have HP : ∃ q, p k = q := ⟨_, rfl⟩
      obtain ⟨q, hq⟩ := HP
      rw [hq] at HC
      have HQ := Lib.hid hq
      clear hq
      cases q
      · go_wp2_with (go_at_fn g; refine HC.out.mono ?_; rintro e w1 ⟨rfl, hk1, hj1⟩; have HK1 := Lib.hid hk1; have HJ1 := Lib.hid (hj1 rfl); clear hk1 hj1)
        go_roundw
        case rel => exact ⟨k + 1, by omega, by go_num, fun j hj => (by
          by_cases e : j = k
          · subst e; exact HQ.out
          · exact hN.out j (by omega)), hK.out.trans HK1.out, HJ1⟩
        case measure => simp [intOf]; omega
      · go_wp2_with (go_at_fn g; refine HC.out.mono ?_; rintro e w1 ⟨rfl, hk1, hj1⟩; have HK1 := Lib.hid hk1; clear hk1 hj1)
        go_ret
        exact ⟨k, rfl, hK.out.trans HK1.out, .inr ⟨by omega, k, hlt, HQ.out⟩⟩
    · have hkl : k = fs.length := by omega
      subst hkl
      go_wp2_with fail
      go_ret
      exact ⟨-1, rfl, hK.out, .inl ⟨rfl, hN.out, hJ.out⟩⟩
def ContP (P : Nat) (n : Nat) (J : Nat → World → Prop) (p : Nat → Bool) (w : World) (e : Ending) (w' : World) : Prop :=
  ∃ q : Bool, e = .returned (.bool q) ∧ Kp P w w' ∧ (q = false → (∀ i, i < n → p i = false) ∧ J n w') ∧ (q = true → ∃ i, i < n ∧ p i = true)
set_option maxRecDepth 100000 in
set_option maxHeartbeats 8000000 in
theorem contains_any (P : Nat) (I : Option Addr → Nat → Nat → List Tm → Prop) (g : Nat) (cb : Array Value) (eg : ∀ args w, (callFunc g args).run Tryz.prog w = .ok (.enter g args) w) (J : Nat → World → Prop) (p : Nat → Bool)
    (w0 : World) (f : Option Addr) (fl fc : Nat) (fs : List (ByteArray × List Tm)) (hF : InF I w0 f fl fs) (old : ∀ i W, J i W → Below w0.heap.size w0 W) (ask : Asks P I fs g cb J p) (w : World) (hw : J 0 w) :
    Calls Tryz.prog 49 #[.slice f fl fc, .func (.func g) #[] cb] w (ContP P fl J p w) := by
  have HI := Lib.hid (index_any P I g cb eg J p w0 f fl fc fs hF old ask w hw)
  clear eg hF old ask hw
  go_enter Tryz.func49, Tryz.ntmps49
  go_wp2_with (go_at_call 80; refine HI.out.mono ?_; rintro e w1 ⟨r, rfl, hk1, hr⟩; have HK1 := Lib.hid hk1; have HR := Lib.hid hr; clear hk1 hr)
  go_ret
  rcases HR.out with ⟨rfl, h1, h2⟩ | ⟨h1, h2⟩
  · exact ⟨false, rfl, HK1.out, fun _ => ⟨h1, h2⟩, fun e => absurd e (by decide)⟩
  · exact ⟨true, (by rw [decide_eq_true (by omega)]; rfl), HK1.out, fun e => absurd e (by decide), fun _ => h2⟩
end Go.Proofs.YtddleeenlpigfaaGreatDoor
/- WALKS of empty, lacking and the function that it hands back; refuses. -/
namespace Go.Proofs.YtddleeenlpigfaaGreatDoor
open Go.RowKit
theorem enters50 : ∀ args w, (callFunc 50 args).run Tryz.prog w = .ok (.enter 50 args) w := enters_of Tryz.func50 (by kernel_rfl) rfl
theorem enters78 : ∀ args w, (callFunc 78 args).run Tryz.prog w = .ok (.enter 78 args) w := enters_of Tryz.func78 (by kernel_rfl) rfl
theorem enters166 : ∀ args w, (callFunc 166 args).run Tryz.prog w = .ok (.enter 166 args) w := enters_of Tryz.func166 (by kernel_rfl) rfl
theorem enters71 : ∀ args w, (callFunc 71 args).run Tryz.prog w = .ok (.enter 71 args) w := enters_of Tryz.func71 (by kernel_rfl) rfl
set_option maxRecDepth 100000 in
set_option maxHeartbeats 2000000 in
theorem empty_any (nm : ByteArray) (t : Option Addr) (tl tc : Nat) (w : World) : Calls Tryz.prog 50 #[.agg #[.string nm, .slice t tl tc]] w fun e w' => e = .returned (.bool (tl == 0)) ∧ Below w.heap.size w w' := by
  go_enter Tryz.func50, Tryz.ntmps50
  go_wp2_with fail
  go_ret
  exact ⟨Nm.ret_bool (show ((tl : Int) == 0) = (tl == 0) by rw [Bool.eq_iff_iff]; simp), bl_alloc (Below.refl _ _)⟩
set_option maxRecDepth 100000 in
set_option maxHeartbeats 2000000 in
theorem lacking_any (b off : Nat) (w : World) : Calls Tryz.prog 140 #[.pointer (some ⟨b, off, none⟩)] w fun e w' => e = .returned (.func (.func 166) #[] #[.pointer (some ⟨w.heap.size, 0, none⟩)]) ∧ Below w.heap.size w w' ∧ w.heap.size < w'.heap.size ∧ w'.cell? ⟨w.heap.size, 0, none⟩ = some (.pointer (some ⟨b, off, none⟩)) := by
  go_enter Tryz.func140, Tryz.ntmps140
  go_wp2_with fail
  go_ret
  exact ⟨rfl, bl_alloc (Below.refl _ _), by simp, by simp⟩
/-- The function that lacking hands back. -/
def LackP (c : Bool) (w : World) (e : Ending) (w' : World) : Prop := e = .returned (.bool c) ∧ Below w.heap.size w w'
set_option maxRecDepth 100000 in
set_option maxHeartbeats 2000000 in
theorem lacks_one (I : Option Addr → Nat → Nat → List Tm → Prop) (w : World) (b off N : Nat) (x : Tm) (h : InT I w b off x) (hN : N < w.heap.size) (hp : w.cell? ⟨N, 0, none⟩ = some (.pointer (some ⟨b, off, none⟩))) (nm : ByteArray) (t : Option Addr) (tl tc : Nat) :
    Calls Tryz.prog 166 #[.agg #[.string nm, .slice t tl tc], .pointer (some ⟨N, 0, none⟩)] w (LackP (findF x.fs nm).isNone w) := by
  have HF := Lib.hid (fun (W : World) (hW : Below w.heap.size w W) => find_any I W b off x (h.below (fun _ _ _ _ h => h) hW) nm)
  clear h
  generalize findF x.fs nm = r at *
  cases r with
  | none =>
    go_enter Tryz.func166, Tryz.ntmps166
    go_wp2_with (go_at_call 141; refine (HF.out _ (bl_alloc (Below.refl _ _))).mono ?_; rintro e w1 ⟨t1, tl1, tc1, bl, rfl, hB, hr⟩; have HB := Lib.hid hB; obtain rfl := hr.1; clear hB hr)
    go_ret
    exact ⟨rfl, bl_alloc (bl_step (bl_alloc (Below.refl _ _)) HB.out)⟩
  | some V =>
    go_enter Tryz.func166, Tryz.ntmps166
    go_wp2_with (go_at_call 141; refine (HF.out _ (bl_alloc (Below.refl _ _))).mono ?_; rintro e w1 ⟨t1, tl1, tc1, bl, rfl, hB, hr⟩; have HB := Lib.hid hB; obtain rfl := hr.1; clear hB hr)
    go_ret
    exact ⟨rfl, bl_alloc (bl_step (bl_alloc (Below.refl _ _)) HB.out)⟩
theorem lacksF_iff {fs gs : List (ByteArray × List Tm)} {q : Bool} (h0 : q = false → ∀ i, i < gs.length → (findF fs (gs[i]?.getD ⟨⟨#[]⟩, []⟩).1).isNone = false) (h1 : q = true → ∃ i, i < gs.length ∧ (findF fs (gs[i]?.getD ⟨⟨#[]⟩, []⟩).1).isNone = true) : q = lacksF fs gs := by
  unfold lacksF
  cases q
  · symm
    rw [List.any_eq_false]
    intro x hx
    obtain ⟨i, hi, rfl⟩ := List.getElem_of_mem hx
    have := h0 rfl i hi
    rw [List.getElem?_eq_getElem hi, Option.getD_some] at this
    rw [this]; simp
  · symm
    rw [List.any_eq_true]
    obtain ⟨i, hi, h⟩ := h1 rfl
    rw [List.getElem?_eq_getElem hi, Option.getD_some] at h
    exact ⟨_, List.getElem_mem hi, h⟩
theorem Below.of_kp {w w' : World} (h : Kp w.heap.size w w') : Below w.heap.size w w' := ⟨h.os, h.tape, h.output, h.size, fun k hk => h.block k hk (by omega)⟩
/-- ContainsFunc with what lacking hands back: is there a field of gs that x lacks? -/
theorem contains_lacks (I : Option Addr → Nat → Nat → List Tm → Prop) (w : World) (b off N : Nat) (x : Tm) (h : InT I w b off x) (hN : N < w.heap.size) (hp : w.cell? ⟨N, 0, none⟩ = some (.pointer (some ⟨b, off, none⟩)))
    (f : Option Addr) (fl fc : Nat) (gs : List (ByteArray × List Tm)) (hG : InF I w f fl gs) :
    Calls Tryz.prog 49 #[.slice f fl fc, .func (.func 166) #[] #[.pointer (some ⟨N, 0, none⟩)]] w (LackP (lacksF x.fs gs) w) := by
  refine (contains_any w.heap.size I 166 _ enters166 (fun _ W => Below w.heap.size w W) (fun i => (findF x.fs (gs[i]?.getD ⟨⟨#[]⟩, []⟩).1).isNone) w f fl fc gs hG (fun _ _ h => h) (fun i W hi t tl tc hW _ => ?_) w (Below.refl _ _)).mono ?_
  · have e : gs[i]? = some gs[i] := List.getElem?_eq_getElem hi
    simp only [e, Option.getD_some]
    exact (lacks_one I W b off N x (h.below (fun _ _ _ _ h => h) hW) (Nat.lt_of_lt_of_le hN hW.size) ((hW.cell (p := ⟨N, 0, none⟩) hN).trans hp) _ _ _ _).mono fun _ _ ⟨a, b⟩ => ⟨a, Kp.of b, fun _ => bl_step hW b⟩
  · rintro e w1 ⟨q, rfl, hk, h0, h1⟩
    have hl : gs.length = fl := hG.1
    refine ⟨?_, Below.of_kp hk⟩
    rw [lacksF_iff (fs := x.fs) (gs := gs) (q := q) (fun e i hi => (h0 e).1 i (by omega)) (fun e => by obtain ⟨i, hi, h2⟩ := h1 e; exact ⟨i, by omega, h2⟩)]
end Go.Proofs.YtddleeenlpigfaaGreatDoor
/- WALK of refuses. -/
namespace Go.Proofs.YtddleeenlpigfaaGreatDoor
open Go.RowKit
theorem InT.cells {I : Option Addr → Nat → Nat → List Tm → Prop} {w : World} {b off : Nat} {x : Tm} (h : InT I w b off x) :
    b < w.heap.size ∧ ∃ f fl fc, w.cell? ⟨b, off, none⟩ = some (.int .i64 x.k) ∧ w.cell? ⟨b, off + 1, none⟩ = some (.int .i64 x.lo) ∧ w.cell? ⟨b, off + 2, none⟩ = some (.int .i64 x.hi) ∧ w.cell? ⟨b, off + 3, none⟩ = some (.string x.s) ∧ w.cell? ⟨b, off + 4, none⟩ = some (.bool x.y) ∧
      w.cell? ⟨b, off + 5, none⟩ = some (.bool x.m) ∧ w.cell? ⟨b, off + 6, none⟩ = some (.bool x.o) ∧ w.cell? ⟨b, off + 7, none⟩ = some (.slice f fl fc) ∧ InF I w f fl x.fs := by
  obtain ⟨k, lo, hi, s, y, m, o, fs⟩ := x
  exact h
set_option maxRecDepth 100000 in
set_option maxHeartbeats 8000000 in
theorem refuses_any (I : Option Addr → Nat → Nat → List Tm → Prop) (w : World) (b1 off1 b2 off2 : Nat) (x y : Tm) (hx : InT I w b1 off1 x) (hy : InT I w b2 off2 y) :
    Calls Tryz.prog 139 #[.pointer (some ⟨b1, off1, none⟩), .pointer (some ⟨b2, off2, none⟩)] w (LackP (!x.o && lacksF x.fs y.fs) w) := by
  obtain ⟨lt1, f1, fl1, fc1, -, -, -, -, -, -, c6, -, -⟩ := hx.cells
  obtain ⟨lt2, f2, fl2, fc2, -, -, -, -, -, -, -, d7, hF⟩ := hy.cells
  have HL := Lib.hid (fun (W : World) (hW : Below w.heap.size w W) (N : Nat) (hN : N < W.heap.size) (hp : W.cell? ⟨N, 0, none⟩ = some (.pointer (some ⟨b1, off1, none⟩))) =>
    contains_lacks I W b1 off1 N x (hx.below (fun _ _ _ _ h => h) hW) hN hp f2 fl2 fc2 y.fs (hF.below (fun _ _ _ _ h => h) hW))
  clear hx hy hF
  generalize lacksF x.fs y.fs = r at *
  generalize x.o = o1 at *
  cases o1
  · rw [show (!false && r) = r by cases r <;> rfl]
    go_enter Tryz.func139, Tryz.ntmps139
    go_wp2_with fail
    go_region_held3 (fun w' => ∀ b o, b < w.heap.size → w'.cell? ⟨b, o, none⟩ = w.cell? ⟨b, o, none⟩)
      (exact fun b o h => (show Below w.heap.size w _ from by first | exact (Below.refl _ _).drew | exact KW.out).cell (p := ⟨b, o, none⟩) h)
      (first
        | (go_at_call 140; (with_reducible refine (lacking_any _ _ _).mono ?_); rintro e w1 ⟨rfl, hB, hn, hc⟩; have HB := Lib.hid hB; have HN := Lib.hid hn; have HC := Lib.hid hc; have KW := Lib.hid (bl_step ((Below.refl w.heap.size w).drew) hB); clear hB hn hc)
        | (go_at_call 49; refine (HL.out _ KW.out _ HN.out HC.out).mono ?_; rintro e w2 ⟨rfl, hB2⟩; replace KW := Lib.hid (bl_step KW.out hB2); clear hB2))
    go_wp2_with fail
    go_ret
    exact ⟨rfl, KW.out⟩
  · go_enter Tryz.func139, Tryz.ntmps139
    go_wp2_with fail
    go_quiet (fail)
    go_wp2_with fail
    go_ret
    exact ⟨rfl, below_drewN (Below.refl _ _) _⟩
end Go.Proofs.YtddleeenlpigfaaGreatDoor
