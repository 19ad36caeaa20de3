/- Pi, Sc, Sd, Ad, Ae, Af, Ag -/
import Derived.Deep.DeepCutAuto
import Derived.Deep.CutBlock
import Derived.Shelf.Abstract
import Derived.Deep.RegionHeld3
import Derived.Test.YtddleeenlpigfaaGreatDoorY4
import Derived.Test.YtddleeenlpigfaaGreatDoorY18
import Derived.Test.YtddleeenlpigfaaGreatDoorY10
/- WALKS of left and Few. -/
namespace Go.Proofs.YtddleeenlpigfaaGreatDoor
open Go.RowKit
/-- A number, at most so great; nothing that was there has changed. -/
def LeftPost (w : World) (e : Ending) (w' : World) : Prop := ∃ x : Int, -1 ≤ x ∧ x ≤ 200 ∧ e = .returned (.int .i64 x) ∧ Below w.heap.size w w'
/-- The value's box. -/
def Bx (w : World) (N : Nat) (t : Option Addr) (tl tc : Nat) : Prop := N < w.heap.size ∧ w.cell? ⟨N, 0, none⟩ = some (.slice t tl tc)
def B8 (w : World) (N : Nat) (t : Option Addr) (tl tc : Nat) : Prop := N < w.heap.size ∧ w.cell? ⟨N, 7, none⟩ = some (.slice t tl tc)
theorem B8.later {w w' : World} {N : Nat} {t : Option Addr} {tl tc : Nat} (h : B8 w N t tl tc) (hb : Below w.heap.size w w') : B8 w' N t tl tc := ⟨Nat.lt_of_lt_of_le h.1 hb.size, (hb.cell (p := ⟨N, 7, none⟩) h.1).trans h.2⟩
theorem Bx.later {w w' : World} {N : Nat} {t : Option Addr} {tl tc : Nat} (h : Bx w N t tl tc) (hb : Below w.heap.size w w') : Bx w' N t tl tc := ⟨Nat.lt_of_lt_of_le h.1 hb.size, (hb.cell (p := ⟨N, 0, none⟩) h.1).trans h.2⟩
set_option maxRecDepth 100000 in
set_option maxHeartbeats 8000000 in
theorem left_step (n : Nat) (ih : ∀ (W : World) (t : Option Addr) (tl tc : Nat) (A : List Tm) (d m : Int), InV W n t tl tc A → 0 ≤ d → d ≤ 20 → -1 ≤ m → m ≤ 200 → Calls Tryz.prog 64 #[.agg #[.slice t tl tc], .int .i64 d, .int .i64 m] W (LeftPost W))
    (w : World) (t : Option Addr) (tl tc : Nat) (A : List Tm) (d m : Int) (h : InV w (n + 1) t tl tc A) (hd0 : 0 ≤ d) (hd : d ≤ 20) (hm0 : -1 ≤ m) (hm : m ≤ 200) :
    Calls Tryz.prog 64 #[.agg #[.slice t tl tc], .int .i64 d, .int .i64 m] w (LeftPost w) := by
  obtain ⟨hl, hz, hA⟩ := h
  subst hl
  have IH := Lib.hid ih
  have HA := Lib.hid hA
  clear ih hA
  by_cases h0 : d = 0
  · subst h0
    go_enter Tryz.func64, Tryz.ntmps64
    go_wp2_with fail
    go_ret
    exact ⟨-1, by omega, by omega, rfl, bl_alloc (Below.refl _ _)⟩
  · have hd1 : 1 ≤ d := by omega
    have hdb : (d == 0) = false := by simpa using h0
    clear h0
    by_cases hlong : m < (A.length : Int)
    · go_enter Tryz.func64, Tryz.ntmps64
      go_wp2_with fail
      go_ret
      exact ⟨-1, by omega, by omega, rfl, bl_alloc (Below.refl _ _)⟩
    · have hle : (A.length : Int) ≤ m := by omega
      go_enter Tryz.func64, Tryz.ntmps64
      go_wp2_with fail
      go_loopw [2, 7] (fun nn i wr => ∃ (k : Nat) (x : Int), k ≤ A.length ∧ i = .int .i64 k ∧ nn = .int .i64 x ∧ -1 ≤ x ∧ x ≤ 200 ∧ Bx wr w.heap.size t A.length tc ∧ Hid (Below w.heap.size w wr)) (fun _ i _ => A.length - (intOf i).toNat)
      case atStart => exact ⟨0, m, Nat.zero_le _, rfl, rfl, hm0, hm, ⟨by simp, by simp⟩, bl_alloc (Below.refl _ _)⟩
      case round =>
        obtain ⟨k, x, hk, rfl, rfl, hx0, hx, hBx, hB⟩ := hrel
        rename World => wr
        have bx := hBx.2
        have bz := hBx.1
        have HBX := Lib.hid hBx
        clear hBx
        by_cases hlt : k < A.length
        · by_cases hx1 : 0 ≤ x
          · have hki : (k : Int) < (A.length : Int) := by omega
            have hk0 : (0 : Int) ≤ (k : Int) := by omega
            obtain ⟨b1, off1, rfl, i1⟩ := HA.out k hlt
            generalize hgx : A[k] = x9 at i1
            clear hgx
            obtain ⟨k5, lo5, hi5, s5, y5, m5, o5, g5⟩ := x9
            obtain ⟨lt1, f5, fl5, fc5, c0, c1, c2, c3, c4, c5, c6, c7, j1⟩ := i1
            have e : ∀ i, wr.cell? ⟨b1, i, none⟩ = w.cell? ⟨b1, i, none⟩ := fun i => hB.out.cell (p := ⟨b1, i, none⟩) lt1
            replace c0 := (e _).trans c0
            replace c1 := (e _).trans c1
            replace c2 := (e _).trans c2
            replace c3 := (e _).trans c3
            replace c4 := (e _).trans c4
            replace c5 := (e _).trans c5
            replace c6 := (e _).trans c6
            replace c7 := (e _).trans c7
            have lt1' : b1 < wr.heap.size := Nat.lt_of_lt_of_le lt1 hB.out.size
            have J1 := Lib.hid j1
            clear e lt1 j1
            go_upto_region 11 with fail
            · go_ret
              exact ⟨-1, by omega, by omega, rfl, bl_alloc hB.out⟩
            · have hy0 : -1 ≤ x - 1 := by omega
              have hy1 : x - 1 ≤ 200 := by omega
              have HWR := Lib.hid hB
              obtain ⟨l5, z5, j5⟩ := J1.out
              have J5 := Lib.hid j5
              have L5 := Lib.hid l5
              clear l5 j5 J1
              go_loopw [2, 9] (fun nn i wi => ∃ (j : Nat) (u : Int), j ≤ fl5 ∧ i = .int .i64 j ∧ nn = .int .i64 u ∧ -1 ≤ u ∧ u ≤ 200 ∧ Bx wi w.heap.size (some ⟨b1, off1, none⟩) A.length tc ∧ B8 wi wr.heap.size f5 fl5 fc5 ∧ Hid (Below w.heap.size w wi)) (fun _ i _ => fl5 - (intOf i).toNat)
              case atStart => exact ⟨0, x - 1, Nat.zero_le _, rfl, rfl, hy0, hy1, HBX.out.later (bl_alloc (Below.refl _ _)), ⟨by simp, by simp⟩, bl_alloc hB.out⟩
              case round =>
                obtain ⟨j, u, hj, rfl, rfl, hu0, hu, hBx, hB8, hBi⟩ := hrel
                rename World => wi
                have bxi := hBx.2
                have bzi := hBx.1
                have b8 := hB8.2
                have bz8 := hB8.1
                have HBXi := Lib.hid hBx
                have HB8i := Lib.hid hB8
                clear hBx hB8 bx bz c0 c1 c2 c3 c4 c5 c6 c7
                by_cases hjl : j < fl5
                · by_cases hun : 0 ≤ u
                  · have hji : (j : Int) < (fl5 : Int) := by omega
                    have hj0 : (0 : Int) ≤ (j : Int) := by omega
                    have hjs : j < g5.length := by rw [L5.out]; exact hjl
                    obtain ⟨b2, off2, tl2, tc2, t2, rfl, lt2, d0, d1, i2⟩ := J5.out j hjs
                    replace d0 := (hBi.out.cell (p := ⟨b2, off2 + j * 2, none⟩) lt2).trans d0
                    replace d1 := (hBi.out.cell (p := ⟨b2, off2 + j * 2 + 1, none⟩) lt2).trans d1
                    have lt2' : b2 < wi.heap.size := Nat.lt_of_lt_of_le lt2 hBi.out.size
                    generalize hnm : (g5[j]).1 = nm at *
                    generalize hvv : (g5[j]).2 = vv at *
                    clear hnm hvv
                    have IC := Lib.hid (fun (W : World) (hW : Below w.heap.size w W) => IH.out W t2 tl2 tc2 vv (d - 1) u (InV.below hW i2) (by omega) (by omega) hu0 hu)
                    have HWI := Lib.hid hBi.out
                    clear lt2 i2
                    go_wp2_with (go_at_call 64; refine (IC.out _ HWI.out).mono ?_; rintro e w2 ⟨v, hv0, hv, rfl, hB2⟩; have HB2 := Lib.hid hB2; clear hB2)
                    · go_ret
                      exact ⟨-1, by omega, by omega, rfl, HWI.out⟩
                    · go_roundw
                      case rel => exact ⟨j + 1, v, by omega, by go_num, rfl, hv0, hv, HBXi.out.later HB2.out, HB8i.out.later HB2.out, bl_step HWI.out HB2.out⟩
                      case measure => simp [intOf]; omega
                  · have hxn : ¬ 0 ≤ u := hun
                    go_wp2_with fail
                    go_roundw
                    case rel => exact ⟨k + 1, u, by omega, by go_num, rfl, hu0, hu, HBXi.out, hBi⟩
                    case measure => simp [intOf]; omega
                · go_wp2_with fail
                  go_roundw
                  case rel => exact ⟨k + 1, u, by omega, by go_num, rfl, hu0, hu, HBXi.out, hBi⟩
                  case measure => simp [intOf]; omega
            · go_ret
              exact ⟨-1, by omega, by omega, rfl, bl_alloc hB.out⟩
          · have hxn : ¬ 0 ≤ x := hx1
            go_wp2_with fail
            go_ret
            exact ⟨x, hx0, hx, rfl, hB.out⟩
        · go_wp2_with fail
          go_ret
          exact ⟨x, hx0, hx, rfl, hB.out⟩
theorem left_any : ∀ (n : Nat) (W : World) (t : Option Addr) (tl tc : Nat) (A : List Tm) (d m : Int), InV W n t tl tc A → 0 ≤ d → d ≤ 20 → -1 ≤ m → m ≤ 200 → Calls Tryz.prog 64 #[.agg #[.slice t tl tc], .int .i64 d, .int .i64 m] W (LeftPost W)
  | 0, _, _, _, _, _, _, _, h, _, _, _, _ => h.elim
  | n + 1, W, t, tl, tc, A, d, m, h, h1, h2, h3, h4 => left_step n (left_any n) W t tl tc A d m h h1 h2 h3 h4
/-- Few answers something. -/
def FewPost (w : World) (e : Ending) (w' : World) : Prop := ∃ b : Bool, e = .returned (.bool b) ∧ Below w.heap.size w w'
set_option maxHeartbeats 400000 in
theorem few_any (n : Nat) (w : World) (t : Option Addr) (tl tc : Nat) (A : List Tm) (h : InV w n t tl tc A) : Calls Tryz.prog 36 #[.agg #[.slice t tl tc]] w (FewPost w) := by
  have HL := fun W (hW : Below w.heap.size w W) => Lib.hid (left_any n W t tl tc A 20 200 (InV.below hW h) (by omega) (by omega) (by omega) (by omega))
  have HB : Hid (Below w.heap.size w w) := Below.refl _ _
  clear h
  go_enter Tryz.func36, Tryz.ntmps36
  go_wp2_with (go_at_call 64; refine (HL _ (bl_alloc HB.out)).out.mono ?_; rintro e w2 ⟨v, hv0, hv, rfl, hB2⟩; have HB2 := Lib.hid hB2; clear hB2)
  go_ret
  exact ⟨_, rfl, bl_step (bl_alloc HB.out) HB2.out⟩

end Go.Proofs.YtddleeenlpigfaaGreatDoor
/- What a copy's rows hold while they are filled. -/
namespace Go.Proofs.YtddleeenlpigfaaGreatDoor
open Go.RowKit
/-- Lists that are short enough to be copied. -/
def SlimV : Nat → List Tm → Prop
  | 0, _ => True
  | n + 1, V => V.length * 72 ≤ 140737488355328 ∧ ∀ i (h : i < V.length), V[i].fs.length * 40 ≤ 140737488355328 ∧ ∀ j (h2 : j < V[i].fs.length), SlimV n (V[i].fs[j]).2
theorem set_heap {w : World} {g o b : Nat} {v : Value} (h : b ≠ g) : (w.setCell ⟨g, o, none⟩ v).heap[b]? = w.heap[b]? := Below.heap_setCell _ _ _ _ h
theorem set_size {w : World} {a : Addr} {v : Value} : (w.setCell a v).heap.size = w.heap.size := by simp [World.setCell]
theorem set_far {w : World} {g o b q : Nat} {v : Value} (h : b ≠ g ∨ q ≠ o) : (w.setCell ⟨g, o, none⟩ v).cell? ⟨b, q, none⟩ = w.cell? ⟨b, q, none⟩ :=
  World.cell?_setCell_other _ _ _ _ (by intro e; cases e; rcases h with h | h <;> exact h rfl)
theorem set_here {w : World} {g o : Nat} {u v : Value} (h : w.cell? ⟨g, o, none⟩ = some u) : (w.setCell ⟨g, o, none⟩ v).cell? ⟨g, o, none⟩ = some v := World.cell?_setCell_same _ _ _ h
/-- The row of fields, j of them done. -/
def FRow (n : Nat) (w0 w : World) (g b off : Nat) (fs : List (ByteArray × List Tm)) (j : Nat) : Prop :=
  g < w.heap.size ∧ (∀ o, w.frozen? ⟨g, o, none⟩ = false) ∧ (∀ q, j * 2 ≤ q → q < fs.length * 2 → w.cell? ⟨g, q, none⟩ = w0.cell? ⟨b, off + q, none⟩) ∧
  ∀ i (h : i < fs.length), i < j → ∃ (tl tc : Nat) (t : Option Addr), w.cell? ⟨g, i * 2, none⟩ = some (.string fs[i].1) ∧ w.cell? ⟨g, i * 2 + 1, none⟩ = some (.slice t tl tc) ∧ OwV (fun b => g < b) w n t tl tc fs[i].2
theorem FRow.below {n : Nat} {w0 w w' : World} {g b off : Nat} {fs : List (ByteArray × List Tm)} {j : Nat} (h : FRow n w0 w g b off fs j) (hb : Below w.heap.size w w') : FRow n w0 w' g b off fs j := by
  obtain ⟨h1, h2, h3, h4⟩ := h
  have hh := hb.block g h1
  refine ⟨Nat.lt_of_lt_of_le h1 hb.size, fun o => (frozen_of_heap hh o).trans (h2 o), fun q a b => (cell_of_heap hh q).trans (h3 q a b), fun i a b => ?_⟩
  obtain ⟨tl, tc, t, c0, c1, i2⟩ := h4 i a b
  exact ⟨tl, tc, t, (cell_of_heap hh _).trans c0, (cell_of_heap hh _).trans c1, i2.below hb⟩
theorem FRow.step {n : Nat} {w0 w w' : World} {g b off : Nat} {fs : List (ByteArray × List Tm)} {j : Nat} (h : FRow n w0 w g b off fs j) (hb : Below w.heap.size w w') (hj : j < fs.length) {tl tc tc0 : Nat} {t t0 : Option Addr} (h0 : w0.cell? ⟨b, off + j * 2, none⟩ = some (.string fs[j].1)) (h1 : w0.cell? ⟨b, off + j * 2 + 1, none⟩ = some (.slice t0 tl tc0))
    {B : Nat} (hB : w.heap.size ≤ B) (ho : OwV (fun b => B ≤ b) w' n t tl tc fs[j].2) : FRow n w0 (w'.setCell ⟨g, j * 2 + 1, none⟩ (.slice t tl tc)) g b off fs (j + 1) := by
  have hl := h.1
  obtain ⟨g1, g2, g3, g4⟩ := h.below hb
  refine ⟨by rw [set_size]; exact g1, fun o => by rw [World.frozen?_setCell]; exact g2 o, fun q a b => ?_, fun i a b' => ?_⟩
  · rw [set_far (.inr (by omega))]
    exact g3 q (by omega) b
  · by_cases e : i = j
    · subst e
      refine ⟨tl, tc, t, ?_, set_here ((g3 (i * 2 + 1) (by omega) (by omega)).trans (by rw [← Nat.add_assoc]; exact h1)), ho.to (Nat.le_of_eq set_size.symm) fun b hb _ => ⟨by omega, set_heap (by omega)⟩⟩
      rw [set_far (.inr (by omega))]
      exact (g3 (i * 2) (by omega) (by omega)).trans h0
    · obtain ⟨tl', tc', t', c0, c1, i2⟩ := g4 i a (by omega)
      exact ⟨tl', tc', t', (set_far (.inr (by omega))).trans c0, (set_far (.inr (by omega))).trans c1, i2.to (Nat.le_of_eq set_size.symm) fun b hb _ => ⟨hb, set_heap (by omega)⟩⟩
/-- All of them done. -/
theorem FRow.done {n : Nat} {w0 w : World} {g b off : Nat} {fs : List (ByteArray × List Tm)} (h : FRow n w0 w g b off fs fs.length) (hm : (fs.length : Int) ≤ 9223372036854775807) {B : Nat} (hB : B < g) : OwF (fun b => B < b) (fun t tl tc V => OwV (fun b => B < b) w n t tl tc V) w (some ⟨g, 0, none⟩) fs.length fs := by
  refine ⟨rfl, hm, fun i hi => ?_⟩
  obtain ⟨tl, tc, t, c0, c1, i2⟩ := h.2.2.2 i hi hi
  exact ⟨g, 0, tl, tc, t, rfl, hB, h.1, h.2.1, by rw [Nat.zero_add]; exact c0, by rw [Nat.zero_add]; exact c1, i2.imp fun b hb _ => by omega⟩
/-- The row of terms, k of them done. -/
def TRow (n : Nat) (w0 w : World) (g b off : Nat) (A : List Tm) (k : Nat) : Prop :=
  g < w.heap.size ∧ (∀ o, w.frozen? ⟨g, o, none⟩ = false) ∧ (∀ q, k * 8 ≤ q → q < A.length * 8 → w.cell? ⟨g, q, none⟩ = w0.cell? ⟨b, off + q, none⟩) ∧
  ∀ i (h : i < A.length), i < k → OwT (fun b => g < b) (fun t tl tc V => OwV (fun b => g < b) w n t tl tc V) w g (i * 8) A[i]
theorem TRow.below {n : Nat} {w0 w w' : World} {g b off : Nat} {A : List Tm} {k : Nat} (h : TRow n w0 w g b off A k) (hb : Below w.heap.size w w') : TRow n w0 w' g b off A k := by
  obtain ⟨h1, h2, h3, h4⟩ := h
  have hh := hb.block g h1
  exact ⟨Nat.lt_of_lt_of_le h1 hb.size, fun o => (frozen_of_heap hh o).trans (h2 o), fun q a b => (cell_of_heap hh q).trans (h3 q a b), fun i a b => OwT.to' hb.size (fun b hp lt => ⟨hp, hb.block b lt⟩) (fun t tl tc V h => h.below hb) (fun r _ => cell_of_heap hh _) (h4 i a b)⟩
theorem TRow.step {n : Nat} {w0 w w' : World} {g b off : Nat} {A : List Tm} {k : Nat} (h : TRow n w0 w g b off A k) (hb : Below w.heap.size w w') (hk : k < A.length) (hi : InT (fun t tl tc V => InV w0 n t tl tc V) w0 b (off + k * 8) A[k])
    {f : Option Addr} {fl fc : Nat} (hf : OwF (fun b => g < b) (fun t tl tc V => OwV (fun b => g < b) w' n t tl tc V) w' f fl (A[k]).fs) : TRow n w0 (w'.setCell ⟨g, k * 8 + 7, none⟩ (.slice f fl fc)) g b off A (k + 1) := by
  obtain ⟨g1, g2, g3, g4⟩ := h.below hb
  have hP : ∀ b, g < b → b < w'.heap.size → g < b ∧ (w'.setCell ⟨g, k * 8 + 7, none⟩ (.slice f fl fc)).heap[b]? = w'.heap[b]? := fun b hb _ => ⟨hb, set_heap (by omega)⟩
  have hI : ∀ t tl tc V, OwV (fun b => g < b) w' n t tl tc V → OwV (fun b => g < b) (w'.setCell ⟨g, k * 8 + 7, none⟩ (.slice f fl fc)) n t tl tc V := fun t tl tc V h => h.to (Nat.le_of_eq set_size.symm) hP
  refine ⟨by rw [set_size]; exact g1, fun o => by rw [World.frozen?_setCell]; exact g2 o, fun q a b => ?_, fun i a b' => ?_⟩
  · rw [set_far (.inr (by omega))]
    exact g3 q (by omega) b
  · by_cases e : i = k
    · subst e
      have old : ∀ r, r < 8 → ∀ {v : Value}, w0.cell? ⟨b, off + i * 8 + r, none⟩ = some v → w'.cell? ⟨g, i * 8 + r, none⟩ = some v := fun r hr v hv => (g3 (i * 8 + r) (by omega) (by omega)).trans (by rw [← Nat.add_assoc]; exact hv)
      have old' : ∀ r, r < 7 → ∀ {v : Value}, w0.cell? ⟨b, off + i * 8 + r, none⟩ = some v → (w'.setCell ⟨g, i * 8 + 7, none⟩ (.slice f fl fc)).cell? ⟨g, i * 8 + r, none⟩ = some v := fun r hr v hv => (set_far (.inr (by omega))).trans (old r (by omega) hv)
      generalize A[i] = x at *
      obtain ⟨k, lo, hi', s, y, m, o, fs⟩ := x
      obtain ⟨lt, f0, fl0, fc0, c0, c1, c2, c3, c4, c5, c6, c7, _⟩ := hi
      exact ⟨f, fl, fc, old' 0 (by omega) c0, old' 1 (by omega) c1, old' 2 (by omega) c2, old' 3 (by omega) c3, old' 4 (by omega) c4, old' 5 (by omega) c5, old' 6 (by omega) c6, set_here (old 7 (by omega) c7), hf.to (Nat.le_of_eq set_size.symm) hP hI⟩
    · exact OwT.to' (Nat.le_of_eq set_size.symm) hP hI (fun r hr => set_far (.inr (by omega))) (g4 i a (by omega))
theorem TRow.done {n : Nat} {w0 w : World} {g b off : Nat} {A : List Tm} {tc : Nat} (h : TRow n w0 w g b off A A.length) (hm : (A.length : Int) ≤ 9223372036854775807) {B : Nat} (hB : B ≤ g) : OwV (fun b => B ≤ b) w (n + 1) (some ⟨g, 0, none⟩) A.length tc A := by
  refine ⟨rfl, hm, fun i hi => ⟨g, 0, rfl, hB, h.1, h.2.1, ?_⟩⟩
  exact OwT.to' (Nat.le_refl _) (fun b hb _ => ⟨by omega, rfl⟩) (fun t tl tc V h => h.imp fun b hb _ => by omega) (fun r _ => by rw [Nat.zero_add]) (h.2.2.2 i hi hi)
/-- The cells of a value's terms are there. -/
theorem cells_inT {n : Nat} {w : World} {t : Option Addr} {tc : Nat} {A : List Tm} (h : InV w (n + 1) t A.length tc A) : A.length = 0 ∨ ∃ b off, t = some ⟨b, off, none⟩ ∧ ∀ j, j < A.length * 8 → ∃ u, w.cell? ⟨b, off + j, none⟩ = some u ∧ u.oneCell' = true := by
  by_cases h0 : A.length = 0
  · exact .inl h0
  · obtain ⟨b, off, e, _⟩ := h.2.2 0 (by omega)
    refine .inr ⟨b, off, e, fun j hj => ?_⟩
    obtain ⟨b', off', e', h2⟩ := h.2.2 (j / 8) (by omega)
    obtain ⟨rfl, rfl⟩ : b = b' ∧ off = off' := by rw [e] at e'; cases e'; exact ⟨rfl, rfl⟩
    generalize A[j / 8] = x at h2
    obtain ⟨k, lo, hi, s, y, m, o, fs⟩ := x
    obtain ⟨lt, f, fl, fc, c0, c1, c2, c3, c4, c5, c6, c7, _⟩ := h2
    have ej : off + j = off + j / 8 * 8 + j % 8 := by omega
    rw [ej]
    have hr : j % 8 < 8 := Nat.mod_lt _ (by omega)
    generalize j % 8 = r at hr
    match r, hr with
    | 0, _ => exact ⟨_, c0, rfl⟩
    | 1, _ => exact ⟨_, c1, rfl⟩
    | 2, _ => exact ⟨_, c2, rfl⟩
    | 3, _ => exact ⟨_, c3, rfl⟩
    | 4, _ => exact ⟨_, c4, rfl⟩
    | 5, _ => exact ⟨_, c5, rfl⟩
    | 6, _ => exact ⟨_, c6, rfl⟩
    | 7, _ => exact ⟨_, c7, rfl⟩
    | r + 8, h => omega
theorem cells_inF {I : Option Addr → Nat → Nat → List Tm → Prop} {w : World} {f : Option Addr} {fs : List (ByteArray × List Tm)} (h : InF I w f fs.length fs) : fs.length = 0 ∨ ∃ b off, f = some ⟨b, off, none⟩ ∧ ∀ j, j < fs.length * 2 → ∃ u, w.cell? ⟨b, off + j, none⟩ = some u ∧ u.oneCell' = true := by
  by_cases h0 : fs.length = 0
  · exact .inl h0
  · obtain ⟨b, off, _, _, _, e, _⟩ := h.2.2 0 (by omega)
    refine .inr ⟨b, off, e, fun j hj => ?_⟩
    obtain ⟨b', off', tl, tc, t, e', _, c0, c1, _⟩ := h.2.2 (j / 2) (by omega)
    obtain ⟨rfl, rfl⟩ : b = b' ∧ off = off' := by rw [e] at e'; cases e'; exact ⟨rfl, rfl⟩
    have ej : off + j = off + j / 2 * 2 + j % 2 := by omega
    rw [ej]
    have hr : j % 2 < 2 := Nat.mod_lt _ (by omega)
    generalize j % 2 = r at hr
    match r, hr with
    | 0, _ => exact ⟨_, c0, rfl⟩
    | 1, _ => exact ⟨_, c1, rfl⟩
    | r + 2, h => omega

end Go.Proofs.YtddleeenlpigfaaGreatDoor
/- WALK of Copy. -/
namespace Go.Proofs.YtddleeenlpigfaaGreatDoor
open Go.RowKit
/-- A copy: the same terms, in memory of the call's own. -/
def CopyPost (w : World) (n tl : Nat) (A : List Tm) (e : Ending) (w' : World) : Prop :=
  ∃ (t' : Option Addr) (tc' : Nat), e = .returned (.agg #[.slice t' tl tc']) ∧ Below w.heap.size w w' ∧ OwV (fun b => w.heap.size ≤ b) w' n t' tl tc' A
/-- The box of the answer. -/
def Rx (w : World) (N : Nat) : Prop := N < w.heap.size ∧ w.cell? ⟨N, 0, none⟩ = some (.slice none 0 0) ∧ w.frozen? ⟨N, 0, none⟩ = false
theorem Rx.later {w w' : World} {N : Nat} (h : Rx w N) (hb : Below w.heap.size w w') : Rx w' N := ⟨Nat.lt_of_lt_of_le h.1 hb.size, (hb.cell (p := ⟨N, 0, none⟩) h.1).trans h.2.1, (hb.frozen (p := ⟨N, 0, none⟩) h.1).trans h.2.2⟩
/-- The two boxes of a copy, behind a call. -/
theorem boxes_copy (w : World) (t : Option Addr) (tl tc : Nat) {w1 : World} (h : Below ((w.alloc (.cells #[.slice t tl tc] 24)).alloc (.cells #[.slice none 0 0] 24)).heap.size ((w.alloc (.cells #[.slice t tl tc] 24)).alloc (.cells #[.slice none 0 0] 24)) w1) :
    (w.heap.size < w1.heap.size ∧ w1.cell? ⟨w.heap.size, 0, none⟩ = some (.slice t tl tc) ∧ w1.frozen? ⟨w.heap.size, 0, none⟩ = false) ∧ Rx w1 (w.heap.size + 1) ∧ Below w.heap.size w w1 := by
  have hz := h.size
  have e : ((w.alloc (.cells #[.slice t tl tc] 24)).alloc (.cells #[.slice none 0 0] 24)).heap.size = w.heap.size + 1 + 1 := by simp
  rw [e] at hz
  have g : ∀ b, b < w.heap.size + 1 + 1 → w1.cell? ⟨b, 0, none⟩ = ((w.alloc (.cells #[.slice t tl tc] 24)).alloc (.cells #[.slice none 0 0] 24)).cell? ⟨b, 0, none⟩ := fun b hb => h.cell (p := ⟨b, 0, none⟩) (by rw [e]; exact hb)
  have g' : ∀ b, b < w.heap.size + 1 + 1 → w1.frozen? ⟨b, 0, none⟩ = ((w.alloc (.cells #[.slice t tl tc] 24)).alloc (.cells #[.slice none 0 0] 24)).frozen? ⟨b, 0, none⟩ := fun b hb => h.frozen (p := ⟨b, 0, none⟩) (by rw [e]; exact hb)
  exact ⟨⟨by omega, (g _ (by omega)).trans (by simp [go_sem]), (g' _ (by omega)).trans (by simp [go_sem])⟩, ⟨by omega, (g _ (by omega)).trans (by simp [go_sem]), (g' _ (by omega)).trans (by simp [go_sem])⟩, bl_step (bl_alloc (bl_alloc (Below.refl _ _))) h⟩
set_option maxRecDepth 100000 in
set_option maxHeartbeats 4000000 in
theorem copy_zero (n : Nat) (w : World) (t : Option Addr) (tc : Nat) : Calls Tryz.prog 53 #[.agg #[.slice t 0 tc]] w (CopyPost w (n + 1) 0 []) := by
  have HC := fun W => Lib.hid (cloneT_any t 0 tc W (Nat.zero_le _) (by omega) (.inl rfl))
  go_enter Tryz.func53, Tryz.ntmps53
  go_wp2_with (go_at_call 83; refine (HC _).out.mono ?_; rintro e w1 ⟨t', c', rfl, hB, -⟩; obtain ⟨⟨hz0, bx0, fz0⟩, ⟨hz1, bx1, fz1⟩, hb⟩ := boxes_copy w t 0 tc hB; have HB := Lib.hid hb; clear hB hb)
  go_loopw [15] (fun i wr => i = .int .i64 0 ∧ Hid (wr = w1.setCell ⟨w.heap.size, 0, none⟩ (.slice t' 0 c'))) (fun _ _ => 0)
  case atStart => exact ⟨rfl, rfl⟩
  case round =>
    obtain ⟨rfl, hw⟩ := hrel
    replace hw := hw.out
    subst hw
    go_wp2_with fail
    exact bodyPost_ret (v := .agg #[.slice t' 0 c']) (by simp [results, Tryz.results53, go_sem, bx1]) rfl ⟨t', c', rfl, bl_set (bl_set HB.out (Nat.le_refl _)) (by simp), OwV.none _ _ _ _⟩
/-- A clone of at least one. -/
theorem clone_row {size n : Nat} {t : Option Addr} {w : World} {e : Ending} {w' : World} (h : CloneP size n t w e w') (hn : n ≠ 0) {b off : Nat} (ht : t = some ⟨b, off, none⟩) :
    ∃ g c', e = .returned (.slice (some ⟨g, 0, none⟩) n c') ∧ Below w.heap.size w w' ∧ w.heap.size ≤ g ∧ g < w'.heap.size ∧ (∀ o, w'.frozen? ⟨g, o, none⟩ = false) ∧ ∀ j, j < n * size → w'.cell? ⟨g, j, none⟩ = w.cell? ⟨b, off + j, none⟩ := by
  obtain ⟨t', c', he, hb, h0 | ⟨g, b', off', rfl, ht', hg, hl, hf, hc⟩⟩ := h
  · exact absurd h0 hn
  · rw [ht] at ht'
    cases ht'
    exact ⟨g, c', he, hb, hg, hl, hf, hc⟩
set_option maxRecDepth 100000 in
set_option maxHeartbeats 8000000 in
theorem copy_step (n : Nat) (ih : ∀ (W : World) (t : Option Addr) (tl tc : Nat) (A : List Tm), InV W n t tl tc A → SlimV n A → Calls Tryz.prog 53 #[.agg #[.slice t tl tc]] W (CopyPost W n tl A))
    (w : World) (t : Option Addr) (tl tc : Nat) (A : List Tm) (h : InV w (n + 1) t tl tc A) (hs : SlimV (n + 1) A) (hne : A.length ≠ 0) : Calls Tryz.prog 53 #[.agg #[.slice t tl tc]] w (CopyPost w (n + 1) tl A) := by
  have hI := h
  obtain ⟨hl, hz, hA⟩ := h
  subst hl
  obtain ⟨b, off, rfl, -⟩ := hA 0 (by omega)
  have IH := Lib.hid ih
  have HA := Lib.hid hA
  have HS := Lib.hid hs
  have HN := Lib.hid hne
  have HC : Hid (∀ W, Below w.heap.size w W → Calls Tryz.prog 83 #[.slice (some ⟨b, off, none⟩) A.length tc] W (CloneP 8 A.length (some ⟨b, off, none⟩) W)) := fun W hW =>
    cloneT_any _ _ _ W (by unfold maxLen; omega) hs.1 (cells_inT (hI.below hW))
  clear ih hA hs hne hI
  go_enter Tryz.func53, Tryz.ntmps53
  go_wp2_with (go_at_call 83; refine (HC.out _ (bl_alloc (bl_alloc (Below.refl _ _)))).mono ?_; intro e w1 hcl; obtain ⟨g, c', rfl, hB, hg, hgl, hgf, hgc⟩ := clone_row hcl HN.out rfl; obtain ⟨⟨hz0, bx0, fz0⟩, hR, hb⟩ := boxes_copy w (some ⟨b, off, none⟩) A.length tc hB; have HB := Lib.hid hb; have HR := Lib.hid hR; have HG := Lib.hid (And.intro hg (And.intro hgl (And.intro hgf hgc))); clear hB hb hg hgl hgf hgc hcl hR)
  have HT : Hid (TRow n w (w1.setCell ⟨w.heap.size, 0, none⟩ (.slice (some ⟨g, 0, none⟩) A.length c')) g b off A 0) := by
    obtain ⟨hg, hgl, hgf, hgc⟩ := HG.out
    simp at hg
    refine ⟨by rw [set_size]; exact hgl, fun o => by rw [World.frozen?_setCell]; exact hgf o, fun q _ hq => ?_, fun i _ hi => absurd hi (Nat.not_lt_zero _)⟩
    rw [set_far (.inl (by omega)), hgc q hq]
    obtain ⟨b', off', e, hc⟩ := (cells_inT (tc := tc) ⟨rfl, hz, HA.out⟩).resolve_left HN.out
    cases e
    obtain ⟨u, hu, _⟩ := hc q hq
    have := World.block_lt_of_cell? _ _ hu
    exact ((Below.refl w.heap.size w).alloc (Nat.le_refl _) _ |>.alloc (by simp) _).cell (p := ⟨b, off + q, none⟩) this
  have HL : Hid (w.heap.size + 1 < g) := by have := HG.out.1; simp at this; exact (by omega : w.heap.size + 1 < g)
  clear HG
  go_loopw [15] (fun i wr => ∃ k : Nat, k ≤ A.length ∧ i = .int .i64 k ∧ Bx wr w.heap.size (some ⟨g, 0, none⟩) A.length c' ∧ Hid (Rx wr (w.heap.size + 1)) ∧ Hid (Below w.heap.size w wr) ∧ Hid (TRow n w wr g b off A k)) (fun i _ => A.length - (intOf i).toNat)
  case atStart => exact ⟨0, Nat.zero_le _, rfl, ⟨by rw [set_size]; exact hz0, set_here bx0⟩, ⟨by rw [set_size]; exact HR.out.1, (set_far (.inl (by omega))).trans HR.out.2.1, by rw [World.frozen?_setCell]; exact HR.out.2.2⟩, bl_set HB.out (Nat.le_refl _), HT⟩
  case round =>
    obtain ⟨k, hk, rfl, hX, hRx, hBr, hT⟩ := hrel
    rename World => wr
    have bx := hX.2
    have HX := Lib.hid hX
    clear hX HR HB HT bx0 fz0 hz0
    by_cases hlt : k < A.length
    · have hki : (k : Int) < (A.length : Int) := by omega
      have hk0 : (0 : Int) ≤ (k : Int) := by omega
      obtain ⟨b', off', e, i1⟩ := HA.out k hlt
      cases e
      have HI1 := Lib.hid i1
      have HS1 := Lib.hid (HS.out.2 k hlt)
      have HT' := Lib.hid hT.out
      have old : ∀ r, r < 8 → ∀ {v : Value}, w.cell? ⟨b, off + k * 8 + r, none⟩ = some v → wr.cell? ⟨g, k * 8 + r, none⟩ = some v := fun r hr v hv => (hT.out.2.2.1 (k * 8 + r) (by omega) (by omega)).trans (by rw [← Nat.add_assoc]; exact hv)
      have HF : ∃ x, A[k] = x := ⟨_, rfl⟩
      obtain ⟨⟨k5, lo5, hi5, s5, y5, m5, o5, g5⟩, hx⟩ := HF
      rw [hx] at i1 HS1
      obtain ⟨lt1, f5, fl5, fc5, c0, c1, c2, c3, c4, c5, c6, c7, j1⟩ := i1
      replace c0 := old 0 (by omega) c0
      replace c1 := old 1 (by omega) c1
      replace c2 := old 2 (by omega) c2
      replace c3 := old 3 (by omega) c3
      replace c4 := old 4 (by omega) c4
      replace c5 := old 5 (by omega) c5
      replace c6 := old 6 (by omega) c6
      replace c7 := old 7 (by omega) c7
      rw [Nat.add_zero] at c0
      obtain ⟨l5, z5, j5⟩ := j1
      subst l5
      have HXX := Lib.hid hx
      have J5 := Lib.hid (And.intro z5 j5)
      have HCF : Hid (∀ W, Below wr.heap.size wr W → Calls Tryz.prog 84 #[.slice f5 g5.length fc5] W (CloneP 2 g5.length f5 W)) := fun W hW =>
        cloneF_any _ _ _ W (by unfold maxLen; omega) HS1.out.1 (cells_inF (I := fun _ _ _ _ => True) (InF.below (fun _ _ _ _ _ => trivial) (bl_step hBr.out hW) (InF.below (I := fun t tl tc V => InV w n t tl tc V) (fun _ _ _ _ _ => trivial) (Below.refl _ _) ⟨rfl, z5, j5⟩)))
      clear j5 old lt1 hx
      by_cases h5 : g5.length = 0
      · rw [h5] at HCF
        obtain rfl : g5 = [] := List.length_eq_zero_iff.1 h5
        clear h5
        go_wp2_with (go_at_call 84; refine (HCF.out _ (bl_alloc (Below.refl _ _))).mono ?_; rintro e w2 ⟨t2, c2', rfl, hB2, -⟩; have HB2 := Lib.hid (bl_step (bl_alloc (Below.refl _ _)) hB2); clear hB2)
        go_loopw [25] (fun i wi => i = .int .i64 0 ∧ Hid (wi = w2)) (fun _ _ => 0)
        case atStart => exact ⟨rfl, rfl⟩
        case round =>
          obtain ⟨rfl, hw⟩ := hrel
          replace hw := hw.out
          subst hw
          have bx' := (HX.out.later HB2.out).2
          have c7' := (HB2.out.cell (p := ⟨g, k * 8 + 7, none⟩) hT.out.1).trans c7
          have fz' := (HB2.out.frozen (p := ⟨g, k * 8 + 7, none⟩) hT.out.1).trans (hT.out.2.1 _)
          have HY := Lib.hid (HX.out.later HB2.out)
          have HRY := Lib.hid (hRx.out.later HB2.out)
          go_wp2_with fail
          go_roundw
          case rel => exact ⟨k + 1, by omega, by go_num, ⟨by rw [set_size]; exact HY.out.1, (set_far (.inl (by have := HL.out; omega))).trans bx'⟩, ⟨by rw [set_size]; exact HRY.out.1, (set_far (.inl (by have := HL.out; omega))).trans HRY.out.2.1, by rw [World.frozen?_setCell]; exact HRY.out.2.2⟩, bl_set (bl_step hBr.out HB2.out) (by have := HL.out; show w.heap.size ≤ g; omega),
            TRow.step hT.out HB2.out hlt HI1.out (by rw [HXX.out]; exact ⟨rfl, by simp, fun i hi => absurd hi (Nat.not_lt_zero _)⟩)⟩
          case measure => simp [intOf]; omega
      · have HN5 := Lib.hid h5
        obtain ⟨bf, offf, tl0, tc0, t0, rfl, -⟩ := J5.out.2 0 (by omega)
        clear h5
        go_wp2_with (go_at_call 84; refine (HCF.out _ (bl_alloc (Below.refl _ _))).mono ?_; intro e w2 hcl; obtain ⟨gf, c2', rfl, hB2, hg2, hgl2, hgf2, hgc2⟩ := clone_row hcl HN5.out rfl; have HG2 := Lib.hid (And.intro hg2 (And.intro hgl2 (And.intro hgf2 hgc2))); have HB2 := Lib.hid (bl_step (bl_alloc (Below.refl _ _)) hB2); clear hB2 hg2 hgl2 hgf2 hgc2 hcl)
        have HL2 : Hid (wr.heap.size < gf) := by have := HG2.out.1; simp at this; exact (by omega : wr.heap.size < gf)
        have HFR : Hid (FRow n w w2 gf bf offf g5 0) := by
          obtain ⟨hg, hgl, hgf, hgc⟩ := HG2.out
          refine ⟨hgl, hgf, fun q _ hq => ?_, fun i _ hi => absurd hi (Nat.not_lt_zero _)⟩
          rw [hgc q hq]
          obtain ⟨b', off', e, hc⟩ := (cells_inF (I := fun t tl tc V => InV w n t tl tc V) ⟨rfl, J5.out.1, J5.out.2⟩).resolve_left HN5.out
          cases e
          obtain ⟨u, hu, _⟩ := hc q hq
          have := World.block_lt_of_cell? _ _ hu
          exact ((hBr.out.trans ((bl_alloc (Below.refl wr.heap.size wr)).mono hBr.out.size))).cell (p := ⟨bf, offf + q, none⟩) this
        clear HG2
        go_loopw [25] (fun i wi => ∃ j : Nat, j ≤ g5.length ∧ i = .int .i64 j ∧ Hid (Below wr.heap.size wr wi) ∧ Hid (FRow n w wi gf bf offf g5 j)) (fun i _ => g5.length - (intOf i).toNat)
        case atStart => exact ⟨0, Nat.zero_le _, rfl, HB2, HFR⟩
        case round =>
          obtain ⟨j, hj, rfl, hBi, hFi⟩ := hrel
          rename World => wi
          clear HFR HB2
          by_cases hjl : j < g5.length
          · have hji : (j : Int) < (g5.length : Int) := by omega
            have hj0 : (0 : Int) ≤ (j : Int) := by omega
            obtain ⟨b2, off2, tl2, tc2, t2, e2, lt2, d0, d1, i2⟩ := J5.out.2 j hjl
            cases e2
            have HD := Lib.hid (And.intro d0 d1)
            replace d0 := (hFi.out.2.2.1 (j * 2) (by omega) (by omega)).trans d0
            rw [Nat.add_assoc] at d1
            replace d1 := (hFi.out.2.2.1 (j * 2 + 1) (by omega) (by omega)).trans d1
            have HSV := Lib.hid (HS1.out.2 j hjl)
            have HVV : ∃ V, (g5[j]).2 = V := ⟨_, rfl⟩
            obtain ⟨vv, hvv⟩ := HVV
            rw [hvv] at i2
            have HVE := Lib.hid hvv
            have HSV2 : Hid (SlimV n vv) := by rw [← hvv]; exact HSV.out
            have hgl := hFi.out.1
            have hgz := hFi.out.2.1 (j * 2 + 1)
            generalize hnm : (g5[j]).1 = nm at *
            have IC := Lib.hid (fun (W : World) (hW : Below w.heap.size w W) => IH.out W t2 tl2 tc2 vv (InV.below hW i2) HSV2.out)
            have HWI := Lib.hid (bl_step hBr.out hBi.out)
            have HNM := Lib.hid hnm
            clear lt2 i2 hvv HSV HSV2 hnm
            go_wp2_with (go_at_call 53; refine (IC.out _ (bl_alloc HWI.out)).mono ?_; rintro e w3 ⟨t3, tc3, rfl, hB3, hO3⟩; have HB3 := Lib.hid (bl_step (bl_alloc (Below.refl _ _)) hB3); have HO3 := Lib.hid (hO3.imp (Q := fun b => wi.heap.size ≤ b) (fun b hb _ => Nat.le_trans (Nat.le_of_lt new_lt) hb)); have d1' := (HB3.out.cell (p := ⟨gf, j * 2 + 1, none⟩) hgl).trans d1; have hgz' := (HB3.out.frozen (p := ⟨gf, j * 2 + 1, none⟩) hgl).trans hgz; have hgl' := Nat.lt_of_lt_of_le hgl HB3.out.size; clear hB3 hO3)
            go_roundw
            case rel => exact ⟨j + 1, by omega, by go_num, bl_set (bl_step hBi.out HB3.out) (by have := HL2.out; show wr.heap.size ≤ gf; omega), FRow.step hFi.out HB3.out hjl (by rw [HNM.out]; exact HD.out.1) HD.out.2 (Nat.le_refl _) (by rw [HVE.out]; exact HO3.out)⟩
            case measure => simp [intOf]; omega
          · have ej : j = g5.length := by omega
            subst ej
            have bx' := (HX.out.later hBi.out).2
            have c7' := (hBi.out.cell (p := ⟨g, k * 8 + 7, none⟩) hT.out.1).trans c7
            have fz' := (hBi.out.frozen (p := ⟨g, k * 8 + 7, none⟩) hT.out.1).trans (hT.out.2.1 _)
            have HY := Lib.hid (HX.out.later hBi.out)
            have HRY := Lib.hid (hRx.out.later hBi.out)
            go_wp2_with fail
            go_roundw
            case rel => exact ⟨k + 1, by omega, by go_num, ⟨by rw [set_size]; exact HY.out.1, (set_far (.inl (by have := HL.out; omega))).trans bx'⟩, ⟨by rw [set_size]; exact HRY.out.1, (set_far (.inl (by have := HL.out; omega))).trans HRY.out.2.1, by rw [World.frozen?_setCell]; exact HRY.out.2.2⟩, bl_set (bl_step hBr.out hBi.out) (by have := HL.out; show w.heap.size ≤ g; omega),
              TRow.step hT.out hBi.out hlt HI1.out (by rw [HXX.out]; exact FRow.done hFi.out J5.out.1 (by have := HL2.out; have := hT.out.1; omega))⟩
            case measure => simp [intOf]; omega
    · have ek : k = A.length := by omega
      subst ek
      obtain ⟨rz, rc, rf⟩ := hRx.out
      go_wp2_with fail
      exact bodyPost_ret (v := .agg #[.slice (some ⟨g, 0, none⟩) A.length c']) (by simp [results, Tryz.results53, go_sem, rc]) rfl ⟨_, c', rfl, bl_set hBr.out (by show w.heap.size ≤ w.heap.size + 1; omega), (TRow.done (B := w.heap.size + 2) hT.out hz (by have := HL.out; omega)).to (Nat.le_of_eq set_size.symm) fun b hb _ => ⟨by omega, set_heap (by omega)⟩⟩
theorem copy_in : ∀ (n : Nat) (W : World) (t : Option Addr) (tl tc : Nat) (A : List Tm), InV W n t tl tc A → SlimV n A → Calls Tryz.prog 53 #[.agg #[.slice t tl tc]] W (CopyPost W n tl A)
  | 0, _, _, _, _, _, h, _ => h.elim
  | n + 1, W, t, tl, tc, A, h, hs => by
    by_cases h0 : A.length = 0
    · obtain rfl : tl = 0 := by have := h.1; omega
      obtain rfl : A = [] := List.length_eq_zero_iff.1 h0
      exact copy_zero n W t tc
    · exact copy_step n (copy_in n) W t tl tc A h hs h0

end Go.Proofs.YtddleeenlpigfaaGreatDoor
/- WALK of find. -/
namespace Go.Proofs.YtddleeenlpigfaaGreatDoor
open Go.RowKit
/-- None of the first k fields bears the name. -/
def NoF (fs : List (ByteArray × List Tm)) (key : ByteArray) (k : Nat) : Prop := ∀ j (h : j < fs.length), j < k → (fs[j].1.toList == key.toList) = false
theorem NoF.succ {fs : List (ByteArray × List Tm)} {key : ByteArray} {k : Nat} (h : NoF fs key k) (hk : k < fs.length) (h1 : (fs[k].1.toList == key.toList) = false) : NoF fs key (k + 1) := fun j hj hjk => by
  by_cases e : j = k
  · subst e; exact h1
  · exact h j hj (by omega)
theorem findF_none {fs : List (ByteArray × List Tm)} {key : ByteArray} (h : NoF fs key fs.length) : findF fs key = none := by
  unfold findF
  rw [List.find?_eq_none.2]
  · rfl
  · intro x hx
    obtain ⟨j, hj, rfl⟩ := List.getElem_of_mem hx
    rw [h j hj hj]; simp
theorem findF_at : ∀ {fs : List (ByteArray × List Tm)} {key : ByteArray} {k : Nat} (hk : k < fs.length), NoF fs key k → (fs[k].1.toList == key.toList) = true → findF fs key = some fs[k].2
  | g :: fs, key, 0, _, _, h => by
    have h' : (g.1.toList == key.toList) = true := h
    simp [findF, h']
  | g :: fs, key, k + 1, hk, hn, h => by
    have h0 : (g.1.toList == key.toList) = false := hn 0 (by simp) (by omega)
    have := findF_at (fs := fs) (key := key) (k := k) (by simpa using hk) (fun j hj hjk => hn (j + 1) (by simpa using hj) (by omega)) h
    simp only [findF, List.find?_cons, h0, List.getElem_cons_succ] at *
    exact this
/-- What find tells. -/
def FindP (I : Option Addr → Nat → Nat → List Tm → Prop) (r : Option (List Tm)) (w : World) (e : Ending) (w' : World) : Prop :=
  ∃ t tl tc bl, e = .returned (.tuple #[.agg #[.slice t tl tc], .bool bl]) ∧ Below w.heap.size w w' ∧ (match r with | some V => bl = true ∧ I t tl tc V | none => bl = false ∧ t = none ∧ tl = 0 ∧ tc = 0)
set_option maxRecDepth 100000 in
set_option maxHeartbeats 8000000 in
theorem find_any (I : Option Addr → Nat → Nat → List Tm → Prop) (w : World) (b off : Nat) (x : Tm) (h : InT I w b off x) (key : ByteArray) :
    Calls Tryz.prog 141 #[.pointer (some ⟨b, off, none⟩), .string key] w (FindP I (findF x.fs key) w) := by
  obtain ⟨k5, lo5, hi5, s5, y5, m5, o5, fs⟩ := x
  obtain ⟨lt1, f, fl, fc, c0, c1, c2, c3, c4, c5, c6, c7, hF⟩ := h
  obtain ⟨l1, z1, h1⟩ := hF
  have H1 := Lib.hid h1
  subst l1
  clear h1 c0 c1 c2 c3 c4 c5 c6
  show Calls _ _ _ _ (FindP I (findF fs key) w)
  go_enter Tryz.func141, Tryz.ntmps141
  go_wp2_with fail
  go_loopw [13] (fun i wr => ∃ k : Nat, k ≤ fs.length ∧ i = .int .i64 k ∧ Hid (NoF fs key k) ∧ Hid (Rx wr w.heap.size) ∧ Hid (Below w.heap.size w wr)) (fun i _ => fs.length - (intOf i).toNat)
  case atStart => exact ⟨0, Nat.zero_le _, rfl, fun j _ hj => absurd hj (Nat.not_lt_zero _), ⟨by simp, by simp [go_sem], by simp [go_sem]⟩, bl_alloc (Below.refl _ _)⟩
  case round =>
    obtain ⟨k, hk, rfl, hN, hR, hB⟩ := hrel
    rename World => wr
    obtain ⟨rz, rc, rf⟩ := hR.out
    by_cases hlt : k < fs.length
    · have hki : (k : Int) < (fs.length : Int) := by omega
      have hk0 : (0 : Int) ≤ (k : Int) := by omega
      obtain ⟨b2, off2, tl2, tc2, t2, rfl, lt2, d0, d1, i2⟩ := H1.out k hlt
      replace d0 := (hB.out.cell (p := ⟨b2, off2 + k * 2, none⟩) lt2).trans d0
      replace d1 := (hB.out.cell (p := ⟨b2, off2 + k * 2 + 1, none⟩) lt2).trans d1
      have HI2 := Lib.hid i2
      have HV : ∃ V, fs[k].2 = V := ⟨_, rfl⟩
      have HN : ∃ nm, fs[k].1 = nm := ⟨_, rfl⟩
      obtain ⟨vv, hv⟩ := HV
      obtain ⟨nm, hn⟩ := HN
      rw [hn] at d0
      clear i2 lt2
      have HVN := Lib.hid (And.intro hv hn)
      clear hv hn
      cases hc : (nm.toList == key.toList)
      · have HC := Lib.hid hc
        go_wp2_with fail
        go_roundw
        case rel => exact ⟨k + 1, by omega, by go_num, hN.out.succ hlt (by rw [HVN.out.2]; exact HC.out), ⟨by simp; omega, by simp [go_sem, rz, rc], by simp [go_sem, rz, rf]⟩, bl_alloc hB.out⟩
        case measure => simp [intOf]; omega
      · have HC := Lib.hid hc
        go_wp2_with fail
        refine bodyPost_ret (v := .tuple #[.agg #[.slice t2 tl2 tc2], .bool true]) (by simp [results, Tryz.results141, go_sem, rz, set_here rc]) rfl ⟨t2, tl2, tc2, true, rfl, bl_alloc (bl_set hB.out (Nat.le_refl _)), ?_⟩
        rw [findF_at hlt hN.out (by rw [HVN.out.2]; exact HC.out)]
        exact ⟨rfl, HI2.out⟩
    · go_wp2_with fail
      refine bodyPost_ret (v := .tuple #[.agg #[.slice none 0 0], .bool false]) (by simp [results, Tryz.results141, go_sem, rc]) rfl ⟨none, 0, 0, false, rfl, bl_set hB.out (Nat.le_refl _), ?_⟩
      rw [findF_none (by have : k = fs.length := by omega
                         rw [← this]; exact hN.out)]
      exact ⟨rfl, rfl, rfl, rfl⟩
end Go.Proofs.YtddleeenlpigfaaGreatDoor
/- WALKS of IndexFunc, ContainsFunc at fields: a function of whatever make. -/
namespace Go.Proofs.YtddleeenlpigfaaGreatDoor
open Go.RowKit
/-- All that was there is as it was, but for block P. -/
structure Kp (P : Nat) (w w' : World) : Prop where
  os : w'.os = w.os
  tape : w'.tape = w.tape
  output : w'.output = w.output
  size : w.heap.size ≤ w'.heap.size
  block : ∀ k, k < w.heap.size → k ≠ P → w'.heap[k]? = w.heap[k]?
theorem Kp.refl (P : Nat) (w : World) : Kp P w w := ⟨rfl, rfl, rfl, Nat.le_refl _, fun _ _ _ => rfl⟩
theorem Kp.of {P : Nat} {w w' : World} (h : Below w.heap.size w w') : Kp P w w' := ⟨h.os, h.tape, h.output, h.size, fun k hk _ => h.block k hk⟩
theorem Kp.trans {P : Nat} {a b c : World} (h : Kp P a b) (k : Kp P b c) : Kp P a c :=
  ⟨k.os.trans h.os, k.tape.trans h.tape, k.output.trans h.output, Nat.le_trans h.size k.size, fun i hi hp => (k.block i (Nat.lt_of_lt_of_le hi h.size) hp).trans (h.block i hi hp)⟩
theorem Kp.alloc {P : Nat} {w a : World} {o : Obj} (h : Kp P w a) : Kp P w (a.alloc o) := h.trans (Kp.of ((Below.refl _ _).alloc (Nat.le_refl _) _))
theorem Kp.drew {P : Nat} {w a : World} (h : Kp P w a) : Kp P w a.drew := ⟨h.os, h.tape, h.output, h.size, h.block⟩
theorem Kp.step {P : Nat} {w a b : World} (h : Kp P w a) (k : Below a.heap.size a b) : Kp P w b := h.trans (Kp.of k)
theorem Kp.set {P : Nat} {w a : World} {p : Addr} {v : Value} (h : Kp P w a) (hp : w.heap.size ≤ p.block ∨ p.block = P) : Kp P w (a.setCell p v) :=
  ⟨h.os, h.tape, h.output, by rw [set_size]; exact h.size, fun k hk hP => (Below.heap_setCell _ _ _ _ (by rcases hp with hp | hp <;> omega)).trans (h.block k hk hP)⟩
theorem Kp.below {P : Nat} {w0 w w' : World} (hb : Below w0.heap.size w0 w) (h : Kp P w w') (hP : w0.heap.size ≤ P) : Below w0.heap.size w0 w' :=
  ⟨h.os.trans hb.os, h.tape.trans hb.tape, h.output.trans hb.output, Nat.le_trans hb.size h.size, fun k hk => (h.block k (Nat.lt_of_lt_of_le hk hb.size) (by omega)).trans (hb.block k hk)⟩
theorem Kp.cell {P : Nat} {w w' : World} (h : Kp P w w') {p : Addr} (hp : p.block < w.heap.size) (hn : p.block ≠ P) : w'.cell? p = w.cell? p := World.cell?_of_block (w := w) (h.block p.block hp hn)
theorem Kp.frozen {P : Nat} {w w' : World} (h : Kp P w w') {p : Addr} (hp : p.block < w.heap.size) (hn : p.block ≠ P) : w'.frozen? p = w.frozen? p := World.frozen?_of_block (w := w) (h.block p.block hp hn)
/-- A function that is asked of one field behind the other: what it tells of each, as long as it tells false. -/
def Asks (P : Nat) (I : Option Addr → Nat → Nat → List Tm → Prop) (fs : List (ByteArray × List Tm)) (g : Nat) (cb : Array Value) (J : Nat → World → Prop) (p : Nat → Bool) : Prop :=
  ∀ (i : Nat) (W : World) (h : i < fs.length) (t : Option Addr) (tl tc : Nat), J i W → I t tl tc fs[i].2 → Calls Tryz.prog g (#[.agg #[.string fs[i].1, .slice t tl tc]] ++ cb) W fun e W' => e = .returned (.bool (p i)) ∧ Kp P W W' ∧ (p i = false → J (i + 1) W')
def IndexP (P : Nat) (n : Nat) (J : Nat → World → Prop) (p : Nat → Bool) (w : World) (e : Ending) (w' : World) : Prop :=
  ∃ r : Int, e = .returned (.int .i64 r) ∧ Kp P w w' ∧ ((r = -1 ∧ (∀ i, i < n → p i = false) ∧ J n w') ∨ (0 ≤ r ∧ ∃ i, i < n ∧ p i = true))
set_option maxRecDepth 100000 in
set_option maxHeartbeats 8000000 in
theorem index_any (P : Nat) (I : Option Addr → Nat → Nat → List Tm → Prop) (g : Nat) (cb : Array Value) (eg : ∀ args w, (callFunc g args).run Tryz.prog w = .ok (.enter g args) w) (J : Nat → World → Prop) (p : Nat → Bool)
    (w0 : World) (f : Option Addr) (fl fc : Nat) (fs : List (ByteArray × List Tm)) (hF : InF I w0 f fl fs) (old : ∀ i W, J i W → Below w0.heap.size w0 W) (ask : Asks P I fs g cb J p) (w : World) (hw : J 0 w) :
    Calls Tryz.prog 80 #[.slice f fl fc, .func (.func g) #[] cb] w (IndexP P fl J p w) := by
  obtain ⟨l1, z1, h1⟩ := hF
  have H1 := Lib.hid h1
  subst l1
  have HO := Lib.hid old
  have HA := Lib.hid ask
  have HW := Lib.hid hw
  clear h1 old ask hw
  go_enter Tryz.func80, Tryz.ntmps80
  go_wp2_with fail
  go_loopw [5, 8] (fun _ i wr => ∃ k : Nat, k ≤ fs.length ∧ i = .int .i64 k ∧ Hid (∀ j, j < k → p j = false) ∧ Hid (Kp P w wr) ∧ Hid (J k wr)) (fun _ i _ => fs.length - (intOf i).toNat)
  case atStart => exact ⟨0, Nat.zero_le _, rfl, fun j hj => absurd hj (Nat.not_lt_zero _), Kp.refl _ _, HW⟩
  case round =>
    obtain ⟨k, hk, rfl, hN, hK, hJ⟩ := hrel
    rename World => wr
    by_cases hlt : k < fs.length
    · have hki : (k : Int) < (fs.length : Int) := by omega
      have hk0 : (0 : Int) ≤ (k : Int) := by omega
      obtain ⟨b2, off2, tl2, tc2, t2, rfl, lt2, d0, d1, i2⟩ := H1.out k hlt
      have hb := HO.out k wr hJ.out
      replace d0 := (hb.cell (p := ⟨b2, off2 + k * 2, none⟩) lt2).trans d0
      replace d1 := (hb.cell (p := ⟨b2, off2 + k * 2 + 1, none⟩) lt2).trans d1
      have HC := Lib.hid (HA.out k wr hlt t2 tl2 tc2 hJ.out i2)
      clear i2 lt2 hb
      generalize fs[k].1 = nm at *
      have HP : ∃ q, p k = q := ⟨_, rfl⟩
      obtain ⟨q, hq⟩ := HP
      rw [hq] at HC
      have HQ := Lib.hid hq
      clear hq
      cases q
      · go_wp2_with (go_at_fn g; refine HC.out.mono ?_; rintro e w1 ⟨rfl, hk1, hj1⟩; have HK1 := Lib.hid hk1; have HJ1 := Lib.hid (hj1 rfl); clear hk1 hj1)
        go_roundw
        case rel => exact ⟨k + 1, by omega, by go_num, fun j hj => (by
          by_cases e : j = k
          · subst e; exact HQ.out
          · exact hN.out j (by omega)), hK.out.trans HK1.out, HJ1⟩
        case measure => simp [intOf]; omega
      · go_wp2_with (go_at_fn g; refine HC.out.mono ?_; rintro e w1 ⟨rfl, hk1, hj1⟩; have HK1 := Lib.hid hk1; clear hk1 hj1)
        go_ret
        exact ⟨k, rfl, hK.out.trans HK1.out, .inr ⟨by omega, k, hlt, HQ.out⟩⟩
    · have hkl : k = fs.length := by omega
      subst hkl
      go_wp2_with fail
      go_ret
      exact ⟨-1, rfl, hK.out, .inl ⟨rfl, hN.out, hJ.out⟩⟩
def ContP (P : Nat) (n : Nat) (J : Nat → World → Prop) (p : Nat → Bool) (w : World) (e : Ending) (w' : World) : Prop :=
  ∃ q : Bool, e = .returned (.bool q) ∧ Kp P w w' ∧ (q = false → (∀ i, i < n → p i = false) ∧ J n w') ∧ (q = true → ∃ i, i < n ∧ p i = true)
set_option maxRecDepth 100000 in
set_option maxHeartbeats 8000000 in
theorem contains_any (P : Nat) (I : Option Addr → Nat → Nat → List Tm → Prop) (g : Nat) (cb : Array Value) (eg : ∀ args w, (callFunc g args).run Tryz.prog w = .ok (.enter g args) w) (J : Nat → World → Prop) (p : Nat → Bool)
    (w0 : World) (f : Option Addr) (fl fc : Nat) (fs : List (ByteArray × List Tm)) (hF : InF I w0 f fl fs) (old : ∀ i W, J i W → Below w0.heap.size w0 W) (ask : Asks P I fs g cb J p) (w : World) (hw : J 0 w) :
    Calls Tryz.prog 49 #[.slice f fl fc, .func (.func g) #[] cb] w (ContP P fl J p w) := by
  have HI := Lib.hid (index_any P I g cb eg J p w0 f fl fc fs hF old ask w hw)
  clear eg hF old ask hw
  go_enter Tryz.func49, Tryz.ntmps49
  go_wp2_with (go_at_call 80; refine HI.out.mono ?_; rintro e w1 ⟨r, rfl, hk1, hr⟩; have HK1 := Lib.hid hk1; have HR := Lib.hid hr; clear hk1 hr)
  go_ret
  rcases HR.out with ⟨rfl, h1, h2⟩ | ⟨h1, h2⟩
  · exact ⟨false, rfl, HK1.out, fun _ => ⟨h1, h2⟩, fun e => absurd e (by decide)⟩
  · exact ⟨true, (by rw [decide_eq_true (by omega)]; rfl), HK1.out, fun e => absurd e (by decide), fun _ => h2⟩
end Go.Proofs.YtddleeenlpigfaaGreatDoor
/- WALKS of empty, lacking and the function that it hands back; refuses. -/
namespace Go.Proofs.YtddleeenlpigfaaGreatDoor
open Go.RowKit
theorem enters50 : ∀ args w, (callFunc 50 args).run Tryz.prog w = .ok (.enter 50 args) w := enters_of Tryz.func50 (by kernel_rfl) rfl
theorem enters78 : ∀ args w, (callFunc 78 args).run Tryz.prog w = .ok (.enter 78 args) w := enters_of Tryz.func78 (by kernel_rfl) rfl
theorem enters166 : ∀ args w, (callFunc 166 args).run Tryz.prog w = .ok (.enter 166 args) w := enters_of Tryz.func166 (by kernel_rfl) rfl
theorem enters18 : ∀ args w, (callFunc 18 args).run Tryz.prog w = .ok (.enter 18 args) w := enters_of Tryz.func18 (by kernel_rfl) rfl
theorem enters71 : ∀ args w, (callFunc 71 args).run Tryz.prog w = .ok (.enter 71 args) w := enters_of Tryz.func71 (by kernel_rfl) rfl
set_option maxRecDepth 100000 in
set_option maxHeartbeats 2000000 in
theorem empty_any (nm : ByteArray) (t : Option Addr) (tl tc : Nat) (w : World) : Calls Tryz.prog 50 #[.agg #[.string nm, .slice t tl tc]] w fun e w' => e = .returned (.bool (tl == 0)) ∧ Below w.heap.size w w' := by
  go_enter Tryz.func50, Tryz.ntmps50
  go_wp2_with fail
  go_ret
  exact ⟨Nm.ret_bool (show ((tl : Int) == 0) = (tl == 0) by rw [Bool.eq_iff_iff]; simp), bl_alloc (Below.refl _ _)⟩
set_option maxRecDepth 100000 in
set_option maxHeartbeats 2000000 in
theorem lacking_any (b off : Nat) (w : World) : Calls Tryz.prog 140 #[.pointer (some ⟨b, off, none⟩)] w fun e w' => e = .returned (.func (.func 166) #[] #[.pointer (some ⟨w.heap.size, 0, none⟩)]) ∧ Below w.heap.size w w' ∧ w.heap.size < w'.heap.size ∧ w'.cell? ⟨w.heap.size, 0, none⟩ = some (.pointer (some ⟨b, off, none⟩)) := by
  go_enter Tryz.func140, Tryz.ntmps140
  go_wp2_with fail
  go_ret
  exact ⟨rfl, bl_alloc (Below.refl _ _), by simp, by simp⟩
/-- The function that lacking hands back. -/
def LackP (c : Bool) (w : World) (e : Ending) (w' : World) : Prop := e = .returned (.bool c) ∧ Below w.heap.size w w'
set_option maxRecDepth 100000 in
set_option maxHeartbeats 2000000 in
theorem lacks_one (I : Option Addr → Nat → Nat → List Tm → Prop) (w : World) (b off N : Nat) (x : Tm) (h : InT I w b off x) (hN : N < w.heap.size) (hp : w.cell? ⟨N, 0, none⟩ = some (.pointer (some ⟨b, off, none⟩))) (nm : ByteArray) (t : Option Addr) (tl tc : Nat) :
    Calls Tryz.prog 166 #[.agg #[.string nm, .slice t tl tc], .pointer (some ⟨N, 0, none⟩)] w (LackP (findF x.fs nm).isNone w) := by
  have HF := Lib.hid (fun (W : World) (hW : Below w.heap.size w W) => find_any I W b off x (h.below (fun _ _ _ _ h => h) hW) nm)
  clear h
  generalize findF x.fs nm = r at *
  cases r with
  | none =>
    go_enter Tryz.func166, Tryz.ntmps166
    go_wp2_with (go_at_call 141; refine (HF.out _ (bl_alloc (Below.refl _ _))).mono ?_; rintro e w1 ⟨t1, tl1, tc1, bl, rfl, hB, hr⟩; have HB := Lib.hid hB; obtain rfl := hr.1; clear hB hr)
    go_ret
    exact ⟨rfl, bl_alloc (bl_step (bl_alloc (Below.refl _ _)) HB.out)⟩
  | some V =>
    go_enter Tryz.func166, Tryz.ntmps166
    go_wp2_with (go_at_call 141; refine (HF.out _ (bl_alloc (Below.refl _ _))).mono ?_; rintro e w1 ⟨t1, tl1, tc1, bl, rfl, hB, hr⟩; have HB := Lib.hid hB; obtain rfl := hr.1; clear hB hr)
    go_ret
    exact ⟨rfl, bl_alloc (bl_step (bl_alloc (Below.refl _ _)) HB.out)⟩
theorem lacksF_iff {fs gs : List (ByteArray × List Tm)} {q : Bool} (h0 : q = false → ∀ i, i < gs.length → (findF fs (gs[i]?.getD ⟨⟨#[]⟩, []⟩).1).isNone = false) (h1 : q = true → ∃ i, i < gs.length ∧ (findF fs (gs[i]?.getD ⟨⟨#[]⟩, []⟩).1).isNone = true) : q = lacksF fs gs := by
  unfold lacksF
  cases q
  · symm
    rw [List.any_eq_false]
    intro x hx
    obtain ⟨i, hi, rfl⟩ := List.getElem_of_mem hx
    have := h0 rfl i hi
    rw [List.getElem?_eq_getElem hi, Option.getD_some] at this
    rw [this]; simp
  · symm
    rw [List.any_eq_true]
    obtain ⟨i, hi, h⟩ := h1 rfl
    rw [List.getElem?_eq_getElem hi, Option.getD_some] at h
    exact ⟨_, List.getElem_mem hi, h⟩
theorem Below.of_kp {w w' : World} (h : Kp w.heap.size w w') : Below w.heap.size w w' := ⟨h.os, h.tape, h.output, h.size, fun k hk => h.block k hk (by omega)⟩
/-- ContainsFunc with what lacking hands back: is there a field of gs that x lacks? -/
theorem contains_lacks (I : Option Addr → Nat → Nat → List Tm → Prop) (w : World) (b off N : Nat) (x : Tm) (h : InT I w b off x) (hN : N < w.heap.size) (hp : w.cell? ⟨N, 0, none⟩ = some (.pointer (some ⟨b, off, none⟩)))
    (f : Option Addr) (fl fc : Nat) (gs : List (ByteArray × List Tm)) (hG : InF I w f fl gs) :
    Calls Tryz.prog 49 #[.slice f fl fc, .func (.func 166) #[] #[.pointer (some ⟨N, 0, none⟩)]] w (LackP (lacksF x.fs gs) w) := by
  refine (contains_any w.heap.size I 166 _ enters166 (fun _ W => Below w.heap.size w W) (fun i => (findF x.fs (gs[i]?.getD ⟨⟨#[]⟩, []⟩).1).isNone) w f fl fc gs hG (fun _ _ h => h) (fun i W hi t tl tc hW _ => ?_) w (Below.refl _ _)).mono ?_
  · have e : gs[i]? = some gs[i] := List.getElem?_eq_getElem hi
    simp only [e, Option.getD_some]
    exact (lacks_one I W b off N x (h.below (fun _ _ _ _ h => h) hW) (Nat.lt_of_lt_of_le hN hW.size) ((hW.cell (p := ⟨N, 0, none⟩) hN).trans hp) _ _ _ _).mono fun _ _ ⟨a, b⟩ => ⟨a, Kp.of b, fun _ => bl_step hW b⟩
  · rintro e w1 ⟨q, rfl, hk, h0, h1⟩
    have hl : gs.length = fl := hG.1
    refine ⟨?_, Below.of_kp hk⟩
    rw [lacksF_iff (fs := x.fs) (gs := gs) (q := q) (fun e i hi => (h0 e).1 i (by omega)) (fun e => by obtain ⟨i, hi, h2⟩ := h1 e; exact ⟨i, by omega, h2⟩)]
end Go.Proofs.YtddleeenlpigfaaGreatDoor
/- WALK of refuses. -/
namespace Go.Proofs.YtddleeenlpigfaaGreatDoor
open Go.RowKit
theorem InT.cells {I : Option Addr → Nat → Nat → List Tm → Prop} {w : World} {b off : Nat} {x : Tm} (h : InT I w b off x) :
    b < w.heap.size ∧ ∃ f fl fc, w.cell? ⟨b, off, none⟩ = some (.int .i64 x.k) ∧ w.cell? ⟨b, off + 1, none⟩ = some (.int .i64 x.lo) ∧ w.cell? ⟨b, off + 2, none⟩ = some (.int .i64 x.hi) ∧ w.cell? ⟨b, off + 3, none⟩ = some (.string x.s) ∧ w.cell? ⟨b, off + 4, none⟩ = some (.bool x.y) ∧
      w.cell? ⟨b, off + 5, none⟩ = some (.bool x.m) ∧ w.cell? ⟨b, off + 6, none⟩ = some (.bool x.o) ∧ w.cell? ⟨b, off + 7, none⟩ = some (.slice f fl fc) ∧ InF I w f fl x.fs := by
  obtain ⟨k, lo, hi, s, y, m, o, fs⟩ := x
  exact h
set_option maxRecDepth 100000 in
set_option maxHeartbeats 8000000 in
theorem refuses_any (I : Option Addr → Nat → Nat → List Tm → Prop) (w : World) (b1 off1 b2 off2 : Nat) (x y : Tm) (hx : InT I w b1 off1 x) (hy : InT I w b2 off2 y) :
    Calls Tryz.prog 139 #[.pointer (some ⟨b1, off1, none⟩), .pointer (some ⟨b2, off2, none⟩)] w (LackP (!x.o && lacksF x.fs y.fs) w) := by
  obtain ⟨lt1, f1, fl1, fc1, -, -, -, -, -, -, c6, -, -⟩ := hx.cells
  obtain ⟨lt2, f2, fl2, fc2, -, -, -, -, -, -, -, d7, hF⟩ := hy.cells
  have HL := Lib.hid (fun (W : World) (hW : Below w.heap.size w W) (N : Nat) (hN : N < W.heap.size) (hp : W.cell? ⟨N, 0, none⟩ = some (.pointer (some ⟨b1, off1, none⟩))) =>
    contains_lacks I W b1 off1 N x (hx.below (fun _ _ _ _ h => h) hW) hN hp f2 fl2 fc2 y.fs (hF.below (fun _ _ _ _ h => h) hW))
  clear hx hy hF
  generalize lacksF x.fs y.fs = r at *
  generalize x.o = o1 at *
  cases o1
  · rw [show (!false && r) = r by cases r <;> rfl]
    go_enter Tryz.func139, Tryz.ntmps139
    go_wp2_with fail
    go_region_held3 (fun w' => ∀ b o, b < w.heap.size → w'.cell? ⟨b, o, none⟩ = w.cell? ⟨b, o, none⟩)
      (exact fun b o h => (show Below w.heap.size w _ from by first | exact (Below.refl _ _).drew | exact KW.out).cell (p := ⟨b, o, none⟩) h)
      (first
        | (go_at_call 140; (with_reducible refine (lacking_any _ _ _).mono ?_); rintro e w1 ⟨rfl, hB, hn, hc⟩; have HB := Lib.hid hB; have HN := Lib.hid hn; have HC := Lib.hid hc; have KW := Lib.hid (bl_step ((Below.refl w.heap.size w).drew) hB); clear hB hn hc)
        | (go_at_call 49; refine (HL.out _ KW.out _ HN.out HC.out).mono ?_; rintro e w2 ⟨rfl, hB2⟩; replace KW := Lib.hid (bl_step KW.out hB2); clear hB2))
    go_wp2_with fail
    go_ret
    exact ⟨rfl, KW.out⟩
  · go_enter Tryz.func139, Tryz.ntmps139
    go_wp2_with fail
    go_quiet (fail)
    go_wp2_with fail
    go_ret
    exact ⟨rfl, below_drewN (Below.refl _ _) _⟩
end Go.Proofs.YtddleeenlpigfaaGreatDoor
