/- WALKS of left and Few. -/
import Derived.Test.YtkmbhjcedkojjaaPh
import Derived.Deep.DeepCutAuto
import Derived.Deep.CutBlock
namespace Go.Proofs.Ytkmbhjcedkojjaa
open Go.RowKit
/-- A number, at most so great; nothing that was there has changed. -/
def LeftPost (w : World) (e : Ending) (w' : World) : Prop := ∃ x : Int, -1 ≤ x ∧ x ≤ 200 ∧ e = .returned (.int .i64 x) ∧ Below w.heap.size w w'
/-- The value's box. -/
def Bx (w : World) (N : Nat) (t : Option Addr) (tl tc : Nat) : Prop := N < w.heap.size ∧ w.cell? ⟨N, 0, none⟩ = some (.slice t tl tc)
def B8 (w : World) (N : Nat) (t : Option Addr) (tl tc : Nat) : Prop := N < w.heap.size ∧ w.cell? ⟨N, 7, none⟩ = some (.slice t tl tc)
theorem B8.later {w w' : World} {N : Nat} {t : Option Addr} {tl tc : Nat} (h : B8 w N t tl tc) (hb : Below w.heap.size w w') : B8 w' N t tl tc := ⟨Nat.lt_of_lt_of_le h.1 hb.size, (hb.cell (p := ⟨N, 7, none⟩) h.1).trans h.2⟩
theorem Bx.later {w w' : World} {N : Nat} {t : Option Addr} {tl tc : Nat} (h : Bx w N t tl tc) (hb : Below w.heap.size w w') : Bx w' N t tl tc := ⟨Nat.lt_of_lt_of_le h.1 hb.size, (hb.cell (p := ⟨N, 0, none⟩) h.1).trans h.2⟩
set_option maxRecDepth 100000 in
set_option maxHeartbeats 8000000 in
theorem left_step (n : Nat) (ih : ∀ (W : World) (t : Option Addr) (tl tc : Nat) (A : List Tm) (d m : Int), InV W n t tl tc A → 0 ≤ d → d ≤ 20 → -1 ≤ m → m ≤ 200 → Calls Try.prog 49 #[.agg #[.slice t tl tc], .int .i64 d, .int .i64 m] W (LeftPost W))
    (w : World) (t : Option Addr) (tl tc : Nat) (A : List Tm) (d m : Int) (h : InV w (n + 1) t tl tc A) (hd0 : 0 ≤ d) (hd : d ≤ 20) (hm0 : -1 ≤ m) (hm : m ≤ 200) :
    Calls Try.prog 49 #[.agg #[.slice t tl tc], .int .i64 d, .int .i64 m] w (LeftPost w) := by
  obtain ⟨hl, hz, hA⟩ := h
  subst hl
  have IH := Lib.hid ih
  have HA := Lib.hid hA
  clear ih hA
  by_cases h0 : d = 0
  · subst h0
    go_enter Try.func49, Try.ntmps49
    go_wp2_with fail
    go_ret
    exact ⟨-1, by omega, by omega, rfl, bl_alloc (Below.refl _ _)⟩
  · have hd1 : 1 ≤ d := by omega
    have hdb : (d == 0) = false := by simpa using h0
    clear h0
    by_cases hlong : m < (A.length : Int)
    · go_enter Try.func49, Try.ntmps49
      go_wp2_with fail
      go_ret
      exact ⟨-1, by omega, by omega, rfl, bl_alloc (Below.refl _ _)⟩
    · have hle : (A.length : Int) ≤ m := by omega
      go_enter Try.func49, Try.ntmps49
      go_wp2_with fail
      go_loopw [2, 7] (fun nn i wr => ∃ (k : Nat) (x : Int), k ≤ A.length ∧ i = .int .i64 k ∧ nn = .int .i64 x ∧ -1 ≤ x ∧ x ≤ 200 ∧ Bx wr w.heap.size t A.length tc ∧ Hid (Below w.heap.size w wr)) (fun _ i _ => A.length - (intOf i).toNat)
      case atStart => exact ⟨0, m, Nat.zero_le _, rfl, rfl, hm0, hm, ⟨by simp, by simp⟩, bl_alloc (Below.refl _ _)⟩
      case round =>
        obtain ⟨k, x, hk, rfl, rfl, hx0, hx, hBx, hB⟩ := hrel
        rename World => wr
        have bx := hBx.2
        have bz := hBx.1
        have HBX := Lib.hid hBx
        clear hBx
        by_cases hlt : k < A.length
        · by_cases hx1 : 0 ≤ x
          · have hki : (k : Int) < (A.length : Int) := by omega
            have hk0 : (0 : Int) ≤ (k : Int) := by omega
            obtain ⟨b1, off1, rfl, i1⟩ := HA.out k hlt
            generalize hgx : A[k] = x9 at i1
            clear hgx
            obtain ⟨k5, lo5, hi5, s5, y5, m5, o5, g5⟩ := x9
            obtain ⟨lt1, f5, fl5, fc5, c0, c1, c2, c3, c4, c5, c6, c7, j1⟩ := i1
            have e : ∀ i, wr.cell? ⟨b1, i, none⟩ = w.cell? ⟨b1, i, none⟩ := fun i => hB.out.cell (p := ⟨b1, i, none⟩) lt1
            replace c0 := (e _).trans c0
            replace c1 := (e _).trans c1
            replace c2 := (e _).trans c2
            replace c3 := (e _).trans c3
            replace c4 := (e _).trans c4
            replace c5 := (e _).trans c5
            replace c6 := (e _).trans c6
            replace c7 := (e _).trans c7
            have lt1' : b1 < wr.heap.size := Nat.lt_of_lt_of_le lt1 hB.out.size
            have J1 := Lib.hid j1
            clear e lt1 j1
            go_upto_region 11 with fail
            · go_ret
              exact ⟨-1, by omega, by omega, rfl, bl_alloc hB.out⟩
            · have hy0 : -1 ≤ x - 1 := by omega
              have hy1 : x - 1 ≤ 200 := by omega
              have HWR := Lib.hid hB
              obtain ⟨l5, z5, j5⟩ := J1.out
              have J5 := Lib.hid j5
              have L5 := Lib.hid l5
              clear l5 j5 J1
              go_loopw [2, 9] (fun nn i wi => ∃ (j : Nat) (u : Int), j ≤ fl5 ∧ i = .int .i64 j ∧ nn = .int .i64 u ∧ -1 ≤ u ∧ u ≤ 200 ∧ Bx wi w.heap.size (some ⟨b1, off1, none⟩) A.length tc ∧ B8 wi wr.heap.size f5 fl5 fc5 ∧ Hid (Below w.heap.size w wi)) (fun _ i _ => fl5 - (intOf i).toNat)
              case atStart => exact ⟨0, x - 1, Nat.zero_le _, rfl, rfl, hy0, hy1, HBX.out.later (bl_alloc (Below.refl _ _)), ⟨by simp, by simp⟩, bl_alloc hB.out⟩
              case round =>
                obtain ⟨j, u, hj, rfl, rfl, hu0, hu, hBx, hB8, hBi⟩ := hrel
                rename World => wi
                have bxi := hBx.2
                have bzi := hBx.1
                have b8 := hB8.2
                have bz8 := hB8.1
                have HBXi := Lib.hid hBx
                have HB8i := Lib.hid hB8
                clear hBx hB8 bx bz c0 c1 c2 c3 c4 c5 c6 c7
                by_cases hjl : j < fl5
                · by_cases hun : 0 ≤ u
                  · have hji : (j : Int) < (fl5 : Int) := by omega
                    have hj0 : (0 : Int) ≤ (j : Int) := by omega
                    have hjs : j < g5.length := by rw [L5.out]; exact hjl
                    obtain ⟨b2, off2, tl2, tc2, t2, rfl, lt2, d0, d1, i2⟩ := J5.out j hjs
                    replace d0 := (hBi.out.cell (p := ⟨b2, off2 + j * 2, none⟩) lt2).trans d0
                    replace d1 := (hBi.out.cell (p := ⟨b2, off2 + j * 2 + 1, none⟩) lt2).trans d1
                    have lt2' : b2 < wi.heap.size := Nat.lt_of_lt_of_le lt2 hBi.out.size
                    generalize hnm : (g5[j]).1 = nm at *
                    generalize hvv : (g5[j]).2 = vv at *
                    clear hnm hvv
                    have IC := Lib.hid (fun (W : World) (hW : Below w.heap.size w W) => IH.out W t2 tl2 tc2 vv (d - 1) u (InV.below hW i2) (by omega) (by omega) hu0 hu)
                    have HWI := Lib.hid hBi.out
                    clear lt2 i2
                    go_wp2_with (go_at_call 49; refine (IC.out _ HWI.out).mono ?_; rintro e w2 ⟨v, hv0, hv, rfl, hB2⟩; have HB2 := Lib.hid hB2; clear hB2)
                    · go_ret
                      exact ⟨-1, by omega, by omega, rfl, HWI.out⟩
                    · go_roundw
                      case rel => exact ⟨j + 1, v, by omega, by go_num, rfl, hv0, hv, HBXi.out.later HB2.out, HB8i.out.later HB2.out, bl_step HWI.out HB2.out⟩
                      case measure => simp [intOf]; omega
                  · have hxn : ¬ 0 ≤ u := hun
                    go_wp2_with fail
                    go_roundw
                    case rel => exact ⟨k + 1, u, by omega, by go_num, rfl, hu0, hu, HBXi.out, hBi⟩
                    case measure => simp [intOf]; omega
                · go_wp2_with fail
                  go_roundw
                  case rel => exact ⟨k + 1, u, by omega, by go_num, rfl, hu0, hu, HBXi.out, hBi⟩
                  case measure => simp [intOf]; omega
            · go_ret
              exact ⟨-1, by omega, by omega, rfl, bl_alloc hB.out⟩
          · have hxn : ¬ 0 ≤ x := hx1
            go_wp2_with fail
            go_ret
            exact ⟨x, hx0, hx, rfl, hB.out⟩
        · go_wp2_with fail
          go_ret
          exact ⟨x, hx0, hx, rfl, hB.out⟩
theorem left_any : ∀ (n : Nat) (W : World) (t : Option Addr) (tl tc : Nat) (A : List Tm) (d m : Int), InV W n t tl tc A → 0 ≤ d → d ≤ 20 → -1 ≤ m → m ≤ 200 → Calls Try.prog 49 #[.agg #[.slice t tl tc], .int .i64 d, .int .i64 m] W (LeftPost W)
  | 0, _, _, _, _, _, _, _, h, _, _, _, _ => h.elim
  | n + 1, W, t, tl, tc, A, d, m, h, h1, h2, h3, h4 => left_step n (left_any n) W t tl tc A d m h h1 h2 h3 h4
/-- Few answers something. -/
def FewPost (w : World) (e : Ending) (w' : World) : Prop := ∃ b : Bool, e = .returned (.bool b) ∧ Below w.heap.size w w'
set_option maxHeartbeats 400000 in
theorem few_any (n : Nat) (w : World) (t : Option Addr) (tl tc : Nat) (A : List Tm) (h : InV w n t tl tc A) : Calls Try.prog 29 #[.agg #[.slice t tl tc]] w (FewPost w) := by
  have HL := fun W (hW : Below w.heap.size w W) => Lib.hid (left_any n W t tl tc A 20 200 (InV.below hW h) (by omega) (by omega) (by omega) (by omega))
  have HB : Hid (Below w.heap.size w w) := Below.refl _ _
  clear h
  go_enter Try.func29, Try.ntmps29
  go_wp2_with (go_at_call 49; refine (HL _ (bl_alloc HB.out)).out.mono ?_; rintro e w2 ⟨v, hv0, hv, rfl, hB2⟩; have HB2 := Lib.hid hB2; clear hB2)
  go_ret
  exact ⟨_, rfl, bl_step (bl_alloc HB.out) HB2.out⟩

end Go.Proofs.Ytkmbhjcedkojjaa
