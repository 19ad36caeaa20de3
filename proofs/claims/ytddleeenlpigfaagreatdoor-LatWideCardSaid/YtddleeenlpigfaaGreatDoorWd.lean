/- WALK of LatWide. -/
import Derived.Test.YtddleeenlpigfaaGreatDoorWc
import Derived.Test.YtddleeenlpigfaaGreatDoorTm
import Derived.OrdersHeld
import Derived.IntWalk
import Derived.Deep.QuietTactic
import Derived.BigQuiet
namespace Go.Proofs.YtddleeenlpigfaaGreatDoor.Lw
open Go.RowKit
theorem iv_zero (s d : Nat) : iv s d 0 = [] := rfl
set_option maxRecDepth 100000 in
set_option maxHeartbeats 16000000 in
theorem wide_walk (w : World) (a b : Nat) (lo hi : Int) (_ha : a ≤ 65535) (_hb : b ≤ 65535) (hE : Nm.Env w) : Calls Tryz.prog 6 #[.agg #[.int .u16 (a : Int), .int .u16 (b : Int)], .int .i64 lo, .int .i64 hi] w (LackP true w) := by
 have HE := Lib.hid hE
 obtain ⟨n, hn⟩ : ∃ n, a % 600 = n := ⟨_, rfl⟩
 obtain ⟨m, hm⟩ : ∃ m, b % 60 = m := ⟨_, rfl⟩
 have HN := Lib.hid (show Int.tmod (a : Int) 600 = (n : Int) by rw [← hn]; rfl)
 have HM := Lib.hid (show Int.tmod (b : Int) 60 = (m : Int) by rw [← hm]; rfl)
 have hn6 : n < 600 := by omega
 have hm6 : m < 60 := by omega
 clear hE hn hm
 go_enter Tryz.func6, Tryz.ntmps6
 go_upto_region 1 with fail
 have t1 := HN.out
 have t2 := HM.out
 have q1 : IntKind.u16.wrap (n : Int) = (n : Int) := IntWalk.u16_in _ (by omega)
 have q2 : IntKind.u16.wrap (m : Int) = (m : Int) := IntWalk.u16_in _ (by omega)
 have q3 : IntKind.i64.wrap (n : Int) = (n : Int) := IntWalk.i64_in _ (by omega)
 have q4 : IntKind.i64.wrap (m : Int) = (m : Int) := IntWalk.i64_in _ (by omega)
 go_quiet (fail)
 clear t1 t2 q1 q2 q3 q4 HN HM
 obtain ⟨w1, hw1⟩ : ∃ w1, (w.alloc (Obj.cells #[Value.int IntKind.u16 ↑a, Value.int IntKind.u16 ↑b] 44)).drewN nq = w1 := ⟨_, rfl⟩
 have hb1 : Below w.heap.size w w1 := by rw [← hw1]; exact below_drewN (bl_alloc (Below.refl _ _)) _
 rw [hw1]
 have HB1 := Lib.hid hb1
 clear hw1 hb1
 obtain ⟨i0, hi0, hz0, hz1, hz2⟩ := info_parts info24
 have HI := Lib.hid (And.intro hi0 (And.intro hz0 (And.intro hz1 hz2)))
 clear hi0 hz0 hz1 hz2
 have HR0 : Hid (Rwl w1 (iv 3 1 0) 0 (.slice none 0 0) w1) := Rwl.first w1
 go_wp2_with fail
 go_loopw [9, 11] (fun v i wr => ∃ k : Nat, k ≤ n ∧ i = .int .i64 k ∧ Hid (Rwl w1 (iv 3 1 k) k v wr)) (fun _ i _ => n - (intOf i).toNat)
 case atStart => exact ⟨0, Nat.zero_le _, rfl, HR0⟩
 case round =>
  clear HR0
  obtain ⟨k, hk, rfl, hR⟩ := hrel
  rename World => wr
  by_cases hlt : k < n
  ·have hki : (k : Int) < (n : Int) := by omega
   have hr := hR.out
   obtain ⟨hi0, hz0, hz1, hz2⟩ := HI.out
   have hnew := fun (o : Obj) => w_new' wr o
   obtain ⟨v', W', hrun, hown, hgr, -, hat⟩ := run_append_own_at (P := Tryz.prog) (w := wr.alloc (.cells #[.int .i64 2, .int .i64 (3 * (k : Int)), .int .i64 (3 * (k : Int) + 1), .string ⟨#[]⟩, .bool false, .bool false, .bool false, .slice none 0 0] 31)) w1.heap.size 22 22 31 i0 _ 8 72 Tryz.underlying22 hi0 hz0 hz1 hz2 rfl (by decide) u9 k _ (hr.1.alloc _) ⟨wr.heap.size, 0, none⟩ 1 1 (tc1 (rg1 (3 * (k : Int)) (3 * (k : Int) + 1))) rfl (by intro j u hu; rw [show (⟨wr.heap.size, 0, none⟩ : Addr).add j = ⟨wr.heap.size, j, none⟩ by unfold Addr.add; split <;> simp_all]; exact cell_new (hnew _) hu) (by intro u hu; simp [tc1] at hu; rcases hu with rfl | rfl | rfl | rfl | rfl | rfl | rfl | rfl <;> rfl) (by unfold maxLen; omega) (by omega) (by have := hr.2.size; simp; omega)
   rw [← cl_snoc, ← iv3 k] at hown
   have hbb : Below w1.heap.size w1 W' := (hr.2.alloc hr.2.size _).grown hgr (by have := hr.2.size; simp; omega) (fun r e => (hr.1.lt r e).1)
   have HRUN := Lib.hid hrun
   have HN1 : Hid (Rwl w1 (iv 3 1 (k + 1)) (k + 1) v' W') := ⟨hown, hbb⟩
   clear hr hR hi0 hz0 hz1 hz2 hnew hrun hown hgr hat hbb
   go_wp2_with (at_builtin; refine Lib.wpList_append_run _ rfl _ _ _ _ rfl _ _ rfl rfl _ _ HRUN.out ?_)
   clear HRUN
   go_roundw
   case rel => exact ⟨k + 1, by omega, by go_num, HN1⟩
   case measure => simp [intOf]; omega
  ·obtain rfl : n = k := by omega
   clear hlt hk
   obtain ⟨t1, c1, rfl, hI1⟩ := row_inV hR.out.1 (iv_len _ _ _) iv_fs (by omega)
   have HI1 := Lib.hid hI1
   have HB2 := Lib.hid (bl_step HB1.out hR.out.2)
   have HR0 : Hid (Rwl wr (iv 5 3 0) 0 (.slice none 0 0) wr) := Rwl.first wr
   clear hI1 hR HB1
   obtain ⟨w2, hw2⟩ : ∃ x, x = wr := ⟨_, rfl⟩
   subst hw2
   go_wp2_with fail
   go_loopw [10, 12] (fun v i wr => ∃ k : Nat, k ≤ m ∧ i = .int .i64 k ∧ Hid (Rwl w2 (iv 5 3 k) k v wr)) (fun _ i _ => m - (intOf i).toNat)
   case atStart => exact ⟨0, Nat.zero_le _, rfl, HR0⟩
   case round =>
    clear HR0
    obtain ⟨k, hk, rfl, hR⟩ := hrel
    rename World => wr
    by_cases hlt : k < m
    ·have hki : (k : Int) < (m : Int) := by omega
     have hr := hR.out
     obtain ⟨hi0, hz0, hz1, hz2⟩ := HI.out
     have hnew := fun (o : Obj) => w_new' wr o
     obtain ⟨v', W', hrun, hown, hgr, -, hat⟩ := run_append_own_at (P := Tryz.prog) (w := wr.alloc (.cells #[.int .i64 2, .int .i64 (5 * (k : Int)), .int .i64 (5 * (k : Int) + 3), .string ⟨#[]⟩, .bool false, .bool false, .bool false, .slice none 0 0] 31)) w2.heap.size 22 22 31 i0 _ 8 72 Tryz.underlying22 hi0 hz0 hz1 hz2 rfl (by decide) u10 k _ (hr.1.alloc _) ⟨wr.heap.size, 0, none⟩ 1 1 (tc1 (rg1 (5 * (k : Int)) (5 * (k : Int) + 3))) rfl (by intro j u hu; rw [show (⟨wr.heap.size, 0, none⟩ : Addr).add j = ⟨wr.heap.size, j, none⟩ by unfold Addr.add; split <;> simp_all]; exact cell_new (hnew _) hu) (by intro u hu; simp [tc1] at hu; rcases hu with rfl | rfl | rfl | rfl | rfl | rfl | rfl | rfl <;> rfl) (by unfold maxLen; omega) (by omega) (by have := hr.2.size; simp; omega)
     rw [← cl_snoc, ← iv5 k] at hown
     have hbb : Below w2.heap.size w2 W' := (hr.2.alloc hr.2.size _).grown hgr (by have := hr.2.size; simp; omega) (fun r e => (hr.1.lt r e).1)
     have HRUN := Lib.hid hrun
     have HN1 : Hid (Rwl w2 (iv 5 3 (k + 1)) (k + 1) v' W') := ⟨hown, hbb⟩
     clear hr hR hi0 hz0 hz1 hz2 hnew hrun hown hgr hat hbb
     go_wp2_with (at_builtin; refine Lib.wpList_append_run _ rfl _ _ _ _ rfl _ _ rfl rfl _ _ HRUN.out ?_)
     clear HRUN
     go_roundw
     case rel => exact ⟨k + 1, by omega, by go_num, HN1⟩
     case measure => simp [intOf]; omega
    ·obtain rfl : m = k := by omega
     clear hlt hk
     obtain ⟨t2, c2, rfl, hI2⟩ := row_inV hR.out.1 (iv_len _ _ _) iv_fs (by omega)
     have HI2 := Lib.hid hI2
     have HI1' := Lib.hid (InV.below hR.out.2 HI1.out)
     have HB3 := Lib.hid (bl_step HB2.out hR.out.2)
     clear hI2 hR HB2 HI1 HI
     obtain ⟨w3, hw3⟩ : ∃ x, x = wr := ⟨_, rfl⟩
     subst hw3
     have hle6 : n ≤ 599 := by omega
     have iA := Lib.hid (fun (W : World) (hW : Below w3.heap.size w3 W) => (show Vin W 1 t1 n c1 (iv 3 1 n) from ⟨InV.below hW HI1'.out, iv_nm, HE.out.below (bl_step HB3.out hW)⟩))
     have iB := Lib.hid (fun (W : World) (hW : Below w3.heap.size w3 W) => (show Vin W 1 t2 m c2 (iv 5 3 m) from ⟨InV.below hW HI2.out, iv_nm, HE.out.below (bl_step HB3.out hW)⟩))
     have OA := Lib.hid (of_any 0 w3 t1 n c1 (iv 3 1 n) (iA.out w3 (Below.refl _ _)))
     have OB : Hid (∀ W, Below w3.heap.size w3 W → Calls Tryz.prog 21 #[.slice t2 m c2] W (LmP 1 (0, iv 5 3 m) W)) := fun W hW => by
      have := of_any 0 W t2 m c2 (iv 5 3 m) (iB.out W hW)
      rw [ofV_iv (by omega) (by omega) (by omega)] at this
      exact this
     have AW := Lib.hid (fun (W : World) (hW : Below w3.heap.size w3 W) => awake_in W (HE.out.below (bl_step HB3.out hW)))
     clear HI1' HI2
     by_cases h512 : 512 < n
     ·have hn5 : (512 : Int) < (n : Int) := by omega
      rw [ofV_long h512] at OA
      go_wp2_with fail
      go_at_call 21; refine OA.out.mono ?_; rintro e w4 ⟨t4, tl4, tc4, rfl, hB4, hI4⟩
      obtain rfl : 0 = tl4 := hI4.1
      obtain ⟨W4, hW4⟩ : ∃ W, w4.alloc (.cells #[.slice t4 0 tc4] 24) = W := ⟨_, rfl⟩
      have hb4 : Below w3.heap.size w3 W4 := by rw [← hW4]; exact bl_alloc hB4
      have hx4 : W4.heap[w4.heap.size]? = some (.cells #[.slice t4 0 tc4] 24) := by rw [← hW4]; exact w_new' w4 _
      have HB4 := Lib.hid hb4
      have HX4 := Lib.hid hx4
      have HW := Lib.hid hW4
      clear hW4 hB4 hI4 hb4 hx4 OA
      go_upto_region 12 with fail
      rw [HW.out]
      obtain ⟨g4, hg⟩ : ∃ g, w4.heap.size = g := ⟨_, rfl⟩
      rw [hg] at HX4 ⊢
      clear HW hg
      go_wp2_with fail
      go_at_call 21; refine (OB.out _ HB4.out).mono ?_; rintro e w5 ⟨t5, tl5, tc5, rfl, hB5, hI5⟩
      have HB5 := Lib.hid (bl_step HB4.out (bl_alloc hB5 (o := .cells #[.slice t5 tl5 tc5] 24)))
      have hx5 := ((bl_alloc hB5 (o := .cells #[.slice t5 tl5 tc5] 24)).block _ (Array.getElem?_eq_some_iff.1 HX4.out).1).trans HX4.out
      obtain ⟨W5, hW5⟩ : ∃ W, w5.alloc (.cells #[.slice t5 tl5 tc5] 24) = W := ⟨_, rfl⟩
      rw [hW5] at HB5 hx5
      have HX5 := Lib.hid hx5
      have HW := Lib.hid hW5
      clear hB5 hI5 hx5 hW5
      go_upto_region 14 with fail
      rw [HW.out]
      clear HW
      go_wp2_with (go_at_call 13; refine (AW.out _ HB5.out).mono ?_; rintro e w6 ⟨rfl, hB6⟩; have HB6 := Lib.hid (bl_step HB5.out hB6); have hx6 := (hB6.block _ (Array.getElem?_eq_some_iff.1 HX5.out).1).trans HX5.out; have hc6 : w6.cell? ⟨g4, 0, none⟩ = some (.slice t4 0 tc4) := (by simp [World.cell?, hx6]); clear hB6 hx6)
      go_ret
      exact ⟨rfl, bl_step HB3.out HB6.out⟩
     ·have hn5 : (n : Int) ≤ 512 := by omega
      have hn5' : ¬ (512 : Int) < (n : Int) := by omega
      rw [ofV_iv (by omega) (by omega) (by omega)] at OA
      obtain ⟨⟨e1, M1⟩, hr1⟩ : ∃ r, meetR 1 (iv 3 1 n) (iv 5 3 m) = r := ⟨_, rfl⟩
      obtain ⟨⟨e2, M2⟩, hr2⟩ : ∃ r, joinR 1 (iv 3 1 n) (iv 5 3 m) = r := ⟨_, rfl⟩
      have hw1 := meetR_wide (n := n) (m := m) (by omega) (by omega)
      rw [hr1] at hw1
      dsimp only at hw1
      have HW1 := Lib.hid hw1
      have HR1 := Lib.hid hr1
      have HR2 := Lib.hid hr2
      clear hw1 hr1 hr2
      go_wp2_with fail
      go_at_call 21; refine OA.out.mono ?_; rintro e w4 ⟨t4, tl4, tc4, rfl, hB, hI⟩
      have HI4 := Lib.hid hI
      obtain ⟨W4, hW⟩ : ∃ W, w4.alloc (.cells #[.slice t4 tl4 tc4] 24) = W := ⟨_, rfl⟩
      have hy : Below w4.heap.size w4 W4 := by rw [← hW]; exact bl_alloc (Below.refl _ _)
      have hz : Below w3.heap.size w3 W4 := bl_step hB hy
      have HB4 := Lib.hid (bl_step (Below.refl _ _) hz)
      have hx : W4.heap[w4.heap.size]? = some (.cells #[.slice t4 tl4 tc4] 24) := by rw [← hW]; exact w_new' w4 _
      have HX4_4 := Lib.hid hx
      have HY4_4 := Lib.hid hy
      have HW := Lib.hid hW
      clear hB hI hx hy hz hW
      go_upto_region 12 with fail
      rw [HW.out]
      obtain ⟨g4, hg⟩ : ∃ g, w4.heap.size = g := ⟨_, rfl⟩
      rw [hg] at HX4_4 ⊢
      clear HW hg
      go_wp2_with fail
      go_at_call 21; refine (OB.out _ HB4.out).mono ?_; rintro e w5 ⟨t5, tl5, tc5, rfl, hB, hI⟩
      have HI5 := Lib.hid hI
      obtain ⟨W5, hW⟩ : ∃ W, w5.alloc (.cells #[.slice t5 tl5 tc5] 24) = W := ⟨_, rfl⟩
      have hy : Below w5.heap.size w5 W5 := by rw [← hW]; exact bl_alloc (Below.refl _ _)
      have hz : Below W4.heap.size W4 W5 := bl_step hB hy
      have HB5 := Lib.hid (bl_step HB4.out hz)
      have HX4_5 := Lib.hid ((hz.block _ (Array.getElem?_eq_some_iff.1 HX4_4.out).1).trans HX4_4.out)
      have HY4_5 := Lib.hid (bl_step HY4_4.out hz)
      have hx : W5.heap[w5.heap.size]? = some (.cells #[.slice t5 tl5 tc5] 24) := by rw [← hW]; exact w_new' w5 _
      have HX5_5 := Lib.hid hx
      have HY5_5 := Lib.hid hy
      have HW := Lib.hid hW
      clear hB hI hx hy hz hW
      go_upto_region 13 with fail
      rw [HW.out]
      obtain ⟨g5, hg⟩ : ∃ g, w5.heap.size = g := ⟨_, rfl⟩
      rw [hg] at HX5_5 ⊢
      clear HW hg
      have c4 : W5.cell? ⟨g4, 0, none⟩ = some (.slice t4 tl4 tc4) := by have := HX4_5.out; simp [World.cell?, this]
      have c5 : W5.cell? ⟨g5, 0, none⟩ = some (.slice t5 tl5 tc5) := by have := HX5_5.out; simp [World.cell?, this]
      go_wp2_with fail
      have HC6 := Lib.hid (lmeet_in 1 W5 t4 tl4 tc4 (iv 3 1 n) t5 tl5 tc5 (iv 5 3 m) ⟨(InV.below HY4_5.out HI4.out), iv_nm, HE.out.below (bl_step HB3.out HB5.out)⟩ ⟨(InV.below HY5_5.out HI5.out), iv_nm, HE.out.below (bl_step HB3.out HB5.out)⟩)
      rw [HR1.out] at HC6
      go_at_call 26; refine HC6.out.mono ?_; rintro e w6 ⟨t6, tl6, tc6, rfl, hB, hI⟩
      have HI6 := Lib.hid hI
      obtain ⟨W6, hW⟩ : ∃ W, w6.alloc (.cells #[.slice t6 tl6 tc6] 24) = W := ⟨_, rfl⟩
      have hy : Below w6.heap.size w6 W6 := by rw [← hW]; exact bl_alloc (Below.refl _ _)
      have hz : Below W5.heap.size W5 W6 := bl_step hB hy
      have HB6 := Lib.hid (bl_step HB5.out hz)
      have HX4_6 := Lib.hid ((hz.block _ (Array.getElem?_eq_some_iff.1 HX4_5.out).1).trans HX4_5.out)
      have HY4_6 := Lib.hid (bl_step HY4_5.out hz)
      have HX5_6 := Lib.hid ((hz.block _ (Array.getElem?_eq_some_iff.1 HX5_5.out).1).trans HX5_5.out)
      have HY5_6 := Lib.hid (bl_step HY5_5.out hz)
      have hx : W6.heap[w6.heap.size]? = some (.cells #[.slice t6 tl6 tc6] 24) := by rw [← hW]; exact w_new' w6 _
      have HX6_6 := Lib.hid hx
      have HY6_6 := Lib.hid hy
      have HW := Lib.hid hW
      clear hB hI hx hy hz hW c4 c5 HC6
      go_upto_region 16 with fail
      rw [HW.out]
      obtain ⟨g6, hg⟩ : ∃ g, w6.heap.size = g := ⟨_, rfl⟩
      rw [hg] at HX6_6 ⊢
      clear HW hg
      go_wp2_with fail
      have HC7 := Lib.hid (rmeet9_in 1 W6 t1 n c1 (iv 3 1 n) t2 m c2 (iv 5 3 m) (iA.out _ HB6.out) (iv_ln (by omega)) (iB.out _ HB6.out) (iv_ln (by omega)))
      rw [HR1.out] at HC7
      go_at_call 27; refine HC7.out.mono ?_; rintro e w7 ⟨t7, tl7, tc7, rfl, hB, hI⟩
      have HI7 := Lib.hid hI
      obtain ⟨W7, hW⟩ : ∃ W, w7.alloc (.cells #[.slice t7 tl7 tc7] 24) = W := ⟨_, rfl⟩
      have hy : Below w7.heap.size w7 W7 := by rw [← hW]; exact bl_alloc (Below.refl _ _)
      have hz : Below W6.heap.size W6 W7 := bl_step hB hy
      have HB7 := Lib.hid (bl_step HB6.out hz)
      have HX4_7 := Lib.hid ((hz.block _ (Array.getElem?_eq_some_iff.1 HX4_6.out).1).trans HX4_6.out)
      have HY4_7 := Lib.hid (bl_step HY4_6.out hz)
      have HX5_7 := Lib.hid ((hz.block _ (Array.getElem?_eq_some_iff.1 HX5_6.out).1).trans HX5_6.out)
      have HY5_7 := Lib.hid (bl_step HY5_6.out hz)
      have HX6_7 := Lib.hid ((hz.block _ (Array.getElem?_eq_some_iff.1 HX6_6.out).1).trans HX6_6.out)
      have HY6_7 := Lib.hid (bl_step HY6_6.out hz)
      have hx : W7.heap[w7.heap.size]? = some (.cells #[.slice t7 tl7 tc7] 24) := by rw [← hW]; exact w_new' w7 _
      have HX7_7 := Lib.hid hx
      have HY7_7 := Lib.hid hy
      have HW := Lib.hid hW
      clear hB hI hx hy hz hW HC7
      go_upto_region 17 with fail
      rw [HW.out]
      obtain ⟨g7, hg⟩ : ∃ g, w7.heap.size = g := ⟨_, rfl⟩
      rw [hg] at HX7_7 ⊢
      clear HW hg
      have c4 : W7.cell? ⟨g4, 0, none⟩ = some (.slice t4 tl4 tc4) := by have := HX4_7.out; simp [World.cell?, this]
      have c5 : W7.cell? ⟨g5, 0, none⟩ = some (.slice t5 tl5 tc5) := by have := HX5_7.out; simp [World.cell?, this]
      go_wp2_with fail
      have HC8 := Lib.hid (ljoin_in 1 W7 t4 tl4 tc4 (iv 3 1 n) t5 tl5 tc5 (iv 5 3 m) ⟨(InV.below HY4_7.out HI4.out), iv_nm, HE.out.below (bl_step HB3.out HB7.out)⟩ ⟨(InV.below HY5_7.out HI5.out), iv_nm, HE.out.below (bl_step HB3.out HB7.out)⟩)
      rw [HR2.out] at HC8
      go_at_call 28; refine HC8.out.mono ?_; rintro e w8 ⟨t8, tl8, tc8, rfl, hB, hI⟩
      have HI8 := Lib.hid hI
      obtain ⟨W8, hW⟩ : ∃ W, w8.alloc (.cells #[.slice t8 tl8 tc8] 24) = W := ⟨_, rfl⟩
      have hy : Below w8.heap.size w8 W8 := by rw [← hW]; exact bl_alloc (Below.refl _ _)
      have hz : Below W7.heap.size W7 W8 := bl_step hB hy
      have HB8 := Lib.hid (bl_step HB7.out hz)
      have HX4_8 := Lib.hid ((hz.block _ (Array.getElem?_eq_some_iff.1 HX4_7.out).1).trans HX4_7.out)
      have HY4_8 := Lib.hid (bl_step HY4_7.out hz)
      have HX5_8 := Lib.hid ((hz.block _ (Array.getElem?_eq_some_iff.1 HX5_7.out).1).trans HX5_7.out)
      have HY5_8 := Lib.hid (bl_step HY5_7.out hz)
      have HX6_8 := Lib.hid ((hz.block _ (Array.getElem?_eq_some_iff.1 HX6_7.out).1).trans HX6_7.out)
      have HY6_8 := Lib.hid (bl_step HY6_7.out hz)
      have HX7_8 := Lib.hid ((hz.block _ (Array.getElem?_eq_some_iff.1 HX7_7.out).1).trans HX7_7.out)
      have HY7_8 := Lib.hid (bl_step HY7_7.out hz)
      have hx : W8.heap[w8.heap.size]? = some (.cells #[.slice t8 tl8 tc8] 24) := by rw [← hW]; exact w_new' w8 _
      have HX8_8 := Lib.hid hx
      have HY8_8 := Lib.hid hy
      have HW := Lib.hid hW
      clear hB hI hx hy hz hW c4 c5 HC8
      go_upto_region 18 with fail
      rw [HW.out]
      obtain ⟨g8, hg⟩ : ∃ g, w8.heap.size = g := ⟨_, rfl⟩
      rw [hg] at HX8_8 ⊢
      clear HW hg
      go_wp2_with fail
      have HC9 := Lib.hid (rjoin9_in 1 W8 t1 n c1 (iv 3 1 n) t2 m c2 (iv 5 3 m) (iA.out _ HB8.out) (iv_ln (by omega)) (iB.out _ HB8.out) (iv_ln (by omega)))
      rw [HR2.out] at HC9
      go_at_call 29; refine HC9.out.mono ?_; rintro e w9 ⟨t9, tl9, tc9, rfl, hB, hI⟩
      have HI9 := Lib.hid hI
      obtain ⟨W9, hW⟩ : ∃ W, w9.alloc (.cells #[.slice t9 tl9 tc9] 24) = W := ⟨_, rfl⟩
      have hy : Below w9.heap.size w9 W9 := by rw [← hW]; exact bl_alloc (Below.refl _ _)
      have hz : Below W8.heap.size W8 W9 := bl_step hB hy
      have HB9 := Lib.hid (bl_step HB8.out hz)
      have HX4_9 := Lib.hid ((hz.block _ (Array.getElem?_eq_some_iff.1 HX4_8.out).1).trans HX4_8.out)
      have HY4_9 := Lib.hid (bl_step HY4_8.out hz)
      have HX5_9 := Lib.hid ((hz.block _ (Array.getElem?_eq_some_iff.1 HX5_8.out).1).trans HX5_8.out)
      have HY5_9 := Lib.hid (bl_step HY5_8.out hz)
      have HX6_9 := Lib.hid ((hz.block _ (Array.getElem?_eq_some_iff.1 HX6_8.out).1).trans HX6_8.out)
      have HY6_9 := Lib.hid (bl_step HY6_8.out hz)
      have HX7_9 := Lib.hid ((hz.block _ (Array.getElem?_eq_some_iff.1 HX7_8.out).1).trans HX7_8.out)
      have HY7_9 := Lib.hid (bl_step HY7_8.out hz)
      have HX8_9 := Lib.hid ((hz.block _ (Array.getElem?_eq_some_iff.1 HX8_8.out).1).trans HX8_8.out)
      have HY8_9 := Lib.hid (bl_step HY8_8.out hz)
      have hx : W9.heap[w9.heap.size]? = some (.cells #[.slice t9 tl9 tc9] 24) := by rw [← hW]; exact w_new' w9 _
      have HX9_9 := Lib.hid hx
      have HY9_9 := Lib.hid hy
      have HW := Lib.hid hW
      clear hB hI hx hy hz hW HC9
      go_upto_region 19 with fail
      rw [HW.out]
      obtain ⟨g9, hg⟩ : ∃ g, w9.heap.size = g := ⟨_, rfl⟩
      rw [hg] at HX9_9 ⊢
      clear HW hg
      have L1 := Lib.hid (fun (W : World) (hW : Below W9.heap.size W9 W) => like_same 1 W t6 tl6 tc6 t7 tl7 tc7 M1 e1 (InV.below (bl_step HY6_9.out hW) HI6.out) (InV.below (bl_step HY7_9.out hW) HI7.out))
      have L2 := Lib.hid (fun (W : World) (hW : Below W9.heap.size W9 W) => like_same 1 W t8 tl8 tc8 t9 tl9 tc9 M2 e2 (InV.below (bl_step HY8_9.out hW) HI8.out) (InV.below (bl_step HY9_9.out hW) HI9.out))
      have c6 : W9.cell? ⟨g6, 0, none⟩ = some (.slice t6 tl6 tc6) := by have := HX6_9.out; simp [World.cell?, this]
      have c7 : W9.cell? ⟨g7, 0, none⟩ = some (.slice t7 tl7 tc7) := by have := HX7_9.out; simp [World.cell?, this]
      have c8 : W9.cell? ⟨g8, 0, none⟩ = some (.slice t8 tl8 tc8) := by have := HX8_9.out; simp [World.cell?, this]
      have c9 : W9.cell? ⟨g9, 0, none⟩ = some (.slice t9 tl9 tc9) := by have := HX9_9.out; simp [World.cell?, this]
      have hl8 : g8 < W9.heap.size := (Array.getElem?_eq_some_iff.1 HX8_9.out).1
      have hl9 : g9 < W9.heap.size := (Array.getElem?_eq_some_iff.1 HX9_9.out).1
      clear HX4_4 HX4_5 HX4_6 HX4_7 HX4_8 HX4_9 HX5_5 HX5_6 HX5_7 HX5_8 HX5_9 HX6_6 HX6_7 HX6_8 HX6_9 HX7_7 HX7_8 HX7_9 HX8_8 HX8_9 HX9_9 HY4_4 HY4_5 HY4_6 HY4_7 HY4_8 HY4_9 HY5_5 HY5_6 HY5_7 HY5_8 HY5_9 HY6_6 HY6_7 HY6_8 HY6_9 HY7_7 HY7_8 HY7_9 HY8_8 HY8_9 HY9_9 HI4 HI5 HI6 HI7 HI8 HI9 iA iB OA OB HR1 HR2 HB4 HB5 HB6 HB7 HB8
      obtain ⟨q, hq⟩ : ∃ q, rgV 1 [.mk 2 lo hi ⟨#[]⟩ false false false []] = q := ⟨_, rfl⟩
      have nmX : NmV 1 [.mk 2 lo hi ⟨#[]⟩ false false false []] := fun x hx f hf => by rw [List.mem_singleton.1 hx] at hf; cases hf
      have lnX : LnV 1 [.mk 2 lo hi ⟨#[]⟩ false false false []] := ⟨by simp, fun x hx f hf => by rw [List.mem_singleton.1 hx] at hf; cases hf⟩
      have RA : Hid (∀ W g, Below w3.heap.size w3 W → InV W 1 (some ⟨g, 0, none⟩) 1 1 [.mk 2 lo hi ⟨#[]⟩ false false false []] → Calls Tryz.prog 18 #[.agg #[.slice (some ⟨g, 0, none⟩) 1 1]] W (LackP q W)) := fun W g hW hv => by
       have := lright_in 1 W _ 1 1 _ ⟨hv, nmX, HE.out.below (bl_step HB3.out hW)⟩
       rw [hq] at this
       exact this
      have RB : Hid (∀ W g, InV W 1 (some ⟨g, 0, none⟩) 1 1 [.mk 2 lo hi ⟨#[]⟩ false false false []] → Calls Tryz.prog 14 #[.agg #[.slice (some ⟨g, 0, none⟩) 1 1]] W (LackP q W)) := fun W g hv => by
       have := rrv_in 1 W _ 1 1 _ hv nmX lnX
       rw [hq] at this
       exact this
      clear hq nmX lnX
      by_cases hw : 512 < n * m
      ·obtain rfl : e1 = 30 := HW1.out.trans (if_pos hw)
       have hwi : (512 : Int) < (n : Int) * (m : Int) := by have h : ((n * m : Nat) : Int) = (n : Int) * (m : Int) := Int.natCast_mul n m; rw [← h]; omega
       have hw0 : (0 : Int) ≤ (n : Int) * (m : Int) := Int.mul_nonneg (by omega) (by omega)
       have hw2 : (n : Int) * (m : Int) ≤ 100000 := by have h1 : n * m ≤ 600 * 60 := Nat.mul_le_mul (by omega) (by omega); have h : ((n * m : Nat) : Int) = (n : Int) * (m : Int) := Int.natCast_mul n m; rw [← h]; omega
       clear hw HW1
       go_wp2_with fail
       go_at_call 25; (with_reducible refine (L1.out _ (Below.refl _ _)).mono ?_); rintro e w10 ⟨rfl, hB⟩
       have HB10 := Lib.hid hB
       have c8' := (hB.cell (p := ⟨g8, 0, none⟩) hl8).trans c8
       have c9' := (hB.cell (p := ⟨g9, 0, none⟩) hl9).trans c9
       clear hB c6 c7 c8 c9 hl8 hl9
       go_wp2_with fail
       go_at_call 25; (with_reducible refine (L2.out _ HB10.out).mono ?_); rintro e w11 ⟨rfl, hB⟩
       have HB11 := Lib.hid (bl_step HB9.out (bl_step HB10.out hB))
       clear hB c8' c9' HB10 L1 L2 HB9
       go_wp2_with fail
       go_at_call 13; refine (AW.out _ HB11.out).mono ?_; rintro e w12 ⟨rfl, hB⟩
       have HB12 := Lib.hid (bl_step HB11.out hB)
       clear hB HB11 hwi hw0 hw2
       go_wp2_with fail
       go_at_call 30; refine (number_any lo hi _).mono ?_; rintro e w13 ⟨g13, rfl, hB, hg13, hT⟩
       have HB13 := Lib.hid (bl_step HB12.out hB)
       have HV13 := Lib.hid (OneP.inV hg13 hT 0)
       clear hB hg13 hT HB12
       go_wp2_with fail
       go_at_call 18; refine (RA.out _ _ HB13.out HV13.out).mono ?_; rintro e w14 ⟨rfl, hB⟩
       have HB14 := Lib.hid (bl_step HB13.out hB)
       clear hB HB13 HV13
       go_wp2_with fail
       go_at_call 30; refine (number_any lo hi _).mono ?_; rintro e w15 ⟨g15, rfl, hB, hg15, hT⟩
       have HB15 := Lib.hid (bl_step HB14.out hB)
       have HV15 := Lib.hid (OneP.inV hg15 hT 0)
       clear hB hg15 hT HB14
       go_wp2_with fail
       go_at_call 14; refine (RB.out _ _ HV15.out).mono ?_; rintro e w16 ⟨rfl, hB⟩
       have HB16 := Lib.hid (bl_step HB15.out hB)
       clear hB HB15 HV15
       cases q
       all_goals
        go_wp2_with fail
        go_ret
        exact ⟨rfl, bl_step HB3.out HB16.out⟩
      ·obtain rfl : e1 = 0 := HW1.out.trans (if_neg hw)
       have hwi : (n : Int) * (m : Int) ≤ 512 := by have h : ((n * m : Nat) : Int) = (n : Int) * (m : Int) := Int.natCast_mul n m; rw [← h]; omega
       have hwi' : ¬ (512 : Int) < (n : Int) * (m : Int) := by omega
       have hw0 : (0 : Int) ≤ (n : Int) * (m : Int) := Int.mul_nonneg (by omega) (by omega)
       have hw2 : (n : Int) * (m : Int) ≤ 100000 := by have h1 : n * m ≤ 600 * 60 := Nat.mul_le_mul (by omega) (by omega); have h : ((n * m : Nat) : Int) = (n : Int) * (m : Int) := Int.natCast_mul n m; rw [← h]; omega
       clear hw HW1
       go_wp2_with fail
       go_at_call 25; (with_reducible refine (L1.out _ (Below.refl _ _)).mono ?_); rintro e w10 ⟨rfl, hB⟩
       have HB10 := Lib.hid hB
       have c8' := (hB.cell (p := ⟨g8, 0, none⟩) hl8).trans c8
       have c9' := (hB.cell (p := ⟨g9, 0, none⟩) hl9).trans c9
       clear hB c6 c7 c8 c9 hl8 hl9
       go_wp2_with fail
       go_at_call 25; (with_reducible refine (L2.out _ HB10.out).mono ?_); rintro e w11 ⟨rfl, hB⟩
       have HB11 := Lib.hid (bl_step HB9.out (bl_step HB10.out hB))
       clear hB c8' c9' HB10 L1 L2 HB9
       go_wp2_with fail
       go_at_call 13; refine (AW.out _ HB11.out).mono ?_; rintro e w12 ⟨rfl, hB⟩
       have HB12 := Lib.hid (bl_step HB11.out hB)
       clear hB HB11 hwi hw0 hw2
       go_wp2_with fail
       go_at_call 30; refine (number_any lo hi _).mono ?_; rintro e w13 ⟨g13, rfl, hB, hg13, hT⟩
       have HB13 := Lib.hid (bl_step HB12.out hB)
       have HV13 := Lib.hid (OneP.inV hg13 hT 0)
       clear hB hg13 hT HB12
       go_wp2_with fail
       go_at_call 18; refine (RA.out _ _ HB13.out HV13.out).mono ?_; rintro e w14 ⟨rfl, hB⟩
       have HB14 := Lib.hid (bl_step HB13.out hB)
       clear hB HB13 HV13
       go_wp2_with fail
       go_at_call 30; refine (number_any lo hi _).mono ?_; rintro e w15 ⟨g15, rfl, hB, hg15, hT⟩
       have HB15 := Lib.hid (bl_step HB14.out hB)
       have HV15 := Lib.hid (OneP.inV hg15 hT 0)
       clear hB hg15 hT HB14
       go_wp2_with fail
       go_at_call 14; refine (RB.out _ _ HV15.out).mono ?_; rintro e w16 ⟨rfl, hB⟩
       have HB16 := Lib.hid (bl_step HB15.out hB)
       clear hB HB15 HV15
       cases q
       all_goals
        go_wp2_with fail
        go_ret
        exact ⟨rfl, bl_step HB3.out HB16.out⟩
end Go.Proofs.YtddleeenlpigfaaGreatDoor.Lw
