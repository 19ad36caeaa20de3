/- Cb, Cc, Cd, Ce -/
import Derived.Test.YtddleeenlpigfaaGreatDoorY31
/- WALK of the reference's under. -/
namespace Go.Proofs.YtddleeenlpigfaaGreatDoor
open Go.RowKit
/-- Under, one level down. -/
def RuH (n : Nat) : Prop := ∀ (W : World) (t : Option Addr) (tl tc : Nat) (A : List Tm) (t2 : Option Addr) (tl2 tc2 : Nat) (B : List Tm), InV W n t tl tc A → InV W n t2 tl2 tc2 B → Calls Tryz.prog 20 #[.agg #[.slice t tl tc], .agg #[.slice t2 tl2 tc2]] W (LackP (undV n A B) W)
/-- The first k fields are none that the other one lacks. -/
def NoLk (fs gs : List (ByteArray × List Tm)) (k : Nat) : Prop := ∀ j (h : j < fs.length), j < k → (findF gs fs[j].1).isNone = false
theorem NoLk.end {fs gs : List (ByteArray × List Tm)} (h : NoLk fs gs fs.length) : lacksF gs fs = false := by
  unfold lacksF
  rw [List.any_eq_false]
  intro x hx
  obtain ⟨j, hj, rfl⟩ := List.getElem_of_mem hx
  rw [h j hj hj]; decide
theorem lacks_yes {fs gs : List (ByteArray × List Tm)} {k : Nat} (hk : k < fs.length) (h : findF gs fs[k].1 = none) : lacksF gs fs = true := by
  unfold lacksF
  rw [List.any_eq_true]
  exact ⟨_, List.getElem_mem hk, by rw [h]; rfl⟩
/-- The other one's first k fields are above this one's. -/
def AllU (u : List Tm → List Tm → Bool) (fs gs : List (ByteArray × List Tm)) (k : Nat) : Prop := ∀ j (h : j < gs.length), j < k → undF u fs gs[j] = true
theorem AllU.end {u : List Tm → List Tm → Bool} {fs gs : List (ByteArray × List Tm)} (h : AllU u fs gs gs.length) : gs.all (undF u fs) = true := by
  rw [List.all_eq_true]
  intro x hx
  obtain ⟨j, hj, rfl⟩ := List.getElem_of_mem hx
  exact h j hj hj
set_option maxRecDepth 100000 in
set_option maxHeartbeats 8000000 in
theorem runder_four (n : Nat) (ih : RuH n) (w : World) (x y : Tm) (f1 : Option Addr) (fc1 : Nat) (f2 : Option Addr) (fc2 : Nat) (h1 : InF (fun t tl tc V => InV w n t tl tc V) w f1 x.fs.length x.fs) (h2 : InF (fun t tl tc V => InV w n t tl tc V) w f2 y.fs.length y.fs) (hk : x.k = 4) (hk2 : y.k = 4) :
    Calls Tryz.prog 41 #[tv x.k x.lo x.hi x.s x.y x.m x.o f1 x.fs.length fc1, tv y.k y.lo y.hi y.s y.y y.m y.o f2 y.fs.length fc2] w (LackP (undS (undV n) x y) w) := by
  have HSE : Hid (undS (undV n) x y = (!(x.o && !y.o) && (y.o || !lacksF y.fs x.fs) && y.fs.all (undF (undV n) x.fs))) := rfl
  obtain ⟨rr, hrr⟩ : ∃ r, undS (undV n) x y = r := ⟨_, rfl⟩
  rw [hrr] at HSE ⊢
  clear hrr
  have HF1 := Lib.hid h1
  have HF2 := Lib.hid h2
  have IH := Lib.hid ih
  rw [hk, hk2]
  clear h1 h2 ih hk hk2
  have HFS : ∃ fs, x.fs = fs := ⟨_, rfl⟩
  obtain ⟨fs, hfs⟩ := HFS
  have HGS : ∃ gs, y.fs = gs := ⟨_, rfl⟩
  obtain ⟨gs, hgs⟩ := HGS
  rw [hfs] at HF1 HSE ⊢
  rw [hgs] at HF2 HSE ⊢
  clear hfs hgs
  have z1 := HF1.out.2.1
  have z2 := HF2.out.2.1
  have H1 := Lib.hid HF1.out.2.2
  have H2 := Lib.hid HF2.out.2.2
  generalize x.lo = lo1 at *
  generalize x.hi = hi1 at *
  generalize x.s = s1 at *
  generalize x.y = y1 at *
  generalize x.m = m1 at *
  generalize x.o = o1 at *
  generalize y.lo = lo2 at *
  generalize y.hi = hi2 at *
  generalize y.s = s2 at *
  generalize y.y = y2 at *
  generalize y.m = m2 at *
  generalize y.o = o2 at *
  go_enter Tryz.func41, Tryz.ntmps41
  go_upto_region 1 with fail
  have HXE : ∃ X, (w.alloc (.cells #[.int .i64 4, .int .i64 lo1, .int .i64 hi1, .string s1, .bool y1, .bool m1, .bool o1, .slice f1 fs.length fc1] 31)).alloc (.cells #[.int .i64 4, .int .i64 lo2, .int .i64 hi2, .string s2, .bool y2, .bool m2, .bool o2, .slice f2 gs.length fc2] 31) = X := ⟨_, rfl⟩
  obtain ⟨X, hX⟩ := HXE
  have HXB : Hid (Below w.heap.size w X ∧ (Tc X w.heap.size 4 lo1 hi1 s1 y1 m1 o1 f1 fs.length fc1 ∧ w.heap.size < X.heap.size) ∧ (Tc X (w.heap.size + 1) 4 lo2 hi2 s2 y2 m2 o2 f2 gs.length fc2 ∧ w.heap.size + 1 < X.heap.size)) := by
    obtain ⟨a, b, c⟩ := Tc.box2 w 4 lo1 hi1 s1 y1 m1 o1 f1 fs.length fc1 4 lo2 hi2 s2 y2 m2 o2 f2 gs.length fc2 (Below.refl _ _)
    rw [← hX]; exact ⟨c, a, b⟩
  rw [hX]
  clear hX
  have VV : Hid (∀ W, Below X.heap.size X W → W.cell? ⟨w.heap.size, 0, none⟩ = some (.int .i64 4) ∧ W.cell? ⟨w.heap.size + 1, 0, none⟩ = some (.int .i64 4) ∧ W.cell? ⟨w.heap.size, 6, none⟩ = some (.bool o1) ∧ W.cell? ⟨w.heap.size + 1, 6, none⟩ = some (.bool o2) ∧ W.cell? ⟨w.heap.size, 7, none⟩ = some (.slice f1 fs.length fc1) ∧ W.cell? ⟨w.heap.size + 1, 7, none⟩ = some (.slice f2 gs.length fc2)) := fun W hW => by
    obtain ⟨-, ⟨t1, l1⟩, ⟨t2, l2⟩⟩ := HXB.out
    have a := t1.later hW l1
    have b := t2.later hW l2
    exact ⟨a.1, b.1, a.2.2.2.2.2.2.1, b.2.2.2.2.2.2.1, a.2.2.2.2.2.2.2, b.2.2.2.2.2.2.2⟩
  have HBX : Hid (Below w.heap.size w X) := HXB.out.1
  clear HXB
  obtain ⟨v1, v2, v3, v4, v5, v6⟩ := VV.out X (Below.refl _ _)
  cases o1 <;> cases o2
  case true.false =>
    go_wp2_with fail
    go_ret
    exact ⟨Nm.ret_bool (by rw [HSE.out]; rfl), HBX.out⟩
  case false.false =>
    go_wp2_with fail
    go_loopw [5] (fun i wr => ∃ k : Nat, k ≤ fs.length ∧ i = .int .i64 k ∧ Hid (NoLk fs gs k) ∧ Hid (Below X.heap.size X wr)) (fun i _ => fs.length - (intOf i).toNat)
    case atStart => exact ⟨0, Nat.zero_le _, rfl, fun j _ hj => absurd hj (Nat.not_lt_zero _), Below.refl _ _⟩
    case round =>
      obtain ⟨k, hk, rfl, hU, hB⟩ := hrel
      rename World => wr
      clear v1 v2 v3 v4 v5 v6
      obtain ⟨v1, v2, v3, v4, v5, v6⟩ := VV.out wr hB.out
      by_cases hlt : k < fs.length
      · have hki : (k : Int) < (fs.length : Int) := by omega
        have hk0 : (0 : Int) ≤ (k : Int) := by omega
        obtain ⟨b1, off1, tl1, tc1, t1, rfl, lt1, d0, d1, i1⟩ := H1.out k hlt
        have hbw := bl_step HBX.out hB.out
        replace d0 := (hbw.cell (p := ⟨b1, off1 + k * 2, none⟩) lt1).trans d0
        have LT1 : Hid (b1 < wr.heap.size) := Nat.lt_of_lt_of_le lt1 hbw.size
        have HBW := Lib.hid hbw
        obtain ⟨r, hr⟩ : ∃ r, fidx gs fs[k].1 = r := ⟨_, rfl⟩
        have KC : Hid (∀ W, Below wr.heap.size wr W → Calls Tryz.prog 70 #[.slice f2 gs.length fc2, .string fs[k].1] W fun e w' => e = .returned (.int .i64 r) ∧ Below wr.heap.size wr w') := fun W hW => by
          have h := rfind_any _ W f2 gs.length fc2 gs (HF2.out.below (fun _ _ _ _ h => InV.below (bl_step HBW.out hW) h) (bl_step HBW.out hW)) fs[k].1
          rw [hr] at h
          exact h.mono fun _ _ ⟨a, b⟩ => ⟨a, bl_step hW b⟩
        have HFI := fidx_find gs fs[k].1
        rw [hr] at HFI
        have HFF := Lib.hid HFI
        clear i1 lt1 d1 hbw hr HFI
        obtain ⟨nm, hnm⟩ : ∃ nm, fs[k].1 = nm := ⟨_, rfl⟩
        have HNM := Lib.hid hnm
        rw [hnm] at d0 KC HFF
        clear hnm
        have VX : Hid (∀ W, Below wr.heap.size wr W → W.cell? ⟨w.heap.size, 7, none⟩ = some (.slice (some ⟨b1, off1, none⟩) fs.length fc1) ∧ W.cell? ⟨w.heap.size + 1, 7, none⟩ = some (.slice f2 gs.length fc2) ∧ W.cell? ⟨b1, off1 + k * 2, none⟩ = some (.string nm) ∧ True ∧ True) := fun W hW => by
          obtain ⟨-, -, -, -, a, b⟩ := VV.out W (bl_step hB.out hW)
          exact ⟨a, b, (hW.cell (p := ⟨b1, off1 + k * 2, none⟩) LT1.out).trans d0, trivial, trivial⟩
        clear d0
        go_upto_region 10 with fail
        clear v1 v2 v3 v4 v5 v6
        refine region_class (C := fun W => Below wr.heap.size wr W) (by kernel_rfl) (by kernel_rfl) ((Below.refl _ _).drew) ?_
        repeat (first | go_big_quiet_skip | (go_big_quiet_want; go_big_quiet_op; first | go_big_quiet_on | (apply Exists.intro; refine ⟨fun W hW => ?_, ?_⟩; (first | rfl | exact (KC.out W hW) | (obtain ⟨q0, q1, q2, q3, q4⟩ := VX.out W hW; go_simp; first | done | rfl | exact ⟨rfl, rfl⟩)); go_big_quiet_on)))
        refine wpQuiet_nil ?_
        intro w9 hW9
        clear KC
        have HW9 := Lib.hid hW9
        clear hW9
        have HFD := HFF.out
        rcases HFD with ⟨rfl, hf⟩ | ⟨j, hj, rfl, hf⟩
        · have HN := Lib.hid hf
          clear hf
          go_wp2_with fail
          go_ret
          refine ⟨Nm.ret_bool ?_, bl_step HBW.out HW9.out⟩
          rw [HSE.out, lacks_yes hlt (by rw [HNM.out]; exact HN.out)]
          rfl
        · have HN := Lib.hid hf
          have hj9 : ¬ (j : Int) < 0 := by omega
          clear hf
          go_wp2_with fail
          go_roundw
          case rel => exact ⟨k + 1, by omega, by go_num, fun i hi hik => (by
            by_cases e : i = k
            · subst e; rw [HNM.out, HN.out]; rfl
            · exact hU.out i hi (by omega)), bl_step hB.out HW9.out⟩
          case measure => simp [intOf]; omega
      · obtain rfl : k = fs.length := by omega
        have HLK : Hid (lacksF gs fs = false) := hU.out.end
        have HB1 : Hid (Below X.heap.size X wr) := hB
        clear hU hB hk hlt
        go_wp2_with fail
        go_loopw [6] (fun i wr => ∃ k : Nat, k ≤ gs.length ∧ i = .int .i64 k ∧ Hid (AllU (undV n) fs gs k) ∧ Hid (Below X.heap.size X wr)) (fun i _ => gs.length - (intOf i).toNat)
        case atStart => exact ⟨0, Nat.zero_le _, rfl, fun j _ hj => absurd hj (Nat.not_lt_zero _), HB1⟩
        case round =>
          obtain ⟨k, hk, rfl, hU, hB⟩ := hrel
          rename World => wr
          try clear v1 v2 v3 v4 v5 v6
          obtain ⟨v1, v2, v3, v4, v5, v6⟩ := VV.out wr hB.out
          by_cases hlt : k < gs.length
          · have hki : (k : Int) < (gs.length : Int) := by omega
            have hk0 : (0 : Int) ≤ (k : Int) := by omega
            obtain ⟨b2, off2, tl2, tc2, t2, rfl, lt2, d0, d1, i2⟩ := H2.out k hlt
            have hbw := bl_step HBX.out hB.out
            replace d0 := (hbw.cell (p := ⟨b2, off2 + k * 2, none⟩) lt2).trans d0
            replace d1 := (hbw.cell (p := ⟨b2, off2 + k * 2 + 1, none⟩) lt2).trans d1
            have LT2 : Hid (b2 < wr.heap.size) := Nat.lt_of_lt_of_le lt2 hbw.size
            have HBW := Lib.hid hbw
            obtain ⟨r, hr⟩ : ∃ r, fidx fs gs[k].1 = r := ⟨_, rfl⟩
            have KC : Hid (∀ W, Below wr.heap.size wr W → Calls Tryz.prog 70 #[.slice f1 fs.length fc1, .string gs[k].1] W fun e w' => e = .returned (.int .i64 r) ∧ Below wr.heap.size wr w') := fun W hW => by
              have h := rfind_any _ W f1 fs.length fc1 fs (HF1.out.below (fun _ _ _ _ h => InV.below (bl_step HBW.out hW) h) (bl_step HBW.out hW)) gs[k].1
              rw [hr] at h
              exact h.mono fun _ _ ⟨a, b⟩ => ⟨a, bl_step hW b⟩
            have HFI := fidx_find fs gs[k].1
            rw [hr] at HFI
            have HFF := Lib.hid HFI
            have HUF : Hid (undF (undV n) fs gs[k] = (match findF fs gs[k].1 with | some V => undV n V gs[k].2 | none => false)) := rfl
            have HI2 := Lib.hid i2
            clear i2 lt2 hbw hr HFI
            obtain ⟨nm, hnm⟩ : ∃ nm, gs[k].1 = nm := ⟨_, rfl⟩
            rw [hnm] at d0 KC HFF HUF
            clear hnm
            have VX : Hid (∀ W, Below wr.heap.size wr W → W.cell? ⟨w.heap.size, 7, none⟩ = some (.slice f1 fs.length fc1) ∧ W.cell? ⟨w.heap.size + 1, 7, none⟩ = some (.slice (some ⟨b2, off2, none⟩) gs.length fc2) ∧ W.cell? ⟨b2, off2 + k * 2, none⟩ = some (.string nm) ∧ W.cell? ⟨b2, off2 + k * 2 + 1, none⟩ = some (.slice t2 tl2 tc2) ∧ True) := fun W hW => by
              obtain ⟨-, -, -, -, a, b⟩ := VV.out W (bl_step hB.out hW)
              exact ⟨a, b, (hW.cell (p := ⟨b2, off2 + k * 2, none⟩) LT2.out).trans d0, (hW.cell (p := ⟨b2, off2 + k * 2 + 1, none⟩) LT2.out).trans d1, trivial⟩
            clear d0 d1
            go_upto_region 15 with fail
            clear v1 v2 v3 v4 v5 v6
            refine region_class (C := fun W => Below wr.heap.size wr W) (by kernel_rfl) (by kernel_rfl) ((Below.refl _ _).drew) ?_
            repeat (first | go_big_quiet_skip | (go_big_quiet_want; go_big_quiet_op; first | go_big_quiet_on | (apply Exists.intro; refine ⟨fun W hW => ?_, ?_⟩; (first | rfl | exact (KC.out W hW) | (obtain ⟨q0, q1, q2, q3, q4⟩ := VX.out W hW; go_simp; first | done | rfl | exact ⟨rfl, rfl⟩)); go_big_quiet_on)))
            refine wpQuiet_nil ?_
            intro w9 hW9
            clear KC
            have HW9 := Lib.hid hW9
            clear hW9
            have HFD := HFF.out
            rcases HFD with ⟨rfl, hf⟩ | ⟨j, hj, rfl, hf⟩
            · have HN := Lib.hid hf
              clear hf
              go_upto_region 16 with fail
              have e1 : decide ((-1 : Int) < 0) = true := rfl
              refine region_class (C := fun W => Below wr.heap.size wr W) (by kernel_rfl) (by kernel_rfl) (HW9.out.drew) ?_
              repeat (first | go_big_quiet_skip | (go_big_quiet_want; go_big_quiet_op; first | go_big_quiet_on | (apply Exists.intro; refine ⟨fun W hW => ?_, ?_⟩; (first | rfl | exact (KC.out W hW) | (obtain ⟨q0, q1, q2, q3, q4⟩ := VX.out W hW; go_simp; first | done | rfl | exact ⟨rfl, rfl⟩)); go_big_quiet_on)))
              refine wpQuiet_nil ?_
              intro w8 hW8
              go_wp2_with fail
              go_ret
              refine ⟨Nm.ret_bool ?_, bl_step HBW.out hW8⟩
              rw [HSE.out, show gs.all (undF (undV n) fs) = false from List.all_eq_false.2 ⟨_, List.getElem_mem hlt, by rw [HUF.out, HN.out]; show ¬ false = true; decide⟩]
              simp
            · have HN := Lib.hid hf
              clear hf
              obtain ⟨u, hu⟩ : ∃ u, undV n fs[j].2 gs[k].2 = u := ⟨_, rfl⟩
              have HUU : Hid (undF (undV n) fs gs[k] = u) := by refine HUF.out.trans ?_; rw [HN.out]; exact hu
              obtain ⟨b1, off1, tl1, tc1, t1, rfl, lt1, c0, c1, i1⟩ := H1.out j hj
              have C1 : Hid (∀ W, Below wr.heap.size wr W → W.cell? ⟨b1, off1 + j * 2 + 1, none⟩ = some (.slice t1 tl1 tc1)) := fun W hW => ((bl_step HBW.out hW).cell (p := ⟨b1, off1 + j * 2 + 1, none⟩) lt1).trans c1
              have C0 : Hid (∀ W, Below wr.heap.size wr W → W.cell? ⟨b1, off1 + j * 2, none⟩ = some (.string fs[j].1)) := fun W hW => ((bl_step HBW.out hW).cell (p := ⟨b1, off1 + j * 2, none⟩) lt1).trans c0
              have KC : Hid (∀ W, Below wr.heap.size wr W → Calls Tryz.prog 20 #[.agg #[.slice t1 tl1 tc1], .agg #[.slice t2 tl2 tc2]] W fun e w' => e = .returned (.bool u) ∧ Below wr.heap.size wr w') := fun W hW => by
                have h := IH.out W t1 tl1 tc1 fs[j].2 t2 tl2 tc2 gs[k].2 (InV.below (bl_step HBW.out hW) i1) (InV.below (bl_step HBW.out hW) HI2.out)
                rw [hu] at h
                exact h.mono fun _ _ ⟨a, b⟩ => ⟨a, bl_step hW b⟩
              have VX2 : Hid (∀ W, Below wr.heap.size wr W → W.cell? ⟨w.heap.size, 7, none⟩ = some (.slice (some ⟨b1, off1, none⟩) fs.length fc1) ∧ W.cell? ⟨w.heap.size + 1, 7, none⟩ = some (.slice (some ⟨b2, off2, none⟩) gs.length fc2) ∧ W.cell? ⟨b1, off1 + j * 2 + 1, none⟩ = some (.slice t1 tl1 tc1) ∧ W.cell? ⟨b2, off2 + k * 2 + 1, none⟩ = some (.slice t2 tl2 tc2) ∧ W.cell? ⟨b1, off1 + j * 2, none⟩ = some (.string fs[j].1)) := fun W hW => by
                obtain ⟨a, b, c, d, e⟩ := VX.out W hW
                exact ⟨a, b, C1.out W hW, d, C0.out W hW⟩
              have hji : (j : Int) < (fs.length : Int) := by omega
              have hj0 : (0 : Int) ≤ (j : Int) := by omega
              have hj9 : ¬ (j : Int) < 0 := by omega
              clear VX i1 lt1 c0 c1 hu
              have VX := VX2
              clear VX2
              go_upto_region 16 with fail
              have e1 : decide ((j : Int) < 0) = false := by simp
              refine region_class (C := fun W => Below wr.heap.size wr W) (by kernel_rfl) (by kernel_rfl) (HW9.out.drew) ?_
              repeat (first | go_big_quiet_skip | (go_big_quiet_want; go_big_quiet_op; first | go_big_quiet_on | (apply Exists.intro; refine ⟨fun W hW => ?_, ?_⟩; (first | rfl | exact (KC.out W hW) | (obtain ⟨q0, q1, q2, q3, q4⟩ := VX.out W hW; go_simp; first | done | rfl | exact ⟨rfl, rfl⟩)); go_big_quiet_on)))
              refine wpQuiet_nil ?_
              intro w8 hW8
              have HW8 := Lib.hid hW8
              clear hW8 KC
              cases u
              · go_wp2_with fail
                go_ret
                refine ⟨Nm.ret_bool ?_, bl_step HBW.out HW8.out⟩
                rw [HSE.out, show gs.all (undF (undV n) fs) = false from List.all_eq_false.2 ⟨_, List.getElem_mem hlt, by rw [HUU.out]; decide⟩]
                simp
              · go_wp2_with fail
                go_roundw
                case rel => exact ⟨k + 1, by omega, by go_num, fun i hi hik => (by
                  by_cases e : i = k
                  · subst e; exact HUU.out
                  · exact hU.out i hi (by omega)), bl_step hB.out HW8.out⟩
                case measure => simp [intOf]; omega
          · obtain rfl : k = gs.length := by omega
            go_wp2_with fail
            go_ret
            refine ⟨Nm.ret_bool ?_, bl_step HBX.out hB.out⟩
            rw [HSE.out, hU.out.end]
            rw [HLK.out]; rfl
  case false.true =>
    go_wp2_with fail
    go_loopw [5] (fun i wr => i = .int .i64 0 ∧ Hid (Below X.heap.size X wr)) (fun _ _ => 0)
    case atStart => exact ⟨rfl, Below.refl _ _⟩
    case round =>
      obtain ⟨rfl, HB1⟩ := hrel
      rename World => wr0
      clear v1 v2 v3 v4 v5 v6
      obtain ⟨v1, v2, v3, v4, v5, v6⟩ := VV.out wr0 HB1.out
      by_cases hl0 : 0 < fs.length
      all_goals
        go_wp2_with fail
        clear hl0
        go_loopw [6] (fun i wr => ∃ k : Nat, k ≤ gs.length ∧ i = .int .i64 k ∧ Hid (AllU (undV n) fs gs k) ∧ Hid (Below X.heap.size X wr)) (fun i _ => gs.length - (intOf i).toNat)
        case atStart => exact ⟨0, Nat.zero_le _, rfl, fun j _ hj => absurd hj (Nat.not_lt_zero _), HB1⟩
        case round =>
          obtain ⟨k, hk, rfl, hU, hB⟩ := hrel
          rename World => wr
          try clear v1 v2 v3 v4 v5 v6
          obtain ⟨v1, v2, v3, v4, v5, v6⟩ := VV.out wr hB.out
          by_cases hlt : k < gs.length
          · have hki : (k : Int) < (gs.length : Int) := by omega
            have hk0 : (0 : Int) ≤ (k : Int) := by omega
            obtain ⟨b2, off2, tl2, tc2, t2, rfl, lt2, d0, d1, i2⟩ := H2.out k hlt
            have hbw := bl_step HBX.out hB.out
            replace d0 := (hbw.cell (p := ⟨b2, off2 + k * 2, none⟩) lt2).trans d0
            replace d1 := (hbw.cell (p := ⟨b2, off2 + k * 2 + 1, none⟩) lt2).trans d1
            have LT2 : Hid (b2 < wr.heap.size) := Nat.lt_of_lt_of_le lt2 hbw.size
            have HBW := Lib.hid hbw
            obtain ⟨r, hr⟩ : ∃ r, fidx fs gs[k].1 = r := ⟨_, rfl⟩
            have KC : Hid (∀ W, Below wr.heap.size wr W → Calls Tryz.prog 70 #[.slice f1 fs.length fc1, .string gs[k].1] W fun e w' => e = .returned (.int .i64 r) ∧ Below wr.heap.size wr w') := fun W hW => by
              have h := rfind_any _ W f1 fs.length fc1 fs (HF1.out.below (fun _ _ _ _ h => InV.below (bl_step HBW.out hW) h) (bl_step HBW.out hW)) gs[k].1
              rw [hr] at h
              exact h.mono fun _ _ ⟨a, b⟩ => ⟨a, bl_step hW b⟩
            have HFI := fidx_find fs gs[k].1
            rw [hr] at HFI
            have HFF := Lib.hid HFI
            have HUF : Hid (undF (undV n) fs gs[k] = (match findF fs gs[k].1 with | some V => undV n V gs[k].2 | none => false)) := rfl
            have HI2 := Lib.hid i2
            clear i2 lt2 hbw hr HFI
            obtain ⟨nm, hnm⟩ : ∃ nm, gs[k].1 = nm := ⟨_, rfl⟩
            rw [hnm] at d0 KC HFF HUF
            clear hnm
            have VX : Hid (∀ W, Below wr.heap.size wr W → W.cell? ⟨w.heap.size, 7, none⟩ = some (.slice f1 fs.length fc1) ∧ W.cell? ⟨w.heap.size + 1, 7, none⟩ = some (.slice (some ⟨b2, off2, none⟩) gs.length fc2) ∧ W.cell? ⟨b2, off2 + k * 2, none⟩ = some (.string nm) ∧ W.cell? ⟨b2, off2 + k * 2 + 1, none⟩ = some (.slice t2 tl2 tc2) ∧ True) := fun W hW => by
              obtain ⟨-, -, -, -, a, b⟩ := VV.out W (bl_step hB.out hW)
              exact ⟨a, b, (hW.cell (p := ⟨b2, off2 + k * 2, none⟩) LT2.out).trans d0, (hW.cell (p := ⟨b2, off2 + k * 2 + 1, none⟩) LT2.out).trans d1, trivial⟩
            clear d0 d1
            go_upto_region 15 with fail
            clear v1 v2 v3 v4 v5 v6
            refine region_class (C := fun W => Below wr.heap.size wr W) (by kernel_rfl) (by kernel_rfl) ((Below.refl _ _).drew) ?_
            repeat (first | go_big_quiet_skip | (go_big_quiet_want; go_big_quiet_op; first | go_big_quiet_on | (apply Exists.intro; refine ⟨fun W hW => ?_, ?_⟩; (first | rfl | exact (KC.out W hW) | (obtain ⟨q0, q1, q2, q3, q4⟩ := VX.out W hW; go_simp; first | done | rfl | exact ⟨rfl, rfl⟩)); go_big_quiet_on)))
            refine wpQuiet_nil ?_
            intro w9 hW9
            clear KC
            have HW9 := Lib.hid hW9
            clear hW9
            have HFD := HFF.out
            rcases HFD with ⟨rfl, hf⟩ | ⟨j, hj, rfl, hf⟩
            · have HN := Lib.hid hf
              clear hf
              go_upto_region 16 with fail
              have e1 : decide ((-1 : Int) < 0) = true := rfl
              refine region_class (C := fun W => Below wr.heap.size wr W) (by kernel_rfl) (by kernel_rfl) (HW9.out.drew) ?_
              repeat (first | go_big_quiet_skip | (go_big_quiet_want; go_big_quiet_op; first | go_big_quiet_on | (apply Exists.intro; refine ⟨fun W hW => ?_, ?_⟩; (first | rfl | exact (KC.out W hW) | (obtain ⟨q0, q1, q2, q3, q4⟩ := VX.out W hW; go_simp; first | done | rfl | exact ⟨rfl, rfl⟩)); go_big_quiet_on)))
              refine wpQuiet_nil ?_
              intro w8 hW8
              go_wp2_with fail
              go_ret
              refine ⟨Nm.ret_bool ?_, bl_step HBW.out hW8⟩
              rw [HSE.out, show gs.all (undF (undV n) fs) = false from List.all_eq_false.2 ⟨_, List.getElem_mem hlt, by rw [HUF.out, HN.out]; show ¬ false = true; decide⟩]
              simp
            · have HN := Lib.hid hf
              clear hf
              obtain ⟨u, hu⟩ : ∃ u, undV n fs[j].2 gs[k].2 = u := ⟨_, rfl⟩
              have HUU : Hid (undF (undV n) fs gs[k] = u) := by refine HUF.out.trans ?_; rw [HN.out]; exact hu
              obtain ⟨b1, off1, tl1, tc1, t1, rfl, lt1, c0, c1, i1⟩ := H1.out j hj
              have C1 : Hid (∀ W, Below wr.heap.size wr W → W.cell? ⟨b1, off1 + j * 2 + 1, none⟩ = some (.slice t1 tl1 tc1)) := fun W hW => ((bl_step HBW.out hW).cell (p := ⟨b1, off1 + j * 2 + 1, none⟩) lt1).trans c1
              have C0 : Hid (∀ W, Below wr.heap.size wr W → W.cell? ⟨b1, off1 + j * 2, none⟩ = some (.string fs[j].1)) := fun W hW => ((bl_step HBW.out hW).cell (p := ⟨b1, off1 + j * 2, none⟩) lt1).trans c0
              have KC : Hid (∀ W, Below wr.heap.size wr W → Calls Tryz.prog 20 #[.agg #[.slice t1 tl1 tc1], .agg #[.slice t2 tl2 tc2]] W fun e w' => e = .returned (.bool u) ∧ Below wr.heap.size wr w') := fun W hW => by
                have h := IH.out W t1 tl1 tc1 fs[j].2 t2 tl2 tc2 gs[k].2 (InV.below (bl_step HBW.out hW) i1) (InV.below (bl_step HBW.out hW) HI2.out)
                rw [hu] at h
                exact h.mono fun _ _ ⟨a, b⟩ => ⟨a, bl_step hW b⟩
              have VX2 : Hid (∀ W, Below wr.heap.size wr W → W.cell? ⟨w.heap.size, 7, none⟩ = some (.slice (some ⟨b1, off1, none⟩) fs.length fc1) ∧ W.cell? ⟨w.heap.size + 1, 7, none⟩ = some (.slice (some ⟨b2, off2, none⟩) gs.length fc2) ∧ W.cell? ⟨b1, off1 + j * 2 + 1, none⟩ = some (.slice t1 tl1 tc1) ∧ W.cell? ⟨b2, off2 + k * 2 + 1, none⟩ = some (.slice t2 tl2 tc2) ∧ W.cell? ⟨b1, off1 + j * 2, none⟩ = some (.string fs[j].1)) := fun W hW => by
                obtain ⟨a, b, c, d, e⟩ := VX.out W hW
                exact ⟨a, b, C1.out W hW, d, C0.out W hW⟩
              have hji : (j : Int) < (fs.length : Int) := by omega
              have hj0 : (0 : Int) ≤ (j : Int) := by omega
              have hj9 : ¬ (j : Int) < 0 := by omega
              clear VX i1 lt1 c0 c1 hu
              have VX := VX2
              clear VX2
              go_upto_region 16 with fail
              have e1 : decide ((j : Int) < 0) = false := by simp
              refine region_class (C := fun W => Below wr.heap.size wr W) (by kernel_rfl) (by kernel_rfl) (HW9.out.drew) ?_
              repeat (first | go_big_quiet_skip | (go_big_quiet_want; go_big_quiet_op; first | go_big_quiet_on | (apply Exists.intro; refine ⟨fun W hW => ?_, ?_⟩; (first | rfl | exact (KC.out W hW) | (obtain ⟨q0, q1, q2, q3, q4⟩ := VX.out W hW; go_simp; first | done | rfl | exact ⟨rfl, rfl⟩)); go_big_quiet_on)))
              refine wpQuiet_nil ?_
              intro w8 hW8
              have HW8 := Lib.hid hW8
              clear hW8 KC
              cases u
              · go_wp2_with fail
                go_ret
                refine ⟨Nm.ret_bool ?_, bl_step HBW.out HW8.out⟩
                rw [HSE.out, show gs.all (undF (undV n) fs) = false from List.all_eq_false.2 ⟨_, List.getElem_mem hlt, by rw [HUU.out]; decide⟩]
                simp
              · go_wp2_with fail
                go_roundw
                case rel => exact ⟨k + 1, by omega, by go_num, fun i hi hik => (by
                  by_cases e : i = k
                  · subst e; exact HUU.out
                  · exact hU.out i hi (by omega)), bl_step hB.out HW8.out⟩
                case measure => simp [intOf]; omega
          · obtain rfl : k = gs.length := by omega
            go_wp2_with fail
            go_ret
            refine ⟨Nm.ret_bool ?_, bl_step HBX.out hB.out⟩
            rw [HSE.out, hU.out.end]
            rfl
  case true.true =>
    go_wp2_with fail
    go_loopw [5] (fun i wr => i = .int .i64 0 ∧ Hid (Below X.heap.size X wr)) (fun _ _ => 0)
    case atStart => exact ⟨rfl, Below.refl _ _⟩
    case round =>
      obtain ⟨rfl, HB1⟩ := hrel
      rename World => wr0
      clear v1 v2 v3 v4 v5 v6
      obtain ⟨v1, v2, v3, v4, v5, v6⟩ := VV.out wr0 HB1.out
      by_cases hl0 : 0 < fs.length
      all_goals
        go_wp2_with fail
        clear hl0
        go_loopw [6] (fun i wr => ∃ k : Nat, k ≤ gs.length ∧ i = .int .i64 k ∧ Hid (AllU (undV n) fs gs k) ∧ Hid (Below X.heap.size X wr)) (fun i _ => gs.length - (intOf i).toNat)
        case atStart => exact ⟨0, Nat.zero_le _, rfl, fun j _ hj => absurd hj (Nat.not_lt_zero _), HB1⟩
        case round =>
          obtain ⟨k, hk, rfl, hU, hB⟩ := hrel
          rename World => wr
          try clear v1 v2 v3 v4 v5 v6
          obtain ⟨v1, v2, v3, v4, v5, v6⟩ := VV.out wr hB.out
          by_cases hlt : k < gs.length
          · have hki : (k : Int) < (gs.length : Int) := by omega
            have hk0 : (0 : Int) ≤ (k : Int) := by omega
            obtain ⟨b2, off2, tl2, tc2, t2, rfl, lt2, d0, d1, i2⟩ := H2.out k hlt
            have hbw := bl_step HBX.out hB.out
            replace d0 := (hbw.cell (p := ⟨b2, off2 + k * 2, none⟩) lt2).trans d0
            replace d1 := (hbw.cell (p := ⟨b2, off2 + k * 2 + 1, none⟩) lt2).trans d1
            have LT2 : Hid (b2 < wr.heap.size) := Nat.lt_of_lt_of_le lt2 hbw.size
            have HBW := Lib.hid hbw
            obtain ⟨r, hr⟩ : ∃ r, fidx fs gs[k].1 = r := ⟨_, rfl⟩
            have KC : Hid (∀ W, Below wr.heap.size wr W → Calls Tryz.prog 70 #[.slice f1 fs.length fc1, .string gs[k].1] W fun e w' => e = .returned (.int .i64 r) ∧ Below wr.heap.size wr w') := fun W hW => by
              have h := rfind_any _ W f1 fs.length fc1 fs (HF1.out.below (fun _ _ _ _ h => InV.below (bl_step HBW.out hW) h) (bl_step HBW.out hW)) gs[k].1
              rw [hr] at h
              exact h.mono fun _ _ ⟨a, b⟩ => ⟨a, bl_step hW b⟩
            have HFI := fidx_find fs gs[k].1
            rw [hr] at HFI
            have HFF := Lib.hid HFI
            have HUF : Hid (undF (undV n) fs gs[k] = (match findF fs gs[k].1 with | some V => undV n V gs[k].2 | none => false)) := rfl
            have HI2 := Lib.hid i2
            clear i2 lt2 hbw hr HFI
            obtain ⟨nm, hnm⟩ : ∃ nm, gs[k].1 = nm := ⟨_, rfl⟩
            rw [hnm] at d0 KC HFF HUF
            clear hnm
            have VX : Hid (∀ W, Below wr.heap.size wr W → W.cell? ⟨w.heap.size, 7, none⟩ = some (.slice f1 fs.length fc1) ∧ W.cell? ⟨w.heap.size + 1, 7, none⟩ = some (.slice (some ⟨b2, off2, none⟩) gs.length fc2) ∧ W.cell? ⟨b2, off2 + k * 2, none⟩ = some (.string nm) ∧ W.cell? ⟨b2, off2 + k * 2 + 1, none⟩ = some (.slice t2 tl2 tc2) ∧ True) := fun W hW => by
              obtain ⟨-, -, -, -, a, b⟩ := VV.out W (bl_step hB.out hW)
              exact ⟨a, b, (hW.cell (p := ⟨b2, off2 + k * 2, none⟩) LT2.out).trans d0, (hW.cell (p := ⟨b2, off2 + k * 2 + 1, none⟩) LT2.out).trans d1, trivial⟩
            clear d0 d1
            go_upto_region 15 with fail
            clear v1 v2 v3 v4 v5 v6
            refine region_class (C := fun W => Below wr.heap.size wr W) (by kernel_rfl) (by kernel_rfl) ((Below.refl _ _).drew) ?_
            repeat (first | go_big_quiet_skip | (go_big_quiet_want; go_big_quiet_op; first | go_big_quiet_on | (apply Exists.intro; refine ⟨fun W hW => ?_, ?_⟩; (first | rfl | exact (KC.out W hW) | (obtain ⟨q0, q1, q2, q3, q4⟩ := VX.out W hW; go_simp; first | done | rfl | exact ⟨rfl, rfl⟩)); go_big_quiet_on)))
            refine wpQuiet_nil ?_
            intro w9 hW9
            clear KC
            have HW9 := Lib.hid hW9
            clear hW9
            have HFD := HFF.out
            rcases HFD with ⟨rfl, hf⟩ | ⟨j, hj, rfl, hf⟩
            · have HN := Lib.hid hf
              clear hf
              go_upto_region 16 with fail
              have e1 : decide ((-1 : Int) < 0) = true := rfl
              refine region_class (C := fun W => Below wr.heap.size wr W) (by kernel_rfl) (by kernel_rfl) (HW9.out.drew) ?_
              repeat (first | go_big_quiet_skip | (go_big_quiet_want; go_big_quiet_op; first | go_big_quiet_on | (apply Exists.intro; refine ⟨fun W hW => ?_, ?_⟩; (first | rfl | exact (KC.out W hW) | (obtain ⟨q0, q1, q2, q3, q4⟩ := VX.out W hW; go_simp; first | done | rfl | exact ⟨rfl, rfl⟩)); go_big_quiet_on)))
              refine wpQuiet_nil ?_
              intro w8 hW8
              go_wp2_with fail
              go_ret
              refine ⟨Nm.ret_bool ?_, bl_step HBW.out hW8⟩
              rw [HSE.out, show gs.all (undF (undV n) fs) = false from List.all_eq_false.2 ⟨_, List.getElem_mem hlt, by rw [HUF.out, HN.out]; show ¬ false = true; decide⟩]
              simp
            · have HN := Lib.hid hf
              clear hf
              obtain ⟨u, hu⟩ : ∃ u, undV n fs[j].2 gs[k].2 = u := ⟨_, rfl⟩
              have HUU : Hid (undF (undV n) fs gs[k] = u) := by refine HUF.out.trans ?_; rw [HN.out]; exact hu
              obtain ⟨b1, off1, tl1, tc1, t1, rfl, lt1, c0, c1, i1⟩ := H1.out j hj
              have C1 : Hid (∀ W, Below wr.heap.size wr W → W.cell? ⟨b1, off1 + j * 2 + 1, none⟩ = some (.slice t1 tl1 tc1)) := fun W hW => ((bl_step HBW.out hW).cell (p := ⟨b1, off1 + j * 2 + 1, none⟩) lt1).trans c1
              have C0 : Hid (∀ W, Below wr.heap.size wr W → W.cell? ⟨b1, off1 + j * 2, none⟩ = some (.string fs[j].1)) := fun W hW => ((bl_step HBW.out hW).cell (p := ⟨b1, off1 + j * 2, none⟩) lt1).trans c0
              have KC : Hid (∀ W, Below wr.heap.size wr W → Calls Tryz.prog 20 #[.agg #[.slice t1 tl1 tc1], .agg #[.slice t2 tl2 tc2]] W fun e w' => e = .returned (.bool u) ∧ Below wr.heap.size wr w') := fun W hW => by
                have h := IH.out W t1 tl1 tc1 fs[j].2 t2 tl2 tc2 gs[k].2 (InV.below (bl_step HBW.out hW) i1) (InV.below (bl_step HBW.out hW) HI2.out)
                rw [hu] at h
                exact h.mono fun _ _ ⟨a, b⟩ => ⟨a, bl_step hW b⟩
              have VX2 : Hid (∀ W, Below wr.heap.size wr W → W.cell? ⟨w.heap.size, 7, none⟩ = some (.slice (some ⟨b1, off1, none⟩) fs.length fc1) ∧ W.cell? ⟨w.heap.size + 1, 7, none⟩ = some (.slice (some ⟨b2, off2, none⟩) gs.length fc2) ∧ W.cell? ⟨b1, off1 + j * 2 + 1, none⟩ = some (.slice t1 tl1 tc1) ∧ W.cell? ⟨b2, off2 + k * 2 + 1, none⟩ = some (.slice t2 tl2 tc2) ∧ W.cell? ⟨b1, off1 + j * 2, none⟩ = some (.string fs[j].1)) := fun W hW => by
                obtain ⟨a, b, c, d, e⟩ := VX.out W hW
                exact ⟨a, b, C1.out W hW, d, C0.out W hW⟩
              have hji : (j : Int) < (fs.length : Int) := by omega
              have hj0 : (0 : Int) ≤ (j : Int) := by omega
              have hj9 : ¬ (j : Int) < 0 := by omega
              clear VX i1 lt1 c0 c1 hu
              have VX := VX2
              clear VX2
              go_upto_region 16 with fail
              have e1 : decide ((j : Int) < 0) = false := by simp
              refine region_class (C := fun W => Below wr.heap.size wr W) (by kernel_rfl) (by kernel_rfl) (HW9.out.drew) ?_
              repeat (first | go_big_quiet_skip | (go_big_quiet_want; go_big_quiet_op; first | go_big_quiet_on | (apply Exists.intro; refine ⟨fun W hW => ?_, ?_⟩; (first | rfl | exact (KC.out W hW) | (obtain ⟨q0, q1, q2, q3, q4⟩ := VX.out W hW; go_simp; first | done | rfl | exact ⟨rfl, rfl⟩)); go_big_quiet_on)))
              refine wpQuiet_nil ?_
              intro w8 hW8
              have HW8 := Lib.hid hW8
              clear hW8 KC
              cases u
              · go_wp2_with fail
                go_ret
                refine ⟨Nm.ret_bool ?_, bl_step HBW.out HW8.out⟩
                rw [HSE.out, show gs.all (undF (undV n) fs) = false from List.all_eq_false.2 ⟨_, List.getElem_mem hlt, by rw [HUU.out]; decide⟩]
                simp
              · go_wp2_with fail
                go_roundw
                case rel => exact ⟨k + 1, by omega, by go_num, fun i hi hik => (by
                  by_cases e : i = k
                  · subst e; exact HUU.out
                  · exact hU.out i hi (by omega)), bl_step hB.out HW8.out⟩
                case measure => simp [intOf]; omega
          · obtain rfl : k = gs.length := by omega
            go_wp2_with fail
            go_ret
            refine ⟨Nm.ret_bool ?_, bl_step HBX.out hB.out⟩
            rw [HSE.out, hU.out.end]
            rfl
end Go.Proofs.YtddleeenlpigfaaGreatDoor
/- WALK of the reference's under, Under. -/
namespace Go.Proofs.YtddleeenlpigfaaGreatDoor
open Go.RowKit
set_option maxRecDepth 100000 in
set_option maxHeartbeats 8000000 in
theorem runder_tm (n : Nat) (ih : RuH n) (w : World) (x y : Tm) (f1 : Option Addr) (fl1 fc1 : Nat) (f2 : Option Addr) (fl2 fc2 : Nat) (h1 : InF (fun t tl tc V => InV w n t tl tc V) w f1 fl1 x.fs) (h2 : InF (fun t tl tc V => InV w n t tl tc V) w f2 fl2 y.fs) :
    Calls Tryz.prog 41 #[tv x.k x.lo x.hi x.s x.y x.m x.o f1 fl1 fc1, tv y.k y.lo y.hi y.s y.y y.m y.o f2 fl2 fc2] w (LackP (undT (undV n) x y) w) := by
  obtain rfl : x.fs.length = fl1 := h1.1
  obtain rfl : y.fs.length = fl2 := h2.1
  by_cases h5 : y.k = 5
  · rw [show undT (undV n) x y = true by unfold undT; rw [if_pos h5], h5]
    clear ih h1 h2
    go_enter Tryz.func41, Tryz.ntmps41
    go_wp2_with fail
    go_ret
    exact ⟨rfl, bl_alloc (bl_alloc (Below.refl _ _))⟩
  · by_cases h4 : x.k = 4 ∧ y.k = 4
    · rw [show undT (undV n) x y = undS (undV n) x y by unfold undT; rw [if_neg h5, if_pos h4]]
      exact runder_four n ih w x y f1 fc1 f2 fc2 h1 h2 h4.1 h4.2
    · rw [show undT (undV n) x y = scB x y by unfold undT; rw [if_neg h5, if_neg h4]]
      have HS := Lib.hid (fun (W : World) => rsbelow_tm x y f1 f2 fc1 fc2 W)
      clear ih h1 h2
      have e5 : (y.k == 5) = false := by simpa using h5
      generalize scB x y = r at *
      generalize x.fs.length = fl1 at *
      generalize y.fs.length = fl2 at *
      generalize x.k = k1 at *
      generalize x.lo = lo1 at *
      generalize x.hi = hi1 at *
      generalize x.s = s1 at *
      generalize x.y = y1 at *
      generalize x.m = m1 at *
      generalize x.o = o1 at *
      generalize y.k = k2 at *
      generalize y.lo = lo2 at *
      generalize y.hi = hi2 at *
      generalize y.s = s2 at *
      generalize y.y = y2 at *
      generalize y.m = m2 at *
      generalize y.o = o2 at *
      by_cases hk : k1 = 4
      · have hk2 : ¬ k2 = 4 := fun c => h4 ⟨hk, c⟩
        subst hk
        have ek2 : (k2 != 4) = true := by simpa using hk2
        clear h4
        go_enter Tryz.func41, Tryz.ntmps41
        go_wp2_with (go_at_call 69; refine (HS.out _).mono ?_; rintro e w1 ⟨rfl, hB⟩; have HB := Lib.hid hB; clear hB)
        go_ret
        exact ⟨rfl, bl_step (bl_alloc (bl_alloc (Below.refl _ _))) HB.out⟩
      · have ek : (k1 != 4) = true := by simpa using hk
        clear h4
        go_enter Tryz.func41, Tryz.ntmps41
        go_wp2_with (go_at_call 69; refine (HS.out _).mono ?_; rintro e w1 ⟨rfl, hB⟩; have HB := Lib.hid hB; clear hB)
        go_ret
        exact ⟨rfl, bl_step (bl_alloc (bl_alloc (Below.refl _ _))) HB.out⟩
end Go.Proofs.YtddleeenlpigfaaGreatDoor
/- WALK of the reference's Under. -/
namespace Go.Proofs.YtddleeenlpigfaaGreatDoor
open Go.RowKit
/-- Is one of the first k above it? -/
def MetP (n : Nat) (a : Tm) (B : List Tm) (k : Nat) (q : Bool) : Prop := (q = false → NotTo n a B k) ∧ (q = true → (B.any fun b => undT (undV n) a b) = true)
set_option maxRecDepth 100000 in
set_option maxHeartbeats 8000000 in
theorem runder_step (n : Nat) (ih : RuH n) : RuH (n + 1) := by
  intro w t tl tc A t2 tl2 tc2 B h1 h2
  obtain ⟨l1, z1, g1⟩ := h1
  obtain ⟨l2, z2, g2⟩ := h2
  have G1 := Lib.hid g1
  have G2 := Lib.hid g2
  have IH := Lib.hid ih
  subst l1 l2
  obtain ⟨rr, hrr⟩ : ∃ r, undV (n + 1) A B = r := ⟨_, rfl⟩
  rw [hrr]
  have HRR := Lib.hid hrr
  clear g1 g2 ih hrr
  go_enter Tryz.func20, Tryz.ntmps20
  go_upto_region 1 with fail
  have HXE : ∃ X, (w.alloc (.cells #[.slice t A.length tc] 24)).alloc (.cells #[.slice t2 B.length tc2] 24) = X := ⟨_, rfl⟩
  obtain ⟨X, hX⟩ := HXE
  have HXB : Hid (Below w.heap.size w X ∧ Bx X w.heap.size t A.length tc ∧ Bx X (w.heap.size + 1) t2 B.length tc2) := by
    rw [← hX]; exact ⟨bl_alloc (bl_alloc (Below.refl _ _)), ⟨by simp; omega, by simp [go_sem]⟩, ⟨by simp, by simp [go_sem]⟩⟩
  rw [hX]
  clear hX
  have bx := HXB.out.2.1.2
  have by' := HXB.out.2.2.2
  go_wp2_with fail
  go_loopw [5] (fun i wr => ∃ k : Nat, k ≤ A.length ∧ i = .int .i64 k ∧ Hid (UpTo n A B k) ∧ Hid (Below X.heap.size X wr)) (fun i _ => A.length - (intOf i).toNat)
  case atStart => exact ⟨0, Nat.zero_le _, rfl, fun j _ hj => absurd hj (Nat.not_lt_zero _), Below.refl _ _⟩
  case round =>
    obtain ⟨k, hk, rfl, hU, hB⟩ := hrel
    rename World => wr
    clear bx by'
    have bx := (HXB.out.2.1.later hB.out).2
    have by' := (HXB.out.2.2.later hB.out).2
    by_cases hlt : k < A.length
    · have hki : (k : Int) < (A.length : Int) := by omega
      have hk0 : (0 : Int) ≤ (k : Int) := by omega
      go_wp2_with fail
      go_loopw [6, 7] (fun m i wi => ∃ (j : Nat) (q : Bool), j ≤ B.length ∧ m = .bool q ∧ i = .int .i64 j ∧ Hid (MetP n A[k] B j q) ∧ Hid (Below X.heap.size X wi)) (fun _ i _ => B.length - (intOf i).toNat)
      case atStart => exact ⟨0, false, Nat.zero_le _, rfl, rfl, ⟨fun _ j _ hj => absurd hj (Nat.not_lt_zero _), fun h => absurd h (by decide)⟩, hB⟩
      case round =>
        obtain ⟨j, q, hj, rfl, rfl, hM, hBi⟩ := hrel
        rename World => wi
        clear bx by'
        have bx := (HXB.out.2.1.later hBi.out).2
        have by' := (HXB.out.2.2.later hBi.out).2
        by_cases hjl : j < B.length
        · cases q
          · have hji : (j : Int) < (B.length : Int) := by omega
            have hj0 : (0 : Int) ≤ (j : Int) := by omega
            obtain ⟨b1, off1, rfl, i1⟩ := G1.out k hlt
            obtain ⟨b2, off2, rfl, i2⟩ := G2.out j hjl
            have hbw := bl_step HXB.out.1 hBi.out
            obtain ⟨lt1, xf, xl, xc, c0, c1, c2, c3, c4, c5, c6, c7, hF1⟩ := i1.cells
            obtain ⟨lt2, yf, yl, yc, d0, d1, d2, d3, d4, d5, d6, d7, hF2⟩ := i2.cells
            have HQ : ∃ q, undT (undV n) A[k] B[j] = q := ⟨_, rfl⟩
            obtain ⟨q, hq⟩ := HQ
            have KC : Hid (∀ W, Below wi.heap.size wi W → Calls Tryz.prog 41 #[tv A[k].k A[k].lo A[k].hi A[k].s A[k].y A[k].m A[k].o xf xl xc, tv B[j].k B[j].lo B[j].hi B[j].s B[j].y B[j].m B[j].o yf yl yc] W fun e w' => e = .returned (.bool q) ∧ Below wi.heap.size wi w') := fun W hW => by
              have h := runder_tm n IH.out W A[k] B[j] xf xl xc yf yl yc (hF1.below (fun _ _ _ _ h => InV.below (bl_step hbw hW) h) (bl_step hbw hW)) (hF2.below (fun _ _ _ _ h => InV.below (bl_step hbw hW) h) (bl_step hbw hW))
              rw [hq] at h
              exact h.mono fun _ _ ⟨a, b⟩ => ⟨a, bl_step hW b⟩
            have QQ := Lib.hid hq
            clear hq hF1 hF2 i1 i2
            have HBW := Lib.hid hbw
            clear hbw
            obtain ⟨xx, hxx⟩ : ∃ xx, A[k] = xx := ⟨_, rfl⟩
            have HXX := Lib.hid hxx
            obtain ⟨yy, hyy⟩ : ∃ yy, B[j] = yy := ⟨_, rfl⟩
            have HYY := Lib.hid hyy
            rw [hxx] at c0 c1 c2 c3 c4 c5 c6
            rw [hyy] at d0 d1 d2 d3 d4 d5 d6
            rw [hxx, hyy] at KC
            clear hxx hyy
            generalize xx.k = xak at *
            generalize xx.lo = xalo at *
            generalize xx.hi = xahi at *
            generalize xx.s = xas at *
            generalize xx.y = xay at *
            generalize xx.m = xam at *
            generalize xx.o = xao at *
            generalize yy.k = yak at *
            generalize yy.lo = yalo at *
            generalize yy.hi = yahi at *
            generalize yy.s = yas at *
            generalize yy.y = yay at *
            generalize yy.m = yam at *
            generalize yy.o = yao at *
            have P1 : Hid (∀ W, Below wi.heap.size wi W → W.cell? ⟨w.heap.size, 0, none⟩ = some (.slice (some ⟨b1, off1, none⟩) A.length tc)) := fun W hW => (HXB.out.2.1.later (bl_step hBi.out hW)).2
            have P2 : Hid (∀ W, Below wi.heap.size wi W → W.cell? ⟨w.heap.size + 1, 0, none⟩ = some (.slice (some ⟨b2, off2, none⟩) B.length tc2)) := fun W hW => (HXB.out.2.2.later (bl_step hBi.out hW)).2
            have VX : Hid (∀ W, Below wi.heap.size wi W → W.cell? ⟨b1, off1 + k * 8, none⟩ = some (.int .i64 xak) ∧ W.cell? ⟨b1, off1 + k * 8 + 1, none⟩ = some (.int .i64 xalo) ∧ W.cell? ⟨b1, off1 + k * 8 + 2, none⟩ = some (.int .i64 xahi) ∧ W.cell? ⟨b1, off1 + k * 8 + 3, none⟩ = some (.string xas) ∧ W.cell? ⟨b1, off1 + k * 8 + 4, none⟩ = some (.bool xay) ∧ W.cell? ⟨b1, off1 + k * 8 + 5, none⟩ = some (.bool xam) ∧ W.cell? ⟨b1, off1 + k * 8 + 6, none⟩ = some (.bool xao) ∧ W.cell? ⟨b1, off1 + k * 8 + 7, none⟩ = some (.slice xf xl xc)) := fun W hW => by
              have e : ∀ i, W.cell? ⟨b1, i, none⟩ = w.cell? ⟨b1, i, none⟩ := fun i => (bl_step HBW.out hW).cell (p := ⟨b1, i, none⟩) lt1
              rw [e, e, e, e, e, e, e, e]
              exact ⟨c0, c1, c2, c3, c4, c5, c6, c7⟩
            have VY : Hid (∀ W, Below wi.heap.size wi W → W.cell? ⟨b2, off2 + j * 8, none⟩ = some (.int .i64 yak) ∧ W.cell? ⟨b2, off2 + j * 8 + 1, none⟩ = some (.int .i64 yalo) ∧ W.cell? ⟨b2, off2 + j * 8 + 2, none⟩ = some (.int .i64 yahi) ∧ W.cell? ⟨b2, off2 + j * 8 + 3, none⟩ = some (.string yas) ∧ W.cell? ⟨b2, off2 + j * 8 + 4, none⟩ = some (.bool yay) ∧ W.cell? ⟨b2, off2 + j * 8 + 5, none⟩ = some (.bool yam) ∧ W.cell? ⟨b2, off2 + j * 8 + 6, none⟩ = some (.bool yao) ∧ W.cell? ⟨b2, off2 + j * 8 + 7, none⟩ = some (.slice yf yl yc)) := fun W hW => by
              have e : ∀ i, W.cell? ⟨b2, i, none⟩ = w.cell? ⟨b2, i, none⟩ := fun i => (bl_step HBW.out hW).cell (p := ⟨b2, i, none⟩) lt2
              rw [e, e, e, e, e, e, e, e]
              exact ⟨d0, d1, d2, d3, d4, d5, d6, d7⟩
            clear c0 c1 c2 c3 c4 c5 c6 c7 d0 d1 d2 d3 d4 d5 d6 d7
            go_upto_region 8 with fail
            refine region_class (C := fun W => Below wi.heap.size wi W) (by kernel_rfl) (by kernel_rfl) ((Below.refl _ _).drew) ?_
            repeat (first | go_big_quiet_skip | (go_big_quiet_want; go_big_quiet_op; first | go_big_quiet_on | (apply Exists.intro; refine ⟨fun W hW => ?_, ?_⟩; (first | rfl | exact (KC.out W hW) | (obtain ⟨q0, q1, q2, q3, q4, q5, q6, q7⟩ := VX.out W hW; go_simp; first | done | rfl | exact ⟨rfl, rfl⟩) | (obtain ⟨q0, q1, q2, q3, q4, q5, q6, q7⟩ := VY.out W hW; go_simp; first | done | rfl | exact ⟨rfl, rfl⟩) | (have q0 := P1.out W hW; go_simp; first | done | rfl | exact ⟨rfl, rfl⟩) | (have q0 := P2.out W hW; go_simp; first | done | rfl | exact ⟨rfl, rfl⟩)); go_big_quiet_on)))
            refine wpQuiet_nil ?_
            intro w9 hW9
            have HB9 := Lib.hid (bl_step hBi.out hW9)
            clear hW9 P1 P2 KC VX VY bx by'
            have bx := (HXB.out.2.1.later HB9.out).2
            have by' := (HXB.out.2.2.later HB9.out).2
            go_wp2_with fail
            go_roundw
            case rel => exact ⟨j + 1, q, by omega, rfl, by go_num, ⟨fun e i hi hij => (by
              by_cases e2 : i = j
              · subst e2; rw [QQ.out, e]
              · exact hM.out.1 rfl i hi (by omega)), fun e => (by rw [List.any_eq_true]; exact ⟨_, List.getElem_mem hjl, by rw [QQ.out, e]⟩)⟩, HB9⟩
            case measure => simp [intOf]; omega
          · go_wp2_with fail
            go_roundw
            case rel => exact ⟨k + 1, by omega, by go_num, fun i h hi => (by
              by_cases e : i = k
              · subst e; exact hM.out.2 rfl
              · exact hU.out i h (by omega)), hBi⟩
            case measure => simp [intOf]; omega
        · have ej : j = B.length := by omega
          subst ej
          cases q
          · go_wp2_with fail
            go_ret
            refine ⟨Nm.ret_bool ?_, bl_step HXB.out.1 hBi.out⟩
            rw [← HRR.out]
            exact ((hM.out.1 rfl).end hlt).symm
          · go_wp2_with fail
            go_roundw
            case rel => exact ⟨k + 1, by omega, by go_num, fun i h hi => (by
              by_cases e : i = k
              · subst e; exact hM.out.2 rfl
              · exact hU.out i h (by omega)), hBi⟩
            case measure => simp [intOf]; omega
    · have ek : k = A.length := by omega
      subst ek
      go_wp2_with fail
      go_ret
      refine ⟨Nm.ret_bool ?_, bl_step HXB.out.1 hB.out⟩
      rw [← HRR.out]
      exact hU.out.end.symm
theorem runder_in : ∀ n : Nat, RuH n
  | 0 => fun _ _ _ _ _ _ _ _ _ h _ => h.elim
  | n + 1 => runder_step n (runder_in n)
end Go.Proofs.YtddleeenlpigfaaGreatDoor
/- PLAIN MATHEMATICS: what the reference's Right asks. -/
namespace Go.Proofs.YtddleeenlpigfaaGreatDoor
open Go.RowKit
/-- Lists of terms are no longer than memory has room for. -/
def LnV : Nat → List Tm → Prop
  | 0, _ => True
  | n + 1, A => A.length ≤ 140737488355328 ∧ ∀ x ∈ A, ∀ f ∈ x.fs, LnV n f.2
/-- What the reference's Right asks. -/
def RrP (n : Nat) (A : List Tm) : Prop :=
  wtV (n + 1) A ≤ 512 ∧ depV (n + 1) A ≤ 16 ∧ (∀ x ∈ A, Gr1 n x) ∧ (∀ i (h : i + 1 < A.length), cmpT (cmpV n) A[i] A[i + 1] < 0) ∧ ∀ i j (hi : i < A.length) (hj : j < A.length), i ≠ j → undT (undV n) A[i] A[j] = false
theorem ups_of {f : Tm → Tm → Int} (hf : Cmp f) {A : List Tm} (h : ∀ i (h : i + 1 < A.length), f A[i] A[i + 1] < 0) : Ups f A := by
  have key : ∀ (d i : Nat) (hj : i + d + 1 < A.length), f (A[i]'(by omega)) (A[i + d + 1]'hj) < 0 := fun d => by
    induction d with
    | zero => intro i hj; exact h i hj
    | succ d ih =>
      intro i hj
      have h1 := ih i (by omega)
      have h2 := h (i + d + 1) hj
      exact lt_of hf h1 (Int.le_of_lt h2)
  unfold Ups
  rw [List.pairwise_iff_getElem]
  intro i j hi hj hij
  obtain ⟨d, rfl⟩ : ∃ d, j = i + d + 1 := ⟨j - i - 1, by omega⟩
  exact key d i hj
theorem wU_le (n : Nat) {A : List Tm} (h : ∀ x ∈ A, wF n x.fs ≤ 16384) : wU n A ≤ A.length * 16384 := by
  induction A with
  | nil => simp [wU]
  | cons x A ih =>
    have h1 := h x (by simp)
    have h2 := ih fun y hy => h y (by simp [hy])
    simp only [wU, List.map_cons, List.sum_cons, List.length_cons] at *
    omega
theorem rr_iff {n : Nat} {A : List Tm} (hl : A.length ≤ 140737488355328) : RrP n A ↔ RG (n + 1) A := by
  constructor
  · rintro ⟨hw, hd, hx, hu, ha⟩
    have h1 := wU_le n fun x h => (hx x h).w
    have hwx : (wN (n + 1) A : Int) ≤ 9223372036854775807 := by rw [wN_U]; omega
    rw [wtV_exact hwx] at hw
    have hm : ∀ d ∈ deps (depV n) A, 1 ≤ d ∧ d ≤ 16 := fun d hd => by
      obtain ⟨x, hxA, f, hf, rfl⟩ := dep_of hd
      exact dep_rv (l := 16) (by omega) (gt_f (hx x hxA).gt hf).2.1
    have h2 : mx (deps (depV n) A) ≤ 16 := mx_le _ _ _ (by omega) fun d hd => (hm d hd).2
    have h0 : 0 ≤ mx (deps (depV n) A) := mx_ge _ 0
    have e : depV (n + 1) A = 1 + mx (deps (depV n) A) := by
      show wrap64 (1 + mx (deps (depV n) A)) = _
      exact wrap_id (by omega) (by omega)
    refine ⟨⟨fun x hxA => (hx x hxA).gt.impF fun f hf => dep_down (l := 16) (k := 15) (by omega) (gt_f (hx x hxA).gt hf).2.1 ?_, ups_of (cmpT_cmp n) hu, ?_⟩, by omega⟩
    · have := mx_mem (deps (depV n) A) 0 _ (dep_mem hxA hf)
      have e2 : mx (deps (depV n) A) = (deps (depV n) A).foldl max 0 := rfl
      omega
    · unfold Apart
      rw [List.pairwise_iff_getElem]
      intro i j hi hj hij
      exact ⟨ha i j hi hj (by omega), ha j i hj hi (by omega)⟩
  · rintro ⟨⟨hx, hu, ha⟩, hw⟩
    have hr : RV (n + 1) 16 A := ⟨hx, hu, ha⟩
    refine ⟨by rw [wtV_exact (by omega)]; omega, (dep_rv (by omega) hr).2, fun x h => (hx x h).impF fun f hf => ⟨(gt_f (hx x h) hf).2.1.le (show 15 ≤ 16 by decide), ?_⟩, fun i h => ?_, fun i j hi hj hij => ?_⟩
    · have h1 := wN_mem (n := n) h
      have h2 := wF_mem (n := n) hf
      omega
    · exact List.pairwise_iff_getElem.1 hu i (i + 1) (by omega) h (by omega)
    · have h1 := List.pairwise_iff_getElem.1 ha
      by_cases hlt : i < j
      · exact (h1 i j hi hj hlt).1
      · exact (h1 j i hj hi (by omega)).2
end Go.Proofs.YtddleeenlpigfaaGreatDoor
