/- WALK of lists, at fields. -/
import Derived.Test.YtkmbhjcedkojjaaPd
import Derived.Deep.DeepCutAuto
import Derived.Deep.CutBlock
namespace Go.Proofs.Ytkmbhjcedkojjaa
open Go.RowKit
set_option maxRecDepth 100000 in
set_option maxHeartbeats 8000000 in
theorem listsF_any (g : List Tm → List Tm → Int) (I1 I2 : World → Option Addr → Nat → Nat → List Tm → Prop) (mono1 : ∀ {w w' : World}, Below w.heap.size w w' → ∀ t tl tc V, I1 w t tl tc V → I1 w' t tl tc V) (mono2 : ∀ {w w' : World}, Below w.heap.size w w' → ∀ t tl tc V, I2 w t tl tc V → I2 w' t tl tc V)
    (HC : ∀ W nm t tl tc V nm2 t2 tl2 tc2 V2, I1 W t tl tc V → I2 W t2 tl2 tc2 V2 → Calls Try.prog 55 #[.agg #[.string nm, .slice t tl tc], .agg #[.string nm2, .slice t2 tl2 tc2]] W (CmpPost (cmpF g (nm, V) (nm2, V2)) W))
    (f : Option Addr) (fl fc : Nat) (fs : List (ByteArray × List Tm)) (f2 : Option Addr) (fl2 fc2 : Nat) (fs2 : List (ByteArray × List Tm)) (w : World) (h1 : InF (I1 w) w f fl fs) (h2 : InF (I2 w) w f2 fl2 fs2) :
    Calls Try.prog 54 #[.slice f fl fc, .slice f2 fl2 fc2, .func (.func 55) #[] #[]] w (CmpPost (lexL (cmpF g) fs fs2) w) := by
  have HC := Lib.hid HC
  obtain ⟨l1, z1, h1⟩ := h1
  obtain ⟨l2, z2, h2⟩ := h2
  have H1 := Lib.hid h1
  have H2 := Lib.hid h2
  subst l1 l2
  clear h1 h2
  by_cases hm : fs2.length < fs.length
  · have B1 : fs2.length ≤ fs.length := by omega
    go_enter Try.func54, Try.ntmps54
    go_wp2_with fail
    go_loopw [14] (fun i wr => ∃ k : Nat, k ≤ fs2.length ∧ i = .int .i64 k ∧ Hid (∀ j (a : j < fs.length) (b : j < fs2.length), j < k → cmpF g fs[j] fs2[j] = 0) ∧ Hid (Below w.heap.size w wr)) (fun i _ => fs2.length - (intOf i).toNat)
    case atStart => exact ⟨0, Nat.zero_le _, rfl, fun j _ _ hj => absurd hj (Nat.not_lt_zero _), Below.refl _ _⟩
    case round =>
      obtain ⟨k, hk, rfl, hz, hB⟩ := hrel
      rename World => wr
      by_cases hlt : k < fs2.length
      · have hk1 : (k : Int) < (fs.length : Int) := by omega
        have hk2 : (k : Int) < (fs2.length : Int) := by omega
        have hk0 : (0 : Int) ≤ (k : Int) := by omega
        have L1 : k < fs.length := by omega
        have L2 : k < fs2.length := by omega
        obtain ⟨b1, off1, tl1, tc1, t1, rfl, lt1, c10, c11, i1⟩ := H1.out k L1
        obtain ⟨b2, off2, tl2, tc2, t2, rfl, lt2, c20, c21, i2⟩ := H2.out k L2
        have C1 := Lib.hid (And.intro lt1 (And.intro c10 c11))
        have C2 := Lib.hid (And.intro lt2 (And.intro c20 c21))
        have V1 : ∀ W, Below wr.heap.size wr W → W.cell? ⟨b1, off1 + k * 2, none⟩ = some (.string fs[k].1) ∧ W.cell? ⟨b1, off1 + k * 2 + 1, none⟩ = some (.slice t1 tl1 tc1) := fun W hW => by
          have hw := bl_step hB.out hW
          exact ⟨(hw.cell (p := ⟨b1, off1 + k * 2, none⟩) C1.out.1).trans C1.out.2.1, (hw.cell (p := ⟨b1, off1 + k * 2 + 1, none⟩) C1.out.1).trans C1.out.2.2⟩
        have V2 : ∀ W, Below wr.heap.size wr W → W.cell? ⟨b2, off2 + k * 2, none⟩ = some (.string fs2[k].1) ∧ W.cell? ⟨b2, off2 + k * 2 + 1, none⟩ = some (.slice t2 tl2 tc2) := fun W hW => by
          have hw := bl_step hB.out hW
          exact ⟨(hw.cell (p := ⟨b2, off2 + k * 2, none⟩) C2.out.1).trans C2.out.2.1, (hw.cell (p := ⟨b2, off2 + k * 2 + 1, none⟩) C2.out.1).trans C2.out.2.2⟩
        have V1 := Lib.hid V1
        have V2 := Lib.hid V2
        have KC : Hid (∀ W, Below wr.heap.size wr W → Calls Try.prog 55 #[.agg #[.string fs[k].1, .slice t1 tl1 tc1], .agg #[.string fs2[k].1, .slice t2 tl2 tc2]] W fun e w' => e = .returned (.int .i64 (cmpF g fs[k] fs2[k])) ∧ Below wr.heap.size wr w') := fun W hW =>
          (HC.out W _ _ _ _ _ _ _ _ _ _ (mono1 (bl_step hB.out hW) _ _ _ _ i1) (mono2 (bl_step hB.out hW) _ _ _ _ i2)).mono fun _ _ ⟨a, b⟩ => ⟨a, bl_step hW b⟩
        clear c10 c11 c20 c21 lt1 lt2 i1 i2
        generalize hn1 : fs[k].1 = nm1 at *
        generalize hn2 : fs2[k].1 = nm2 at *
        generalize hcc : cmpF g fs[k] fs2[k] = cc at *
        have HCC := Lib.hid hcc
        clear hcc hn1 hn2
        go_upto_region 4 with fail
        refine region_class (C := fun W => Below wr.heap.size wr W) (by kernel_rfl) (by kernel_rfl) ((Below.refl _ _).drew) ?_
        repeat (first | go_big_quiet_skip | (go_big_quiet_want; go_big_quiet_op; first | go_big_quiet_on | (apply Exists.intro; refine ⟨fun W hW => ?_, ?_⟩; (first | rfl | exact (KC.out W hW) | (obtain ⟨q0, q1⟩ := V1.out W hW; go_simp; first | done | rfl | exact ⟨rfl, rfl⟩) | (obtain ⟨q0, q1⟩ := V2.out W hW; go_simp; first | done | rfl | exact ⟨rfl, rfl⟩)); go_big_quiet_on)))
        refine wpQuiet_nil ?_
        intro w9 hW9
        have HB9 := Lib.hid (bl_step hB.out hW9)
        clear hW9
        clear V1 V2 KC
        by_cases h0 : cc = 0
        · have HZ : Hid (cmpF g fs[k] fs2[k] = 0) := HCC.out.trans h0
          subst h0
          go_wp2_with fail
          go_roundw
          case rel => exact ⟨k + 1, by omega, by go_num, Lib.hid (show ∀ j (a : j < fs.length) (b : j < fs2.length), j < k + 1 → cmpF g fs[j] fs2[j] = 0 from fun j a b hj => by
            by_cases e : j = k
            · subst e; exact HZ.out
            · exact hz.out j a b (Nat.lt_of_le_of_ne (Nat.le_of_lt_succ hj) e)), HB9⟩
          case measure => simp [intOf]; omega
        · have hb : (cc != 0) = true := by simpa using h0
          have HN := Lib.hid h0
          clear h0
          go_wp2_with fail
          go_ret
          exact ⟨ret_int (by rw [lexL_at (cmpF g) fs fs2 k L1 L2 (fun j a b hj => hz.out j a b hj) (by rw [HCC.out]; exact HN.out), HCC.out]), HB9.out⟩
      · go_wp2_with (go_at_call 51; (with_reducible refine (cmpI_any _ _ _).mono ?_); rintro e w1 ⟨rfl, rfl⟩)
        go_ret
        exact ⟨ret_int (lexL_end _ _ _ (fun j a b => hz.out j a b (by omega))).symm, hB.out⟩
  · have B1 : fs.length ≤ fs2.length := by omega
    go_enter Try.func54, Try.ntmps54
    go_wp2_with fail
    go_loopw [14] (fun i wr => ∃ k : Nat, k ≤ fs.length ∧ i = .int .i64 k ∧ Hid (∀ j (a : j < fs.length) (b : j < fs2.length), j < k → cmpF g fs[j] fs2[j] = 0) ∧ Hid (Below w.heap.size w wr)) (fun i _ => fs.length - (intOf i).toNat)
    case atStart => exact ⟨0, Nat.zero_le _, rfl, fun j _ _ hj => absurd hj (Nat.not_lt_zero _), Below.refl _ _⟩
    case round =>
      obtain ⟨k, hk, rfl, hz, hB⟩ := hrel
      rename World => wr
      by_cases hlt : k < fs.length
      · have hk1 : (k : Int) < (fs.length : Int) := by omega
        have hk2 : (k : Int) < (fs2.length : Int) := by omega
        have hk0 : (0 : Int) ≤ (k : Int) := by omega
        have L1 : k < fs.length := by omega
        have L2 : k < fs2.length := by omega
        obtain ⟨b1, off1, tl1, tc1, t1, rfl, lt1, c10, c11, i1⟩ := H1.out k L1
        obtain ⟨b2, off2, tl2, tc2, t2, rfl, lt2, c20, c21, i2⟩ := H2.out k L2
        have C1 := Lib.hid (And.intro lt1 (And.intro c10 c11))
        have C2 := Lib.hid (And.intro lt2 (And.intro c20 c21))
        have V1 : ∀ W, Below wr.heap.size wr W → W.cell? ⟨b1, off1 + k * 2, none⟩ = some (.string fs[k].1) ∧ W.cell? ⟨b1, off1 + k * 2 + 1, none⟩ = some (.slice t1 tl1 tc1) := fun W hW => by
          have hw := bl_step hB.out hW
          exact ⟨(hw.cell (p := ⟨b1, off1 + k * 2, none⟩) C1.out.1).trans C1.out.2.1, (hw.cell (p := ⟨b1, off1 + k * 2 + 1, none⟩) C1.out.1).trans C1.out.2.2⟩
        have V2 : ∀ W, Below wr.heap.size wr W → W.cell? ⟨b2, off2 + k * 2, none⟩ = some (.string fs2[k].1) ∧ W.cell? ⟨b2, off2 + k * 2 + 1, none⟩ = some (.slice t2 tl2 tc2) := fun W hW => by
          have hw := bl_step hB.out hW
          exact ⟨(hw.cell (p := ⟨b2, off2 + k * 2, none⟩) C2.out.1).trans C2.out.2.1, (hw.cell (p := ⟨b2, off2 + k * 2 + 1, none⟩) C2.out.1).trans C2.out.2.2⟩
        have V1 := Lib.hid V1
        have V2 := Lib.hid V2
        have KC : Hid (∀ W, Below wr.heap.size wr W → Calls Try.prog 55 #[.agg #[.string fs[k].1, .slice t1 tl1 tc1], .agg #[.string fs2[k].1, .slice t2 tl2 tc2]] W fun e w' => e = .returned (.int .i64 (cmpF g fs[k] fs2[k])) ∧ Below wr.heap.size wr w') := fun W hW =>
          (HC.out W _ _ _ _ _ _ _ _ _ _ (mono1 (bl_step hB.out hW) _ _ _ _ i1) (mono2 (bl_step hB.out hW) _ _ _ _ i2)).mono fun _ _ ⟨a, b⟩ => ⟨a, bl_step hW b⟩
        clear c10 c11 c20 c21 lt1 lt2 i1 i2
        generalize hn1 : fs[k].1 = nm1 at *
        generalize hn2 : fs2[k].1 = nm2 at *
        generalize hcc : cmpF g fs[k] fs2[k] = cc at *
        have HCC := Lib.hid hcc
        clear hcc hn1 hn2
        go_upto_region 4 with fail
        refine region_class (C := fun W => Below wr.heap.size wr W) (by kernel_rfl) (by kernel_rfl) ((Below.refl _ _).drew) ?_
        repeat (first | go_big_quiet_skip | (go_big_quiet_want; go_big_quiet_op; first | go_big_quiet_on | (apply Exists.intro; refine ⟨fun W hW => ?_, ?_⟩; (first | rfl | exact (KC.out W hW) | (obtain ⟨q0, q1⟩ := V1.out W hW; go_simp; first | done | rfl | exact ⟨rfl, rfl⟩) | (obtain ⟨q0, q1⟩ := V2.out W hW; go_simp; first | done | rfl | exact ⟨rfl, rfl⟩)); go_big_quiet_on)))
        refine wpQuiet_nil ?_
        intro w9 hW9
        have HB9 := Lib.hid (bl_step hB.out hW9)
        clear hW9
        clear V1 V2 KC
        by_cases h0 : cc = 0
        · have HZ : Hid (cmpF g fs[k] fs2[k] = 0) := HCC.out.trans h0
          subst h0
          go_wp2_with fail
          go_roundw
          case rel => exact ⟨k + 1, by omega, by go_num, Lib.hid (show ∀ j (a : j < fs.length) (b : j < fs2.length), j < k + 1 → cmpF g fs[j] fs2[j] = 0 from fun j a b hj => by
            by_cases e : j = k
            · subst e; exact HZ.out
            · exact hz.out j a b (Nat.lt_of_le_of_ne (Nat.le_of_lt_succ hj) e)), HB9⟩
          case measure => simp [intOf]; omega
        · have hb : (cc != 0) = true := by simpa using h0
          have HN := Lib.hid h0
          clear h0
          go_wp2_with fail
          go_ret
          exact ⟨ret_int (by rw [lexL_at (cmpF g) fs fs2 k L1 L2 (fun j a b hj => hz.out j a b hj) (by rw [HCC.out]; exact HN.out), HCC.out]), HB9.out⟩
      · go_wp2_with (go_at_call 51; (with_reducible refine (cmpI_any _ _ _).mono ?_); rintro e w1 ⟨rfl, rfl⟩)
        go_ret
        exact ⟨ret_int (lexL_end _ _ _ (fun j a b => hz.out j a b (by omega))).symm, hB.out⟩

end Go.Proofs.Ytkmbhjcedkojjaa
