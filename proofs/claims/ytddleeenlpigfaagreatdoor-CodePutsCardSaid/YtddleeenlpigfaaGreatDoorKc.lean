/- WALKS of code's head and appendFields. -/
import Derived.Test.YtddleeenlpigfaaGreatDoorKb
namespace Go.Proofs.YtddleeenlpigfaaGreatDoor.Ec
open Go.RowKit
theorem u8_int {k : IntKind} {a b : Int} (h : a = b) : Ending.returned (.int k a) = .returned (.int k b) := by rw [h]
set_option maxRecDepth 100000 in
set_option maxHeartbeats 2000000 in
theorem head_any (k lo hi : Int) (s : ByteArray) (y m o : Bool) (f : Option Addr) (fl fc : Nat) (fs : List (ByteArray × List Tm)) (w : World) (h0 : 0 ≤ k) (h5 : k ≤ 5) :
    Calls Tryz.prog 94 #[tv k lo hi s y m o f fl fc] w fun e w' => e = .returned (.int .u64 ((hdN (.mk k lo hi s y m o fs) : Nat) : Int)) ∧ Below w.heap.size w w' := by
  have h8 : (0 : Int) ≤ 8 * k := by omega
  have h9 : 8 * k ≤ 40 := by omega
  have HX : Hid (((hdN (.mk k lo hi s y m o fs) : Nat) : Int) = 8 * k + (b01 m : Nat) + 2 * (b01 y : Nat) + 4 * (b01 o : Nat)) := by
    unfold hdN
    show ((8 * k.toNat + b01 m + 2 * b01 y + 4 * b01 o : Nat) : Int) = _
    omega
  cases m <;> cases y <;> cases o
  all_goals
    go_enter Tryz.func94, Tryz.ntmps94
    go_wp2_with fail
    go_ret
    refine ⟨u8_int ?_, (Below.refl _ _).alloc (Nat.le_refl _) _⟩
    rw [HX.out]
    simp only [b01]
    simp
    try omega
theorem bF1_eq (g : List Tm → List UInt8) (a : ByteArray) (V : List Tm) : bF1 g (a, V) = Vn.txt a ++ g V := rfl
theorem w_new (w : World) (o : Obj) : (w.alloc o).heap[w.heap.size]? = some o := heap_alloc_new w o
def FRel (w0 w : World) (v : Value) (L : List UInt8) (g : List Tm → List UInt8) (fs : List (ByteArray × List Tm)) (k : Nat) (z : Value) (wr : World) : Prop :=
  AIn w0 wr z (L ++ (Vn.nb fs.length ++ (fs.take k).flatMap (bF1 g))) ∧ Gr w wr v z
set_option maxRecDepth 100000 in
set_option maxHeartbeats 4000000 in
theorem appf_any (n : Nat) (ih : ∀ (w0 w : World) (t : Option Addr) (tl tc : Nat) (A : List Tm) (v : Value) (L : List UInt8), InV w0 n t tl tc A → FitV n A → (L ++ bV n A).length ≤ 70368744177664 → AIn w0 w v L → Calls Tryz.prog 57 #[v, .agg #[.slice t tl tc]] w (AppP w0 w v (L ++ bV n A)))
    (w0 w : World) (f : Option Addr) (fl fc : Nat) (fs : List (ByteArray × List Tm)) (v : Value) (L : List UInt8) (hf : InF (fun t tl tc V => InV w0 n t tl tc V) w0 f fl fs) (hfit : FitF (FitV n) fs) (hlen : (L ++ bF (bV n) fs).length ≤ 70368744177664) (hA : AIn w0 w v L) :
    Calls Tryz.prog 97 #[v, .slice f fl fc] w (AppP w0 w v (L ++ bF (bV n) fs)) := by
  obtain ⟨hcount, hmax, hat⟩ := hf
  subst hcount
  have h1000 := hfit.1
  have HAT := Lib.hid hat
  have HFIT := Lib.hid hfit
  have HLEN := Lib.hid hlen
  have HA := Lib.hid hA
  have IH := Lib.hid ih
  have P1 := Vn.put_any none 0 0 fs.length [] w rfl (.inl ⟨rfl, rfl⟩) (fun _ => rfl) (by omega) (by omega)
  rw [List.nil_append] at P1
  have HP1 := Lib.hid P1
  clear hat hfit hlen hA ih P1
  go_enter Tryz.func97, Tryz.ntmps97
  go_wp2_with fail
  go_at_call 93; refine HP1.out.mono ?_; rintro e w1 ⟨a1, c1, rfl, hR1, -, hB1⟩
  have hlen1 : (L ++ Vn.nb fs.length).length ≤ 140737488355328 := by
    have := HLEN.out
    unfold bF at this
    simp only [List.length_append] at this ⊢
    omega
  obtain ⟨v1, w2, hrun, hrow, hgr⟩ := app_bytes c1 (HA.out.step hB1).row hR1 (nb_ne _) hlen1 (HA.out.step hB1).size
  have HR0 : Hid (FRel w0 w v L (bV n) fs 0 v1 w2) := by
    refine ⟨?_, (Gr.of_below v hB1).trans hgr⟩
    have := (HA.out.step hB1).app hgr hrow
    simpa using this
  have HRUN := Lib.hid hrun
  clear hR1 hB1 hlen1 hrun hrow hgr
  go_wp2_with (at_builtin; refine Lib.wpList_append_run _ rfl _ _ _ _ rfl _ _ rfl rfl _ _ HRUN.out ?_)
  clear HRUN HP1
  go_loopw [0, 15] (fun z i wr => ∃ k : Nat, k ≤ fs.length ∧ i = .int .i64 k ∧ Hid (FRel w0 w v L (bV n) fs k z wr)) (fun _ i _ => fs.length - (intOf i).toNat)
  case atStart => exact ⟨0, Nat.zero_le _, rfl, HR0⟩
  case round =>
    clear HR0
    obtain ⟨k, hk, rfl, hrel⟩ := hrel
    rename World => wr
    have HREL := Lib.hid hrel.out
    clear hrel
    by_cases hlt : k < fs.length
    · have hki : (k : Int) < (fs.length : Int) := by omega
      have hk0 : (0 : Int) ≤ (k : Int) := by omega
      obtain ⟨b, off, tl, tc, t, rfl, lt, c0, c1, hV⟩ := HAT.out k hlt
      have c0' := (HREL.out.1.low.cell (p := ⟨b, off + k * 2, none⟩) lt).trans c0
      have c1' := (HREL.out.1.low.cell (p := ⟨b, off + k * 2 + 1, none⟩) lt).trans c1
      have hmem := HFIT.out.2 fs[k] (List.getElem_mem hlt)
      obtain ⟨⟨nm, V⟩, hx⟩ : ∃ x, fs[k] = x := ⟨_, rfl⟩
      rw [hx] at c0' hV hmem
      dsimp only at c0' hV hmem
      have HX := Lib.hid hx
      have HV := Lib.hid hV
      have HM := Lib.hid hmem
      have hnm := hmem.1
      have P2 := Vn.puttext_any none 0 0 nm [] (wr.alloc (.cells #[.string nm, .slice t tl tc] 59)) rfl (.inl ⟨rfl, rfl⟩) (fun _ => rfl) (by omega) (by omega)
      rw [List.nil_append] at P2
      have HP2 := Lib.hid P2
      clear c0 c1 hx hV hmem P2 lt
      go_wp2_with fail
      go_at_call 96; refine HP2.out.mono ?_; rintro e w3 ⟨a3, c3, rfl, hR3, -, hB3⟩
      have hbx : w3.heap[wr.heap.size]? = some (.cells #[.string nm, .slice t tl tc] 59) := (hB3.block _ (by simp)).trans (w_new wr _)
      have hA3 := (HREL.out.1.step (bl_alloc (Below.refl _ wr) (o := .cells #[.string nm, .slice t tl tc] 59))).step hB3
      have hlenk : (L ++ (Vn.nb fs.length ++ (fs.take k).flatMap (bF1 (bV n))) ++ (Vn.txt nm ++ bV n V)).length ≤ 70368744177664 := by
        have h1 := HLEN.out
        have h2 := flat_le (bF1 (bV n)) fs (k + 1)
        rw [flat_take _ _ _ hlt, HX.out] at h2
        unfold bF at h1
        rw [bF1_eq] at h2
        simp only [List.length_append] at h1 h2 ⊢
        omega
      have hlen3 : (L ++ (Vn.nb fs.length ++ (fs.take k).flatMap (bF1 (bV n))) ++ Vn.txt nm).length ≤ 140737488355328 := by
        simp only [List.length_append] at hlenk ⊢
        omega
      obtain ⟨v4, w4, hrun, hrow, hgr⟩ := app_bytes c3 hA3.row hR3 (txt_ne _) hlen3 hA3.size
      have hA4 := hA3.app hgr hrow
      have hbx4 := hgr.other hbx (fun g e => by have := (HREL.out.1.own g e).2; omega)
      have hc4 : w4.cell? ⟨wr.heap.size, 1, none⟩ = some (.slice t tl tc) := by simp [World.cell?, hbx4]
      have HG4 := Lib.hid (((HREL.out.2.trans (Gr.of_below u0 (bl_alloc (Below.refl _ wr) (o := .cells #[.string nm, .slice t tl tc] 59)))).trans (Gr.of_below u0 hB3)).trans hgr)
      have HI := Lib.hid (IH.out w0 w4 t tl tc V v4 _ HV.out HM.out.2 (by rw [List.append_assoc]; exact hlenk) hA4)
      have HA4 := Lib.hid hA4
      have HRUN := Lib.hid hrun
      clear hR3 hB3 hbx hA3 hlenk hlen3 hrun hrow hgr hA4 hbx4
      go_wp2_with (at_builtin; refine Lib.wpList_append_run _ rfl _ _ _ _ rfl _ _ rfl rfl _ _ HRUN.out ?_)
      go_at_call 57; refine HI.out.mono ?_; rintro e w5 ⟨v5, rfl, hrow5, hgr5⟩
      have HN : Hid (FRel w0 w v L (bV n) fs (k + 1) v5 w5) := by
        refine ⟨?_, HG4.out.trans hgr5⟩
        have h5 := HA4.out.app hgr5 hrow5
        rw [flat_take _ _ _ hlt, HX.out]
        rw [bF1_eq]
        simpa [List.append_assoc] using h5
      clear hrow5 hgr5 HRUN HI HP2 c0' c1' hc4
      go_wp2_with fail
      go_roundw
      case rel => exact ⟨k + 1, by omega, by go_num, HN⟩
      case measure => simp [intOf]; omega
    · obtain rfl : k = fs.length := by omega
      clear hlt hk
      go_wp2_with fail
      go_ret
      have h := HREL.out
      unfold FRel at h
      rw [List.take_length] at h
      exact ⟨u0, rfl, h.1.row, h.2⟩
end Go.Proofs.YtddleeenlpigfaaGreatDoor.Ec
