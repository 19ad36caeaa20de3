/- WALKS of dirty's named and changed at files. -/
import Derived.Test.YtngnegnofmpgkaaAc
namespace Go.Proofs.Ytngnegnofmpgkaa.Gr
open Go.RowKit Go.Maps Go.Sort
open Go.Proofs.Ytngnegnofmpgkaa.Nm (StrRow)
abbrev Sr := ByteArray × ByteArray
def sNm (x : Sr) : ByteArray := x.1
/-- A file's value. -/
def agS (c : ByteArray × ByteArray) : Value := .agg #[.string c.1, .string c.2]
noncomputable def RhS (v : Value) : Option (DataW Value × List MemPlace) := @ite _ (∃ c, v = agS c) (Classical.propDecidable _) (some (.held v, [])) none
theorem rhS_yes (c : ByteArray × ByteArray) : RhS (agS c) = some (.held (agS c), []) := @if_pos _ (Classical.propDecidable _) ⟨c, rfl⟩ _ _ _
def VS (v : Value) (x : Sr) : Prop := v = .agg #[.string x.1, .string x.2]
theorem rhS_inv {v : Value} {y : DataW Value × List MemPlace} (h : RhS v = some y) : ∃ c : ByteArray × ByteArray, v = .agg #[.string c.1, .string c.2] :=
  Classical.byContradiction fun h2 => by
    rw [show RhS v = none from @if_neg _ (Classical.propDecidable _) h2 _ _ _] at h
    cases h
theorem rhS_in (v : Value) (y : DataW Value × List MemPlace) (h : RhS v = some y) : y = (.held v, []) := by
  obtain ⟨c, rfl⟩ := rhS_inv h
  have := (rhS_yes c).symm.trans h
  injection this with h
  exact h.symm
theorem rhS_v (v : Value) (x : Sr) (h : VS v x) : RhS v = some (.held v, []) := by
  rw [show v = agS x from h]
  exact rhS_yes x
theorem zeroS (w : World) : (zeroValue 34).run Try.prog w = .ok (.agg #[.string ⟨#[]⟩, .string ⟨#[]⟩]) w := by kernel_rfl
theorem nmS_any (s t : ByteArray) (w : World) : Calls Try.prog 18 #[.agg #[.string s, .string t]] w fun e w' => e = .returned (.string s) ∧ Below w.heap.size w w' := by
  go_enter Try.func18, Try.ntmps18
  go_wp2
  go_ret
  exact ⟨rfl, (Below.refl _ _).alloc (Nat.le_refl _) _⟩
/-- A map of what stands for these is handed back. -/
def NamedS (xs : List Sr) (w : World) (e : Ending) (w' : World) : Prop := ∃ b D, e = .returned (.map (some b)) ∧ w.heap.size ≤ b ∧ VM RhS sNm VS w' b xs.length D xs ∧ Below w.heap.size w w'
set_option maxRecDepth 100000 in
set_option maxHeartbeats 4000000 in
theorem namedS_any (w0 : World) (a : Option Addr) (len cap : Nat) (xs : List Sr) (w : World) (hX : LineRow w0 a len xs) (hl : len ≤ 1000000) (hnd : (xs.map sNm).Nodup) (hB : Below w0.heap.size w0 w) : Calls Try.prog 34 #[.slice a len cap, .func (.func 18) #[] #[]] w (NamedS xs w) := by
  have HX := Lib.hid hX
  have hcx := hX.count
  have HND := Lib.hid hnd
  have HB := Lib.hid hB
  have hmm := @run_makeMap Try.prog
  have HNM := fun s t W => Lib.hid (nmS_any s t W)
  have HV0 := Lib.hid (show VM RhS sNm VS (w.alloc (.map #[] 0)) w.heap.size 0 (.map []) (xs.take 0) from VM.made rhS_in rhS_v w)
  have HB0 := Lib.hid (show Below w.heap.size w (w.alloc (.map #[] 0)) from (Below.refl _ _).alloc (Nat.le_refl _) _)
  clear hX hnd hB
  go_enter Try.func34, Try.ntmps34
  go_upto_region 3 with fail
  go_loopw [11] (fun i wr => ∃ (k : Nat) (D : DataW Value), k ≤ len ∧ i = .int .i64 k ∧ Hid (VM RhS sNm VS wr w.heap.size k D (xs.take k)) ∧ Hid (Below w.heap.size w wr)) (fun i _ => len - (intOf i).toNat)
  case atStart => exact ⟨0, _, by omega, rfl, HV0, HB0⟩
  case round =>
    obtain ⟨k, D, hk, rfl, hO, hBr⟩ := hrel
    rename World => wr
    have HV := Lib.hid hO.out
    have HR := Lib.hid hBr.out
    have HRZ := Lib.hid hBr.out.size
    clear hO hBr HV0 HB0
    by_cases hlt : k < len
    · obtain ⟨b0, off, rfl, hb, hc⟩ := HX.out.at_ (by omega)
      obtain ⟨x, hx⟩ : ∃ x, xs[k]? = some x := ⟨xs[k]'(by rw [hcx]; exact hlt), List.getElem?_eq_getElem _⟩
      have hb0 := HB.out.trans (HR.out.mono HB.out.size)
      have c0 : wr.cell? ⟨b0, off + k * 2, none⟩ = some (.string x.1) := (hb0.cell (p := ⟨b0, off + k * 2, none⟩) hb).trans (hc k x hx).1
      have c1 : wr.cell? ⟨b0, off + k * 2 + 1, none⟩ = some (.string x.2) := (hb0.cell (p := ⟨b0, off + k * 2 + 1, none⟩) hb).trans (hc k x hx).2
      have hok : okS x.1 := (HX.out.each k x hx).1
      have HVX := Lib.hid (show VS (.agg #[.string x.1, .string x.2]) x from rfl)
      clear hb0
      have HNI := Lib.hid (show sNm x ∉ (xs.take k).map sNm from fun hm => by
        have h1 := map_at sNm hx
        have h2 : ((xs.take (k + 1)).map sNm).Nodup := HND.out.sublist ((List.take_sublist _ _).map _)
        rw [h1] at h2
        exact (List.nodup_append.1 h2).2.2 _ hm _ (List.mem_singleton.2 rfl) rfl)
      have HTK := Lib.hid (show xs.take k ++ [x] = xs.take (k + 1) by
        obtain ⟨h1, h2⟩ := List.getElem?_eq_some_iff.1 hx
        rw [List.take_succ_eq_append_getElem h1, h2])
      have HOK := Lib.hid hok
      obtain ⟨nm, hnm⟩ : ∃ nm, x.1 = nm := ⟨_, rfl⟩
      obtain ⟨tx, htx⟩ : ∃ tx, x.2 = tx := ⟨_, rfl⟩
      have HNE := Lib.hid (show sNm x = nm from hnm)
      rw [hnm, htx] at HVX
      rw [hnm] at c0
      rw [htx] at c1
      obtain ⟨W5, hW5⟩ : ∃ W5, W5 = wr.alloc (.cells #[.string nm, .string tx] 34) := ⟨_, rfl⟩
      have d5 : W5.heap[wr.heap.size]? = some (.cells #[.string nm, .string tx] 34) := by rw [hW5]; exact World.alloc_heap_new _ _
      have k0 : W5.cell? ⟨wr.heap.size, 0, none⟩ = some (.string nm) := by simp [World.cell?, d5]
      have k1 : W5.cell? ⟨wr.heap.size, 1, none⟩ = some (.string tx) := by simp [World.cell?, d5]
      have hl5 : wr.heap.size < W5.heap.size := by rw [hW5]; simp
      have HB5 := Lib.hid (show Below w.heap.size w W5 by rw [hW5]; exact HR.out.alloc HRZ.out _)
      have HV5 := Lib.hid (show VM RhS sNm VS W5 w.heap.size k D (xs.take k) by rw [hW5]; exact HV.out.below ((Below.refl _ _).alloc (Nat.le_refl _) _))
      have HNW := Lib.hid (show some wr.heap.size ≠ some w.heap.size from fun e => by injection e with e; have := HV.out.own.lt; omega)
      have HK := Lib.hid (And.intro k0 k1)
      have HL5 := Lib.hid hl5
      have HW5 := Lib.hid hW5
      clear d5 hl5 hx hc hb hok hnm htx HX HND
      go_upto_region 5 with fail
      rw [← HW5.out]
      clear hW5
      go_region_held3 (fun w' => w'.cell? ⟨wr.heap.size, 0, none⟩ = some (.string nm) ∧ w'.cell? ⟨wr.heap.size, 1, none⟩ = some (.string tx))
        (first | exact ⟨k0, k1⟩ | exact CK.out | exact CK3.out)
        (first
          | (go_at_call 18; (with_reducible refine (HNM _ _ _).out.mono ?_); rintro e w2 ⟨rfl, hB2⟩
             have hq : Below W5.heap.size W5 w2 := ⟨hB2.os, hB2.tape, hB2.output, hB2.size, hB2.block⟩
             have CK := Lib.hid (And.intro ((hq.cell (p := ⟨wr.heap.size, 0, none⟩) HL5.out).trans HK.out.1) ((hq.cell (p := ⟨wr.heap.size, 1, none⟩) HL5.out).trans HK.out.2))
             obtain ⟨w3, D3, hrun, hV3, hg3⟩ := (HV5.out.below hq).put (T := 57) (E := 34) Try.underlying57 (x := x) (v := .agg #[.string nm, .string tx]) HOK.out HNI.out HVX.out (by omega)
             rw [HNE.out] at hrun
             have CK3 := Lib.hid (And.intro (hg3.cell CK.out.1 HNW.out) (hg3.cell CK.out.2 HNW.out))
             have HV3 := Lib.hid hV3
             have HB3 := Lib.hid (below_of hg3 (Nat.le_trans HB5.out.size hq.size) (Nat.le_refl _))
             have HB2 := Lib.hid (HB5.out.trans (hq.mono HB5.out.size))
             clear hV3 hg3 hB2 hq))
      go_wp2
      go_roundw
      case rel => exact ⟨k + 1, D3, by omega, by go_num, by rw [← HTK.out]; exact HV3, Lib.hid (HB2.out.trans HB3.out)⟩
      case measure => simp [intOf]; omega
    · have hki : ¬ (k : Int) < (len : Int) := by omega
      obtain rfl : k = len := by omega
      have HE := Lib.hid (show xs.take k = xs from List.take_of_length_le (by omega))
      go_wp2
      go_ret
      have hv := HV.out
      rw [HE.out] at hv
      exact ⟨_, D, rfl, Nat.le_refl _, by rw [hcx]; exact hv, HR.out⟩
end Go.Proofs.Ytngnegnofmpgkaa.Gr
