/- WALKS of dirty's named at nodes, and of what it is handed. -/
import Derived.Test.YtngnegnofmpgkaaAa
import Derived.Test.YtngnegnofmpgkaaZ13
import Derived.Deep.RegionHeld3
namespace Go.Proofs.Ytngnegnofmpgkaa.Gr
open Go.RowKit Go.Maps Go.Sort
open Go.Proofs.Ytngnegnofmpgkaa.Nm (StrRow)
/-- A node's value. -/
def agN (c : ByteArray × Bool × Option Addr × Nat × Nat) : Value := .agg #[.string c.1, .bool c.2.1, .slice c.2.2.1 c.2.2.2.1 c.2.2.2.2]
/-- It reads as itself. -/
noncomputable def RhN (v : Value) : Option (DataW Value × List MemPlace) := @ite _ (∃ c, v = agN c) (Classical.propDecidable _) (some (.held v, [])) none
theorem rhN_yes (c : ByteArray × Bool × Option Addr × Nat × Nat) : RhN (agN c) = some (.held (agN c), []) := @if_pos _ (Classical.propDecidable _) ⟨c, rfl⟩ _ _ _
/-- What stands for a node. -/
def VN (w0 : World) (n : Nat) (v : Value) (x : Nd) : Prop := ∃ a dl dc, v = .agg #[.string x.name, .bool x.res, .slice a dl dc] ∧ InKs (InX w0 n) w0 a dl x.defs
theorem rhN_inv {v : Value} {y : DataW Value × List MemPlace} (h : RhN v = some y) : ∃ c : ByteArray × Bool × Option Addr × Nat × Nat, v = .agg #[.string c.1, .bool c.2.1, .slice c.2.2.1 c.2.2.2.1 c.2.2.2.2] :=
  Classical.byContradiction fun h2 => by
    rw [show RhN v = none from @if_neg _ (Classical.propDecidable _) h2 _ _ _] at h
    cases h
theorem rhN_in (v : Value) (y : DataW Value × List MemPlace) (h : RhN v = some y) : y = (.held v, []) := by
  obtain ⟨c, rfl⟩ := rhN_inv h
  have := (rhN_yes c).symm.trans h
  injection this with h
  exact h.symm
theorem rhN_v (w0 : World) (n : Nat) (v : Value) (x : Nd) (h : VN w0 n v x) : RhN v = some (.held v, []) := by
  obtain ⟨a, dl, dc, rfl, -⟩ := h
  exact rhN_yes ⟨x.name, x.res, a, dl, dc⟩
theorem zeroN (w : World) : (zeroValue 40).run Try.prog w = .ok (.agg #[.string ⟨#[]⟩, .bool false, .slice none 0 0]) w := by kernel_rfl
theorem nmN_any (s : ByteArray) (rs : Bool) (a : Option Addr) (dl dc : Nat) (w : World) : Calls Try.prog 26 #[.agg #[.string s, .bool rs, .slice a dl dc]] w fun e w' => e = .returned (.string s) ∧ Below w.heap.size w w' := by
  go_enter Try.func26, Try.ntmps26
  go_wp2
  go_ret
  exact ⟨rfl, (Below.refl _ _).alloc (Nat.le_refl _) _⟩
/-- A map of what stands for these is handed back. -/
def NamedN (w0 : World) (n : Nat) (xs : List Nd) (w : World) (e : Ending) (w' : World) : Prop := ∃ b D, e = .returned (.map (some b)) ∧ w.heap.size ≤ b ∧ VM RhN Nd.name (VN w0 n) w' b xs.length D xs ∧ Below w.heap.size w w'
set_option maxRecDepth 100000 in
set_option maxHeartbeats 4000000 in
theorem namedN_any (w0 : World) (a : Option Addr) (len cap n : Nat) (xs : List Nd) (w : World) (hX : NodeRow w0 n a len xs) (hl : len ≤ 1000000) (hnd : (xs.map Nd.name).Nodup) (hB : Below w0.heap.size w0 w) : Calls Try.prog 41 #[.slice a len cap, .func (.func 26) #[] #[]] w (NamedN w0 n xs w) := by
  have HX := Lib.hid hX
  have hcx := hX.count
  have HND := Lib.hid hnd
  have HB := Lib.hid hB
  have hmm := @run_makeMap Try.prog
  have HNM := fun s rs a dl dc W => Lib.hid (nmN_any s rs a dl dc W)
  have HV0 := Lib.hid (show VM RhN Nd.name (VN w0 n) (w.alloc (.map #[] 0)) w.heap.size 0 (.map []) (xs.take 0) from VM.made rhN_in (rhN_v w0 n) w)
  have HB0 := Lib.hid (show Below w.heap.size w (w.alloc (.map #[] 0)) from (Below.refl _ _).alloc (Nat.le_refl _) _)
  clear hX hnd hB
  go_enter Try.func41, Try.ntmps41
  go_upto_region 3 with fail
  go_loopw [11] (fun i wr => ∃ (k : Nat) (D : DataW Value), k ≤ len ∧ i = .int .i64 k ∧ Hid (VM RhN Nd.name (VN w0 n) wr w.heap.size k D (xs.take k)) ∧ Hid (Below w.heap.size w wr)) (fun i _ => len - (intOf i).toNat)
  case atStart => exact ⟨0, _, by omega, rfl, HV0, HB0⟩
  case round =>
    obtain ⟨k, D, hk, rfl, hO, hBr⟩ := hrel
    rename World => wr
    have HV := Lib.hid hO.out
    have HR := Lib.hid hBr.out
    have HRZ := Lib.hid hBr.out.size
    clear hO hBr HV0 HB0
    by_cases hlt : k < len
    · obtain ⟨b0, off, rfl, hb, hc⟩ := HX.out.at_ (by omega)
      obtain ⟨x, hx⟩ : ∃ x, xs[k]? = some x := ⟨xs[k]'(by rw [hcx]; exact hlt), List.getElem?_eq_getElem _⟩
      obtain ⟨a', dl, dc, hN⟩ := hc k x hx
      obtain ⟨c0, c1, c2, hok, -⟩ := hN.below (HB.out.trans (HR.out.mono HB.out.size)) hb
      have HVX := Lib.hid (show VN w0 n (.agg #[.string x.name, .bool x.res, .slice a' dl dc]) x from ⟨a', dl, dc, rfl, hN.ds⟩)
      have HNI := Lib.hid (show x.name ∉ (xs.take k).map Nd.name from fun hm => by
        have h1 := map_at Nd.name hx
        have h2 : ((xs.take (k + 1)).map Nd.name).Nodup := HND.out.sublist ((List.take_sublist _ _).map _)
        rw [h1] at h2
        exact (List.nodup_append.1 h2).2.2 _ hm _ (List.mem_singleton.2 rfl) rfl)
      have HTK := Lib.hid (show xs.take k ++ [x] = xs.take (k + 1) by
        obtain ⟨h1, h2⟩ := List.getElem?_eq_some_iff.1 hx
        rw [List.take_succ_eq_append_getElem h1, h2])
      have HOK := Lib.hid hok
      obtain ⟨nm, hnm⟩ : ∃ nm, x.name = nm := ⟨_, rfl⟩
      obtain ⟨rs, hrs⟩ : ∃ rs, x.res = rs := ⟨_, rfl⟩
      have HNE := Lib.hid hnm
      rw [hnm, hrs] at HVX
      rw [hnm] at c0
      rw [hrs] at c1
      obtain ⟨W5, hW5⟩ : ∃ W5, W5 = wr.alloc (.cells #[.string nm, .bool rs, .slice a' dl dc] 40) := ⟨_, rfl⟩
      have d5 : W5.heap[wr.heap.size]? = some (.cells #[.string nm, .bool rs, .slice a' dl dc] 40) := by rw [hW5]; exact World.alloc_heap_new _ _
      have k0 : W5.cell? ⟨wr.heap.size, 0, none⟩ = some (.string nm) := by simp [World.cell?, d5]
      have k1 : W5.cell? ⟨wr.heap.size, 1, none⟩ = some (.bool rs) := by simp [World.cell?, d5]
      have k2 : W5.cell? ⟨wr.heap.size, 2, none⟩ = some (.slice a' dl dc) := by simp [World.cell?, d5]
      have hl5 : wr.heap.size < W5.heap.size := by rw [hW5]; simp
      have HB5 := Lib.hid (show Below w.heap.size w W5 by rw [hW5]; exact HR.out.alloc HRZ.out _)
      have HV5 := Lib.hid (show VM RhN Nd.name (VN w0 n) W5 w.heap.size k D (xs.take k) by rw [hW5]; exact HV.out.below ((Below.refl _ _).alloc (Nat.le_refl _) _))
      have HNW := Lib.hid (show some wr.heap.size ≠ some w.heap.size from fun e => by injection e with e; have := HV.out.own.lt; omega)
      have HK := Lib.hid (And.intro k0 (And.intro k1 k2))
      have HL5 := Lib.hid hl5
      have HW5 := Lib.hid hW5
      clear d5 hl5 hx hc hb hN hok hnm hrs HX HND
      go_upto_region 5 with fail
      rw [← HW5.out]
      clear hW5
      go_region_held3 (fun w' => w'.cell? ⟨wr.heap.size, 0, none⟩ = some (.string nm) ∧ w'.cell? ⟨wr.heap.size, 1, none⟩ = some (.bool rs) ∧ w'.cell? ⟨wr.heap.size, 2, none⟩ = some (.slice a' dl dc))
        (first | exact ⟨k0, k1, k2⟩ | exact CK.out | exact CK3.out)
        (first
          | (go_at_call 26; (with_reducible refine (HNM _ _ _ _ _ _).out.mono ?_); rintro e w2 ⟨rfl, hB2⟩
             have hq : Below W5.heap.size W5 w2 := ⟨hB2.os, hB2.tape, hB2.output, hB2.size, hB2.block⟩
             have CK := Lib.hid (And.intro ((hq.cell (p := ⟨wr.heap.size, 0, none⟩) HL5.out).trans HK.out.1) (And.intro ((hq.cell (p := ⟨wr.heap.size, 1, none⟩) HL5.out).trans HK.out.2.1) ((hq.cell (p := ⟨wr.heap.size, 2, none⟩) HL5.out).trans HK.out.2.2)))
             obtain ⟨w3, D3, hrun, hV3, hg3⟩ := (HV5.out.below hq).put (T := 64) (E := 40) Try.underlying64 (x := x) (v := .agg #[.string nm, .bool rs, .slice a' dl dc]) HOK.out HNI.out HVX.out (by omega)
             rw [HNE.out] at hrun
             have CK3 := Lib.hid (And.intro (hg3.cell CK.out.1 HNW.out) (And.intro (hg3.cell CK.out.2.1 HNW.out) (hg3.cell CK.out.2.2 HNW.out)))
             have HV3 := Lib.hid hV3
             have HB3 := Lib.hid (below_of hg3 (Nat.le_trans HB5.out.size hq.size) (Nat.le_refl _))
             have HB2 := Lib.hid (HB5.out.trans (hq.mono HB5.out.size))
             clear hV3 hg3 hB2 hq))
      go_wp2
      go_roundw
      case rel => exact ⟨k + 1, D3, by omega, by go_num, by rw [← HTK.out]; exact HV3, Lib.hid (HB2.out.trans HB3.out)⟩
      case measure => simp [intOf]; omega
    · have hki : ¬ (k : Int) < (len : Int) := by omega
      obtain rfl : k = len := by omega
      have HE := Lib.hid (show xs.take k = xs from List.take_of_length_le (by omega))
      go_wp2
      go_ret
      have hv := HV.out
      rw [HE.out] at hv
      exact ⟨_, D, rfl, Nat.le_refl _, by rw [hcx]; exact hv, HR.out⟩
end Go.Proofs.Ytngnegnofmpgkaa.Gr
