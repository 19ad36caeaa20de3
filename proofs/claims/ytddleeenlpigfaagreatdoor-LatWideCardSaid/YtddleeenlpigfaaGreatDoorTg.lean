/- WALK of the reference's first. -/
import Derived.Test.YtddleeenlpigfaaGreatDoorTc
namespace Go.Proofs.YtddleeenlpigfaaGreatDoor
open Go.RowKit
theorem foN_snoc {last : ByteArray} {fs : List Fd} {k : Nat} (hk : k < fs.length) (o : ByteArray) : foN last (fs.take (k + 1)) o = stN last fs[k].1 (foN last (fs.take k) o) := by
  unfold foN
  rw [List.take_succ_eq_append_getElem hk, List.foldl_append]; rfl
set_option maxRecDepth 100000 in
set_option maxHeartbeats 8000000 in
theorem rfirst_any (I : Option Addr → Nat → Nat → List Tm → Prop) (w : World) (f1 : Option Addr) (fl1 fc1 : Nat) (fs : List Fd) (f2 : Option Addr) (fl2 fc2 : Nat) (gs : List Fd) (last : ByteArray) (hF : InF I w f1 fl1 fs) (hG : InF I w f2 fl2 gs) :
    Calls Tryz.prog 119 #[.slice f1 fl1 fc1, .slice f2 fl2 fc2, .string last] w fun e w' => e = .returned (.string (firstN fs gs last)) ∧ Below w.heap.size w w' := by
  obtain rfl : fs.length = fl1 := hF.1
  obtain rfl : gs.length = fl2 := hG.1
  have H1 := Lib.hid hF.2.2
  have H2 := Lib.hid hG.2.2
  have m1 := hF.2.1
  have m2 := hG.2.1
  clear hF hG
  go_enter Tryz.func119, Tryz.ntmps119
  go_wp2_with fail
  go_loopw [7, 8] (fun o i wr => ∃ (k : Nat) (c : ByteArray), k ≤ fs.length ∧ i = .int .i64 k ∧ o = .string c ∧ Hid (c = foN last (fs.take k) ⟨#[]⟩) ∧ Hid (Below w.heap.size w wr)) (fun _ i _ => fs.length - (intOf i).toNat)
  case atStart => exact ⟨0, ⟨#[]⟩, Nat.zero_le _, rfl, rfl, Lib.hid rfl, Lib.hid (Below.refl _ _)⟩
  case round =>
    obtain ⟨k, c, hk, rfl, rfl, hC, hB⟩ := hrel
    rename World => wr
    by_cases hlt : k < fs.length
    · have hki : (k : Int) < (fs.length : Int) := by omega
      have hk0 : (0 : Int) ≤ (k : Int) := by omega
      obtain ⟨b2, off2, tl2, tc2, t2, rfl, lt2, d0, d1, i2⟩ := H1.out k hlt
      have d0' := (hB.out.cell (p := ⟨b2, off2 + k * 2, none⟩) lt2).trans d0
      have HS : Hid (stN last fs[k].1 c = foN last (fs.take (k + 1)) ⟨#[]⟩) := Lib.hid (by rw [hC.out, foN_snoc hlt])
      clear d0 d1 i2 lt2
      generalize fs[k].1 = nm at *
      have HSY : Hid (lsN last nm = true → (c.toList = [] ∨ lsN nm c = true) → nm = foN last (fs.take (k + 1)) ⟨#[]⟩) := Lib.hid fun h1 h2 => by
        rw [← HS.out]; unfold stN; rw [h1, if_pos]
        rcases h2 with h2 | h2
        · rw [h2]; rfl
        · rw [h2]; simp
      have HSN : Hid ((lsN last nm = false ∨ (¬ c.toList = [] ∧ lsN nm c = false)) → c = foN last (fs.take (k + 1)) ⟨#[]⟩) := Lib.hid fun h => by
        rw [← HS.out]; unfold stN; rw [if_neg]
        rcases h with h | ⟨h1, h2⟩
        · rw [h]; simp
        · rw [h2]; simp [h1]
      by_cases c1 : Op.bytesLess last.toList nm.toList = true
      · have a1 : Op.bytesLess nm.toList last.toList = false := lt_asym c1
        have a2 : ¬ nm.toList = last.toList := fun e => by rw [e, less_irrefl] at c1; exact absurd c1 (by decide)
        have a3 : (nm.toList == last.toList) = false := by simpa using a2
        have C1 := Lib.hid c1
        clear c1
        by_cases c2 : c.toList = []
        · have HQ := Lib.hid (HSY.out C1.out (.inl c2))
          go_wp2_with fail
          go_roundw
          case rel => exact ⟨k + 1, nm, by omega, by go_num, rfl, HQ, hB⟩
          case measure => simp [intOf]; omega
        · have e2 : c.toList.isEmpty = false := by simpa using c2
          have e3 : (c.toList == []) = false := by simpa using c2
          cases c3 : Op.bytesLess nm.toList c.toList
          · have HQ := Lib.hid (HSN.out (.inr ⟨c2, c3⟩))
            go_wp2_with fail
            go_roundw
            case rel => exact ⟨k + 1, c, by omega, by go_num, rfl, HQ, hB⟩
            case measure => simp [intOf]; omega
          · have HQ := Lib.hid (HSY.out C1.out (.inr c3))
            go_wp2_with fail
            go_roundw
            case rel => exact ⟨k + 1, nm, by omega, by go_num, rfl, HQ, hB⟩
            case measure => simp [intOf]; omega
      · have HQ := Lib.hid (HSN.out (.inl (by simpa using c1)))
        by_cases a2 : nm.toList = last.toList
        · have a3 : (nm.toList == last.toList) = true := by simpa using a2
          clear c1
          go_wp2_with fail
          go_roundw
          case rel => exact ⟨k + 1, c, by omega, by go_num, rfl, HQ, hB⟩
          case measure => simp [intOf]; omega
        · have a1 : Op.bytesLess nm.toList last.toList = true := lt_or (by simpa using c1) (fun e => a2 e.symm)
          clear c1
          go_wp2_with fail
          go_roundw
          case rel => exact ⟨k + 1, c, by omega, by go_num, rfl, HQ, hB⟩
          case measure => simp [intOf]; omega
    · have ek : k = fs.length := by omega
      subst ek
      have hC' := hC.out
      rw [List.take_length] at hC'
      have HC0 := Lib.hid hC'
      clear hC' hC
      go_wp2_with fail
      go_loopw [7, 9] (fun o i wr => ∃ (k : Nat) (c : ByteArray), k ≤ gs.length ∧ i = .int .i64 k ∧ o = .string c ∧ Hid (c = foN last (gs.take k) (foN last fs ⟨#[]⟩)) ∧ Hid (Below w.heap.size w wr)) (fun _ i _ => gs.length - (intOf i).toNat)
      case atStart => exact ⟨0, c, Nat.zero_le _, rfl, rfl, HC0, hB⟩
      case round =>
        clear HC0 hB
        obtain ⟨k, c, hk, rfl, rfl, hC, hB⟩ := hrel
        rename World => wr
        by_cases hlt : k < gs.length
        · have hki : (k : Int) < (gs.length : Int) := by omega
          have hk0 : (0 : Int) ≤ (k : Int) := by omega
          obtain ⟨b2, off2, tl2, tc2, t2, rfl, lt2, d0, d1, i2⟩ := H2.out k hlt
          have d0' := (hB.out.cell (p := ⟨b2, off2 + k * 2, none⟩) lt2).trans d0
          have HS : Hid (stN last gs[k].1 c = foN last (gs.take (k + 1)) (foN last fs ⟨#[]⟩)) := Lib.hid (by rw [hC.out, foN_snoc hlt])
          clear d0 d1 i2 lt2
          generalize gs[k].1 = nm at *
          have HSY : Hid (lsN last nm = true → (c.toList = [] ∨ lsN nm c = true) → nm = foN last (gs.take (k + 1)) (foN last fs ⟨#[]⟩)) := Lib.hid fun h1 h2 => by
            rw [← HS.out]; unfold stN; rw [h1, if_pos]
            rcases h2 with h2 | h2
            · rw [h2]; rfl
            · rw [h2]; simp
          have HSN : Hid ((lsN last nm = false ∨ (¬ c.toList = [] ∧ lsN nm c = false)) → c = foN last (gs.take (k + 1)) (foN last fs ⟨#[]⟩)) := Lib.hid fun h => by
            rw [← HS.out]; unfold stN; rw [if_neg]
            rcases h with h | ⟨h1, h2⟩
            · rw [h]; simp
            · rw [h2]; simp [h1]
          by_cases c1 : Op.bytesLess last.toList nm.toList = true
          · have a1 : Op.bytesLess nm.toList last.toList = false := lt_asym c1
            have a2 : ¬ nm.toList = last.toList := fun e => by rw [e, less_irrefl] at c1; exact absurd c1 (by decide)
            have a3 : (nm.toList == last.toList) = false := by simpa using a2
            have C1 := Lib.hid c1
            clear c1
            by_cases c2 : c.toList = []
            · have HQ := Lib.hid (HSY.out C1.out (.inl c2))
              go_wp2_with fail
              go_roundw
              case rel => exact ⟨k + 1, nm, by omega, by go_num, rfl, HQ, hB⟩
              case measure => simp [intOf]; omega
            · have e2 : c.toList.isEmpty = false := by simpa using c2
              have e3 : (c.toList == []) = false := by simpa using c2
              cases c3 : Op.bytesLess nm.toList c.toList
              · have HQ := Lib.hid (HSN.out (.inr ⟨c2, c3⟩))
                go_wp2_with fail
                go_roundw
                case rel => exact ⟨k + 1, c, by omega, by go_num, rfl, HQ, hB⟩
                case measure => simp [intOf]; omega
              · have HQ := Lib.hid (HSY.out C1.out (.inr c3))
                go_wp2_with fail
                go_roundw
                case rel => exact ⟨k + 1, nm, by omega, by go_num, rfl, HQ, hB⟩
                case measure => simp [intOf]; omega
          · have HQ := Lib.hid (HSN.out (.inl (by simpa using c1)))
            by_cases a2 : nm.toList = last.toList
            · have a3 : (nm.toList == last.toList) = true := by simpa using a2
              clear c1
              go_wp2_with fail
              go_roundw
              case rel => exact ⟨k + 1, c, by omega, by go_num, rfl, HQ, hB⟩
              case measure => simp [intOf]; omega
            · have a1 : Op.bytesLess nm.toList last.toList = true := lt_or (by simpa using c1) (fun e => a2 e.symm)
              clear c1
              go_wp2_with fail
              go_roundw
              case rel => exact ⟨k + 1, c, by omega, by go_num, rfl, HQ, hB⟩
              case measure => simp [intOf]; omega
        · have ek : k = gs.length := by omega
          subst ek
          have hC' := hC.out
          rw [List.take_length] at hC'
          have HC0 := Lib.hid hC'
          clear hC' hC
          go_wp2_with fail
          go_ret
          exact ⟨by rw [HC0.out]; rfl, hB.out⟩
end Go.Proofs.YtddleeenlpigfaaGreatDoor
