/- WALKS of crc.Seal, strings.Clone, crc.Open, of the reference's Open, of the page's examples. -/
import Derived.Test.YtnejahfeafllkaaD
import Derived.Test.YtnejahfeafllkaaShelf
import Derived.Deep.QuietTactic
import Derived.BigQuiet
import Derived.Deep.RegionWith
import Derived.IntWalk
namespace Go.Proofs.Ytnejahfeafllkaa
open Go.RowKit
set_option maxHeartbeats 1000000 in
theorem Seal_any (s : ByteArray) (w : World) (hs : s.size ≤ 140737488355328) : Calls Try.prog 38 #[.string s] w fun e w' => e = .returned (.string (s ++ markS s)) ∧ Below w.heap.size w w' := by
  have hm := markS_size s
  have HO := Lib.hid (seal_of s w hs)
  generalize markS s = t at *
  go_enter Try.func38, Try.ntmps38
  go_wp2_with (go_at_call 63; refine HO.out.mono ?_; rintro e w1 ⟨rfl, hB⟩; have HB := Lib.hid hB; clear hB)
  go_ret
  exact ⟨rfl, HB.out⟩
set_option maxHeartbeats 1000000 in
theorem clone_any (s : ByteArray) (w : World) (hs : s.size ≤ 140737488355328) : Calls Try.prog 68 #[.string s] w fun e w' => e = .returned (.string s) ∧ Below w.heap.size w w' := by
  go_enter Try.func68, Try.ntmps68
  go_wp2_with (go_at_call 99; refine (Try.stringslite_Clone _ _ (by omega)).mono ?_; rintro e w1 ⟨rfl, hB⟩; have HB := Lib.hid hB; clear hB)
  go_ret
  exact ⟨rfl, HB.out⟩
def frontS (s : ByteArray) : ByteArray := s.extract 0 (s.size - 4)
def tailS (s : ByteArray) : ByteArray := s.extract (s.size - 4) s.size
/-- What Open tells. -/
def opn (s : ByteArray) : ByteArray × Int := if s.size < 4 then (⟨#[]⟩, 3) else if markS (frontS s) = tailS s then (frontS s, 0) else (⟨#[]⟩, 7)
theorem ba_eq {a b : ByteArray} (h : a.toList = b.toList) : a = b := by
  rw [Lib.toList_data, Lib.toList_data] at h
  exact ByteArray.ext (Array.toList_inj.1 h)
theorem opn_ne {s mk : ByteArray} (h4 : ¬ s.size < 4) (hm : markS (frontS s) = mk) (h : (!mk.toList == (s.extract (s.size - 4) s.size).toList) = true) : opn s = (⟨#[]⟩, 7) := by
  unfold opn
  rw [if_neg h4, hm, if_neg]
  intro e
  rw [show s.extract (s.size - 4) s.size = mk from e.symm] at h
  simp at h
theorem opn_eq {s mk : ByteArray} (h4 : ¬ s.size < 4) (hm : markS (frontS s) = mk) (h : (!mk.toList == (s.extract (s.size - 4) s.size).toList) = false) : opn s = (frontS s, 0) := by
  unfold opn
  rw [if_neg h4, hm, if_pos]
  exact ba_eq (by unfold tailS; simpa using h)
theorem ret_open {a : ByteArray} {n : Int} {p : ByteArray × Int} (h : p = (a, n)) : Ending.returned (.tuple #[.string a, .int .i64 n]) = .returned (.tuple #[.string p.1, .int .i64 p.2]) := by rw [h]
set_option maxHeartbeats 1000000 in
theorem open_any (s : ByteArray) (w : World) (hs : s.size ≤ 140737488355328) : Calls Try.prog 44 #[.string s] w fun e w' => e = .returned (.tuple #[.string (opn s).1, .int .i64 (opn s).2]) ∧ Below w.heap.size w w' := by
  by_cases h4 : s.size < 4
  · have e : opn s = (⟨#[]⟩, 3) := by unfold opn; rw [if_pos h4]
    rw [e]
    go_enter Try.func44, Try.ntmps44
    go_wp2
    go_ret2
    exact ⟨rfl, Below.refl _ _⟩
  · go_enter Try.func44, Try.ntmps44
    go_wp2
    have hfs : (s.extract 0 (s.size - 4)).size = s.size - 4 := by simp
    have HO := fun w => Lib.hid (seal_of (s.extract 0 (s.size - 4)) w (by omega))
    have HT := Lib.hid (show ∀ f : ByteArray, f.size = s.size - 4 → s.extract f.size s.size = tailS s from fun f h => by rw [h]; rfl)
    have HF := Lib.hid (show frontS s = s.extract 0 (s.size - 4) from rfl)
    have HC := fun w => Lib.hid (clone_any (s.extract 0 (s.size - 4)) w (by omega))
    have HM := Lib.hid (show markS (frontS s) = markS (s.extract 0 (s.size - 4)) from rfl)
    generalize s.extract 0 (s.size - 4) = f at *
    generalize markS f = mk at *
    go_region_with ((go_at_call 63; refine (HO _).out.mono ?_; rintro e w1 ⟨rfl, hB⟩; have HB := Lib.hid hB; clear hB))
    all_goals go_wp2_with (go_at_call 68; refine (HC _).out.mono ?_; rintro e w2 ⟨rfl, hB2⟩; have HB2 := Lib.hid hB2; have HZ := Lib.hid (HB.out.size); clear hB2)
    · go_ret2
      exact ⟨ret_open (opn_ne h4 HM.out ‹_›), (Below.refl _ w).drew.trans HB.out⟩
    · go_ret2
      refine ⟨ret_open ((opn_eq h4 HM.out ‹_›).trans (by rw [HF.out])), ((Below.refl _ w).drew.trans HB.out).trans (HB2.out.mono HZ.out)⟩
theorem of_two (w : World) : Calls Try.prog 97 #[.slice (some ⟨w.heap.size, 0, none⟩) 2 2] (w.alloc (.cells #[.string ⟨#[49, 50, 51, 52]⟩, .string ⟨#[53, 54, 55, 56, 57]⟩] 9)) fun e w' => e = .returned (.int .u32 3808858755) ∧ Below w.heap.size w w' := by
  have hS : StrRow (w.alloc (.cells #[.string ⟨#[49, 50, 51, 52]⟩, .string ⟨#[53, 54, 55, 56, 57]⟩] 9)) (some ⟨w.heap.size, 0, none⟩) 2 [⟨#[49, 50, 51, 52]⟩, ⟨#[53, 54, 55, 56, 57]⟩] :=
    ⟨rfl, by decide, fun i x h => by
      match i, h with
      | 0, h => simp at h; subst h; decide
      | 1, h => simp at h; subst h; decide, fun _ => ⟨w.heap.size, 0, rfl, by simp, fun i x h => by
      rw [cell_of_row _ _ _ _ 9 (0, 0) (heap_alloc_new w _)]
      match i, h with
      | 0, h => simp at h; subst h; rfl
      | 1, h => simp at h; subst h; rfl⟩⟩
  refine (of_row _ 2 2 _ _ hS).mono fun e w' ⟨he, hb⟩ => ⟨?_, ((Below.refl _ w).alloc (Nat.le_refl _) _).trans (hb.mono (by simp))⟩
  rw [he]
  exact ret_int (by decide +kernel)
theorem of_none (w : World) : Calls Try.prog 97 #[.slice none 0 0] w fun e w' => e = .returned (.int .u32 0) ∧ Below w.heap.size w w' := by
  refine (of_row none 0 0 [] w ⟨rfl, by decide, fun i x h => by simp at h, fun h => absurd h (by omega)⟩).mono fun e w' ⟨he, hb⟩ => ⟨?_, hb⟩
  rw [he]
  exact ret_int (by decide +kernel)
end Go.Proofs.Ytnejahfeafllkaa
