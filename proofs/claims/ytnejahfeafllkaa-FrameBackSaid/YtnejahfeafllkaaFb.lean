/- WALKS of frame.Put, of the reference's Of. -/
import Derived.Test.YtnejahfeafllkaaFa
namespace Go.Proofs.Ytnejahfeafllkaa
open Go.RowKit
theorem rfr_size (s : ByteArray) (hs : s.size ≤ 70368744177000) : (rfr s).size ≤ s.size + 11 := by
  unfold rfr txtS
  rw [ByteArray.size_append, ByteArray.size_append]
  have := numS_size s.size (by omega)
  have h1 : (⟨#[165]⟩ : ByteArray).size = 1 := rfl
  omega
theorem rfr_is (s : ByteArray) : (⟨([165] ++ txt s).toArray⟩ : ByteArray) = rfr s := by
  unfold rfr; rw [txtS_is]; exact (cons_app 165 (txt s)).symm
theorem mark_row (w : World) : SRow (w.alloc (.cells #[.int .u8 165] 5)) (some ⟨w.heap.size, 0, none⟩) [165] := by
  refine .inr ⟨⟨w.heap.size, 0, none⟩, rfl, fun _ => by simp, fun i h => ?_⟩
  obtain rfl : i = 0 := by simp at h; exact h
  show (w.alloc _).cell? ⟨w.heap.size, 0, none⟩ = _
  rw [cell_of_row _ _ _ _ 5 (0, 0) (heap_alloc_new w _)]; rfl
set_option maxHeartbeats 1000000 in
theorem fput_long (s : ByteArray) (w : World) (hs : s.size ≤ maxLen) (h : 65536 < s.size) : Calls Try.prog 24 #[.string s] w fun e w' => e = .returned (.tuple #[.string ⟨#[]⟩, .int .i64 4]) ∧ w = w' := by
  unfold maxLen at hs
  have h1 : (65536 : Int) < (s.size : Int) := by omega
  clear h
  go_enter Try.func24, Try.ntmps24
  go_wp2
  go_ret2
  exact ⟨rfl, rfl⟩
set_option maxRecDepth 100000 in
set_option maxHeartbeats 1000000 in
theorem fput_any (s : ByteArray) (w : World) (h : s.size ≤ 65536) : Calls Try.prog 24 #[.string s] w fun e w' => e = .returned (.tuple #[.string (rec s), .int .i64 0]) ∧ Below w.heap.size w w' := by
  have h1 : ¬ (65536 : Int) < (s.size : Int) := by omega
  have hz := rfr_size s (by omega)
  have HP := fun W => Lib.hid ((puttext_any (some ⟨W.heap.size, 0, none⟩) 1 1 s [165] (W.alloc (.cells #[.int .u8 165] 5)) rfl (mark_row W) (fun h => by cases h) (by decide) (by omega)))
  have HF := Lib.hid (rfr_is s)
  obtain ⟨n, hn⟩ : ∃ n, ([165] ++ txt s).length = n := ⟨_, rfl⟩
  have HN := Lib.hid hn
  clear hn
  have HS := fun W => Lib.hid (Seal_any (rfr s) W (by omega))
  unfold rec
  generalize rfr s = f at *
  generalize markS f = mk at *
  clear h hz
  go_enter Try.func24, Try.ntmps24
  go_wp2_with (first
    | (go_at_call 39; refine (HP _).out.mono ?_; rintro e w1 hP; obtain ⟨a1, c1, rfl, hcv, hB⟩ := hP.text HN.out HF.out; have HB := Lib.hid hB; clear hB hP)
    | (go_at_call 38; refine (HS _).out.mono ?_; rintro e w2 ⟨rfl, hB2⟩; have HB2 := Lib.hid hB2; clear hB2))
  go_ret2
  exact ⟨rfl, (((Below.refl _ w).alloc (Nat.le_refl _) _).trans (HB.out.mono (by simp))).trans (HB2.out.mono (by have := HB.out.size; simp at this; omega))⟩
set_option maxHeartbeats 1000000 in
theorem rrec_any (s : ByteArray) (w : World) (h : s.size ≤ 65536) : Calls Try.prog 27 #[.string s] w fun e w' => e = .returned (.string (rec s)) ∧ Below w.heap.size w w' := by
  have hz := rfr_size s (by omega)
  have HP := fun W => Lib.hid (rtext_any s W (by omega))
  have HS := fun W => Lib.hid (mark_any (rfr s) W (by omega))
  have hm := markS_size (rfr s)
  have ht : (txtS s).size ≤ 70000 := by unfold txtS; rw [ByteArray.size_append]; have := numS_size s.size (by omega); omega
  unfold rec
  unfold rfr at *
  generalize hf : txtS s = t at *
  clear hf
  go_enter Try.func27, Try.ntmps27
  go_wp2_with (first
    | (go_at_call 47; refine (HP _).out.mono ?_; rintro e w1 ⟨rfl, hB⟩; have HB := Lib.hid hB; clear hB)
    | (go_at_call 46; refine (HS _).out.mono ?_; rintro e w2 ⟨rfl, hB2⟩; have HB2 := Lib.hid hB2; clear hB2))
  go_ret
  exact ⟨rfl, HB.out.trans (HB2.out.mono HB.out.size)⟩
end Go.Proofs.Ytnejahfeafllkaa
