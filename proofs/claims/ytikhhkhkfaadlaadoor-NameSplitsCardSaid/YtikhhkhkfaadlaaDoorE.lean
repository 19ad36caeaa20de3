/- WALKS of name.Split and of awake. -/
import Derived.Test.YtikhhkhkfaadlaaDoorD
import Derived.Test.YtikhhkhkfaadlaaDoorShelf
namespace Go.Proofs.YtikhhkhkfaadlaaDoor
open Go.RowKit

def spl (s : ByteArray) : List ByteArray := Lib.splitB { data := #[46] } 0 (min 17 (s.size + 1) - 1) s
def splV (s : ByteArray) : List ByteArray := if pathB (spl s) then spl s else []
theorem splitB_each (sep : ByteArray) (k : Nat) : ∀ (s x : ByteArray), x ∈ Lib.splitB sep 0 k s → x.size ≤ s.size := by
  induction k with
  | zero => intro s x hx; simp [Lib.splitB] at hx; subst hx; exact Nat.le_refl _
  | succ k ih =>
    intro s x hx
    unfold Lib.splitB at hx
    split at hx
    · simp at hx; subst hx; exact Nat.le_refl _
    · rcases List.mem_cons.1 hx with rfl | hx
      · simp; omega
      · have := ih _ _ hx
        simp at this; omega
theorem StrRow.nil (w : World) : StrRow w none 0 [] := ⟨rfl, by omega, fun i x h => by simp at h, fun h => absurd h (by omega)⟩
theorem cellsOf_get {xs : List ByteArray} {N i : Nat} {x : ByteArray} (h : xs[i]? = some x) : (Lib.cellsOf xs N)[i]? = some (.string x) := by
  obtain ⟨hi, e⟩ := List.getElem?_eq_some_iff.1 h
  unfold Lib.cellsOf
  rw [List.getElem?_toArray, List.getElem?_append_left (by simpa using hi), List.getElem?_map, h]; rfl
theorem splitn_any (s : ByteArray) (w : World) (hE : Env w) (hs : s.size < 4294967281) : Calls Tryd.prog 23 #[.string s, .string { data := #[46] }, .int .i64 17] w fun e w' =>
    ∃ a len cap, e = .returned (.slice a len cap) ∧ StrRow w' a len (spl s) ∧ Below w.heap.size w w' := by
  obtain ⟨m, hm⟩ := hE.maxLen
  refine (Tryd.strings_SplitN s { data := #[46] } 17 m w hs hm (by decide) (by decide) (by decide)).mono ?_
  rintro e w' ⟨rfl, rfl⟩
  refine ⟨_, _, _, rfl, ⟨rfl, ?_, fun i x hx => ?_, fun _ => ⟨w.heap.size, 0, rfl, by simp, fun i x hx => ?_⟩⟩, (Below.refl _ _).alloc (Nat.le_refl _) _⟩
  · have := Lib.splitB_length_le { data := #[46] } 0 (min 17 (s.size + 1) - 1) s
    omega
  · have := splitB_each _ _ _ _ (List.mem_of_getElem? hx)
    omega
  · have := cellsOf_get (N := min 17 (s.size + 1)) hx
    simpa [go_sem, spl] using this
theorem path_as (a : Option Addr) (len cap : Nat) (xs : List ByteArray) (b : Bool) (w : World) (hE : Env w) (hS : StrRow w a len xs) (hb : Hid (pathB xs = b)) : Calls Tryd.prog 12 #[.slice a len cap] w fun e w' => e = .returned (.bool b) ∧ Below w.heap.size w w' := by
  rw [← hb.out]; exact path_any a len cap xs w hE hS

def SplitPost (w : World) (xs : List ByteArray) (ok : Bool) (e : Ending) (w' : World) : Prop := ∃ a len cap, e = .returned (.tuple #[.slice a len cap, .bool ok]) ∧ StrRow w' a len xs ∧ Below w.heap.size w w'
set_option maxHeartbeats 1000000 in
theorem split_any (s : ByteArray) (w : World) (hE : Env w) (hs : s.size < 4294967281) : Calls Tryd.prog 16 #[.string s] w (SplitPost w (splV s) (pathB (spl s))) := by
  have HE := Lib.hid hE
  clear hE
  cases hb : pathB (spl s)
  all_goals
    have HB := Lib.hid hb
    have HV := Lib.hid (show splV s = if pathB (spl s) then spl s else [] from rfl)
    clear hb
    go_enter Tryd.func16, Tryd.ntmps16
    go_wp2_with (first
      | (go_at_call 23; refine (splitn_any _ _ HE.out hs).mono ?_; rintro e w1 ⟨a, len, cap, rfl, hS1, hB1⟩; have HS1 := Lib.hid hS1; have HB1 := Lib.hid hB1; clear hS1 hB1)
      | (go_at_call 12; refine (path_as _ _ _ _ _ _ (HE.out.below HB1.out) HS1.out HB).mono ?_; rintro e w2 ⟨rfl, hB2⟩))
    go_ret2
  · refine ⟨_, _, _, rfl, ?_, HB1.out.trans (hB2.mono HB1.out.size)⟩
    rw [HV.out, HB.out]; exact StrRow.nil _
  · refine ⟨_, _, _, rfl, ?_, HB1.out.trans (hB2.mono HB1.out.size)⟩
    rw [HV.out, HB.out]; exact HS1.out.below hB2
theorem split_as (s : ByteArray) (xs : List ByteArray) (b : Bool) (w : World) (hE : Env w) (hs : s.size < 4294967281) (h : splV s = xs ∧ pathB (spl s) = b) : Calls Tryd.prog 16 #[.string s] w (SplitPost w xs b) := by
  rw [← h.1, ← h.2]; exact split_any s w hE hs
theorem split_ab1 : splV { data := #[97, 46, 98, 49] } = [{ data := #[97] }, { data := #[98, 49] }] ∧ pathB (spl { data := #[97, 46, 98, 49] }) = true := ⟨by kernel_rfl, by kernel_rfl⟩
theorem split_atrue : splV { data := #[97, 46, 116, 114, 117, 101] } = [] ∧ pathB (spl { data := #[97, 46, 116, 114, 117, 101] }) = false := ⟨by kernel_rfl, by kernel_rfl⟩
theorem word_is (t : ByteArray) (v : Int) (w : World) (hE : Env w) (h : wordN t.toList = v) : Calls Tryd.prog 8 #[.string t] w fun e w' => e = .returned (.int .i64 v) ∧ w = w' := by
  rw [← h]; exact word_any t w hE
theorem word_true : wordN (ByteArray.toList { data := #[116, 114, 117, 101] }) = 9 := by kernel_rfl

theorem split_one (w : World) (hE : Env w) : Calls Tryd.prog 16 #[.string { data := #[97, 46, 98, 49] }] w fun e w' =>
    ∃ b off cap, e = .returned (.tuple #[.slice (some ⟨b, off, none⟩) 2 cap, .bool true]) ∧ b < w'.heap.size ∧ w'.cell? ⟨b, off + 1, none⟩ = some (.string { data := #[98, 49] }) ∧ Below w.heap.size w w' := by
  refine (split_as _ _ _ w hE (by decide) split_ab1).mono ?_
  rintro e w1 ⟨a, len, cap, rfl, hS, hB⟩
  obtain rfl : 2 = len := hS.count
  obtain ⟨b, off, rfl, hb, hc⟩ := hS.at_ (by decide)
  exact ⟨b, off, cap, rfl, hb, hc 1 _ rfl, hB⟩

set_option maxHeartbeats 1000000 in
theorem awake_any (w : World) (hE : Env w) : Calls Tryd.prog 7 #[] w fun e w' => e = .returned (.bool true) ∧ Below w.heap.size w w' := by
  have HE := Lib.hid hE
  clear hE
  go_enter Tryd.func7, Tryd.ntmps7
  go_wp2_with (first
    | (go_at_call 16; (with_reducible refine (split_one _ HE.out).mono ?_); rintro e w1 ⟨b, off, c1, rfl, hb1, hc1, hB1⟩; have HB1 := Lib.hid hB1; clear hB1)
    | (go_at_call 16; (with_reducible refine (split_as _ _ _ _ (HE.out.below HB1.out) (by decide) split_atrue).mono ?_); rintro e w2 ⟨a2, l2, c2, rfl, hS2, hB2⟩; have hc2 := (hB2.cell (p := ⟨b, off + 1, none⟩) hb1).trans hc1; have HB2 := Lib.hid (HB1.out.trans (hB2.mono HB1.out.size)); clear hS2 hB2 hc1)
    | (go_at_call 8; (with_reducible refine (word_is _ _ _ (HE.out.below HB2.out) word_true).mono ?_); rintro e w3 ⟨rfl, rfl⟩))
  go_ret
  exact ⟨rfl, HB2.out⟩
end Go.Proofs.YtikhhkhkfaadlaaDoor
