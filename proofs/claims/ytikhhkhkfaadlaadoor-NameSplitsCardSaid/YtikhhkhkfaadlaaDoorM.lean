/- WALKS of name.Split with its capacity, of name.Text, and of the reference's Same. -/
import Derived.Test.YtikhhkhkfaadlaaDoorE
import Derived.Test.YtikhhkhkfaadlaaDoorQ
import Derived.Deep.QuietTactic
import Derived.BigQuiet
namespace Go.Proofs.YtikhhkhkfaadlaaDoor
open Go.RowKit

theorem splitn_cap (s : ByteArray) (w : World) (hE : Env w) (hs : s.size < 4294967281) : Calls Tryd.prog 23 #[.string s, .string { data := #[46] }, .int .i64 17] w fun e w' =>
    ∃ a len cap, e = .returned (.slice a len cap) ∧ StrRow w' a len (spl s) ∧ len ≤ cap ∧ Below w.heap.size w w' := by
  obtain ⟨m, hm⟩ := hE.maxLen
  refine (Tryd.strings_SplitN s { data := #[46] } 17 m w hs hm (by decide) (by decide) (by decide)).mono ?_
  rintro e w' ⟨rfl, rfl⟩
  have hl := Lib.splitB_length_le { data := #[46] } 0 (min 17 (s.size + 1) - 1) s
  refine ⟨_, _, _, rfl, ⟨rfl, by omega, fun i x hx => ?_, fun _ => ⟨w.heap.size, 0, rfl, by simp, fun i x hx => ?_⟩⟩, by omega, (Below.refl _ _).alloc (Nat.le_refl _) _⟩
  · have := splitB_each _ _ _ _ (List.mem_of_getElem? hx)
    omega
  · have := cellsOf_get (N := min 17 (s.size + 1)) hx
    simpa [go_sem, spl] using this
/-- The texts as lists. -/
def bl (xs : List ByteArray) : List (List UInt8) := xs.map (·.data.toList)
theorem pathB_L (xs : List ByteArray) : pathB xs = pathL (bl xs) := by
  unfold pathB pathL bl
  have : (xs.all fun x => rightL x.toList) = (xs.map (·.data.toList)).all rightL := by
    rw [List.all_map]; congr 1; funext x; simp [Lib.toList_data]
  rw [this]; simp
theorem spl_parts (s : ByteArray) : pathB (spl s) = pathL (parts s.data.toList) ∧ (pathL (parts s.data.toList) = true → bl (spl s) = parts s.data.toList) := by
  have e : bl (spl s) = Lib.splitK [46] 0 (min 17 (s.data.toList.length + 1) - 1) s.data.toList := by
    unfold bl spl
    rw [Lib.splitB_data]
    rw [size_list, Lib.toList_data]
  rw [pathB_L, e]
  exact splitK_path _
theorem bl_inj {xs ys : List ByteArray} (h : bl xs = bl ys) : xs = ys := by
  unfold bl at h
  induction xs generalizing ys with
  | nil => cases ys with
    | nil => rfl
    | cons y ys => simp at h
  | cons x xs ih =>
    cases ys with
    | nil => simp at h
    | cons y ys =>
      simp only [List.map_cons, List.cons.injEq] at h
      have : x = y := by apply ByteArray.ext; exact Array.toList_inj.1 h.1
      rw [this, ih h.2]

/-- What Split hands over. -/
def SplitPost2 (w : World) (s : ByteArray) (e : Ending) (w' : World) : Prop := ∃ a len cap, e = .returned (.tuple #[.slice a len cap, .bool (pathL (parts s.data.toList))]) ∧ StrRow w' a len (splV s) ∧ len ≤ cap ∧ Below w.heap.size w w'
set_option maxHeartbeats 1000000 in
theorem split_two (s : ByteArray) (w : World) (hE : Env w) (hs : s.size < 4294967281) : Calls Tryd.prog 16 #[.string s] w (SplitPost2 w s) := by
  have HE := Lib.hid hE
  clear hE
  have hp := (spl_parts s).1
  unfold SplitPost2
  rw [← hp]
  clear hp
  cases hb : pathB (spl s)
  all_goals
    have HB := Lib.hid hb
    have HV := Lib.hid (show splV s = if pathB (spl s) then spl s else [] from rfl)
    clear hb
    go_enter Tryd.func16, Tryd.ntmps16
    go_wp2_with (first
      | (go_at_call 23; refine (splitn_cap _ _ HE.out hs).mono ?_; rintro e w1 ⟨a, len, cap, rfl, hS1, hcap, hB1⟩; have HS1 := Lib.hid hS1; have HB1 := Lib.hid hB1; have HC1 := Lib.hid hcap; clear hS1 hB1 hcap)
      | (go_at_call 12; refine (path_as _ _ _ _ _ _ (HE.out.below HB1.out) HS1.out HB).mono ?_; rintro e w2 ⟨rfl, hB2⟩))
    go_ret2
  · refine ⟨_, _, _, rfl, ?_, Nat.le_refl _, HB1.out.trans (hB2.mono HB1.out.size)⟩
    rw [HV.out, HB.out]; exact StrRow.nil _
  · refine ⟨_, _, _, rfl, ?_, HC1.out, HB1.out.trans (hB2.mono HB1.out.size)⟩
    rw [HV.out, HB.out]; exact HS1.out.below hB2

/-- The text of a path. -/
def textB (xs : List ByteArray) : ByteArray := if pathB xs then ⟨(jn (bl xs)).toArray⟩ else ⟨#[]⟩
theorem join_any (a : Option Addr) (len cap : Nat) (xs : List ByteArray) (w : World) (hS : StrRow w a len xs) (hcap : len ≤ cap) (hp : pathB xs = true) : Calls Tryd.prog 24 #[.slice a len cap, .string { data := #[46] }] w fun e w' => e = .returned (.string (textB xs)) ∧ Below w.heap.size w w' := by
  have hpl := pathB_L xs
  rw [hp] at hpl
  obtain ⟨h1, h2, h3⟩ := pathL_parts hpl.symm
  have hlen : (bl xs).length = xs.length := by simp [bl]
  have hc := hS.count
  obtain ⟨b, off, rfl, hb, hcell⟩ := hS.at_ (by omega)
  have hj := jn_len (bl xs) fun x hx => right_len (h3 x hx)
  have e : (Lib.join (xs.map (·.data.toList)) (ByteArray.mk #[46]).data.toList) = jn (bl xs) := join_jn _
  have hh := Tryd.strings_Join b off cap xs { data := #[46] } w hcell hb (by omega) (by omega) (by rw [e]; omega)
  rw [hc] at hh
  refine hh.mono ?_
  rintro e' w' ⟨rfl, hB⟩
  exact ⟨ret_str (by rw [e]; simp [textB, hp]), hB⟩

set_option maxHeartbeats 1000000 in
theorem ntext_any (a : Option Addr) (len cap : Nat) (xs : List ByteArray) (w : World) (hE : Env w) (hS : StrRow w a len xs) (hcap : len ≤ cap) : Calls Tryd.prog 18 #[.slice a len cap] w fun e w' => e = .returned (.tuple #[.string (textB xs), .bool (pathB xs)]) ∧ Below w.heap.size w w' := by
  have HE := Lib.hid hE
  have HS := Lib.hid hS
  have HC := Lib.hid hcap
  clear hE hS hcap
  cases hb : pathB xs
  · have HB := Lib.hid hb
    have ht : textB xs = ⟨#[]⟩ := by simp [textB, hb]
    rw [ht]
    clear hb ht
    go_enter Tryd.func18, Tryd.ntmps18
    go_wp2_with (go_at_call 12; refine (path_as _ _ _ _ _ _ HE.out HS.out HB).mono ?_; rintro e w2 ⟨rfl, hB2⟩)
    go_ret2
    exact ⟨rfl, hB2⟩
  · have HB := Lib.hid hb
    clear hb
    go_enter Tryd.func18, Tryd.ntmps18
    go_wp2_with (first
      | (go_at_call 12; refine (path_as _ _ _ _ _ _ HE.out HS.out HB).mono ?_; rintro e w2 ⟨rfl, hB2⟩; have HB2 := Lib.hid hB2; clear hB2)
      | (go_at_call 24; refine (join_any _ _ _ _ _ (HS.out.below HB2.out) HC.out HB.out).mono ?_; rintro e w3 ⟨rfl, hB3⟩))
    go_ret2
    exact ⟨rfl, HB2.out.trans (hB3.mono HB2.out.size)⟩
end Go.Proofs.YtikhhkhkfaadlaaDoor
