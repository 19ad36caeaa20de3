/- VShelf, Vw -/
import Derived.Shelf.Strings.Builder1
import Derived.Shelf.Strings.Builder2
import Derived.Shelf.Strings.OnBuilder
import Derived.Test.YtlpilbghblbpbaaDoorProg
import Derived.Test.YtlpilbghblbpbaaDoorY13
import Derived.Test.YtlpilbghblbpbaaDoorY14
/- The library's contract of strings.Join at this program's own numbers, laid by the library's command and written out in plain words. -/
namespace Go.Proofs
open Go.Shelf
def Tryd.lays156_ren : Go.Shelf.Ren := ⟨fun | 156 => 12 | 165 => 24 | 166 => 25 | 169 => 23 | 240 => 38 | 241 => 39 | 276 => 50 | 277 => 51 | n => n, fun | 31 => 35 | 9 => 9 | 3 => 3 | 4 => 4 | 0 => 0 | 20 => 20 | 72 => 55 | 76 => 63 | 70 => 53 | 37 => 50 | 75 => 62 | 127 => 75 | 164 => 85 | 5 => 5 | 80 => 59 | n => n, fun | n => n⟩
theorem Tryd.lays156 : Go.Proofs.Lays.n156 Tryd.prog Tryd.lays156_ren := {
  mixed := by kernel_rfl
  f156 := Tryd.func12.trans (congrArg some (by kernel_rfl))
  f165 := Tryd.func24.trans (congrArg some (by kernel_rfl))
  f166 := Tryd.func25.trans (congrArg some (by kernel_rfl))
  f169 := Tryd.func23.trans (congrArg some (by kernel_rfl))
  f240 := Tryd.func38.trans (congrArg some (by kernel_rfl))
  f241 := Tryd.func39.trans (congrArg some (by kernel_rfl))
  f276 := Tryd.func50.trans (congrArg some (by kernel_rfl))
  f277 := Tryd.func51.trans (congrArg some (by kernel_rfl))
  t0 := Tryd.underlying0
  a0 := Tryd.isAgg0
  z0 := Tryd.sizeOf0
  v0 := Tryd.zeroValue0
  t3 := Tryd.underlying3
  a3 := Tryd.isAgg3
  z3 := Tryd.sizeOf3
  v3 := Tryd.zeroValue3
  t4 := Tryd.underlying4
  a4 := Tryd.isAgg4
  z4 := Tryd.sizeOf4
  v4 := Tryd.zeroValue4
  t9 := Tryd.underlying9
  a9 := Tryd.isAgg9
  z9 := Tryd.sizeOf9
  v9 := Tryd.zeroValue9
  t20 := Tryd.underlying20
  a20 := Tryd.isAgg20
  z20 := Tryd.sizeOf20
  v20 := Tryd.zeroValue20
  t31 := Tryd.underlying35
  a31 := Tryd.isAgg35
  z31 := Tryd.sizeOf35
  v31 := Tryd.zeroValue35
  t37 := Tryd.underlying50
  a37 := Tryd.isAgg50
  z37 := Tryd.sizeOf50
  v37 := Tryd.zeroValue50
  t70 := Tryd.underlying53
  a70 := Tryd.isAgg53
  z70 := Tryd.sizeOf53
  v70 := Tryd.zeroValue53
  t72 := Tryd.underlying55
  a72 := Tryd.isAgg55
  z72 := Tryd.sizeOf55
  v72 := Tryd.zeroValue55
  t75 := Tryd.underlying62
  a75 := Tryd.isAgg62
  z75 := Tryd.sizeOf62
  v75 := Tryd.zeroValue62
  t76 := Tryd.underlying63
  a76 := Tryd.isAgg63
  z76 := Tryd.sizeOf63
  v76 := Tryd.zeroValue63
  t127 := Tryd.underlying75
  a127 := Tryd.isAgg75
  z127 := Tryd.sizeOf75
  v127 := Tryd.zeroValue75
  t164 := Tryd.underlying85
  a164 := Tryd.isAgg85
  z164 := Tryd.sizeOf85
  v164 := Tryd.zeroValue85 }
theorem Tryd.Builder_Extra_156 : Builder.Extra Tryd.prog Tryd.lays156_ren := {
  sizeBuilder := by kernel_rfl
  liesBuilder := by kernel_rfl
  t5 := Tryd.underlying5
  a5 := Tryd.isAgg5
  z5 := Tryd.sizeOf5
  v5 := Tryd.zeroValue5
  infoByte := by kernel_rfl
  cellsByte := by kernel_rfl
  sizeByte := by kernel_rfl
  neB5 := by decide }
open Go.RowKit in
/-- No element: the empty string; the world is as it was. (Whatever the slice's address and capacity: a nil slice too.) (LAID: no walk: one application.) -/
theorem Tryd.strings_Join_none (a : Option Addr) (c : Nat) (sep : ByteArray) (w : World) :
    Calls Tryd.prog 12 #[.slice a 0 c, .string sep] w fun e w' => e = .returned (.string ⟨#[]⟩) ∧ w' = w := Any.strings_Join_none Tryd.lays156 Tryd.Builder_Extra_156 a c sep w
open Go.RowKit in
/-- strings.Join: "Join concatenates the elements of its first argument to create a single string. The separator string sep is placed between elements in the resulting string.": HOWEVER MANY ELEMENTS. Below the heap's end the world is as it was. (LAID: no walk: one application.) -/
theorem Tryd.strings_Join (bk o c : Nat) (xs : List ByteArray) (sep : ByteArray) (w : World) (hcells : ∀ (j : Nat) x, xs[j]? = some x → w.cell? ⟨bk, o + j, none⟩ = some (.string x)) (hbk : bk < w.heap.size) (hN : xs.length ≤ 140737488355328) (hcap : xs.length ≤ c) (hlen : (Lib.join (xs.map (·.data.toList)) sep.data.toList).length ≤ 140737488355328) :
    Calls Tryd.prog 12 #[.slice (some ⟨bk, o, none⟩) xs.length c, .string sep] w fun e w' => e = .returned (.string ⟨(Lib.join (xs.map (·.data.toList)) sep.data.toList).toArray⟩) ∧ Below w.heap.size w w' := Any.strings_Join Tryd.lays156 Tryd.Builder_Extra_156 bk o c xs sep w hcells hbk hN hcap hlen
end Go.Proofs
/- WALKS of name.Text and of the reference's Text, at right paths. -/
namespace Go.Proofs.YtlpilbghblbpbaaDoor.Sw
open Go.RowKit
open Lx (bs bl_alloc bl_step)
theorem join_two (x y : List UInt8) (R : List (List UInt8)) : Lib.join (x :: y :: R) [46] = x ++ 46 :: Lib.join (y :: R) [46] := by
  unfold Lib.join
  simp [List.intercalate, List.intersperse]
theorem join_snoc (xs : List (List UInt8)) (y : List UInt8) (h : xs ≠ []) : Lib.join (xs ++ [y]) [46] = Lib.join xs [46] ++ [46] ++ y := by
  induction xs with
  | nil => exact absurd rfl h
  | cons x R ih =>
    cases R with
    | nil => simp [Lib.join, List.intercalate, List.intersperse]
    | cons z R =>
      have hi := ih (by simp)
      rw [List.cons_append] at hi ⊢
      rw [List.cons_append, join_two, hi, join_two]
      simp
theorem path_as' (a : Option Addr) (len cap : Nat) (xs : List ByteArray) (b : Bool) (w : World) (hE : Nm.Env w) (hS : Nm.StrRow w a len xs) (hb : Hid (Nm.pathB xs = b)) : Calls Tryd.prog 60 #[.slice a len cap] w fun e w' => e = .returned (.bool b) ∧ Below w.heap.size w w' := by
  rw [← hb.out]; exact Nm.path_any a len cap xs w hE hS
theorem rpath_as' (a : Option Addr) (len cap : Nat) (xs : List ByteArray) (b : Bool) (w : World) (hS : Nm.StrRow w a len xs) (hb : Hid (Nm.pathB xs = b)) : Calls Tryd.prog 43 #[.slice a len cap] w fun e w' => e = .returned (.bool b) ∧ w = w' := by
  rw [← hb.out]; exact Nm.rpath_any a len cap xs w hS
theorem path_len {xs : List ByteArray} (hp : Nm.pathB xs = true) : 1 ≤ xs.length ∧ xs.length ≤ 16 ∧ (∀ x ∈ xs, x.size ≤ 16) ∧ ∀ k, (pathT (xs.take k)).length ≤ 272 := by
  obtain ⟨h1, h2, h3⟩ := path_right hp
  refine ⟨h1, h2, fun x hx => (by rw [Nm.size_list]; exact (right_size (h3 x hx)).2), fun k => ?_⟩
  have hl := join_len (xs.take k) fun x hx => by have := (right_size (h3 x (List.mem_of_mem_take hx))).2; rw [Lib.toList_data] at this; exact this
  have : (xs.take k).length ≤ 16 := by simp; omega
  unfold pathT
  omega
theorem join_any (a : Option Addr) (len cap : Nat) (xs : List ByteArray) (w : World) (hS : Nm.StrRow w a len xs) (hcap : len ≤ cap) (hp : Nm.pathB xs = true) : Calls Tryd.prog 12 #[.slice a len cap, .string { data := #[46] }] w fun e w' => e = .returned (.string (bs (pathT xs))) ∧ Below w.heap.size w w' := by
  obtain ⟨h1, h2, -, h4⟩ := path_len hp
  have hc := hS.count
  have h5 := h4 xs.length
  rw [List.take_length] at h5
  obtain ⟨b, off, rfl, hb, hcell⟩ := hS.at_ (by omega)
  have hh := Tryd.strings_Join b off cap xs { data := #[46] } w hcell hb (by omega) (by omega) (show (pathT xs).length ≤ _ by omega)
  rw [hc] at hh
  exact hh
set_option maxHeartbeats 1000000 in
theorem ntext_any (w0 : World) (hE : Nm.Env w0) : NText w0 := by
  intro a len cap xs hS hcap hp W hb
  have HE := Lib.hid (hE.below hb)
  have HS := Lib.hid (hS.below hb)
  have HC := Lib.hid hcap
  have HB := Lib.hid hp
  clear hE hS hcap hp hb
  go_enter Tryd.func48, Tryd.ntmps48
  go_wp2_with (first
    | (go_at_call 60; refine (path_as' _ _ _ _ _ _ HE.out HS.out HB).mono ?_; rintro e w2 ⟨rfl, hB2⟩; have HB2 := Lib.hid hB2; clear hB2)
    | (go_at_call 12; refine (join_any _ _ _ _ _ (HS.out.below HB2.out) HC.out HB.out).mono ?_; rintro e w3 ⟨rfl, hB3⟩))
  go_ret2
  exact ⟨rfl, HB2.out.trans (hB3.mono HB2.out.size)⟩
/-- The text of the first k names. -/
def jT (xs : List ByteArray) (k : Nat) : ByteArray := bs (pathT (xs.take k))
theorem jT_one {xs : List ByteArray} {x : ByteArray} (h : xs[0]? = some x) : jT xs 1 = x := by
  cases xs with
  | nil => simp at h
  | cons y ys =>
    simp at h; subst h
    simp [jT, pathT, bs, Lib.join, List.intercalate]
theorem jT_succ {xs : List ByteArray} {x : ByteArray} {k : Nat} (hk : 0 < k) (h : xs[k]? = some x) : (jT xs k ++ { data := #[46] } ++ x : ByteArray) = jT xs (k + 1) := by
  obtain ⟨hl, e⟩ := List.getElem?_eq_some_iff.1 h
  have e2 : (xs.take (k + 1)).map (·.data.toList) = (xs.take k).map (·.data.toList) ++ [x.data.toList] := by
    rw [List.take_succ_eq_append_getElem hl, e]; simp
  have hne : (xs.take k).map (·.data.toList) ≠ [] := by
    intro q
    have hk2 : ((xs.take k).map (·.data.toList)).length = k := by simp; omega
    rw [q] at hk2; simp at hk2; omega
  unfold jT pathT
  rw [e2, join_snoc _ _ hne]
  apply ByteArray.ext
  simp [bs]
set_option maxHeartbeats 2000000 in
theorem rntext_any (w0 : World) : RNText w0 := by
  intro a len cap xs hS0 hp W hbl
  have hS := hS0.below hbl
  clear hS0 hbl
  have hmax := hS.max
  have hPL := path_len hp
  obtain ⟨h1, h2, h3, h4⟩ := hPL
  have HS := Lib.hid hS
  have HB := Lib.hid hp
  have H3 := Lib.hid h3
  have H4 := Lib.hid h4
  have HL := Lib.hid hS.count
  have hlen : 0 < len := by rw [← HL.out]; exact h1
  have hlen2 : len ≤ 16 := by rw [← HL.out]; exact h2
  clear hS hp h1 h2 h3 h4
  obtain ⟨b, off, rfl, hbk, hc⟩ := HS.out.at_ hlen
  have HC := Lib.hid hc
  clear hc hbk
  obtain ⟨x0, hx0⟩ : ∃ x, xs[0]? = some x := ⟨xs[0]'(by rw [HL.out]; exact hlen), List.getElem?_eq_getElem _⟩
  have hcell0 : W.cell? ⟨b, off, none⟩ = some (.string x0) := HC.out 0 x0 hx0
  have J1 := Lib.hid (jT_one hx0)
  clear hx0
  go_enter Tryd.func30, Tryd.ntmps30
  go_wp2_with (go_at_call 43; refine (rpath_as' _ _ _ _ _ _ HS.out HB).mono ?_; rintro e w2 ⟨rfl, rfl⟩)
  clear hcell0
  go_loop [3, 4] (fun s i => ∃ (k : Nat) (t : ByteArray), 1 ≤ k ∧ k ≤ len ∧ i = .int .i64 k ∧ s = .string t ∧ t = jT xs k) (fun _ i => len - (intOf i).toNat)
  case atStart => exact ⟨1, x0, by omega, by omega, rfl, rfl, J1.out.symm⟩
  case round =>
    obtain ⟨k, t, hk1, hk, rfl, rfl, ht⟩ := hrel
    have HT := Lib.hid ht
    have hsz : t.size ≤ 272 := by
      rw [ht]
      have := H4.out k
      show (bs (pathT (xs.take k))).size ≤ 272
      rw [Lx.bs_size]; exact this
    clear ht
    by_cases hlt : k < len
    · obtain ⟨x, hx⟩ : ∃ x, xs[k]? = some x := ⟨xs[k]'(by rw [HL.out]; exact hlt), List.getElem?_eq_getElem _⟩
      have HX := Lib.hid hx
      have hcell : W.cell? ⟨b, off + k, none⟩ = some (.string x) := HC.out k x hx
      have hxs : x.size ≤ 16 := H3.out x (List.mem_of_getElem? hx)
      clear hx
      go_wp2
      go_round
      case rel => exact ⟨k + 1, _, by omega, by omega, by go_num, rfl, by rw [HT.out]; exact jT_succ (by omega) HX.out⟩
      case measure => simp [intOf]; omega
    · obtain rfl : k = len := by omega
      go_wp2
      go_ret
      refine ⟨Nm.ret_str (by rw [HT.out, ← HL.out]; unfold jT; rw [List.take_length]), Below.refl _ _⟩
end Go.Proofs.YtlpilbghblbpbaaDoor.Sw
