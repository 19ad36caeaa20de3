/- WALKS of the reference's Text and Split. -/
import Derived.Test.YtikhhkhkfaadlaaDoorN
namespace Go.Proofs.YtikhhkhkfaadlaaDoor
open Go.RowKit

theorem rpath_as (a : Option Addr) (len cap : Nat) (xs : List ByteArray) (b : Bool) (w : World) (hS : StrRow w a len xs) (hb : Hid (pathB xs = b)) : Calls Tryd.prog 13 #[.slice a len cap] w fun e w' => e = .returned (.bool b) ∧ w = w' := by
  rw [← hb.out]; exact rpath_any a len cap xs w hS
/-- The text of the first k pieces. -/
def jnT (xs : List ByteArray) (k : Nat) : ByteArray := ⟨(jn (bl (xs.take k))).toArray⟩
theorem jnT_one {xs : List ByteArray} {x : ByteArray} (h : xs[0]? = some x) : jnT xs 1 = x := by
  cases xs with
  | nil => simp at h
  | cons y ys =>
    simp at h; subst h
    simp [jnT, bl, jn]
theorem jnT_succ {xs : List ByteArray} {x : ByteArray} {k : Nat} (hk : 0 < k) (h : xs[k]? = some x) : (jnT xs k ++ { data := #[46] } ++ x : ByteArray) = jnT xs (k + 1) := by
  obtain ⟨hl, e⟩ := List.getElem?_eq_some_iff.1 h
  have e2 : bl (xs.take (k + 1)) = bl (xs.take k) ++ [x.data.toList] := by
    rw [List.take_succ_eq_append_getElem hl, e]; simp [bl]
  have hne : bl (xs.take k) ≠ [] := by
    intro q
    have hk2 : (bl (xs.take k)).length = k := by simp [bl]; omega
    rw [q] at hk2; simp at hk2; omega
  unfold jnT
  rw [e2, jn_snoc _ _ hne]
  apply ByteArray.ext
  simp
theorem jnT_size {xs : List ByteArray} (hp : pathB xs = true) (k : Nat) : (jnT xs k).size ≤ 272 := by
  rw [pathB_L] at hp
  obtain ⟨h1, h2, h3⟩ := pathL_parts hp
  have hj := jn_len (bl (xs.take k)) fun x hx => right_len (h3 x (by
    unfold bl at hx ⊢
    rw [List.map_take] at hx
    exact List.mem_of_mem_take hx))
  have hl : (bl (xs.take k)).length ≤ 16 := by simp [bl] at h2 ⊢; omega
  rw [size_list, Lib.toList_data]
  simp only [jnT]
  simp; omega
theorem path_sizes {xs : List ByteArray} (hp : pathB xs = true) {k : Nat} {x : ByteArray} (h : xs[k]? = some x) : x.size ≤ 16 := by
  rw [pathB_L] at hp
  obtain ⟨h1, h2, h3⟩ := pathL_parts hp
  rw [size_list, Lib.toList_data]
  exact right_len (h3 _ (List.mem_of_getElem? (show (bl xs)[k]? = some x.data.toList by simp [bl, h])))
theorem textB_all {xs : List ByteArray} (hp : pathB xs = true) : textB xs = jnT xs xs.length := by
  simp [textB, jnT, hp]

set_option maxHeartbeats 2000000 in
theorem rtext_any (a : Option Addr) (len cap : Nat) (xs : List ByteArray) (w : World) (hS : StrRow w a len xs) : Calls Tryd.prog 19 #[.slice a len cap] w fun e w' => e = .returned (.string (textB xs)) ∧ w = w' := by
  have hmax := hS.max
  have HS := Lib.hid hS
  clear hS
  cases hb : pathB xs
  · have HB := Lib.hid hb
    have ht : textB xs = ⟨#[]⟩ := by simp [textB, hb]
    rw [ht]
    clear hb ht
    go_enter Tryd.func19, Tryd.ntmps19
    go_wp2_with (go_at_call 13; refine (rpath_as _ _ _ _ _ _ HS.out HB).mono ?_; rintro e w2 ⟨rfl, rfl⟩)
    go_ret
    exact ⟨rfl, rfl⟩
  · have HB := Lib.hid hb
    have hlen : 0 < len := by
      rw [pathB_L] at hb
      have := (pathL_parts hb).1
      have := HS.out.count
      simp [bl] at *; omega
    have HL := Lib.hid HS.out.count
    clear hb
    obtain ⟨b, off, rfl, hbk, hc⟩ := HS.out.at_ hlen
    have HC := Lib.hid hc
    clear hc hbk
    obtain ⟨x0, hx0⟩ : ∃ x, xs[0]? = some x := ⟨xs[0]'(by rw [HL.out]; exact hlen), List.getElem?_eq_getElem _⟩
    have hcell0 : w.cell? ⟨b, off, none⟩ = some (.string x0) := HC.out 0 x0 hx0
    have J1 := Lib.hid (jnT_one hx0)
    clear hx0
    go_enter Tryd.func19, Tryd.ntmps19
    go_wp2_with (go_at_call 13; refine (rpath_as _ _ _ _ _ _ HS.out HB).mono ?_; rintro e w2 ⟨rfl, rfl⟩)
    clear hcell0
    go_loop [3, 4] (fun s i => ∃ (k : Nat) (t : ByteArray), 1 ≤ k ∧ k ≤ len ∧ i = .int .i64 k ∧ s = .string t ∧ t = jnT xs k) (fun _ i => len - (intOf i).toNat)
    case atStart => exact ⟨1, x0, by omega, by omega, rfl, rfl, J1.out.symm⟩
    case round =>
      obtain ⟨k, t, hk1, hk, rfl, rfl, ht⟩ := hrel
      have HT := Lib.hid ht
      have hsz : t.size ≤ 272 := by rw [ht]; exact jnT_size HB.out k
      clear ht
      by_cases hlt : k < len
      · obtain ⟨x, hx⟩ : ∃ x, xs[k]? = some x := ⟨xs[k]'(by rw [HL.out]; exact hlt), List.getElem?_eq_getElem _⟩
        have HX := Lib.hid hx
        have hcell : w.cell? ⟨b, off + k, none⟩ = some (.string x) := HC.out k x hx
        have hxs := path_sizes HB.out hx
        clear hx
        go_wp2
        go_round
        case rel => exact ⟨k + 1, _, by omega, by omega, by go_num, rfl, by rw [HT.out]; exact jnT_succ (by omega) HX.out⟩
        case measure => simp [intOf]; omega
      · obtain rfl : k = len := by omega
        go_wp2
        go_ret
        exact ⟨ret_str (by rw [HT.out, textB_all HB.out, HL.out]), rfl⟩

def preP (c : List UInt8) : List (List UInt8) → List (List UInt8)
  | [] => [c]
  | h :: R => (c ++ h) :: R
/-- What holds when the first i bytes are gone through: done are the whole pieces, cur is the piece that goes on. -/
structure Halfway (s : ByteArray) (i : Nat) (done : List ByteArray) (cur : ByteArray) : Prop where
  says : parts s.data.toList = bl done ++ preP cur.data.toList (parts (s.data.toList.drop i))
  curLe : cur.size ≤ i
  doneLe : done.length ≤ i
theorem Halfway.first (s : ByteArray) : Halfway s 0 [] ⟨#[]⟩ := by
  refine ⟨?_, by decide, by simp⟩
  cases e : parts (s.data.toList.drop 0) with
  | nil => exact absurd e (parts_ne _)
  | cons h R => simp at e; simp [bl, preP, e]
theorem drop_at (s : ByteArray) (i : Nat) (h : i < s.size) : s.data.toList.drop i = s[i] :: s.data.toList.drop (i + 1) := by
  have hl : i < s.data.toList.length := by simpa using h
  rw [List.drop_eq_getElem_cons hl]; rfl
theorem Halfway.dot {s : ByteArray} {i : Nat} {done : List ByteArray} {cur : ByteArray} (h : Halfway s i done cur) (hi : i < s.size) (h46 : s[i] = 46) : Halfway s (i + 1) (done ++ [cur]) ⟨#[]⟩ := by
  obtain ⟨h1, h2, h3⟩ := h
  refine ⟨?_, by simp [ByteArray.size], by simp; omega⟩
  rw [h1, drop_at s i hi, h46, parts_dot]
  cases e : parts (s.data.toList.drop (i + 1)) with
  | nil => exact absurd e (parts_ne _)
  | cons a R => simp [bl, preP]
theorem Halfway.other {s : ByteArray} {i : Nat} {done : List ByteArray} {cur : ByteArray} (h : Halfway s i done cur) (hi : i < s.size) (h46 : s[i] ≠ 46) : Halfway s (i + 1) done (cur ++ s.extract i (i + 1)) := by
  obtain ⟨h1, h2, h3⟩ := h
  have hx : (s.extract i (i + 1)).data.toList = [s[i]] := by
    rw [Lib.extract_data, drop_at s i hi]; simp
  have hy : (cur ++ s.extract i (i + 1)).data.toList = cur.data.toList ++ [s[i]] := by
    rw [ByteArray.data_append, Array.toList_append, hx]
  have hz : (cur ++ s.extract i (i + 1)).size = cur.size + 1 := by
    rw [size_list, Lib.toList_data, hy, size_list, Lib.toList_data]; simp
  refine ⟨?_, by rw [hz]; omega, by omega⟩
  obtain ⟨d, R, e1, e2⟩ := parts_other h46 (s.data.toList.drop (i + 1))
  rw [h1, drop_at s i hi, e2, e1, hy]
  simp [preP]
theorem Halfway.last {s : ByteArray} {done : List ByteArray} {cur : ByteArray} (h : Halfway s s.size done cur) : bl (done ++ [cur]) = parts s.data.toList := by
  have := h.says
  rw [List.drop_of_length_le (by simp)] at this
  rw [this]; simp [bl, parts, preP]
theorem own_base {w : World} {base e size n : Nat} {v : Value} {xs : List Value} (h : w.ownsRow base e size v n xs) : ∀ k, v.ownBlock = some k → base ≤ k := by
  intro k hk
  rcases h.2 with ⟨rfl, _⟩ | ⟨g, cap, cur, rfl, hb, _⟩
  · simp [Value.ownBlock] at hk
  · simp [Value.ownBlock] at hk; omega
/-- A row that the call owns, as a slice of texts. -/
theorem row_own {w : World} {base n : Nat} {v : Value} {xs : List ByteArray} (h : w.ownsRow base 9 1 v n (xs.map Value.string)) (hn : n ≤ 140737488355328) (hx : ∀ x ∈ xs, x.size ≤ 140737488355328) : ∃ a cap, v = .slice a n cap ∧ StrRow w a n xs := by
  have hl := h.1
  rw [List.length_map, Nat.mul_one] at hl
  rcases h.2 with ⟨rfl, hn0⟩ | ⟨g, cap, cur, rfl, hb, hg, hcap, hm, hsz, htake⟩
  · obtain rfl : n = 0 := hn0
    exact ⟨none, 0, rfl, hl, by omega, fun i x hi => hx x (List.mem_of_getElem? hi), fun h => absurd h (by omega)⟩
  · refine ⟨_, cap, rfl, hl, hn, fun i x hi => hx x (List.mem_of_getElem? hi), fun _ => ⟨g, 0, rfl, ?_, fun i x hi => ?_⟩⟩
    · exact (Array.getElem?_eq_some_iff.1 hg).1
    · have hi2 := (List.getElem?_eq_some_iff.1 hi).1
      have h1 : (xs.map Value.string)[i]? = some (.string x) := by simp [hi]
      rw [← htake, Nat.mul_one, List.getElem?_take_of_lt (by omega)] at h1
      simp [World.cell?, hg]
      simpa using h1

theorem bl_sizes {s : ByteArray} {xs : List ByteArray} (h : bl xs = parts s.data.toList) : ∀ x ∈ xs, x.size ≤ s.size := by
  intro x hx
  have hm : x.data.toList ∈ parts s.data.toList := by rw [← h]; exact List.mem_map_of_mem hx
  rw [size_list, Lib.toList_data, size_list, Lib.toList_data]
  have : ∀ L : List UInt8, ∀ p ∈ parts L, p.length ≤ L.length := by
    intro L
    induction L with
    | nil => intro p hp; simp [parts] at hp; subst hp; simp
    | cons c T ih =>
      intro p hp
      by_cases hc : c = 46
      · subst hc; rw [parts_dot] at hp
        rcases List.mem_cons.1 hp with rfl | hp
        · simp
        · have := ih p hp; simp; omega
      · obtain ⟨d, R, e1, e2⟩ := parts_other hc T
        rw [e2] at hp
        rw [e1] at ih
        rcases List.mem_cons.1 hp with rfl | hp
        · have := ih d (by simp); simp; omega
        · have := ih p (by simp [hp]); simp; omega
  exact this _ _ hm
/-- What the reference's Split hands over. -/
def splR (s : ByteArray) : List ByteArray := if pathL (parts s.data.toList) then spl s else []

theorem splR_is {s : ByteArray} {xs : List ByteArray} (h : bl xs = parts s.data.toList) : splR s = if pathB xs then xs else [] := by
  have e := pathB_L xs
  rw [h] at e
  unfold splR
  rw [e]
  cases hp : pathL (parts s.data.toList)
  · simp
  · simp only [if_true]
    exact bl_inj (((spl_parts s).2 hp).trans h.symm)

set_option maxHeartbeats 4000000 in
theorem rsplit_any (s : ByteArray) (w : World) (hs : s.size ≤ 400) : Calls Tryd.prog 17 #[.string s] w fun e w' => ∃ a len cap, e = .returned (.slice a len cap) ∧ StrRow w' a len (splR s) ∧ Below w.heap.size w w' := by
  have hi9 : (Tryd.prog.info? 9).map (fun i => (i.zero, i.size, i.bytes)) = some (some (.string ByteArray.empty), 1, 16) := by kernel_rfl
  obtain ⟨i0, hi, hx⟩ := Option.map_eq_some_iff.1 hi9
  simp only [Prod.mk.injEq] at hx
  obtain ⟨hz0, hz1, hz2⟩ := hx
  clear hi9
  go_enter Tryd.func17, Tryd.ntmps17
  go_wp2
  go_loopw [3, 4, 5] (fun v c i wr => ∃ (k : Nat) (done : List ByteArray) (cur : ByteArray), k ≤ s.size ∧ i = .int .i64 k ∧ c = .string cur ∧ wr.ownsRow w.heap.size 9 1 v done.length (done.map Value.string) ∧ Below w.heap.size w wr ∧ Halfway s k done cur) (fun _ _ i _ => s.size - (intOf i).toNat)
  case atStart => exact ⟨0, [], _, by omega, rfl, rfl, World.ownsRow_nil _ _ _ _, Below.refl _ _, Halfway.first s⟩
  case round =>
    obtain ⟨k, done, cur, hk, rfl, rfl, hown, hBl, hH⟩ := hrel
    rename World => wr
    have hc1 := hH.curLe
    have hd1 := hH.doneLe
    have hsz := hBl.size
    have BL := Lib.hid hBl
    have OW := Lib.hid hown
    have HH := Lib.hid hH
    clear hBl hown hH
    by_cases hlt : k < s.size
    · cases h46 : ((s[k].toNat : Int) == 46)
      · have H2 := Lib.hid (HH.out.other hlt (fun e => by rw [e] at h46; exact absurd h46 (by decide)))
        go_wp2
        go_roundw
        case rel => exact ⟨k + 1, done, _, by omega, by go_num, rfl, OW.out, BL.out, H2.out⟩
        case measure => simp [intOf]; omega
      · have e46 : s[k] = 46 := by
          apply UInt8.toNat.inj
          have : (s[k].toNat : Int) = 46 := by simpa using h46
          show s[k].toNat = 46
          omega
        have H2 := Lib.hid (HH.out.dot hlt e46)
        clear e46
        go_wp2_with (at_builtin; refine wpList_append_own _ rfl _ _ 22 rfl w.heap.size 9 i0 (.string ByteArray.empty) 1 16 Tryd.underlying22 hi hz0 hz1 hz2 rfl (by decide) _ _ _ rfl (OW.out.alloc _) ⟨wr.heap.size, 0, none⟩ 1 1 [.string cur] rfl rfl (cell_one_new _ _ _) (fun x hx => by simp at hx; subst hx; rfl) (by unfold maxLen; omega) (by omega) (by simp; omega) ?_; intro v' w3 hown' hgrow3 hnil3; have OW3 := Lib.hid hown'; have G3 := Lib.hid hgrow3; clear hown' hgrow3 hnil3)
        go_roundw
        case rel => exact ⟨k + 1, done ++ [cur], _, by omega, by go_num, rfl, by simpa using OW3.out, (BL.out.alloc hsz _).grown G3.out (by simp; omega) (own_base OW.out), H2.out⟩
        case measure => simp [intOf]; omega
    · obtain rfl : k = s.size := by omega
      have HE := Lib.hid HH.out.last
      have HZ := Lib.hid (bl_sizes HH.out.last)
      obtain ⟨bp, hbp⟩ : ∃ bp, pathB (done ++ [cur]) = bp := ⟨_, rfl⟩
      have HP := Lib.hid hbp
      have HQ := Lib.hid (splR_is HH.out.last)
      clear hbp
      cases bp
      all_goals
        go_wp2_with (first
          | (at_builtin; refine wpList_append_own _ rfl _ _ 22 rfl w.heap.size 9 i0 (.string ByteArray.empty) 1 16 Tryd.underlying22 hi hz0 hz1 hz2 rfl (by decide) _ _ _ rfl (OW.out.alloc _) ⟨wr.heap.size, 0, none⟩ 1 1 [.string cur] rfl rfl (cell_one_new _ _ _) (fun x hx => by simp at hx; subst hx; rfl) (by unfold maxLen; omega) (by omega) (by simp; omega) ?_; intro v' w3 hown' hgrow3 hnil3; have OW3 := Lib.hid hown'; have G3 := Lib.hid hgrow3; clear hown' hgrow3 hnil3; obtain ⟨a1, cap1, rfl, hS1⟩ := row_own (xs := done ++ [cur]) (by simpa using OW3.out) (by omega) (fun x hx => Nat.le_trans (HZ.out x hx) (by omega)); have S1 := Lib.hid hS1; clear hS1)
          | (go_at_call 13; refine (rpath_as _ _ _ _ _ _ S1.out HP).mono ?_; rintro e w4 ⟨rfl, rfl⟩))
        go_ret
      · refine ⟨_, _, _, rfl, ?_, (BL.out.alloc hsz _).grown G3.out (by simp; omega) (own_base OW.out)⟩
        rw [HQ.out, HP.out]; exact StrRow.nil _
      · refine ⟨_, _, _, rfl, ?_, (BL.out.alloc hsz _).grown G3.out (by simp; omega) (own_base OW.out)⟩
        rw [HQ.out, HP.out]; exact S1.out
end Go.Proofs.YtikhhkhkfaadlaaDoor
