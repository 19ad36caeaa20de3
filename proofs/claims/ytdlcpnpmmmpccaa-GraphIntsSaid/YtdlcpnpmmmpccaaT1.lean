/- Qc, Qb, Qd, Qe, Qf, Qg -/
import Derived.Deep.RegionLaw
import Derived.RangeFuncBox
import Derived.Test.YtdlcpnpmmmpccaaT0
/- HEAPS OF TEXTS: plain mathematics. (at int) -/
namespace Go.Proofs.Ytdlcpnpmmmpccaa.Gn
open Go Go.Sort
theorem lsB_iff {a b : Int} : lsB a b = true ↔ a < b := by unfold lsB; simp
/-- Not greater. -/
def leT (a b : Int) : Prop := lsB b a = false
theorem leT_iff {a b : Int} : leT a b ↔ a ≤ b := by
  unfold leT
  rw [← Bool.not_eq_true, lsB_iff]
  exact Int.not_lt
theorem leT.refl (a : Int) : leT a a := leT_iff.2 (Int.le_refl _)
theorem leT.trans {a b c : Int} (h : leT a b) (k : leT b c) : leT a c := leT_iff.2 (Int.le_trans (leT_iff.1 h) (leT_iff.1 k))
theorem leT_of_ls {a b : Int} (h : lsB a b = true) : leT a b := leT_iff.2 (Int.le_of_lt (lsB_iff.1 h))
abbrev gE (hs : List Int) (i : Nat) : Int := hs.getD i 0
theorem gE_swap {hs : List Int} {i j : Nat} (hi : i < hs.length) (hj : j < hs.length) (k : Nat) : gE (swapL hs i j) k = if k = j then gE hs i else if k = i then gE hs j else gE hs k := by
  unfold swapL gE
  simp only [List.getD_eq_getElem?_getD, List.getElem?_set, List.length_set]
  by_cases e1 : j = k
  · subst e1
    simp [hj]
  · have e1' : ¬ k = j := fun e => e1 e.symm
    by_cases e2 : i = k
    · subst e2
      simp [e1, e1', hi]
    · have e2' : ¬ k = i := fun e => e2 e.symm
      simp [e1, e1', e2, e2']
theorem set_perm {α : Type} [Inhabited α] : ∀ (l : List α) (i : Nat) (x : α), i < l.length → (x :: l).Perm (l.getD i default :: l.set i x)
  | [], i, x, h => absurd h (by simp)
  | y :: l, 0, x, _ => by
    show (x :: y :: l).Perm (y :: x :: l)
    exact List.Perm.swap y x l
  | y :: l, i + 1, x, h => by
    have h1 := set_perm l i x (by simpa using h)
    show (x :: y :: l).Perm (l.getD i default :: y :: l.set i x)
    exact (List.Perm.swap y x l).trans ((h1.cons y).trans (List.Perm.swap _ _ _))
theorem swap_perm {hs : List Int} {i j : Nat} (hi : i < hs.length) (hj : j < hs.length) : (swapL hs i j).Perm hs := by
  have : Inhabited Int := ⟨0⟩
  have h1 := @set_perm Int ⟨0⟩ hs i (gE hs j) hi
  have h2 := @set_perm Int ⟨0⟩ (hs.set i (gE hs j)) j (gE hs i) (by simpa using hj)
  have e : (hs.set i (gE hs j)).getD j 0 = gE hs j := by
    simp only [List.getD_eq_getElem?_getD, List.getElem?_set]
    by_cases e : i = j
    · subst e; simp [hi]
    · rw [if_neg e]
  have h3 : (gE hs i :: hs.set i (gE hs j)).Perm (gE hs j :: swapL hs i j) := by
    have h2' : (gE hs i :: hs.set i (gE hs j)).Perm ((hs.set i (gE hs j)).getD j 0 :: (hs.set i (gE hs j)).set j (gE hs i)) := h2
    rwa [e] at h2'
  exact ((h1.trans h3).cons_inv).symm
/-- A heap: none is less than the one above it. -/
def IsH (hs : List Int) (n : Nat) : Prop := ∀ i, 0 < i → i < n → leT (gE hs ((i - 1) / 2)) (gE hs i)
/-- A heap but for one that may be less than those above. -/
def HUp (hs : List Int) (n j : Nat) : Prop := (∀ i, 0 < i → i < n → i ≠ j → leT (gE hs ((i - 1) / 2)) (gE hs i)) ∧ (0 < j → ∀ i, 0 < i → i < n → (i - 1) / 2 = j → leT (gE hs ((j - 1) / 2)) (gE hs i))
theorem HUp.stop {hs : List Int} {n j : Nat} (h : HUp hs n j) (h2 : j = 0 ∨ leT (gE hs ((j - 1) / 2)) (gE hs j)) : IsH hs n := by
  intro i h0 hi
  by_cases e : i = j
  · subst e
    exact h2.resolve_left (by omega)
  · exact h.1 i h0 hi e
theorem HUp.step {hs : List Int} {n j : Nat} (h : HUp hs n j) (hn : n ≤ hs.length) (h0 : 0 < j) (hj : j < n) (hl : lsB (gE hs j) (gE hs ((j - 1) / 2)) = true) : HUp (swapL hs ((j - 1) / 2) j) n ((j - 1) / 2) := by
  have hg := gE_swap (hs := hs) (i := (j - 1) / 2) (j := j) (by omega) (by omega)
  have hle := leT_of_ls hl
  refine ⟨fun i hi0 hi hne => ?_, fun hp0 i hi0 hi hpar => ?_⟩
  · rw [hg i, hg ((i - 1) / 2)]
    by_cases e1 : i = j
    · subst e1
      rw [if_pos rfl, if_neg (by omega), if_pos rfl]
      exact hle
    · rw [if_neg e1, if_neg hne]
      by_cases e2 : (i - 1) / 2 = j
      · rw [if_pos e2]
        exact h.2 h0 i hi0 hi e2
      · rw [if_neg e2]
        by_cases e3 : (i - 1) / 2 = (j - 1) / 2
        · rw [if_pos e3]
          have := h.1 i hi0 hi e1
          rw [e3] at this
          exact hle.trans this
        · rw [if_neg e3]
          exact h.1 i hi0 hi e1
  · rw [hg i, hg (((j - 1) / 2 - 1) / 2), if_neg (show ¬ ((j - 1) / 2 - 1) / 2 = j by omega), if_neg (show ¬ ((j - 1) / 2 - 1) / 2 = (j - 1) / 2 by omega)]
    have hup := h.1 ((j - 1) / 2) hp0 (by omega) (by omega)
    by_cases e1 : i = j
    · rw [if_pos e1]
      exact hup
    · rw [if_neg e1, if_neg (show ¬ i = (j - 1) / 2 by omega)]
      have := h.1 i hi0 hi e1
      rw [hpar] at this
      exact hup.trans this
theorem IsH.push {hs : List Int} (h : IsH hs hs.length) (k : Int) : HUp (hs ++ [k]) (hs.length + 1) hs.length := by
  have e : ∀ i, i < hs.length → gE (hs ++ [k]) i = gE hs i := fun i hi => by
    unfold gE
    rw [List.getD_eq_getElem?_getD, List.getD_eq_getElem?_getD, List.getElem?_append_left hi]
  refine ⟨fun i h0 hi hne => ?_, fun h0 i hi0 hi hp => by omega⟩
  rw [e i (by omega), e ((i - 1) / 2) (by omega)]
  exact h i h0 (by omega)
/-- A heap but for one that may be greater than those below. -/
def HDn (hs : List Int) (n i : Nat) : Prop := (∀ k, 0 < k → k < n → (k - 1) / 2 ≠ i → leT (gE hs ((k - 1) / 2)) (gE hs k)) ∧ (0 < i → ∀ k, 0 < k → k < n → (k - 1) / 2 = i → leT (gE hs ((i - 1) / 2)) (gE hs k))
theorem HDn.stop {hs : List Int} {n i : Nat} (h : HDn hs n i) (h2 : ∀ k, 0 < k → k < n → (k - 1) / 2 = i → leT (gE hs i) (gE hs k)) : IsH hs n := by
  intro k h0 hk
  by_cases e : (k - 1) / 2 = i
  · rw [e]; exact h2 k h0 hk e
  · exact h.1 k h0 hk e
theorem HDn.step {hs : List Int} {n i j : Nat} (h : HDn hs n i) (hn : n ≤ hs.length) (hj0 : 0 < j) (hj : j < n) (hp : (j - 1) / 2 = i) (hl : lsB (gE hs j) (gE hs i) = true) (hmin : ∀ k, 0 < k → k < n → (k - 1) / 2 = i → leT (gE hs j) (gE hs k)) : HDn (swapL hs i j) n j := by
  have hg := gE_swap (hs := hs) (i := i) (j := j) (by omega) (by omega)
  have hij : i ≠ j := by omega
  refine ⟨fun k hk0 hk hne => ?_, fun _ k hk0 hk hpk => ?_⟩
  · rw [hg k, hg ((k - 1) / 2), if_neg hne]
    by_cases e1 : k = j
    · subst e1
      rw [if_pos rfl, if_pos hp]
      exact leT_of_ls hl
    · rw [if_neg e1]
      by_cases e2 : (k - 1) / 2 = i
      · rw [if_pos e2, if_neg (show ¬ k = i by omega)]
        exact hmin k hk0 hk e2
      · rw [if_neg e2]
        by_cases e3 : k = i
        · subst e3
          rw [if_pos rfl]
          exact h.2 hk0 j hj0 hj hp
        · rw [if_neg e3]
          exact h.1 k hk0 hk e2
  · rw [hg k, hg ((j - 1) / 2), hp, if_neg hij, if_pos rfl, if_neg (show ¬ k = j by omega), if_neg (show ¬ k = i by omega)]
    have := h.1 k hk0 hk (by omega)
    rwa [hpk] at this
theorem IsH.least {hs : List Int} {n : Nat} (h : IsH hs n) : ∀ i, i < n → leT (gE hs 0) (gE hs i) := by
  intro i
  induction i using Nat.strongRecOn with
  | _ i ih =>
    intro hi
    by_cases h0 : i = 0
    · subst h0; exact leT.refl _
    · exact (ih ((i - 1) / 2) (by omega) (by omega)).trans (h i (by omega) hi)
theorem IsH.pop {hs : List Int} {n : Nat} (h : IsH hs (n + 1)) (hn : hs.length = n + 1) : HDn (swapL hs 0 n) n 0 := by
  have hg := gE_swap (hs := hs) (i := 0) (j := n) (by omega) (by omega)
  refine ⟨fun k hk0 hk hne => ?_, fun h0 => absurd h0 (by omega)⟩
  rw [hg k, hg ((k - 1) / 2), if_neg (by omega), if_neg hne, if_neg (by omega), if_neg (by omega)]
  exact h k hk0 (by omega)
theorem take_isH {hs : List Int} {n : Nat} (h : IsH hs n) (hn : n ≤ hs.length) : IsH (hs.take n) (hs.take n).length := by
  have hl : (hs.take n).length = n := by rw [List.length_take]; omega
  rw [hl]
  intro i h0 hi
  have e : ∀ k, k < n → gE (hs.take n) k = gE hs k := fun k hk => by
    unfold gE
    rw [List.getD_eq_getElem?_getD, List.getD_eq_getElem?_getD, List.getElem?_take_of_lt hk]
  rw [e i hi, e _ (by omega)]
  exact h i h0 hi
end Go.Proofs.Ytdlcpnpmmmpccaa.Gn
/- WALKS of container/heap over a heap of texts. (at int) -/
namespace Go.Proofs.Ytdlcpnpmmmpccaa.Gn
open Go.RowKit Go.Maps Go.Sort
open Go.Proofs.Ytdlcpnpmmmpccaa.Gr (grown_none grown_row below_none Qrow qrow_of nodup_le grown_trans Qrow.slice Qrow.shape hp_alloc it)
set_option maxRecDepth 100000 in
theorem ld82 {b : Nat} {w : World} {a : Option Addr} {n c : Nat} (h : w.cell? ⟨b, 0, none⟩ = some (.slice a n c)) : (loadVar 97 ⟨b, 0, none⟩).run Try.prog w = .ok (.slice a n c) w := by
  simp [loadVar, h, go_sem]
set_option maxRecDepth 100000 in
theorem wrap_ok (ats : Array TypeId) (ty : TypeId) (a : Addr) (x y : String) (w : World) : (Builtin.ssaWrapNilChk_ ats ty #[.pointer (some a), strVal x, strVal y]).run Try.prog w = .ok (.pointer (some a)) w := rfl
set_option maxRecDepth 100000 in
theorem rc_val {b : Nat} {w : World} {a : Option Addr} {n c : Nat} {nm : String} (h : w.cell? ⟨b, 0, none⟩ = some (.slice a n c)) : (receiverAt 96 (.val (.pointer (some ⟨b, 0, none⟩))) false (some nm)).run Try.prog w = .ok (.slice a n c) w := by
  unfold receiverAt
  simp only [Sem.run_bind, run_underlying Try.underlying96, Result.andThen_ok, Place.get, Sem.run_pure, wrap_ok, asAddr, ld82 h]
set_option maxRecDepth 100000 in
theorem m_val {b : Nat} {w : World} {a : Option Addr} {n c : Nat} {s : String} {f : Nat} (hm : ((Try.prog.info? 96).bind fun i => i.methods.find? fun x => x.name == s).map (fun m => (m.path, m.func)) = some (#[], some (f, false))) (h : w.cell? ⟨b, 0, none⟩ = some (.slice a n c)) : (method 285 96 (.pointer (some ⟨b, 0, none⟩)) s).run Try.prog w = .ok (f, .slice a n c) w := by
  obtain ⟨m, hm, e⟩ := Option.map_eq_some_iff.1 hm
  obtain ⟨i, hi, hf⟩ := Option.bind_eq_some_iff.1 hm
  obtain ⟨nm, sig, pa, fn⟩ := m
  injection e with hp hfn
  dsimp only at hp hfn
  subst hp hfn
  unfold method
  simp [typeInfo, hi, hf, follow, rc_val h]
set_option maxRecDepth 100000 in
theorem m_less {b : Nat} {w : World} {a : Option Addr} {n c : Nat} (h : w.cell? ⟨b, 0, none⟩ = some (.slice a n c)) : (method 285 96 (.pointer (some ⟨b, 0, none⟩)) "Less").run Try.prog w = .ok (163, .slice a n c) w :=
  m_val (by kernel_rfl) h
set_option maxRecDepth 100000 in
theorem m_len {b : Nat} {w : World} {a : Option Addr} {n c : Nat} (h : w.cell? ⟨b, 0, none⟩ = some (.slice a n c)) : (method 285 96 (.pointer (some ⟨b, 0, none⟩)) "Len").run Try.prog w = .ok (64, .slice a n c) w :=
  m_val (by kernel_rfl) h
set_option maxRecDepth 100000 in
theorem m_swap {b : Nat} {w : World} {a : Option Addr} {n c : Nat} (h : w.cell? ⟨b, 0, none⟩ = some (.slice a n c)) : (method 285 96 (.pointer (some ⟨b, 0, none⟩)) "Swap").run Try.prog w = .ok (166, .slice a n c) w :=
  m_val (by kernel_rfl) h
set_option maxRecDepth 100000 in
theorem m_push (b : Nat) (w : World) : (method 285 96 (.pointer (some ⟨b, 0, none⟩)) "Push").run Try.prog w = .ok (165, .pointer (some ⟨b, 0, none⟩)) w := by kernel_rfl
set_option maxRecDepth 100000 in
theorem m_pop (b : Nat) (w : World) : (method 285 96 (.pointer (some ⟨b, 0, none⟩)) "Pop").run Try.prog w = .ok (164, .pointer (some ⟨b, 0, none⟩)) w := by kernel_rfl
/-- A heap of texts: its box, its row. -/
structure HPr (w : World) (base hB : Nat) (v : Value) (hs : List Int) : Prop where
  box : w.heap[hB]? = some (.cells #[v] 97)
  row : w.ownsRow base 3 1 v hs.length (hs.map (Value.int .i64))
  off : v.ownBlock ≠ some hB
abbrev hI (hB : Nat) : Value := .iface 96 (.pointer (some ⟨hB, 0, none⟩))
theorem HPr.lt {w : World} {base hB : Nat} {v : Value} {hs : List Int} (h : HPr w base hB v hs) : hB < w.heap.size := (Array.getElem?_eq_some_iff.1 h.box).1
theorem HPr.cell {w : World} {base hB : Nat} {v : Value} {hs : List Int} (h : HPr w base hB v hs) : w.cell? ⟨hB, 0, none⟩ = some v := by
  simp [World.cell?, h.box]
theorem HPr.shape {w : World} {base hB : Nat} {v : Value} {hs : List Int} (h : HPr w base hB v hs) : ∃ a c, v = .slice a hs.length c := by
  obtain ⟨a, c, e⟩ := (qrow_of h.row).slice
  exact ⟨a, c, by rw [e, List.length_map]⟩
theorem HPr.kept {w w' : World} {base hB : Nat} {v : Value} {hs : List Int} (h : HPr w base hB v hs) {r : Option Nat} (hg : w.grownBy w' r) (h1 : r ≠ some hB) (h2 : ∀ g, v.ownBlock = some g → r ≠ some g) : HPr w' base hB v hs :=
  ⟨(hg.block hB h.lt (fun e => h1 e.symm)).trans h.box, h.row.kept hg (by
    cases hb : v.ownBlock with
    | none => exact .inl rfl
    | some g => exact .inr (fun e => h2 g hb e.symm)), h.off⟩
theorem HPr.below {w w' : World} {base hB : Nat} {v : Value} {hs : List Int} (h : HPr w base hB v hs) (hb : Below w.heap.size w w') : HPr w' base hB v hs := h.kept (grow_of hb) (by simp) (by simp)
theorem HPr.put {w w' : World} {base hB : Nat} {v : Value} {hs hs' : List Int} (h : HPr w base hB v hs) (hg : w.grownBy w' v.ownBlock) (hr : w'.ownsRow base 3 1 v hs'.length (hs'.map (Value.int .i64))) : HPr w' base hB v hs' :=
  ⟨(hg.block hB h.lt (fun e => h.off e.symm)).trans h.box, hr, h.off⟩
theorem grown_trans {w w1 w2 : World} {r : Option Nat} (h : w.grownBy w1 r) (k : w1.grownBy w2 r) : w.grownBy w2 r :=
  ⟨k.os.trans h.os, k.tape.trans h.tape, k.output.trans h.output, Nat.le_trans h.size k.size, fun i hi hne => (k.block i (Nat.lt_of_lt_of_le hi h.size) hne).trans (h.block i hi hne)⟩
theorem grown_below {w w1 : World} {r : Option Nat} (h : Below w.heap.size w w1) : w.grownBy w1 r := ⟨h.os, h.tape, h.output, h.size, fun i hi _ => h.block i hi⟩
/-- What a sift leaves. -/
def SiftP (base hB : Nat) (v : Value) (hs : List Int) (n : Nat) (w w' : World) : Prop := ∃ hs', hs'.Perm hs ∧ IsH hs' n ∧ HPr w' base hB v hs' ∧ w.grownBy w' v.ownBlock ∧ ∀ k, n ≤ k → gE hs' k = gE hs k
set_option maxRecDepth 100000 in
set_option maxHeartbeats 8000000 in
theorem hup_any {w : World} {base hB : Nat} {v : Value} {hs : List Int} (h : HPr w base hB v hs) (hmax : hs.length ≤ 1000000) {j : Nat} (hj : j < hs.length) (hH : HUp hs hs.length j) : Calls Try.prog 81 #[hI hB, .int .i64 j] w (fun e w' => e = .returned (.tuple #[]) ∧ SiftP base hB v hs hs.length w w') := by
  obtain ⟨a, c, rfl⟩ := h.shape
  have HX := Lib.hid h
  have HU := Lib.hid hH
  obtain ⟨n, hn⟩ : ∃ n, hs.length = n := ⟨_, rfl⟩
  rw [hn] at HX HU hj hmax
  rw [hn]
  have HN := Lib.hid hn
  clear h hH hn
  go_enter Try.func81, Try.ntmps81
  go_wp2_with fail
  go_loopw [1] (fun i wr => ∃ (k : Nat) (hs' : List Int), k ≤ j ∧ i = .int .i64 k ∧ Hid (hs'.Perm hs) ∧ Hid (HUp hs' n k) ∧ Hid (HPr wr base hB (.slice a n c) hs') ∧ Hid (w.grownBy wr (Value.slice a n c).ownBlock)) (fun i _ => (intOf i).toNat)
  case atStart => exact ⟨j, hs, by omega, rfl, Lib.hid (List.Perm.refl _), HU, HX, Lib.hid (grown_below (Below.refl _ _))⟩
  case round =>
    clear HU
    obtain ⟨k, hs', hk, rfl, hP, hU, hX, hG⟩ := hrel
    rename World => wr
    have HP := Lib.hid hP.out
    have HU := Lib.hid hU.out
    have HY := Lib.hid hX.out
    have HG := Lib.hid hG.out
    have hln : hs'.length = n := HP.out.length_eq.trans HN.out
    have HLN := Lib.hid hln
    clear hP hU hX hG hln
    have hfin : IsH hs' n → Hid (SiftP base hB (.slice a n c) hs n w wr) := fun hi => Lib.hid ⟨hs', HP.out, hi, HY.out, HG.out, fun k hk => by
      unfold gE
      rw [List.getD_eq_getElem?_getD, List.getD_eq_getElem?_getD, List.getElem?_eq_none (by have := HLN.out; omega), List.getElem?_eq_none (by have := HN.out; omega)]⟩
    have HFN := Lib.hid hfin
    clear hfin
    by_cases hk0 : k = 0
    · subst hk0
      have HE := HFN.out (HU.out.stop (.inl rfl))
      clear HFN
      go_wp2_with fail
      go_end0
      exact ⟨rfl, HE.out⟩
    · obtain ⟨p, hp⟩ : ∃ p, (k - 1) / 2 = p := ⟨_, rfl⟩
      have hpi : ((k : Int) - 1) / 2 = (p : Int) := by omega
      have hpk : p < k := by omega
      have hml := m_less HY.out.cell
      have hrow := HY.out.row
      rw [HLN.out] at hrow
      have HLS := Lib.hid (show Calls Try.prog 163 #[.slice a n c, .int .i64 k, .int .i64 p] wr (BoolP (lsB (gE hs' k) (gE hs' p)) wr) from hless_any HY.out.row (by have := HLN.out; omega) (by have := HLN.out; omega) (by have := HLN.out; omega))
      have HPE := Lib.hid hp
      clear hp hrow
      cases hl : lsB (gE hs' k) (gE hs' p) with
      | false =>
        rw [hl] at HLS
        have HE := HFN.out (HU.out.stop (.inr (by rw [HPE.out]; exact hl)))
        clear HFN hl
        go_wp2_with fail
        go_at_call 163; refine HLS.out.mono ?_; rintro e w2 ⟨rfl, hB2⟩
        have HB2 := Lib.hid hB2
        clear hB2
        go_wp2_with fail
        go_end0
        obtain ⟨q, h1, h2, h3, h4, h5⟩ := HE.out
        exact ⟨rfl, q, h1, h2, h3.below HB2.out, grown_trans h4 (grown_below HB2.out), h5⟩
      | true =>
        rw [hl] at HLS
        have HST := Lib.hid (show HUp (swapL hs' p k) n p by
          have := HU.out.step (by have := HLN.out; omega) (by omega) (by omega) (by rw [HPE.out]; exact hl)
          rwa [HPE.out] at this)
        clear HFN hl
        go_wp2_with fail
        go_at_call 163; refine HLS.out.mono ?_; rintro e w2 ⟨rfl, hB2⟩
        have HY2 := Lib.hid (HY.out.below hB2)
        have HG2 := Lib.hid (grown_trans HG.out (grown_below hB2))
        have hms := m_swap HY2.out.cell
        have HSW := Lib.hid (hswap_any HY2.out.row (i := p) (j := k) (by have := HLN.out; omega) (by have := HLN.out; omega) (by have := HLN.out; omega))
        clear hB2 hml
        go_wp2_with fail
        go_at_call 166; refine HSW.out.mono ?_; rintro e w3 ⟨rfl, hr3, hg3⟩
        have HY3 := Lib.hid (HY2.out.put hg3 hr3)
        have HG3 := Lib.hid (grown_trans HG2.out hg3)
        have HP3 := Lib.hid ((swap_perm (hs := hs') (i := p) (j := k) (by have := HLN.out; omega) (by have := HLN.out; omega)).trans HP.out)
        clear hr3 hg3 hms
        go_wp2_with fail
        go_roundw
        case rel => exact ⟨p, swapL hs' p k, by omega, rfl, HP3, HST, HY3, HG3⟩
        case measure => simp [intOf]; omega
end Go.Proofs.Ytdlcpnpmmmpccaa.Gn
/- WALK of container/heap's down over a heap of texts. (at int) -/
namespace Go.Proofs.Ytdlcpnpmmmpccaa.Gn
open Go.RowKit Go.Maps Go.Sort
open Go.Proofs.Ytdlcpnpmmmpccaa.Gr (grown_none grown_row below_none Qrow qrow_of nodup_le grown_trans Qrow.slice Qrow.shape hp_alloc it)
def DownP (base hB : Nat) (v : Value) (hs : List Int) (m : Nat) (w : World) (e : Ending) (w' : World) : Prop := ∃ b : Bool, e = .returned (.bool b) ∧ SiftP base hB v hs m w w'
set_option maxRecDepth 100000 in
set_option maxHeartbeats 16000000 in
theorem hdown_any {w : World} {base hB : Nat} {v : Value} {hs : List Int} (h : HPr w base hB v hs) (hmax : hs.length ≤ 1000000) {m : Nat} (hm : m ≤ hs.length) (hH : HDn hs m 0) : Calls Try.prog 82 #[hI hB, .int .i64 0, .int .i64 m] w (DownP base hB v hs m w) := by
  obtain ⟨a, c, rfl⟩ := h.shape
  have HX := Lib.hid h
  have HU := Lib.hid hH
  obtain ⟨n, hn⟩ : ∃ n, hs.length = n := ⟨_, rfl⟩
  rw [hn] at HX hm hmax
  rw [hn]
  have HN := Lib.hid hn
  clear h hH hn
  go_enter Try.func82, Try.ntmps82
  go_wp2_with fail
  go_loopw [7] (fun i wr => ∃ (k : Nat) (hs' : List Int), k ≤ m ∧ i = .int .i64 k ∧ Hid (hs'.Perm hs) ∧ Hid (HDn hs' m k) ∧ Hid (HPr wr base hB (.slice a n c) hs') ∧ Hid (w.grownBy wr (Value.slice a n c).ownBlock) ∧ Hid (∀ q, m ≤ q → gE hs' q = gE hs q)) (fun i _ => m - (intOf i).toNat)
  case atStart => exact ⟨0, hs, by omega, rfl, Lib.hid (List.Perm.refl _), HU, HX, Lib.hid (grown_below (Below.refl _ _)), Lib.hid fun _ _ => rfl⟩
  case round =>
    clear HU
    obtain ⟨k, hs', hk, rfl, hP, hU, hX, hG, hK⟩ := hrel
    rename World => wr
    have HP := Lib.hid hP.out
    have HU := Lib.hid hU.out
    have HY := Lib.hid hX.out
    have HG := Lib.hid hG.out
    have HK := Lib.hid hK.out
    have hln : hs'.length = n := HP.out.length_eq.trans HN.out
    have HLN := Lib.hid hln
    clear hP hU hX hG hK hln
    have hfin : IsH hs' m → Hid (SiftP base hB (.slice a n c) hs m w wr) := fun hi => Lib.hid ⟨hs', HP.out, hi, HY.out, HG.out, HK.out⟩
    have HFN := Lib.hid hfin
    clear hfin
    by_cases hk1 : 2 * k + 1 < m
    · by_cases hk2 : 2 * k + 2 < m
      · have hml := m_less HY.out.cell
        have HLS := Lib.hid (show Calls Try.prog 163 #[.slice a n c, .int .i64 ((2 * k + 2 : Nat) : Int), .int .i64 ((2 * k + 1 : Nat) : Int)] wr (BoolP (lsB (gE hs' (2 * k + 2)) (gE hs' (2 * k + 1))) wr) from by
          have := hless_any HY.out.row (i := 2 * k + 2) (j := 2 * k + 1) (by have := HLN.out; omega) (by have := HLN.out; omega) (by have := HLN.out; omega)
          exact this)
        obtain ⟨j1, hj1⟩ : ∃ j1, 2 * k + 1 = j1 := ⟨_, rfl⟩
        obtain ⟨j2, hj2⟩ : ∃ j2, 2 * k + 2 = j2 := ⟨_, rfl⟩
        rw [hj1, hj2] at HLS
        have e1 : 2 * (k : Int) + 1 = (j1 : Int) := by omega
        have e2 : (j1 : Int) + 1 = (j2 : Int) := by omega
        have hb1 : j1 < m := by omega
        have hb2 : j2 < m := by omega
        cases hlj : lsB (gE hs' j2) (gE hs' j1) with
        | true =>
          rw [hlj] at HLS
          have HMN := Lib.hid (show ∀ q, 0 < q → q < m → (q - 1) / 2 = k → leT (gE hs' j2) (gE hs' q) from fun q hq0 hq hpq => by
            have hq2 : q = j1 ∨ q = j2 := by omega
            rcases hq2 with rfl | rfl
            · exact leT_of_ls hlj
            · exact leT.refl _)
          clear hlj
          go_wp2_with fail
          go_at_call 163; refine HLS.out.mono ?_; rintro e w5 ⟨rfl, hB5⟩
          have HBB := Lib.hid hB5
          have HY5 := Lib.hid (HY.out.below hB5)
          have HG5 := Lib.hid (grown_trans HG.out (grown_below hB5))
          clear hB5 hml
          have hml2 := m_less HY5.out.cell
          have HLS2 := Lib.hid (show Calls Try.prog 163 #[.slice a n c, .int .i64 (j2 : Nat), .int .i64 k] w5 (BoolP (lsB (gE hs' j2) (gE hs' k)) w5) from by
            have := hless_any HY5.out.row (i := j2) (j := k) (by have := HLN.out; omega) (by have := HLN.out; omega) (by have := HLN.out; omega)
            exact this)
          cases hl : lsB (gE hs' j2) (gE hs' k) with
          | false =>
            rw [hl] at HLS2
            have HE := HFN.out (HU.out.stop (fun q hq0 hq hpq => HMN.out q hq0 hq hpq |> fun h => leT.trans (show leT (gE hs' k) (gE hs' j2) from hl) h))
            clear HFN hl
            go_wp2_with fail
            go_at_call 163; refine HLS2.out.mono ?_; rintro e w6 ⟨rfl, hB2⟩
            have HB2 := Lib.hid hB2
            clear hB2
            go_wp2_with fail
            go_ret
            obtain ⟨q, h1, h2, h3, h4, h5⟩ := HE.out
            exact ⟨_, rfl, q, h1, h2, (h3.below HBB.out).below HB2.out, grown_trans (grown_trans h4 (grown_below HBB.out)) (grown_below HB2.out), h5⟩
          | true =>
            rw [hl] at HLS2
            have HST := Lib.hid (show HDn (swapL hs' k j2) m j2 from HU.out.step (by have := HLN.out; omega) (by omega) (by omega) (by omega) hl HMN.out)
            clear HFN hl
            go_wp2_with fail
            go_at_call 163; refine HLS2.out.mono ?_; rintro e w6 ⟨rfl, hB2⟩
            have HY2 := Lib.hid (HY5.out.below hB2)
            have HG2 := Lib.hid (grown_trans HG5.out (grown_below hB2))
            have hms := m_swap HY2.out.cell
            have HSW := Lib.hid (show Calls Try.prog 166 #[.slice a n c, .int .i64 k, .int .i64 (j2 : Nat)] w6 _ from hswap_any HY2.out.row (i := k) (j := j2) (by have := HLN.out; omega) (by have := HLN.out; omega) (by have := HLN.out; omega))
            clear hB2 hml2
            go_wp2_with fail
            go_at_call 166; refine HSW.out.mono ?_; rintro e w7 ⟨rfl, hr3, hg3⟩
            have HY3 := Lib.hid (HY2.out.put hg3 hr3)
            have HG3 := Lib.hid (grown_trans HG2.out hg3)
            have HP3 := Lib.hid ((swap_perm (hs := hs') (i := k) (j := j2) (by have := HLN.out; omega) (by have := HLN.out; omega)).trans HP.out)
            have HK3 := Lib.hid (show ∀ q, m ≤ q → gE (swapL hs' k j2) q = gE hs q from fun q hq => by
              rw [gE_swap (by have := HLN.out; omega) (by have := HLN.out; omega), if_neg (by omega), if_neg (by omega)]
              exact HK.out q hq)
            clear hr3 hg3 hms
            go_wp2_with fail
            go_roundw
            case rel => exact ⟨j2, swapL hs' k j2, by omega, by go_num, HP3, HST, HY3, HG3, HK3⟩
            case measure => simp [intOf]; omega
        | false =>
          rw [hlj] at HLS
          have HMN := Lib.hid (show ∀ q, 0 < q → q < m → (q - 1) / 2 = k → leT (gE hs' j1) (gE hs' q) from fun q hq0 hq hpq => by
            have hq2 : q = j1 ∨ q = j2 := by omega
            rcases hq2 with rfl | rfl
            · exact leT.refl _
            · exact hlj)
          clear hlj
          go_wp2_with fail
          go_at_call 163; refine HLS.out.mono ?_; rintro e w5 ⟨rfl, hB5⟩
          have HBB := Lib.hid hB5
          have HY5 := Lib.hid (HY.out.below hB5)
          have HG5 := Lib.hid (grown_trans HG.out (grown_below hB5))
          clear hB5 hml
          have hml2 := m_less HY5.out.cell
          have HLS2 := Lib.hid (show Calls Try.prog 163 #[.slice a n c, .int .i64 (j1 : Nat), .int .i64 k] w5 (BoolP (lsB (gE hs' j1) (gE hs' k)) w5) from by
            have := hless_any HY5.out.row (i := j1) (j := k) (by have := HLN.out; omega) (by have := HLN.out; omega) (by have := HLN.out; omega)
            exact this)
          cases hl : lsB (gE hs' j1) (gE hs' k) with
          | false =>
            rw [hl] at HLS2
            have HE := HFN.out (HU.out.stop (fun q hq0 hq hpq => HMN.out q hq0 hq hpq |> fun h => leT.trans (show leT (gE hs' k) (gE hs' j1) from hl) h))
            clear HFN hl
            go_wp2_with fail
            go_at_call 163; refine HLS2.out.mono ?_; rintro e w6 ⟨rfl, hB2⟩
            have HB2 := Lib.hid hB2
            clear hB2
            go_wp2_with fail
            go_ret
            obtain ⟨q, h1, h2, h3, h4, h5⟩ := HE.out
            exact ⟨_, rfl, q, h1, h2, (h3.below HBB.out).below HB2.out, grown_trans (grown_trans h4 (grown_below HBB.out)) (grown_below HB2.out), h5⟩
          | true =>
            rw [hl] at HLS2
            have HST := Lib.hid (show HDn (swapL hs' k j1) m j1 from HU.out.step (by have := HLN.out; omega) (by omega) (by omega) (by omega) hl HMN.out)
            clear HFN hl
            go_wp2_with fail
            go_at_call 163; refine HLS2.out.mono ?_; rintro e w6 ⟨rfl, hB2⟩
            have HY2 := Lib.hid (HY5.out.below hB2)
            have HG2 := Lib.hid (grown_trans HG5.out (grown_below hB2))
            have hms := m_swap HY2.out.cell
            have HSW := Lib.hid (show Calls Try.prog 166 #[.slice a n c, .int .i64 k, .int .i64 (j1 : Nat)] w6 _ from hswap_any HY2.out.row (i := k) (j := j1) (by have := HLN.out; omega) (by have := HLN.out; omega) (by have := HLN.out; omega))
            clear hB2 hml2
            go_wp2_with fail
            go_at_call 166; refine HSW.out.mono ?_; rintro e w7 ⟨rfl, hr3, hg3⟩
            have HY3 := Lib.hid (HY2.out.put hg3 hr3)
            have HG3 := Lib.hid (grown_trans HG2.out hg3)
            have HP3 := Lib.hid ((swap_perm (hs := hs') (i := k) (j := j1) (by have := HLN.out; omega) (by have := HLN.out; omega)).trans HP.out)
            have HK3 := Lib.hid (show ∀ q, m ≤ q → gE (swapL hs' k j1) q = gE hs q from fun q hq => by
              rw [gE_swap (by have := HLN.out; omega) (by have := HLN.out; omega), if_neg (by omega), if_neg (by omega)]
              exact HK.out q hq)
            clear hr3 hg3 hms
            go_wp2_with fail
            go_roundw
            case rel => exact ⟨j1, swapL hs' k j1, by omega, by go_num, HP3, HST, HY3, HG3, HK3⟩
            case measure => simp [intOf]; omega
      · obtain ⟨j1, hj1⟩ : ∃ j1, 2 * k + 1 = j1 := ⟨_, rfl⟩
        have e1 : 2 * (k : Int) + 1 = (j1 : Int) := by omega
        have hb1 : j1 < m := by omega
        have hb2 : ¬ (j1 : Int) + 1 < (m : Int) := by omega
        have HMN := Lib.hid (show ∀ q, 0 < q → q < m → (q - 1) / 2 = k → leT (gE hs' j1) (gE hs' q) from fun q hq0 hq hpq => by
          have hq2 : q = j1 := by omega
          rw [hq2]
          exact leT.refl _)
        have HBB := Lib.hid (Below.refl wr.heap.size wr)
        have hml2 := m_less HY.out.cell
        have HLS2 := Lib.hid (show Calls Try.prog 163 #[.slice a n c, .int .i64 (j1 : Nat), .int .i64 k] wr (BoolP (lsB (gE hs' j1) (gE hs' k)) wr) from by
          have := hless_any HY.out.row (i := j1) (j := k) (by have := HLN.out; omega) (by have := HLN.out; omega) (by have := HLN.out; omega)
          exact this)
        cases hl : lsB (gE hs' j1) (gE hs' k) with
        | false =>
          rw [hl] at HLS2
          have HE := HFN.out (HU.out.stop (fun q hq0 hq hpq => HMN.out q hq0 hq hpq |> fun h => leT.trans (show leT (gE hs' k) (gE hs' j1) from hl) h))
          clear HFN hl
          go_wp2_with fail
          go_at_call 163; refine HLS2.out.mono ?_; rintro e w6 ⟨rfl, hB2⟩
          have HB2 := Lib.hid hB2
          clear hB2
          go_wp2_with fail
          go_ret
          obtain ⟨q, h1, h2, h3, h4, h5⟩ := HE.out
          exact ⟨_, rfl, q, h1, h2, (h3.below HBB.out).below HB2.out, grown_trans (grown_trans h4 (grown_below HBB.out)) (grown_below HB2.out), h5⟩
        | true =>
          rw [hl] at HLS2
          have HST := Lib.hid (show HDn (swapL hs' k j1) m j1 from HU.out.step (by have := HLN.out; omega) (by omega) (by omega) (by omega) hl HMN.out)
          clear HFN hl
          go_wp2_with fail
          go_at_call 163; refine HLS2.out.mono ?_; rintro e w6 ⟨rfl, hB2⟩
          have HY2 := Lib.hid (HY.out.below hB2)
          have HG2 := Lib.hid (grown_trans HG.out (grown_below hB2))
          have hms := m_swap HY2.out.cell
          have HSW := Lib.hid (show Calls Try.prog 166 #[.slice a n c, .int .i64 k, .int .i64 (j1 : Nat)] w6 _ from hswap_any HY2.out.row (i := k) (j := j1) (by have := HLN.out; omega) (by have := HLN.out; omega) (by have := HLN.out; omega))
          clear hB2 hml2
          go_wp2_with fail
          go_at_call 166; refine HSW.out.mono ?_; rintro e w7 ⟨rfl, hr3, hg3⟩
          have HY3 := Lib.hid (HY2.out.put hg3 hr3)
          have HG3 := Lib.hid (grown_trans HG2.out hg3)
          have HP3 := Lib.hid ((swap_perm (hs := hs') (i := k) (j := j1) (by have := HLN.out; omega) (by have := HLN.out; omega)).trans HP.out)
          have HK3 := Lib.hid (show ∀ q, m ≤ q → gE (swapL hs' k j1) q = gE hs q from fun q hq => by
            rw [gE_swap (by have := HLN.out; omega) (by have := HLN.out; omega), if_neg (by omega), if_neg (by omega)]
            exact HK.out q hq)
          clear hr3 hg3 hms
          go_wp2_with fail
          go_roundw
          case rel => exact ⟨j1, swapL hs' k j1, by omega, by go_num, HP3, HST, HY3, HG3, HK3⟩
          case measure => simp [intOf]; omega
    · have HE := HFN.out (HU.out.stop (fun q hq0 hq hpq => by omega))
      have e1 : ¬ 2 * (k : Int) + 1 < (m : Int) := by omega
      have e2 : (m : Int) ≤ 2 * (k : Int) + 1 := by omega
      clear HFN
      go_wp2_with fail
      go_ret
      exact ⟨_, rfl, HE.out⟩
end Go.Proofs.Ytdlcpnpmmmpccaa.Gn
/- WALKS of the heap's Len, Push, Pop; container/heap's Push, Pop. (at int) -/
namespace Go.Proofs.Ytdlcpnpmmmpccaa.Gn
open Go.RowKit Go.Maps Go.Sort
open Go.Proofs.Ytdlcpnpmmmpccaa.Gr (grown_none grown_row below_none Qrow qrow_of nodup_le grown_trans Qrow.slice Qrow.shape hp_alloc it step_append_run)
theorem hlen_any (a : Option Addr) (n c : Nat) (w : World) : Calls Try.prog 64 #[.slice a n c] w (fun e w' => e = .returned (.int .i64 n) ∧ w = w') := by
  go_enter Try.func64, Try.ntmps64
  go_wp2_with fail
  go_ret
  exact ⟨rfl, rfl⟩
set_option maxRecDepth 100000 in
theorem run_assert (s : Int) (w : World) : (Instr.typeAssert (.iface 3 (.int .i64 s)) 20 3 false).run Try.prog w = .ok (.int .i64 s) w := by kernel_rfl
/-- Where a heap's row lies behind: the old one's, or a new one. -/
def HStep (w w' : World) (hB : Nat) (v v' : Value) : Prop := w'.os = w.os ∧ w'.tape = w.tape ∧ w'.output = w.output ∧ w.heap.size ≤ w'.heap.size ∧ (∀ k, k < w.heap.size → k ≠ hB → some k ≠ v.ownBlock → w'.heap[k]? = w.heap[k]?) ∧ (v'.ownBlock = v.ownBlock ∨ ∃ g, v'.ownBlock = some g ∧ w.heap.size ≤ g)
/-- Another slice laid into the box. -/
theorem box_put {w' : World} {base hB : Nat} {v0 nv : Value} {hs : List Int} (hbx : w'.heap[hB]? = some (.cells #[v0] 97)) (hr : w'.ownsRow base 3 1 nv hs.length (hs.map (Value.int .i64))) (ho : nv.ownBlock ≠ some hB) : HPr (w'.setCell ⟨hB, 0, none⟩ nv) base hB nv hs :=
  ⟨heap_setCell_same w' hB 0 #[v0] 97 nv hbx, hr.kept (grownBy_setCell' w' hB nv) (.inr ho), ho⟩
/-- What a push leaves in the box. -/
def PushP (base hB : Nat) (v : Value) (hs' : List Int) (w : World) (e : Ending) (w' : World) : Prop := e = .returned (.tuple #[]) ∧ ∃ v', HPr w' base hB v' hs' ∧ HStep w w' hB v v'
set_option maxRecDepth 100000 in
set_option maxHeartbeats 8000000 in
theorem lpush_any {w : World} {base hB : Nat} {v : Value} {hs : List Int} (h : HPr w base hB v hs) (hmax : hs.length ≤ 900000) (hbase : base ≤ w.heap.size) {k : Int} (_hk : okS k) : Calls Try.prog 165 #[.pointer (some ⟨hB, 0, none⟩), .iface 3 (.int .i64 k)] w (PushP base hB v (hs ++ [k]) w) := by
  obtain ⟨i0, hi, hz0, hz1, hz2⟩ := info_parts info3
  have hrow := (h.row.drew).alloc (.cells #[.int .i64 k] 3)
  obtain ⟨v', w', hrun, hr2, hg2, -, hat⟩ := run_append_own_at (P := Try.prog) (w.drew.alloc (.cells #[.int .i64 k] 3)) base 97 97 3 i0 _ 1 8 Try.underlying97 hi hz0 hz1 hz2 rfl (by decide) v hs.length (hs.map (Value.int .i64)) hrow ⟨w.heap.size, 0, none⟩ 1 1 [.int .i64 k] rfl (by have := cell_one_new w.drew (.int .i64 k) 3; simpa using this) (by intro u hu; simp at hu; subst hu; rfl) (by unfold maxLen; omega) (by omega) (by simp; omega)
  obtain ⟨a', c', rfl⟩ := (qrow_of hr2).slice
  have hln : (List.map (Value.int .i64) hs ++ [(Value.int .i64) k]).length = hs.length + 1 := by simp
  rw [hln] at hrun hr2 hat
  have hlt0 := h.lt
  have hbx : w'.heap[hB]? = some (.cells #[v] 97) := by
    rw [hg2.block hB (by simp; omega) (fun e => h.off e.symm)]
    exact (Below.heap_alloc _ _ _ hlt0).trans h.box
  have cx : w'.cell? ⟨hB, 0, none⟩ = some v := by simp [World.cell?, hbx]
  have fx : w'.frozen? ⟨hB, 0, none⟩ = false := by simp [World.frozen?, hbx]
  have HBX := Lib.hid hbx
  have HRUN := Lib.hid hrun
  have HR2 := Lib.hid hr2
  have HG2 := Lib.hid hg2
  have HAT := Lib.hid hat
  have HH := Lib.hid h
  have c0 : w.cell? ⟨hB, 0, none⟩ = some v := h.cell
  obtain ⟨a, c, rfl⟩ := h.shape
  have hlt := h.lt
  have hta := run_assert k
  clear h hrow hrun hr2 hg2 hat hbx hln hlt0
  go_enter Try.func165, Try.ntmps165
  go_wp2_with fail
  go_region_law (refine step_append_run (by rfl) _ _ _ _ (by rfl) _ _ (by rfl) (by rfl) _ _ HRUN.out ?_)
  all_goals
    go_wp2_with fail
    go_end0
    refine ⟨rfl, _, box_put HBX.out (hs := hs ++ [k]) (by rw [List.length_append, List.map_append]; exact HR2.out) ?_, ?_⟩
    · rcases HAT.out with e | e
      · rw [e]; exact HH.out.off
      · rw [e]; intro e2; injection e2 with e2; simp at e2; omega
    · have hg := HG2.out
      have hsz := hg.size
      simp at hsz
      refine ⟨hg.os, hg.tape, hg.output, by simp; omega, fun q hq h1 h2 => ?_, ?_⟩
      · rw [(grownBy_setCell' w' hB _).block q (by omega) (fun e => h1 (by injection e)), hg.block q (by simp; omega) h2]
        exact Below.heap_alloc _ _ _ hq
      · rcases HAT.out with e | e
        · exact .inl e
        · exact .inr ⟨_, e, by simp⟩
set_option maxRecDepth 100000 in
theorem run_cut82 (w : World) (g n m cap : Nat) (h : m ≤ cap) : (Instr.slice 97 (.slice (some ⟨g, 0, none⟩) n cap) none (some (.int .i64 (m : Int))) none).run Try.prog w = .ok (.slice (some ⟨g, 0, none⟩) m cap) w := by
  have hs := run_slice_h (P := Try.prog) w 97 (some ⟨g, 0, none⟩) n cap Try.underlying97 .i64 (m : Int) (by omega) (by omega)
  rw [hs, show Try.prog.elem 97 = 3 by kernel_rfl, Try.sizeOf3]
  simp only [Result.andThen, sliced]
  by_cases hc : cap = 0 <;> simp [hc, Addr.add]
/-- What the heap's Pop leaves. -/
def LPopP (base hB : Nat) (v : Value) (hs : List Int) (k : Int) (w : World) (e : Ending) (w' : World) : Prop := e = .returned (.iface 3 (.int .i64 k)) ∧ ∃ v', HPr w' base hB v' hs ∧ v'.ownBlock = v.ownBlock ∧ w.grownBy w' (some hB)
set_option maxRecDepth 100000 in
set_option maxHeartbeats 8000000 in
theorem lpop_any {w : World} {base hB : Nat} {v : Value} {hs : List Int} {k : Int} (h : HPr w base hB v (hs ++ [k])) (hmax : hs.length ≤ 900000) : Calls Try.prog 164 #[.pointer (some ⟨hB, 0, none⟩)] w (LPopP base hB v hs k w) := by
  obtain ⟨g, cap, cur, rfl, hbg, hlg, hg, hcap, -, hc⟩ := own_at h.row (by simp)
  have hlen : (hs ++ [k]).length = hs.length + 1 := by simp
  have ck := hc hs.length (by omega)
  rw [show (hs ++ [k]).getD hs.length 0 = k by simp] at ck
  have c0 := h.cell
  have HH := Lib.hid h
  have f0 : w.frozen? ⟨hB, 0, none⟩ = false := by simp [World.frozen?, h.box]
  have hcap2 : hs.length + 1 ≤ cap := by omega
  obtain ⟨n, hn⟩ : ∃ n, (hs ++ [k]).length = n := ⟨_, rfl⟩
  rw [hn] at c0 hlen
  rw [hn]
  have hrunC := run_cut82 w g n hs.length cap (by omega)
  have hn1 : (n : Int) - 1 = (hs.length : Int) := by omega
  have hlt : hs.length < n := by omega
  have hcap3 : n ≤ cap := by omega
  have HN := Lib.hid hn
  have hrow := h.row
  rw [hn] at hrow
  have HRW := Lib.hid (own_cut hlen hrow)
  clear h hc hg hcap hn hlen hrow
  go_enter Try.func164, Try.ntmps164
  go_wp2_with fail
  go_ret
  have hb := box_put HH.out.box HRW.out HH.out.off
  exact ⟨rfl, _, hb, rfl, grownBy_setCell' _ _ _⟩
end Go.Proofs.Ytdlcpnpmmmpccaa.Gn
/- WALKS of container/heap's Push and Pop. (at int) -/
namespace Go.Proofs.Ytdlcpnpmmmpccaa.Gn
open Go.RowKit Go.Maps Go.Sort
open Go.Proofs.Ytdlcpnpmmmpccaa.Gr (grown_none grown_row below_none Qrow qrow_of nodup_le grown_trans Qrow.slice Qrow.shape hp_alloc it step_append_run)
theorem HStep.grow {w w1 w2 : World} {hB : Nat} {v v1 : Value} (h : HStep w w1 hB v v1) (hg : w1.grownBy w2 v1.ownBlock) : HStep w w2 hB v v1 := by
  obtain ⟨a, b, c, d, e, f⟩ := h
  refine ⟨hg.os.trans a, hg.tape.trans b, hg.output.trans c, Nat.le_trans d hg.size, fun k hk h1 h2 => ?_, f⟩
  rw [hg.block k (by omega) (fun e2 => by
    rcases f with f | ⟨g, f, hgl⟩
    · exact h2 (e2.trans f)
    · rw [f] at e2; injection e2 with e2; omega), e k hk h1 h2]
theorem HStep.box {w w1 w2 : World} {hB : Nat} {v v1 v2 : Value} (h : HStep w w1 hB v v1) (hg : w1.grownBy w2 (some hB)) (ho : v2.ownBlock = v1.ownBlock) : HStep w w2 hB v v2 := by
  obtain ⟨a, b, c, d, e, f⟩ := h
  refine ⟨hg.os.trans a, hg.tape.trans b, hg.output.trans c, Nat.le_trans d hg.size, fun k hk h1 h2 => ?_, by rw [ho]; exact f⟩
  rw [hg.block k (by omega) (fun e2 => h1 (by injection e2)), e k hk h1 h2]
theorem HStep.refl (w : World) (hB : Nat) (v : Value) : HStep w w hB v v := ⟨rfl, rfl, rfl, Nat.le_refl _, fun _ _ _ _ => rfl, .inl rfl⟩
theorem HStep.trans {w w1 w2 : World} {hB : Nat} {v v1 v2 : Value} (h : HStep w w1 hB v v1) (k : HStep w1 w2 hB v1 v2) : HStep w w2 hB v v2 := by
  obtain ⟨a, b, c, d, e, f⟩ := h
  obtain ⟨a', b', c', d', e', f'⟩ := k
  refine ⟨a'.trans a, b'.trans b, c'.trans c, Nat.le_trans d d', fun q hq h1 h2 => ?_, ?_⟩
  · rw [e' q (by omega) h1 (fun e2 => by
      rcases f with f | ⟨g, f, hgl⟩
      · exact h2 (e2.trans f)
      · rw [f] at e2; injection e2 with e2; omega), e q hq h1 h2]
  · rcases f' with f' | ⟨g, f', hgl⟩
    · rw [f']; exact f
    · exact .inr ⟨g, f', by omega⟩
/-- What container/heap's Push leaves. -/
def HPushP (base hB : Nat) (v : Value) (hs : List Int) (k : Int) (w : World) (e : Ending) (w' : World) : Prop := e = .returned (.tuple #[]) ∧ ∃ v' hs', hs'.Perm (hs ++ [k]) ∧ IsH hs' hs'.length ∧ HPr w' base hB v' hs' ∧ HStep w w' hB v v'
set_option maxRecDepth 100000 in
set_option maxHeartbeats 8000000 in
theorem hpush_any {w : World} {base hB : Nat} {v : Value} {hs : List Int} (h : HPr w base hB v hs) (hH : IsH hs hs.length) (hmax : hs.length ≤ 900000) (hbase : base ≤ w.heap.size) {k : Int} (hk : okS k) : Calls Try.prog 54 #[hI hB, .iface 3 (.int .i64 k)] w (HPushP base hB v hs k w) := by
  have HPU := Lib.hid (lpush_any h hmax hbase hk)
  have HU := Lib.hid (hH.push k)
  have hmp := m_push hB w
  clear h hH
  go_enter Try.func54, Try.ntmps54
  go_wp2_with fail
  go_at_call 165; refine HPU.out.mono ?_; rintro e w1 ⟨rfl, v1, h1, hst1⟩
  obtain ⟨a1, c1, rfl⟩ := h1.shape
  have hml := m_len h1.cell
  have HUP := Lib.hid (hup_any h1 (by simp; omega) (j := hs.length) (by simp) (by simpa using HU.out))
  have HST := Lib.hid hst1
  have hln : (((hs ++ [k]).length : Nat) : Int) - 1 = (hs.length : Int) := by simp
  obtain ⟨n, hn⟩ : ∃ n, (hs ++ [k]).length = n := ⟨_, rfl⟩
  rw [hn] at hml hln
  have HN := Lib.hid hn
  have hnb : n ≤ 1000000 := by rw [← hn]; simp; omega
  clear h1 hst1 hn HPU HU hmp
  go_wp2_with fail
  go_at_call 64; refine (hlen_any _ _ _ _).mono ?_; rintro e w2 ⟨rfl, rfl⟩
  go_wp2_with fail
  go_at_call 81; refine HUP.out.mono ?_; rintro e w3 ⟨rfl, hs', hp, hi, h3, hg3, -⟩
  have HZ := Lib.hid (And.intro hp (And.intro hi (And.intro h3 hg3)))
  clear hp hi h3 hg3
  go_wp2_with fail
  go_end0
  obtain ⟨hp, hi, h3, hg3⟩ := HZ.out
  exact ⟨rfl, _, hs', hp, by rw [hp.length_eq]; exact hi, h3, HST.out.grow hg3⟩
/-- What container/heap's Pop leaves. -/
def HPopP (base hB : Nat) (v : Value) (hs : List Int) (w : World) (e : Ending) (w' : World) : Prop := e = .returned (.iface 3 (.int .i64 (gE hs 0))) ∧ ∃ v' hs', (gE hs 0 :: hs').Perm hs ∧ IsH hs' hs'.length ∧ HPr w' base hB v' hs' ∧ HStep w w' hB v v'
set_option maxRecDepth 100000 in
set_option maxHeartbeats 8000000 in
theorem hpop_any {w : World} {base hB : Nat} {v : Value} {hs : List Int} (h : HPr w base hB v hs) (hH : IsH hs hs.length) (hmax : hs.length ≤ 900000) (h0 : 0 < hs.length) : Calls Try.prog 56 #[hI hB] w (HPopP base hB v hs w) := by
  obtain ⟨a, c, rfl⟩ := h.shape
  obtain ⟨n, hn⟩ : ∃ n, hs.length = n + 1 := ⟨hs.length - 1, by omega⟩
  have HH := Lib.hid h
  have HSW := Lib.hid (hswap_any h.row (i := 0) (j := n) (by omega) (by omega) (by omega))
  have HD := Lib.hid (IsH.pop (n := n) (by rw [← hn]; exact hH) hn)
  have hml := m_len h.cell
  have hms := m_swap h.cell
  obtain ⟨m, hm⟩ : ∃ m, hs.length = m := ⟨_, rfl⟩
  rw [hm] at hml hms HSW
  rw [hm]
  have hmn : (m : Int) - 1 = (n : Int) := by omega
  have hmb : m ≤ 900000 := by omega
  have HN := Lib.hid hn
  have HM := Lib.hid hm
  clear h hH hn h0 hm
  go_enter Try.func56, Try.ntmps56
  go_wp2_with fail
  go_at_call 64; refine (hlen_any _ _ _ _).mono ?_; rintro e w2 ⟨rfl, rfl⟩
  go_wp2_with fail
  go_at_call 166; refine HSW.out.mono ?_; rintro e w3 ⟨rfl, hr3, hg3⟩
  rw [← HM.out] at hr3 hg3
  have h3 := HH.out.put hg3 hr3
  have HST := Lib.hid ((HStep.refl w hB (.slice a hs.length c)).grow hg3)
  have HDW := Lib.hid (hdown_any h3 (by rw [swapL_len, HN.out]; omega) (m := n) (by rw [swapL_len, HN.out]; omega) HD.out)
  clear hr3 hg3 h3 HSW hml hms HH
  go_wp2_with fail
  go_at_call 82; refine HDW.out.mono ?_; rintro e w4 ⟨b, rfl, hs2, hp, hi, h4, hg4, hk4⟩
  have hl2 : hs2.length = n + 1 := by rw [hp.length_eq, swapL_len, HN.out]
  have hlast : gE hs2 n = gE hs 0 := by
    rw [hk4 n (Nat.le_refl _), gE_swap (by rw [HN.out]; omega) (by rw [HN.out]; omega), if_pos rfl]
  have hsplit : hs2 = hs2.take n ++ [gE hs 0] := by
    rw [← hlast]
    have := List.take_append_drop n hs2
    rw [List.drop_eq_getElem_cons (by omega), List.drop_of_length_le (by omega)] at this
    rw [show gE hs2 n = hs2[n]'(by omega) by unfold gE; rw [List.getD_eq_getElem?_getD, List.getElem?_eq_getElem (by omega)]; rfl]
    exact this.symm
  have HS2 := Lib.hid (HST.out.grow hg4)
  have HPM := Lib.hid (show (gE hs 0 :: hs2.take n).Perm hs from by
    have h1 := hp.trans (swap_perm (hs := hs) (i := 0) (j := n) (by rw [HN.out]; omega) (by rw [HN.out]; omega))
    rw [hsplit] at h1
    exact (List.perm_append_singleton _ _).symm.trans h1)
  have HI2 := Lib.hid (take_isH hi (by omega))
  rw [hsplit] at h4
  have HPO := Lib.hid (lpop_any h4 (by rw [List.length_take]; omega))
  have hmp := m_pop hB w4
  clear hp hi h4 hg4 hk4 hl2 hlast hsplit HST HDW
  go_wp2_with fail
  go_at_call 164; refine HPO.out.mono ?_; rintro e w5 ⟨rfl, v5, h5, ho5, hg5⟩
  have HZ := Lib.hid (And.intro h5 (And.intro ho5 hg5))
  clear h5 ho5 hg5
  go_wp2_with fail
  go_ret
  have hE := HM.out
  subst hE
  exact ⟨rfl, v5, hs2.take n, HPM.out, HI2.out, HZ.out.1, HS2.out.box HZ.out.2.2 HZ.out.2.1⟩
end Go.Proofs.Ytdlcpnpmmmpccaa.Gn
/- A MAP OF LISTS in memory, as a map of headers. (at int) -/
namespace Go.Proofs.Ytdlcpnpmmmpccaa.Gn
open Go.RowKit Go.Maps Go.Sort
open Go.Proofs.Ytdlcpnpmmmpccaa.Gr (grown_none grown_row below_none Qrow qrow_of nodup_le grown_trans Qrow.slice Qrow.shape hp_alloc it step_append_run)
abbrev nilS : Value := .slice none 0 0
/-- How a list of the map reads: as the slice that it is. -/
def Rs : Value → Option (DataW Value × List MemPlace)
  | .slice a n c => some (.held (.slice a n c), [])
  | _ => none
theorem Rs_inv {v v' : Value} {ps : List MemPlace} (h : Rs v = some (.held v', ps)) : v = v' := by
  cases v <;> simp [Rs] at h
  exact h.1
/-- A map of lists: which slice stands at each name; its names are among K. -/
def MS (w : World) (b : Nat) (K : List Int) (F : Int → Value) : Prop := ∃ D, w.ownsMap Try.prog 3 Rs b (Maps.size D) D ∧ (∀ s, okS s → D.atKey (kS s) (.held nilS) = .held (F s)) ∧ ∀ s, Maps.has D (kS s) = true → s ∈ K
theorem MS.lt {w : World} {b : Nat} {K : List Int} {F : Int → Value} (h : MS w b K F) : b < w.heap.size := by
  obtain ⟨D, h, -⟩ := h
  exact h.lt
theorem MS.kept {w w' : World} {b : Nat} {K : List Int} {F : Int → Value} (h : MS w b K F) {r : Option Nat} (hg : w.grownBy w' r) (hr : r ≠ some b) : MS w' b K F := by
  obtain ⟨D, h, h2⟩ := h
  exact ⟨D, h.kept hg hr.symm, h2⟩
theorem MS.below {w w' : World} {b : Nat} {K : List Int} {F : Int → Value} (h : MS w b K F) (hb : Below w.heap.size w w') : MS w' b K F := h.kept (grow_of hb) (by simp)
theorem MS.made (w : World) (K : List Int) : MS (w.alloc (.map #[] 0)) w.heap.size K (fun _ => nilS) := ⟨.map [], World.ownsMap_made w Try.prog 3 Rs, fun _ _ => rfl, fun s hs => by simp [Maps.has_eq] at hs⟩
theorem MS.look {w : World} {b : Nat} {K : List Int} {F : Int → Value} (h : MS w b K F) {k : Int} (hk : okS k) : (Instr.lookup 94 (.map (some b)) (.int .i64 k) false).run Try.prog w = .ok (F k) w := by
  obtain ⟨D, h, h2, -⟩ := h
  obtain ⟨v, ps, hrun, hR⟩ := h.lookup law3 Try.underlying94 (z := nilS) (Try.zeroValue54 w) (show Rs nilS = some (.held nilS, []) from rfl) (key3 hk)
  rw [h2 k hk] at hR
  rw [hrun, Rs_inv hR]
theorem MS.put {w : World} {b : Nat} {K : List Int} {F : Int → Value} (h : MS w b K F) (hK : Rise K) (hok : ∀ s ∈ K, okS s) {k : Int} (hk : k ∈ K) (hn : K.length < 1000000000) (a : Option Addr) (l c : Nat) : ∃ w2, (Instr.mapUpdate 94 (.map (some b)) (.int .i64 k) (.slice a l c)).run Try.prog w = .ok () w2 ∧ MS w2 b K (fun s => if s = k then .slice a l c else F s) ∧ w.grownBy w2 (some b) := by
  obtain ⟨D, h, h2, h3⟩ := h
  have hsz : Maps.size D ≤ K.length := by
    rw [size_of (P := fun s => Maps.has D (kS s)) (l := K.filter fun s => Maps.has D (kS s)) h (fun _ _ => rfl) (fun s hs => hok s (h3 s hs)) ⟨hK.sublist List.filter_sublist, fun s => by
      rw [List.mem_filter]
      exact ⟨fun ⟨x, y⟩ => ⟨hok s x, y⟩, fun ⟨_, y⟩ => ⟨h3 s y, y⟩⟩⟩]
    exact List.length_filter_le _ _
  obtain ⟨es, hDe, hti, -⟩ := h.entries law3
  have hty : Maps.Tidy D := ⟨es, hDe, hti⟩
  obtain ⟨w2, hrun, hmap, hg⟩ := h.update law3 Try.underlying94 (by unfold maxLen; omega) (key3 (hok k hk)) (show Rs (.slice a l c) = some (.held (.slice a l c), []) from rfl)
  refine ⟨w2, hrun, ⟨_, ownsMap_tight hmap, fun s hs => ?_, fun s hs => ?_⟩, hg⟩
  · by_cases e : s = k
    · subst e
      rw [Maps.atKey_put_same hty.isMap (kS_key _)]
      simp
    · rw [Maps.atKey_put_other (kS_ne e), h2 s hs]
      simp [e]
  · by_cases e : s = k
    · subst e; exact hk
    · rw [Maps.has_put_other (kS_ne e)] at hs
      exact h3 s hs
end Go.Proofs.Ytdlcpnpmmmpccaa.Gn
