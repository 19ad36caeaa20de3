/- Le, Lf -/
import Derived.Test.YtdlcpnpmmmpccaaX3
/- WALK of the reference's Order. -/
namespace Go.Proofs.Ytdlcpnpmmmpccaa.Gr
open Go.RowKit Go.Maps Go.Sort
open Go.Proofs.Ytdlcpnpmmmpccaa.Nm (StrRow)
abbrev okN (ls : List Ln2) (out : List ByteArray) : ByteArray → Bool := fun p => !inB p out && rdyB ls out p
theorem ordS_none {pts : List ByteArray} {ls : List Ln2} {o : List ByteArray} (h : nextP pts ls o = none) : ordS pts ls o = o := by
  unfold ordS
  rw [h]
theorem ordS_some {pts : List ByteArray} {ls : List Ln2} {o : List ByteArray} {p : ByteArray} (h : nextP pts ls o = some p) : ordS pts ls o = o ++ [p] := by
  unfold ordS
  rw [h]
theorem ordS_sub {pts : List ByteArray} {ls : List Ln2} : ∀ n, (∀ p ∈ it (ordS pts ls) n [], p ∈ pts) ∧ (it (ordS pts ls) n []).length ≤ n
  | 0 => ⟨fun p h => by simp [it] at h, by simp [it]⟩
  | n + 1 => by
    obtain ⟨h1, h2⟩ := ordS_sub (pts := pts) (ls := ls) n
    show (∀ p ∈ ordS pts ls (it (ordS pts ls) n []), p ∈ pts) ∧ (ordS pts ls (it (ordS pts ls) n [])).length ≤ n + 1
    cases hn : nextP pts ls (it (ordS pts ls) n []) with
    | none =>
      rw [ordS_none hn]
      exact ⟨h1, by omega⟩
    | some k =>
      rw [ordS_some hn]
      refine ⟨fun p hp => ?_, by simp; exact h2⟩
      rcases List.mem_append.1 hp with hp | hp
      · exact h1 p hp
      · simp at hp
        subst hp
        exact (nextP_some hn).1
theorem toL_all {ls : List Ln2} {out : List ByteArray} {p : ByteArray} : ((toL ls p).all fun t => inB t out) = rdyB ls out p := by
  rw [Bool.eq_iff_iff, List.all_eq_true, rdyB_iff]
  constructor
  · intro h t ht
    exact inB_iff.1 (h t (by unfold toL; rw [to_mem]; exact .inr (inL_iff.1 ht)))
  · intro h t ht
    unfold toL at ht
    rw [to_mem] at ht
    rcases ht with ht | ht
    · simp at ht
    · exact inB_iff.2 (h t (inL_iff.2 ht))
theorem find_take {q : ByteArray → Bool} {pts : List ByteArray} {k : Nat} {p : ByteArray} (h : (pts.take k).find? q = some p) : pts.find? q = some p := by
  rw [← List.take_append_drop k pts, List.find?_append, h]
  rfl
theorem find_more {q : ByteArray → Bool} {pts : List ByteArray} {k : Nat} {p : ByteArray} (hp : pts[k]? = some p) (h : (pts.take k).find? q = none) : (pts.take (k + 1)).find? q = if q p = true then some p else none := by
  obtain ⟨hk, e⟩ := List.getElem?_eq_some_iff.1 hp
  rw [List.take_succ_eq_append_getElem hk, List.find?_append, h, e]
  simp only [List.find?_cons, List.find?_nil, Option.none_or]
  cases q p <;> rfl
theorem all_more {q : ByteArray → Bool} {l : List ByteArray} {k : Nat} {t : ByteArray} (hp : l[k]? = some t) : (l.take (k + 1)).all q = ((l.take k).all q && q t) := by
  obtain ⟨hk, e⟩ := List.getElem?_eq_some_iff.1 hp
  rw [List.take_succ_eq_append_getElem hk, List.all_append, e]
  simp
theorem filter_more {q : ByteArray → Bool} {l : List ByteArray} {k : Nat} {t : ByteArray} (hp : l[k]? = some t) : (l.take (k + 1)).filter q = (l.take k).filter q ++ (if q t = true then [t] else []) := by
  obtain ⟨hk, e⟩ := List.getElem?_eq_some_iff.1 hp
  rw [List.take_succ_eq_append_getElem hk, List.filter_append, e]
  cases hq : q t <;> simp [hq]
/-- What the reference's Order holds: its row, beside all that was there. -/
structure RO (w : World) (B : Nat) (v : Value) (out : List ByteArray) (wr : World) : Prop where
  below : Below w.heap.size w wr
  row : wr.ownsRow B 9 1 v out.length (out.map Value.string)
  ok : ∀ x ∈ out, okS x
  few : out.length ≤ 1000000
theorem RO.step {w : World} {B : Nat} {v : Value} {out : List ByteArray} {wr w' : World} (h : RO w B v out wr) (hb : Below wr.heap.size wr w') : RO w B v out w' :=
  ⟨below_step h.below hb, (chg_of (grow_of hb)).row h.row (fun _ _ => by simp), h.ok, h.few⟩
theorem RO.shape {w : World} {B : Nat} {v : Value} {out : List ByteArray} {wr : World} (h : RO w B v out wr) : ∃ a c, v = .slice a out.length c ∧ StrRow wr a out.length out := str_row h.row (by have := h.few; omega) h.ok
/-- One more. -/
theorem RO.more {w : World} {B : Nat} {a : Option Addr} {c : Nat} {out : List ByteArray} {wr : World} (h : RO w B (.slice a out.length c) out wr) {p : ByteArray} (hp : okS p) (hB : w.heap.size ≤ B) (hBw : B ≤ wr.heap.size) (hn : out.length + 1 ≤ 1000000) :
    ∃ a' n' c' w', (Builtin.append_ #[22, 22] 22 #[.slice a out.length c, .slice (some ⟨wr.heap.size, 0, none⟩) 1 1]).run Try.prog (wr.alloc (.cells #[.string p] 9)) = .ok (.slice a' n' c') w' ∧ RO w B (.slice a' n' c') (out ++ [p]) w' ∧ wr.grownBy w' (Value.slice a out.length c).ownBlock ∧ wr.heap.size ≤ w'.heap.size := by
  obtain ⟨v', w', hrun, hR, hg, -⟩ := run_own (news := [p]) (h.row.alloc (.cells #[.string p] 9)) (one_row wr hp) (c := 1) (by rw [List.length_singleton]; omega) (by simp; omega) 22
  obtain ⟨a', c', rfl⟩ := (qrow_of hR).slice
  rw [List.length_map] at hrun hR
  rw [List.length_singleton] at hrun
  have hal := World.grownBy_alloc wr (.cells #[.string p] 9) (Value.slice a out.length c).ownBlock
  have hgg := grown_trans hal hg
  refine ⟨a', _, c', w', hrun, ⟨h.below.grown hgg (by have := h.below.size; omega) (fun r e => by have := own_base h.row r e; omega), hR, fun x hx => ?_, by simpa using hn⟩, hgg, hgg.size⟩
  rcases List.mem_append.1 hx with hx | hx
  · exact h.ok x hx
  · simp at hx; subst hx; exact hp
def ROrderP (pts : List ByteArray) (ls : List Ln2) (w : World) (e : Ending) (w' : World) : Prop := ∃ a1 c1 a2 c2, e = .returned (.tuple #[.slice a1 (ordL pts ls).length c1, .slice a2 (pts.filter fun p => !inB p (ordL pts ls)).length c2]) ∧ StrRow w' a1 (ordL pts ls).length (ordL pts ls) ∧ StrRow w' a2 (pts.filter fun p => !inB p (ordL pts ls)).length (pts.filter fun p => !inB p (ordL pts ls)) ∧ Below w.heap.size w w'
set_option maxRecDepth 100000 in
set_option maxHeartbeats 16000000 in
theorem rorder_any (a1 a2 : Option Addr) (c1 c2 : Nat) (pts : List ByteArray) (ls : List Ln2) (w : World) (hP : StrRow w a1 pts.length pts) (hL : LineRow w a2 ls.length ls) (hl : pts.length ≤ 900000) (hl2 : ls.length ≤ 500000) :
    Calls Try.prog 28 #[.slice a1 pts.length c1, .slice a2 ls.length c2] w (ROrderP pts ls w) := by
  have HP := Lib.hid hP
  have HL := Lib.hid hL
  have HPK := Lib.hid (rows_ok hP)
  clear hP hL
  go_enter Try.func28, Try.ntmps28
  go_wp2_with fail
  go_loopw [6, 7] (fun v i wr => ∃ (n : Nat) (out : List ByteArray), n ≤ pts.length ∧ i = .int .i64 n ∧ Hid (out = it (ordS pts ls) n []) ∧ Hid (RO w w.heap.size v out wr)) (fun _ i _ => pts.length - (intOf i).toNat)
  case atStart => exact ⟨0, [], by omega, rfl, Lib.hid rfl, Lib.hid ⟨Below.refl _ _, World.ownsRow_nil _ _ _ _, fun x h => by simp at h, by simp⟩⟩
  case round =>
    obtain ⟨n, out, hn, rfl, ho, hR⟩ := hrel
    rename World => wr
    have HO := Lib.hid ho.out
    have HR := Lib.hid hR.out
    clear ho hR
    have HOL := Lib.hid (show out.length ≤ n by rw [HO.out]; exact (ordS_sub n).2)
    obtain ⟨a6, c6, rfl, -⟩ := HR.out.shape
    by_cases hlt : n < pts.length
    · go_wp2_with fail
      go_loopw [8, 9, 10] (fun f s i wr => ∃ (k : Nat) (fd : ByteArray) (sm : Bool), k ≤ pts.length ∧ i = .int .i64 k ∧ f = .string fd ∧ s = .bool sm ∧ Hid ((pts.take k).find? (okN ls out) = if sm = true then some fd else none) ∧ Hid (RO w w.heap.size (.slice a6 out.length c6) out wr)) (fun _ _ i _ => pts.length - (intOf i).toNat)
      case atStart => exact ⟨0, _, false, by omega, rfl, rfl, rfl, Lib.hid (by simp), HR⟩
      case round =>
        clear HR
        obtain ⟨k, fd, sm, hk, rfl, rfl, rfl, hf, hR⟩ := hrel
        rename World => wr
        have HF := Lib.hid hf.out
        have HR := Lib.hid hR.out
        clear hf hR
        cases sm with
        | true =>
          have hfd := find_take (HF.out.trans (if_pos rfl))
          have hok : okS fd := HPK.out fd (List.mem_of_find?_eq_some hfd)
          have HN := Lib.hid (show out ++ [fd] = it (ordS pts ls) (n + 1) [] by
            show _ = ordS pts ls (it (ordS pts ls) n [])
            rw [← HO.out, ordS_some (p := fd) hfd])
          obtain ⟨a', n', c', w', hrun, hR', -, -⟩ := HR.out.more hok (Nat.le_refl _) HR.out.below.size (by have := HOL.out; omega)
          have HR' := Lib.hid hR'
          clear hfd hok hR'
          by_cases hlt2 : (k : Int) < (pts.length : Int)
          all_goals
            go_wp2_with (at_builtin; refine Lib.wpList_append_run _ rfl _ _ _ _ rfl _ _ rfl rfl _ _ hrun ?_)
            go_roundw
            case rel => exact ⟨n + 1, out ++ [fd], by omega, by go_num, HN, HR'⟩
            case measure => simp [intOf]; omega
        | false =>
          by_cases hlt2 : k < pts.length
          · obtain ⟨b0, off, p, e1, hb, hc, hx, hok⟩ := str_at (HP.out.below HR.out.below) hlt2
            obtain ⟨a6', c6', e6, hS6⟩ := HR.out.shape
            injection e6 with e7 e8 e9
            subst e7 e9
            have HHS := Lib.hid (rhas_any a6 out.length c6 out p wr hS6)
            have HFM := Lib.hid (find_more (q := okN ls out) hx (HF.out.trans (if_neg (by decide))))
            have HPX := Lib.hid hx
            subst e1
            cases hp : inB p out with
            | true =>
              rw [hp] at HHS
              have HFF := Lib.hid (show (pts.take (k + 1)).find? (okN ls out) = if false = true then some fd else none by rw [HFM.out]; simp [hp])
              clear hp hx hb hS6 e8
              go_wp2_with fail
              go_at_call 20; refine HHS.out.mono ?_; rintro e w2 ⟨rfl, rfl⟩
              go_wp2_with fail
              go_roundw
              case rel => exact ⟨k + 1, fd, false, by omega, by go_num, rfl, rfl, HFF, HR⟩
              case measure => simp [intOf]; omega
            | false =>
              rw [hp] at HHS
              have HPF := Lib.hid hp
              have HTO := Lib.hid (rto_any a2 ls.length c2 ls p wr (HL.out.below HR.out.below) hl2)
              clear hp hx hS6 e8
              go_wp2_with fail
              go_at_call 20; refine HHS.out.mono ?_; rintro e w2 ⟨rfl, rfl⟩
              go_wp2_with fail
              go_at_call 22; refine HTO.out.mono ?_; rintro e w3 ⟨a5, c5, rfl, hS5, hB5⟩
              have HR3 := Lib.hid (HR.out.step hB5)
              have HS5 := Lib.hid hS5
              have hm5 := hS5.max
              have HAL := Lib.hid (toL_all (ls := ls) (out := out) (p := p))
              generalize toL ls p = tl at *
              have hcp : w3.cell? ⟨b0, off + k, none⟩ = some (.string p) := (hB5.cell (p := ⟨b0, off + k, none⟩) hb).trans hc
              have HS6 := Lib.hid (show StrRow w3 a6 out.length out from by
                obtain ⟨a6', c6', e6, h6⟩ := HR3.out.shape
                injection e6 with e7 e8 e9
                rw [e7]; exact h6)
              clear hS5 hB5 HR HTO hc hb
              go_wp2_with fail
              go_loop [11, 13] (fun f i => ∃ (j : Nat) (b : Bool), j ≤ tl.length ∧ i = .int .i64 j ∧ f = .bool b ∧ Hid ((tl.take j).all (fun t => inB t out) = b)) (fun _ i => tl.length - (intOf i).toNat)
              case atStart => exact ⟨0, true, by omega, rfl, rfl, Lib.hid (by simp)⟩
              case round =>
                obtain ⟨j, b, hj, rfl, rfl, hb⟩ := hrel
                have HB := Lib.hid hb.out
                clear hb
                by_cases hlt3 : j < tl.length
                · obtain ⟨b4, off4, t, rfl, hb4, hc4, hx4, hok4⟩ := str_at HS5.out hlt3
                  have HAM := Lib.hid (all_more (q := fun t => inB t out) hx4)
                  have HH4 := Lib.hid (rhas_any a6 out.length c6 out t w3 HS6.out)
                  clear hx4 hb4
                  cases b with
                  | true =>
                    go_wp2_with fail
                    go_at_call 20; refine HH4.out.mono ?_; rintro e w4 ⟨rfl, rfl⟩
                    go_wp2_with fail
                    go_round
                    case rel => exact ⟨j + 1, _, by omega, by go_num, rfl, Lib.hid (by rw [HAM.out, HB.out]; simp)⟩
                    case measure => simp [intOf]; omega
                  | false =>
                    go_wp2_with fail
                    go_round
                    case rel => exact ⟨j + 1, false, by omega, by go_num, rfl, Lib.hid (by rw [HAM.out, HB.out]; simp)⟩
                    case measure => simp [intOf]; omega
                · have hki : ¬ (j : Int) < (tl.length : Int) := by omega
                  obtain rfl : j = tl.length := by omega
                  have HBR := Lib.hid (show rdyB ls out p = b by rw [← HAL.out, ← HB.out, List.take_length])
                  cases b with
                  | true =>
                    have HFF := Lib.hid (show (pts.take (k + 1)).find? (okN ls out) = if true = true then some p else none by rw [HFM.out]; simp [HPF.out, HBR.out])
                    go_wp2_with fail
                    go_roundw
                    case rel => exact ⟨k + 1, p, true, by omega, by go_num, rfl, rfl, HFF, HR3⟩
                    case measure => simp [intOf]; omega
                  | false =>
                    have HFF := Lib.hid (show (pts.take (k + 1)).find? (okN ls out) = if false = true then some fd else none by rw [HFM.out]; simp [HBR.out])
                    go_wp2_with fail
                    go_roundw
                    case rel => exact ⟨k + 1, fd, false, by omega, by go_num, rfl, rfl, HFF, HR3⟩
                    case measure => simp [intOf]; omega
          · have hki : ¬ (k : Int) < (pts.length : Int) := by omega
            obtain rfl : k = pts.length := by omega
            have HN := Lib.hid (show out = it (ordS pts ls) (n + 1) [] by
              show _ = ordS pts ls (it (ordS pts ls) n [])
              rw [← HO.out, ordS_none]
              have := HF.out.trans (if_neg (by decide))
              rw [List.take_length] at this
              exact this)
            go_wp2_with fail
            go_roundw
            case rel => exact ⟨n + 1, out, by omega, by go_num, HN, HR⟩
            case measure => simp [intOf]; omega
    · have hki : ¬ (n : Int) < (pts.length : Int) := by omega
      obtain rfl : n = pts.length := by omega
      have HOE := Lib.hid (show out = ordL pts ls from HO.out)
      obtain ⟨B4, hB4⟩ : ∃ B4, wr.heap.size = B4 := ⟨_, rfl⟩
      have HB4 := Lib.hid hB4
      have HL0 := Lib.hid (show RO w B4 (.slice none 0 0) [] wr from ⟨HR.out.below, World.ownsRow_nil _ _ _ _, fun x h => by simp at h, by simp⟩)
      have HBW := Lib.hid (show B4 ≤ wr.heap.size ∧ w.heap.size ≤ B4 from by rw [← hB4]; exact ⟨Nat.le_refl _, HR.out.below.size⟩)
      have HR0 := Lib.hid (HR.out.row)
      have HOB := Lib.hid (show ∀ g, (Value.slice a6 out.length c6).ownBlock = some g → g < B4 from fun g hg => by rw [← hB4]; exact (HR.out.row.lt g hg).2)
      clear hB4
      go_wp2_with fail
      go_loopw [14, 15] (fun v i wr => ∃ (k : Nat), k ≤ pts.length ∧ i = .int .i64 k ∧ Hid (RO w B4 v ((pts.take k).filter fun p => !inB p out) wr) ∧ Hid (RO w w.heap.size (.slice a6 out.length c6) out wr) ∧ Hid (B4 ≤ wr.heap.size ∧ w.heap.size ≤ B4)) (fun _ i _ => pts.length - (intOf i).toNat)
      case atStart => exact ⟨0, by omega, rfl, HL0, HR, HBW⟩
      case round =>
        clear HL0 HR HBW HR0
        obtain ⟨k, hk, rfl, hl4, hR, hbw⟩ := hrel
        rename World => wr
        have HL4 := Lib.hid hl4.out
        have HR := Lib.hid hR.out
        have HBW := Lib.hid hbw.out
        clear hl4 hR hbw
        obtain ⟨a7, c7, rfl, hS7⟩ := HL4.out.shape
        by_cases hlt2 : k < pts.length
        · obtain ⟨b0, off, p, e1, hb, hc, hx, hok⟩ := str_at (HP.out.below HR.out.below) hlt2
          obtain ⟨a6', c6', e6, hS6⟩ := HR.out.shape
          injection e6 with e7 e8 e9
          subst e7 e9
          subst e1
          have HHS := Lib.hid (rhas_any a6 out.length c6 out p wr hS6)
          have HFM := Lib.hid (filter_more (q := fun p => !inB p out) hx)
          have hfl : ((pts.take k).filter fun p => !inB p out).length ≤ k := Nat.le_trans (List.length_filter_le _ _) (by rw [List.length_take]; omega)
          obtain ⟨a', n', c', w', hrun, hR', hg', hsz⟩ := HL4.out.more hok HBW.out.2 HBW.out.1 (by omega)
          have HRW := Lib.hid (show RO w w.heap.size (.slice a6 out.length c6) out w' from ⟨hR'.below, (chg_of hg').row HR.out.row (fun q hq hm => by
            have h1 := HOB.out q hq
            cases hb : (Value.slice a7 ((pts.take k).filter fun p => !inB p out).length c7).ownBlock with
            | none => rw [hb] at hm; simp at hm
            | some q2 => rw [hb] at hm; have := own_base HL4.out.row q2 hb; simp at hm; omega), HR.out.ok, HR.out.few⟩)
          have HR' := Lib.hid hR'
          have HBW' := Lib.hid (show B4 ≤ w'.heap.size ∧ w.heap.size ≤ B4 from ⟨Nat.le_trans HBW.out.1 hsz, HBW.out.2⟩)
          generalize hq : ((pts.take k).filter fun p => !inB p out) = lf at *
          clear hR' hg' hsz hS6 hS7 hx hb e8 hfl
          cases hp : inB p out with
          | true =>
            rw [hp] at HHS
            have HFF := Lib.hid (show (pts.take (k + 1)).filter (fun p => !inB p out) = lf by rw [HFM.out]; simp [hp])
            clear hp hq
            go_wp2_with fail
            go_at_call 20; refine HHS.out.mono ?_; rintro e w2 ⟨rfl, rfl⟩
            go_wp2_with fail
            go_roundw
            case rel => exact ⟨k + 1, by omega, by go_num, Lib.hid (by rw [HFF.out]; exact HL4.out), HR, HBW⟩
            case measure => simp [intOf]; omega
          | false =>
            rw [hp] at HHS
            have HFF := Lib.hid (show (pts.take (k + 1)).filter (fun p => !inB p out) = lf ++ [p] by rw [HFM.out]; simp [hp])
            clear hp hq
            go_wp2_with fail
            go_at_call 20; refine HHS.out.mono ?_; rintro e w2 ⟨rfl, rfl⟩
            go_wp2_with (at_builtin; refine Lib.wpList_append_run _ rfl _ _ _ _ rfl _ _ rfl rfl _ _ hrun ?_)
            go_roundw
            case rel => exact ⟨k + 1, by omega, by go_num, Lib.hid (by rw [HFF.out]; exact HR'.out), HRW, HBW'⟩
            case measure => simp [intOf]; omega
        · have hki : ¬ (k : Int) < (pts.length : Int) := by omega
          obtain rfl : k = pts.length := by omega
          obtain ⟨a6', c6', e6, hS6⟩ := HR.out.shape
          injection e6 with e7 e8 e9
          have HZ := Lib.hid (And.intro hS7 (And.intro hS6 e7))
          clear hS7 hS6 e7 e8 e9
          go_wp2_with fail
          go_ret2
          obtain ⟨h7, h6, rfl⟩ := HZ.out
          rw [List.take_length] at h7
          refine ⟨a6, c6, a7, c7, ?_, ?_, ?_, HR.out.below⟩
          · rw [← HOE.out]; rfl
          · rw [← HOE.out]; exact h6
          · rw [← HOE.out]; exact h7
end Go.Proofs.Ytdlcpnpmmmpccaa.Gr
/- WALK of GraphOrders. -/
namespace Go.Proofs.Ytdlcpnpmmmpccaa.Gr
open Go.RowKit Go.Maps Go.Sort
open Go.Proofs.Ytdlcpnpmmmpccaa.Nm (StrRow)
theorem ord_grow {pts : List ByteArray} {ls : List Ln2} : ∀ n, (∀ m, m < n → nextP pts ls (it (ordS pts ls) m []) ≠ none) → (it (ordS pts ls) n []).length = n ∧ (it (ordS pts ls) n []).Nodup
  | 0, _ => ⟨rfl, List.Pairwise.nil⟩
  | n + 1, h => by
    obtain ⟨h1, h2⟩ := ord_grow n fun m hm => h m (by omega)
    obtain ⟨k, hk⟩ := Option.ne_none_iff_exists'.1 (h n (by omega))
    show (ordS pts ls (it (ordS pts ls) n [])).length = n + 1 ∧ (ordS pts ls (it (ordS pts ls) n [])).Nodup
    rw [ordS_some hk, List.length_append, h1, List.nodup_append]
    refine ⟨rfl, h2, by simp, fun a ha b hb e => ?_⟩
    simp at hb
    subst hb
    subst e
    exact (nextP_some hk).2.1 ha
/-- At the end none is left that could come. -/
theorem ord_end {pts : List ByteArray} {ls : List Ln2} : nextP pts ls (ordL pts ls) = none := by
  by_cases h : ∃ m, m ≤ pts.length ∧ nextP pts ls (it (ordS pts ls) m []) = none
  · obtain ⟨m, hm, hn⟩ := h
    unfold ordL
    rw [show pts.length = (pts.length - m) + m by omega, it_add, it_fix (ordS_none hn)]
    exact hn
  · have h2 : ∀ m, m < pts.length + 1 → nextP pts ls (it (ordS pts ls) m []) ≠ none := fun m hm e => h ⟨m, by omega, e⟩
    obtain ⟨h3, h4⟩ := ord_grow _ h2
    have h5 := nodup_le _ pts h4 (ordS_sub (pts.length + 1)).1
    omega
/-- One that is bound goes to one that is. -/
theorem bound_to {pts : List ByteArray} {ls : List Ln2} (hls : ∀ y ∈ ls, y.2 ∈ pts) {p : ByteArray} (hp : p ∈ pts.filter fun p => !inB p (ordL pts ls)) : ((toL ls p).any fun t => inB t (pts.filter fun p => !inB p (ordL pts ls))) = true := by
  rw [List.mem_filter] at hp
  have hr : rdyB ls (ordL pts ls) p ≠ true := fun hr => by
    have := List.find?_eq_none.1 (ord_end (pts := pts) (ls := ls)) p hp.1
    rw [hr, Bool.and_true] at this
    exact this hp.2
  rw [← toL_all, Ne, List.all_eq_true] at hr
  simp only [Classical.not_forall] at hr
  obtain ⟨t, ht, hn⟩ := hr
  rw [List.any_eq_true]
  refine ⟨t, ht, inB_iff.2 (List.mem_filter.2 ⟨?_, by simpa using hn⟩)⟩
  unfold toL at ht
  rw [to_mem] at ht
  rcases ht with ht | ht
  · simp at ht
  · exact hls _ ht
theorem any_more {q : ByteArray → Bool} {l : List ByteArray} {k : Nat} {t : ByteArray} (hp : l[k]? = some t) : (l.take (k + 1)).any q = ((l.take k).any q || q t) := by
  obtain ⟨hk, e⟩ := List.getElem?_eq_some_iff.1 hp
  rw [List.take_succ_eq_append_getElem hk, List.any_append, e]
  simp
set_option maxRecDepth 100000 in
set_option maxHeartbeats 16000000 in
theorem orders_walk (a a2 : Option Addr) (len cap len2 cap2 : Nat) (l : List ByteArray) (ls : List Ln2) (w : World) (hX : StrRow w a len l) (hL : LineRow w a2 len2 ls) : Calls Try.prog 5 #[.slice a len cap, .slice a2 len2 cap2] w (BoolP true w) := by
  have hcx := hX.count
  have hcl := hL.count
  subst hcx hcl
  have HH := Lib.hid (show GW l a ls a2 w w from ⟨Below.refl _ _, hX, hL⟩)
  have H10 := Lib.hid (gfew_any a l.length cap l a2 ls.length cap2 ls w hX hL)
  have HAW := fun W => Lib.hid (gawake_any W)
  have HPN := Lib.hid (rows_ok hX)
  have HPL := Lib.hid (lines_ok hL)
  have HSET := Lib.hid (ptsG_set HPN.out HPL.out)
  clear hX hL
  go_enter Try.func5, Try.ntmps5
  go_wp2_with fail
  go_at_call 10; refine H10.out.mono ?_; rintro e w1 ⟨b, rfl, hb, hw⟩; subst hw
  cases b with
  | false =>
    have HAW := HAW w
    clear H10 hb
    go_wp2_with fail
    go_at_call 11; refine HAW.out.mono ?_; rintro e w2 ⟨rfl, hB⟩
    go_wp2_with fail
    go_ret
    exact ⟨rfl, hB⟩
  | true =>
    obtain ⟨hl, hls⟩ := hb rfl
    have HLN := Lib.hid (show l.length ≤ 30 ∧ ls.length ≤ 60 from ⟨hl, hls⟩)
    have H13 := Lib.hid (rpoints_any a l.length cap l a2 ls.length cap2 ls w HH.out.pts HH.out.lines (by omega) (by omega))
    clear hb hl hls H10
    go_wp2_with fail
    go_at_call 13; refine H13.out.mono ?_; rintro e w2 ⟨a7, c7, rfl, hR, hB⟩
    have HR := Lib.hid hR
    have HH2 := Lib.hid (HH.out.step hB)
    have H12 := Lib.hid (ofg_any a l.length cap l a2 ls.length cap2 ls w2 HH2.out.pts HH2.out.lines (by have := HLN.out; omega) (by have := HLN.out; omega))
    have HPP := Lib.hid (show (ptsL l ls).length ≤ 300 by have := ptsL_len l ls; have := HLN.out; omega)
    clear hR hB H13 HH
    generalize ptsL l ls = pp at *
    have HLS := Lib.hid (show ∀ y ∈ ls, y.2 ∈ pp from fun y hy => (HSET.out.2 _).2 ⟨(HPL.out y hy).2, (QG_ends y hy).2⟩)
    go_wp2_with fail
    go_at_call 12; refine H12.out.mono ?_; rintro e w4 ⟨G, m, rfl, hm, hG, hB⟩
    have HR4 := Lib.hid (HR.out.below hB)
    have HH4 := Lib.hid (HH2.out.step hB)
    have H25 := Lib.hid (order_any hG (by have := HLN.out; omega) QG_ends HPL.out)
    clear hB hm hG HR HH2 H12
    go_wp2_with fail
    go_at_call 25; refine H25.out.mono ?_; rintro e w5 ⟨pts, v1, v2, hS, rfl, h1, h2, hB⟩
    obtain rfl := set_unique hS HSET.out fun _ _ => rfl
    have HOO : Hid (∀ p ∈ ordL pts ls, p ∈ pts) := Lib.hid (ordS_sub pts.length).1
    have HOL : Hid ((ordL pts ls).length ≤ pts.length) := Lib.hid (ordS_sub pts.length).2
    have hfl := List.length_filter_le (fun p => !inB p (ordL pts ls)) pts
    obtain ⟨a8, c8, rfl, r8⟩ := str_row h1 (by have := HOL.out; have := HPP.out; omega) (fun y hy => ((HSET.out.2 y).1 (HOO.out y hy)).1)
    obtain ⟨a9, c9, rfl, r9⟩ := str_row h2 (by have := HPP.out; omega) (fun y hy => ((HSET.out.2 y).1 (List.mem_filter.1 hy).1).1)
    have HR5 := Lib.hid (HR4.out.below hB)
    have HH5 := Lib.hid (HH4.out.step hB)
    have HR8 := Lib.hid r8
    have HR9 := Lib.hid r9
    have HBD := Lib.hid (fun p (hp : p ∈ pts.filter fun p => !inB p (ordL pts ls)) => bound_to HLS.out hp)
    have H28 := Lib.hid (rorder_any a7 a2 c7 cap2 pts ls w5 HR5.out HH5.out.lines (by have := HPP.out; omega) (by have := HLN.out; omega))
    unfold ROrderP at H28
    have HFL := Lib.hid (show (pts.filter fun p => !inB p (ordL pts ls)).length ≤ 300 by have := HPP.out; omega)
    clear hS h1 h2 hB r8 r9 H25 HR4 HH4 HOO hfl
    generalize (pts.filter fun p => !inB p (ordL pts ls)) = bd at *
    generalize ordL pts ls = od at *
    go_wp2_with fail
    go_at_call 28; refine H28.out.mono ?_; rintro e w6 ⟨b1, d1, b2, d2, rfl, s1, s2, hB⟩
    have HH6 := Lib.hid (HH5.out.step hB)
    have H17 := Lib.hid (same_yes (cap := c8) (cap' := d1) (HR8.out.below hB) s1)
    have HR9b := Lib.hid (HR9.out.below hB)
    have HS2 := Lib.hid s2
    clear hB s1 s2 H28 HR5 HH5 HR8 HR9
    go_wp2_with fail
    go_at_call 17; refine H17.out.mono ?_; rintro e w7 ⟨rfl, hB⟩
    have HH7 := Lib.hid (HH6.out.step hB)
    have HR7 := Lib.hid (HR9b.out.below hB)
    have H17b := Lib.hid (same_yes (cap := c9) (cap' := d2) HR7.out (HS2.out.below hB))
    clear hB H17 HH6 HR9b HS2
    go_wp2_with fail
    go_at_call 17; refine H17b.out.mono ?_; rintro e w8 ⟨rfl, hB⟩
    have HH8 := Lib.hid (HH7.out.step hB)
    have HR8 := Lib.hid (HR7.out.below hB)
    clear hB H17b HH7 HR7
    have hbl := HFL.out
    go_wp2_with fail
    go_loopw [10] (fun i wr => ∃ k : Nat, k ≤ bd.length ∧ i = .int .i64 k ∧ Hid (GW l a ls a2 w wr) ∧ Hid (StrRow wr a9 bd.length bd)) (fun i _ => bd.length - (intOf i).toNat)
    case atStart => exact ⟨0, by omega, rfl, HH8, HR8⟩
    case round =>
      clear HH8 HR8
      obtain ⟨k, hk, rfl, hH, hR⟩ := hrel
      rename World => wr
      have HH := Lib.hid hH.out
      have HR := Lib.hid hR.out
      clear hH hR
      by_cases hlt : k < bd.length
      · obtain ⟨b0, off, p, e1, hb, hc, hx, hok⟩ := str_at HR.out hlt
        subst e1
        have HANY := Lib.hid (HBD.out p (List.mem_of_getElem? hx))
        have HTO := Lib.hid (rto_any a2 ls.length cap2 ls p wr HH.out.lines (by have := HLN.out; omega))
        clear hx hb
        go_wp2_with fail
        go_at_call 22; refine HTO.out.mono ?_; rintro e w9 ⟨a5, c5, rfl, hS5, hB5⟩
        have HS5 := Lib.hid hS5
        have hm5 := hS5.max
        have HH9 := Lib.hid (HH.out.step hB5)
        have HR9 := Lib.hid (HR.out.below hB5)
        generalize toL ls p = tl at *
        clear hS5 hB5 HTO hc
        go_wp2_with fail
        go_loop [12, 13] (fun f i => ∃ (j : Nat) (b : Bool), j ≤ tl.length ∧ i = .int .i64 j ∧ f = .bool b ∧ Hid ((tl.take j).any (fun t => inB t bd) = b)) (fun _ i => tl.length - (intOf i).toNat)
        case atStart => exact ⟨0, false, by omega, rfl, rfl, Lib.hid (by simp)⟩
        case round =>
          obtain ⟨j, b, hj, rfl, rfl, hb⟩ := hrel
          have HB := Lib.hid hb.out
          clear hb
          by_cases hlt3 : j < tl.length
          · obtain ⟨b4, off4, t, rfl, hb4, hc4, hx4, hok4⟩ := str_at HS5.out hlt3
            have HAM := Lib.hid (any_more (q := fun t => inB t bd) hx4)
            have HH4 := Lib.hid (rhas_any (some ⟨b0, off, none⟩) bd.length c9 bd t w9 HR9.out)
            clear hx4 hb4
            cases b with
            | false =>
              go_wp2_with fail
              go_at_call 20; refine HH4.out.mono ?_; rintro e w10 ⟨rfl, rfl⟩
              go_wp2_with fail
              go_round
              case rel => exact ⟨j + 1, _, by omega, by go_num, rfl, Lib.hid (by rw [HAM.out, HB.out]; simp)⟩
              case measure => simp [intOf]; omega
            | true =>
              go_wp2_with fail
              go_round
              case rel => exact ⟨j + 1, true, by omega, by go_num, rfl, Lib.hid (by rw [HAM.out, HB.out]; simp)⟩
              case measure => simp [intOf]; omega
          · have hki : ¬ (j : Int) < (tl.length : Int) := by omega
            obtain rfl : j = tl.length := by omega
            obtain rfl : true = b := by
              have h1 := HB.out
              rw [List.take_length] at h1
              rw [← HANY.out, ← h1]
            go_wp2_with fail
            go_roundw
            case rel => exact ⟨k + 1, by omega, by go_num, HH9, HR9⟩
            case measure => simp [intOf]; omega
      · have hki : ¬ (k : Int) < (bd.length : Int) := by omega
        obtain rfl : k = bd.length := by omega
        have HAW := HAW wr
        go_wp2_with fail
        go_at_call 11; refine HAW.out.mono ?_; rintro e w9 ⟨rfl, hB⟩
        have HB := Lib.hid (below_step HH.out.below hB)
        clear hB
        go_wp2_with fail
        go_ret
        exact ⟨rfl, HB.out⟩
end Go.Proofs.Ytdlcpnpmmmpccaa.Gr
