/- WALK of the reference's Names: which have changed. -/
import Derived.Test.YtngnegnofmpgkaaAe
import Derived.Test.YtngnegnofmpgkaaZ14
import Derived.Deep.QuietTactic
import Derived.BigQuiet
namespace Go.Proofs.Ytngnegnofmpgkaa.Gr
open Go.RowKit Go.Maps Go.Sort
open Go.Proofs.Ytngnegnofmpgkaa.Nm (StrRow)
section
variable {ι : Type}
/-- What is put, one by one, of those that c tells. -/
def rcG (nm : ι → ByteArray) (c : ι → Bool) (acc : List ByteArray) (x : ι) : List ByteArray := if c x = true then putL (nm x) acc else acc
theorem rcG_len (nm : ι → ByteArray) (c : ι → Bool) (xs : List ι) : ∀ acc : List ByteArray, (xs.foldl (rcG nm c) acc).length ≤ acc.length + xs.length := by
  induction xs with
  | nil => intro acc; simp
  | cons l ls ih =>
    intro acc
    rw [List.foldl_cons]
    have h1 := ih (rcG nm c acc l)
    have h2 : (rcG nm c acc l).length ≤ acc.length + 1 := by
      unfold rcG
      split
      · exact putL_len _ _
      · omega
    rw [List.length_cons]
    omega
theorem rcG_set (nm : ι → ByteArray) (c : ι → Bool) (t : ByteArray) (xs : List ι) : ∀ acc : List ByteArray, Rise acc → Rise (xs.foldl (rcG nm c) acc) ∧ (t ∈ xs.foldl (rcG nm c) acc ↔ t ∈ acc ∨ ∃ x ∈ xs, c x = true ∧ t = nm x) := by
  induction xs with
  | nil => intro acc h; exact ⟨h, by simp⟩
  | cons l ls ih =>
    intro acc h
    rw [List.foldl_cons]
    by_cases hc : c l = true
    · have e : rcG nm c acc l = putL (nm l) acc := if_pos hc
      rw [e]
      obtain ⟨h1, h2⟩ := ih _ (putL_rise (nm l) acc h)
      refine ⟨h1, h2.trans ?_⟩
      rw [putL_mem]
      constructor
      · rintro ((rfl | h) | ⟨x, hx, h⟩)
        · exact .inr ⟨l, List.mem_cons_self, hc, rfl⟩
        · exact .inl h
        · exact .inr ⟨x, List.mem_cons_of_mem _ hx, h⟩
      · rintro (h | ⟨x, hx, h3, h4⟩)
        · exact .inl (.inr h)
        · rcases List.mem_cons.1 hx with rfl | hx
          · exact .inl (.inl h4)
          · exact .inr ⟨x, hx, h3, h4⟩
    · have e : rcG nm c acc l = acc := if_neg hc
      rw [e]
      obtain ⟨h1, h2⟩ := ih _ h
      refine ⟨h1, h2.trans ?_⟩
      constructor
      · rintro (h | ⟨x, hx, h⟩)
        · exact .inl h
        · exact .inr ⟨x, List.mem_cons_of_mem _ hx, h⟩
      · rintro (h | ⟨x, hx, h3, h4⟩)
        · exact .inl h
        · rcases List.mem_cons.1 hx with rfl | hx
          · exact absurd h3 hc
          · exact .inr ⟨x, hx, h3, h4⟩
/-- The reference's list. -/
def rcL (nm : ι → ByteArray) (q : ι → ι → Bool) (old now : List ι) : List ByteArray := now.foldl (rcG nm fun y => !inB (nm y) (old.map nm)) (old.foldl (rcG nm (chB nm q now)) [])
theorem rcL_len (nm : ι → ByteArray) (q : ι → ι → Bool) (old now : List ι) : (rcL nm q old now).length ≤ old.length + now.length := by
  unfold rcL
  have h1 := rcG_len nm (fun y => !inB (nm y) (old.map nm)) now (old.foldl (rcG nm (chB nm q now)) [])
  have h2 := rcG_len nm (chB nm q now) old []
  rw [List.length_nil] at h2
  omega
theorem rcL_set {nm : ι → ByteArray} {q : ι → ι → Bool} {old now : List ι} (ho : ∀ x ∈ old, okS (nm x)) (hn : ∀ y ∈ now, okS (nm y)) : SetL (chS nm q old now) (rcL nm q old now) := by
  have h1 := fun t => rcG_set nm (chB nm q now) t old [] List.Pairwise.nil
  have h2 := fun t => rcG_set nm (fun y => !inB (nm y) (old.map nm)) t now _ (h1 t).1
  refine ⟨(h2 ⟨#[]⟩).1, fun s => (h2 s).2.trans ?_⟩
  rw [(h1 s).2]
  unfold chS
  rw [Bool.or_eq_true, Bool.and_eq_true, List.any_eq_true]
  constructor
  · rintro ((h | ⟨x, hx, hc, rfl⟩) | ⟨y, hy, hc, rfl⟩)
    · cases h
    · exact ⟨ho x hx, .inl ⟨x, hx, by rw [hc]; simp⟩⟩
    · exact ⟨hn y hy, .inr ⟨inB_iff.2 (List.mem_map.2 ⟨y, hy, rfl⟩), hc⟩⟩
  · rintro ⟨-, (⟨x, hx, h⟩ | ⟨h3, h4⟩)⟩
    · rw [Bool.and_eq_true, decide_eq_true_eq] at h
      exact .inl (.inr ⟨x, hx, h.2, h.1.symm⟩)
    · obtain ⟨y, hy, rfl⟩ := List.mem_map.1 (inB_iff.1 h3)
      exact .inr ⟨y, hy, h4, rfl⟩
end
theorem row_of_mem {w : World} {n : Nat} {a : Option Addr} {len : Nat} {xs : List Nd} (h : NodeRow w n a len xs) : ∀ x ∈ xs, okS x.name := fun x hx => by
  obtain ⟨i, hi, e⟩ := List.getElem_of_mem hx
  obtain ⟨b, off, -, -, hc⟩ := h.at_ (by rw [← h.count]; omega)
  obtain ⟨a', dl, dc, hN⟩ := hc i x (by rw [← e]; exact List.getElem?_eq_getElem hi)
  exact hN.ok
set_option maxRecDepth 100000 in
set_option maxHeartbeats 16000000 in
theorem rnamesN_any (a : Option Addr) (len cap : Nat) (a2 : Option Addr) (len2 cap2 n : Nat) (xs ys : List Nd) (w : World) (hX : NodeRow w n a len xs) (hY : NodeRow w n a2 len2 ys) (hl : len ≤ 100000) (hl2 : len2 ≤ 100000) (hny : (ys.map Nd.name).Nodup) :
    Calls Try.prog 14 #[.slice a len cap, .slice a2 len2 cap2] w (RowR (rcL Nd.name qN xs ys) w) := by
  have HX := Lib.hid hX
  have HY := Lib.hid hY
  have hcx := hX.count
  have hcy := hY.count
  have HNY := Lib.hid hny
  have HN := Lib.hid (show StrRow w none 0 [] from ⟨rfl, by omega, fun i x h => by simp at h, fun h => absurd h (by omega)⟩)
  clear hX hY hny
  obtain ⟨f1, hf1⟩ : ∃ f1, rcG Nd.name (chB Nd.name qN ys) = f1 := ⟨_, rfl⟩
  obtain ⟨f2, hf2⟩ : ∃ f2, rcG Nd.name (fun y => !inB (Nd.name y) (xs.map Nd.name)) = f2 := ⟨_, rfl⟩
  have HF1 := Lib.hid hf1
  have HF2 := Lib.hid hf2
  have HL1 := Lib.hid (show ∀ l : List Nd, (l.foldl f1 []).length ≤ l.length from fun l => by
    have := rcG_len Nd.name (chB Nd.name qN ys) l []
    rw [hf1, List.length_nil] at this
    omega)
  have HL2 := Lib.hid (show ∀ (l : List Nd) (z : List ByteArray), (l.foldl f2 z).length ≤ z.length + l.length from fun l z => by
    have := rcG_len Nd.name (fun y => !inB (Nd.name y) (xs.map Nd.name)) l z
    rw [hf2] at this
    exact this)
  have HR := Lib.hid (show rcL Nd.name qN xs ys = ys.foldl f2 (xs.foldl f1 []) by unfold rcL; rw [hf1, hf2])
  clear hf1 hf2
  go_enter Try.func14, Try.ntmps14
  go_upto_region 3 with fail
  go_loopw [5, 6] (fun v i wr => ∃ (k : Nat) (b : Option Addr) (cp : Nat), k ≤ len ∧ i = .int .i64 k ∧ v = .slice b ((xs.take k).foldl f1 []).length cp ∧ Hid (StrRow wr b ((xs.take k).foldl f1 []).length ((xs.take k).foldl f1 [])) ∧ Hid (Below w.heap.size w wr)) (fun _ i _ => len - (intOf i).toNat)
  case atStart => exact ⟨0, none, 0, by omega, rfl, rfl, HN, Lib.hid (Below.refl _ _)⟩
  case round =>
    obtain ⟨k, b, cp, hk, rfl, rfl, hO, hB⟩ := hrel
    rename World => wr
    have HO := Lib.hid hO.out
    have HB := Lib.hid hB.out
    clear hO hB
    by_cases hlt : k < len
    · obtain ⟨b0, off, rfl, hb, hc⟩ := HX.out.at_ (by omega)
      obtain ⟨x, hx⟩ : ∃ x, xs[k]? = some x := ⟨xs[k]'(by rw [hcx]; exact hlt), List.getElem?_eq_getElem _⟩
      obtain ⟨a', dl, dc, hN⟩ := hc k x hx
      have HN1 := Lib.hid hN
      obtain ⟨c0, c1, c2, hok, -⟩ := hN.below HB.out hb
      have HE := Lib.hid (fold_at f1 [] hx)
      have hll := HL1.out (xs.take k)
      rw [List.length_take] at hll
      obtain ⟨acc, hacc⟩ : ∃ acc, (xs.take k).foldl f1 [] = acc := ⟨_, rfl⟩
      rw [hacc] at HO HE hll ⊢
      obtain ⟨nm, hnm⟩ : ∃ nm, x.name = nm := ⟨_, rfl⟩
      obtain ⟨rs, hrs⟩ : ∃ rs, x.res = rs := ⟨_, rfl⟩
      rw [hnm] at c0 hok
      rw [hrs] at c1
      have HNM := Lib.hid hnm
      have HOK := Lib.hid hok
      have HP := fun W (hW : Below wr.heap.size wr W) => Lib.hid (rput_any b acc.length cp acc nm W (HO.out.below hW) hok (by omega))
      have HFD := Lib.hid (rfind_any a2 len2 cap2 n ys nm wr (HY.out.below HB.out))
      have hbw : b0 < wr.heap.size := Nat.lt_of_lt_of_le hb HB.out.size
      clear hx hc hb hN hacc hnm hrs hok
      go_upto_region 6 with (go_at_call 30; refine HFD.out.mono ?_; rintro e w2 ⟨⟨i, rfl, hfnd⟩, rfl⟩; have HFN := Lib.hid hfnd; clear hfnd)
      have hfn := HFN.out
      rcases hfn with ⟨rfl, hout⟩ | ⟨m, y, rfl, hy, hye⟩
      · have HCH := Lib.hid (chB_out (q := qN) (nm := Nd.name) (now := ys) (x := x) (by rw [HNM.out]; exact hout))
        clear HFN hout
        have hm1 : ((-1 : Int) < 0) := by omega
        have hm2 : decide ((-1 : Int) < 0) = true := by decide
        have HE2 := Lib.hid (HE.out.trans (show f1 acc x = putL nm acc by rw [← HF1.out, ← HNM.out]; exact if_pos HCH.out))
        go_quiet (fail)
        go_wp2_with (go_at_call 21; refine (HP _ (by first | exact KW1.out | exact (Below.refl _ _).drew | exact below_drewN (Below.refl _ _) _)).out.mono ?_; rintro e w3 ⟨b2, cp2, rfl, hS2, hB2⟩; have HS2 := Lib.hid hS2; have HB2 := Lib.hid (HB.out.trans ((below_step (show RowKit.Below wr.heap.size wr _ from by first | exact KW1.out | exact (Below.refl _ _).drew | exact below_drewN (Below.refl _ _) _) hB2).mono HB.out.size)); clear hS2 hB2)
        go_roundw
        case rel => exact ⟨k + 1, b2, cp2, by omega, by go_num, by rw [HE2.out], by rw [HE2.out]; exact HS2, HB2⟩
        case measure => simp [intOf]; omega
      · have HCH := Lib.hid (chB_in (q := qN) HNY.out (List.mem_of_getElem? hy) (hye.trans HNM.out.symm))
        have hml : m < len2 := by have := (List.getElem?_eq_some_iff.1 hy).1; omega
        obtain ⟨b1, off1, rfl, hb1, hc1⟩ := HY.out.at_ (by omega)
        obtain ⟨a'', dl2, dc2, hN2⟩ := hc1 m y hy
        obtain ⟨d0, d1, d2, -, -⟩ := hN2.below HB.out hb1
        have hbw1 : b1 < wr.heap.size := Nat.lt_of_lt_of_le hb1 HB.out.size
        obtain ⟨ry, hry⟩ : ∃ ry, y.res = ry := ⟨_, rfl⟩
        rw [hye] at d0
        rw [hry] at d1
        have HS := fun W (hW : Below wr.heap.size wr W) => Lib.hid (rsameN_any w n nm ry a'' dl2 dc2 rs a' dl dc y.defs x.defs W hN2.ds HN1.out.ds (HB.out.trans (hW.mono HB.out.size)))
        obtain ⟨z, hz⟩ : ∃ z, eqB y.defs x.defs = z := ⟨_, rfl⟩
        rw [hz] at HS
        have HCZ := Lib.hid (HCH.out.trans (show (!qN x y) = !z by unfold qN; rw [← hz, eqB_iff (a := x.defs) (b := y.defs) eq_comm]))
        have hm0 : (0 : Int) ≤ (m : Int) := by omega
        have hmi : (m : Int) < (len2 : Int) := by omega
        have hm2 : decide ((m : Int) < 0) = false := by rw [decide_eq_false_iff_not]; omega
        have hk0 : (0 : Int) ≤ (k : Int) := by omega
        have hki : (k : Int) < (len : Int) := by omega
        clear HFN hy hye hb1 hc1 hN2 hry hz HCH
        go_region_held3 (fun w' => ∀ bb o, bb < wr.heap.size → w'.cell? ⟨bb, o, none⟩ = wr.cell? ⟨bb, o, none⟩)
          (exact fun bb o h => (show RowKit.Below wr.heap.size wr _ from by first
            | exact (Below.refl _ _).drew
            | exact KW1.out).cell (p := ⟨bb, o, none⟩) h)
          (first
            | (go_at_call 31; (with_reducible refine (HS _ (Below.refl _ _).drew).out.mono ?_); rintro en w7 ⟨rfl, hB7⟩; have KW1 := Lib.hid (show RowKit.Below wr.heap.size wr w7 from below_step ((Below.refl _ _).drew) hB7); clear hB7))
        cases z
        · have HE2 := Lib.hid (HE.out.trans (show f1 acc x = putL nm acc by rw [← HF1.out, ← HNM.out]; exact if_pos HCZ.out))
          go_wp2_with (go_at_call 21; refine (HP _ (by first | exact KW1.out | exact (Below.refl _ _).drew | exact below_drewN (Below.refl _ _) _)).out.mono ?_; rintro e w3 ⟨b2, cp2, rfl, hS2, hB2⟩; have HS2 := Lib.hid hS2; have HB2 := Lib.hid (HB.out.trans ((below_step (show RowKit.Below wr.heap.size wr _ from by first | exact KW1.out | exact (Below.refl _ _).drew | exact below_drewN (Below.refl _ _) _) hB2).mono HB.out.size)); clear hS2 hB2)
          go_roundw
          case rel => exact ⟨k + 1, b2, cp2, by omega, by go_num, by rw [HE2.out], by rw [HE2.out]; exact HS2, HB2⟩
          case measure => simp [intOf]; omega
        · have HE2 := Lib.hid (HE.out.trans (show f1 acc x = acc by rw [← HF1.out]; exact if_neg (by rw [HCZ.out]; decide)))
          go_wp2
          go_roundw
          case rel => exact ⟨k + 1, b, cp, by omega, by go_num, by rw [HE2.out], by rw [HE2.out]; exact Lib.hid (HO.out.below KW1.out), Lib.hid (below_step HB.out KW1.out)⟩
          case measure => simp [intOf]; omega
    · have hki : ¬ (k : Int) < (len : Int) := by omega
      obtain rfl : k = len := by omega
      have HE := Lib.hid (show xs.take k = xs from List.take_of_length_le (by omega))
      rw [HE.out] at HO ⊢
      have hlz := HL1.out xs
      obtain ⟨z0, hz0⟩ : ∃ z0, xs.foldl f1 [] = z0 := ⟨_, rfl⟩
      rw [hz0] at HO hlz HR ⊢
      clear hz0 HE
      go_upto_region 9 with fail
      go_loopw [5, 8] (fun v i wt => ∃ (j : Nat) (b : Option Addr) (cp : Nat), j ≤ len2 ∧ i = .int .i64 j ∧ v = .slice b ((ys.take j).foldl f2 z0).length cp ∧ Hid (StrRow wt b ((ys.take j).foldl f2 z0).length ((ys.take j).foldl f2 z0)) ∧ Hid (Below w.heap.size w wt)) (fun _ i _ => len2 - (intOf i).toNat)
      case atStart => exact ⟨0, b, cp, by omega, rfl, rfl, HO, HB⟩
      case round =>
        clear HO HB
        obtain ⟨j, b, cp, hj, rfl, rfl, hO, hB⟩ := hrel
        rename World => wt
        have HO := Lib.hid hO.out
        have HB := Lib.hid hB.out
        clear hO hB
        by_cases hlt2 : j < len2
        · obtain ⟨b0, off, rfl, hb, hc⟩ := HY.out.at_ (by omega)
          obtain ⟨y, hy⟩ : ∃ y, ys[j]? = some y := ⟨ys[j]'(by rw [hcy]; exact hlt2), List.getElem?_eq_getElem _⟩
          obtain ⟨a', dl, dc, hN⟩ := hc j y hy
          obtain ⟨c0, c1, c2, hok, -⟩ := hN.below HB.out hb
          have HE := Lib.hid (fold_at f2 z0 hy)
          have hll := HL2.out (ys.take j) z0
          rw [List.length_take] at hll
          obtain ⟨acc, hacc⟩ : ∃ acc, (ys.take j).foldl f2 z0 = acc := ⟨_, rfl⟩
          rw [hacc] at HO HE hll ⊢
          obtain ⟨nm, hnm⟩ : ∃ nm, y.name = nm := ⟨_, rfl⟩
          rw [hnm] at c0 hok
          have HNM := Lib.hid hnm
          have HP := Lib.hid (rput_any b acc.length cp acc nm wt HO.out hok (by omega))
          have HFD := Lib.hid (rfind_any a k cap n xs nm wt (HX.out.below HB.out))
          clear hy hc hb hN hacc hnm hok c1 c2
          go_wp2_with fail
          go_at_call 30; refine HFD.out.mono ?_; rintro e w2 ⟨⟨i, rfl, hfnd⟩, rfl⟩
          rcases hfnd with ⟨rfl, hout⟩ | ⟨m, x, rfl, hx, hxe⟩
          · have HE2 := Lib.hid (HE.out.trans (show f2 acc y = putL nm acc by
              rw [← HF2.out, ← HNM.out]
              refine if_pos (show (!inB y.name (xs.map Nd.name)) = true from ?_)
              cases hib : inB y.name (xs.map Nd.name) with
              | false => rfl
              | true => rw [HNM.out] at hib; exact absurd (inB_iff.1 hib) hout))
            have hm1 : ((-1 : Int) < 0) := by omega
            clear hout
            go_wp2_with (go_at_call 21; refine HP.out.mono ?_; rintro e w3 ⟨b2, cp2, rfl, hS2, hB2⟩; have HS2 := Lib.hid hS2; have HB2 := Lib.hid (HB.out.trans (hB2.mono HB.out.size)); clear hS2 hB2)
            go_roundw
            case rel => exact ⟨j + 1, b2, cp2, by omega, by go_num, by rw [HE2.out], by rw [HE2.out]; exact HS2, HB2⟩
            case measure => simp [intOf]; omega
          · have HE2 := Lib.hid (HE.out.trans (show f2 acc y = acc by
              rw [← HF2.out]
              refine if_neg (show ¬ (!inB y.name (xs.map Nd.name)) = true from ?_)
              rw [HNM.out, ← hxe, inB_iff.2 (List.mem_map.2 ⟨x, List.mem_of_getElem? hx, rfl⟩)]
              decide))
            have hm2 : ¬ ((m : Int) < 0) := by omega
            clear hx hxe
            go_wp2
            go_roundw
            case rel => exact ⟨j + 1, b, cp, by omega, by go_num, by rw [HE2.out], by rw [HE2.out]; exact HO, HB⟩
            case measure => simp [intOf]; omega
        · have hki : ¬ (j : Int) < (len2 : Int) := by omega
          obtain rfl : j = len2 := by omega
          have HE := Lib.hid (show ys.take j = ys from List.take_of_length_le (by omega))
          rw [HE.out] at HO ⊢
          go_wp2
          go_ret
          rw [HR.out]
          exact ⟨b, cp, rfl, HO.out, HB.out⟩
end Go.Proofs.Ytngnegnofmpgkaa.Gr
