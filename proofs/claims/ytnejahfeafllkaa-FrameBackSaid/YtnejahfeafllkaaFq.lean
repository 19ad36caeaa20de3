/- WALK of the law FrameBack. -/
import Derived.Test.YtnejahfeafllkaaFp
namespace Go.Proofs.Ytnejahfeafllkaa
open Go.RowKit
/-- All texts but those of the first k are of at most 100 bytes. -/
def Small (xs : List ByteArray) (k : Nat) : Prop := ∀ x ∈ xs.take k, x.size ≤ 100
theorem Small.zero (xs : List ByteArray) : Small xs 0 := fun x h => by simp at h
theorem take_snoc {xs : List ByteArray} {k : Nat} {x : ByteArray} (h : xs[k]? = some x) : xs.take (k + 1) = xs.take k ++ [x] := by
  obtain ⟨hl, e⟩ := List.getElem?_eq_some_iff.1 h
  rw [List.take_succ_eq_append_getElem hl, e]
theorem Small.succ {xs : List ByteArray} {k : Nat} {x : ByteArray} (h : Small xs k) (hx : xs[k]? = some x) (hs : x.size ≤ 100) : Small xs (k + 1) := fun y hy => by
  rw [take_snoc hx] at hy
  rcases List.mem_append.1 hy with h1 | h1
  · exact h y h1
  · rw [List.mem_singleton.1 h1]; exact hs
theorem rec_small {x : ByteArray} (h : x.size ≤ 100) : 6 ≤ (rec x).size ∧ (rec x).size ≤ 115 := by
  rw [rec_size]; have := nb_len x.size (by omega); omega
theorem catL_small {xs : List ByteArray} : ∀ {k : Nat}, k ≤ xs.length → Small xs k → (catL (xs.take k)).length ≤ 115 * k
  | 0, _, _ => by simp [catL]
  | k + 1, hk, h => by
    obtain ⟨x, hx⟩ : ∃ x, xs[k]? = some x := ⟨xs[k]'(by omega), List.getElem?_eq_getElem _⟩
    rw [take_snoc hx, catL_snoc, List.length_append, list_len]
    have h1 := catL_small (xs := xs) (k := k) (by omega) (fun y hy => h y (by rw [take_snoc hx]; exact List.mem_append_left _ hy))
    have h2 := rec_small (h x (by rw [take_snoc hx]; simp))
    omega
theorem Small.le {xs : List ByteArray} {j k : Nat} (h : Small xs k) (hj : j ≤ k) : Small xs j := fun y hy => by
  refine h y ?_
  have e : xs.take j = (xs.take k).take j := by rw [List.take_take, Nat.min_eq_left hj]
  rw [e] at hy
  exact List.mem_of_mem_take hy
/-- Where the last of the first k begins. -/
def lastOf (xs : List ByteArray) (k : Nat) : Nat := (catL (xs.take (k - 1))).length
set_option maxRecDepth 100000 in
set_option maxHeartbeats 2000000 in
theorem back_far (a : Option Addr) (len cap : Nat) (behind : ByteArray) (cut : Int) (w : World) (hm : len ≤ 140737488355328) (h : 10 < len ∨ ¬ 10 < len ∧ 100 < behind.size) :
    Calls Try.prog 7 #[.slice a len cap, .string behind, .int .i64 cut] w fun e w' => e = .returned (.bool true) ∧ Below w.heap.size w w' := by
  have HA := fun W => Lib.hid (fawake_any W)
  rcases h with h | ⟨h1, h2⟩
  · have hi : (10 : Int) < (len : Int) := by omega
    clear h
    go_enter Try.func7, Try.ntmps7
    go_wp2_with ((go_at_call 23; refine (HA _).out.mono ?_; rintro e w1 ⟨rfl, hB1⟩; have HB := Lib.hid hB1; clear hB1))
    go_ret
    exact ⟨rfl, HB.out⟩
  · have hi : ¬ (10 : Int) < (len : Int) := by omega
    have hi2 : (100 : Int) < (behind.size : Int) := by omega
    clear h1 h2
    go_enter Try.func7, Try.ntmps7
    go_wp2_with ((go_at_call 23; refine (HA _).out.mono ?_; rintro e w1 ⟨rfl, hB1⟩; have HB := Lib.hid hB1; clear hB1))
    go_ret
    exact ⟨rfl, HB.out⟩
set_option maxRecDepth 100000 in
set_option maxHeartbeats 8000000 in
theorem back_near (a : Option Addr) (len cap : Nat) (xs : List ByteArray) (behind : ByteArray) (cut : Int) (w : World) (hS : StrRow w a len xs) (hcap : len ≤ cap) (hl : len ≤ 10) (hb : behind.size ≤ 100) :
    Calls Try.prog 7 #[.slice a len cap, .string behind, .int .i64 cut] w fun e w' => e = .returned (.bool true) ∧ Below w.heap.size w w' := by
  have HA := fun W => Lib.hid (fawake_any W)
  have hi : ¬ (10 : Int) < (len : Int) := by omega
  have hi2 : ¬ (100 : Int) < (behind.size : Int) := by omega
  have HS := Lib.hid hS
  have HC := Lib.hid hS.count
  clear hS
  go_enter Try.func7, Try.ntmps7
  go_wp2
  go_loopw [7, 8, 9] (fun s l i wr => ∃ (k : Nat), k ≤ len ∧ i = .int .i64 k ∧ s = .string (catB (xs.take k)) ∧ l = .int .i64 (lastOf xs k : Int) ∧ Small xs k ∧ Below w.heap.size w wr) (fun _ _ i _ => len - (intOf i).toNat)
  case atStart => exact ⟨0, Nat.zero_le _, rfl, rfl, rfl, Small.zero xs, Below.refl _ _⟩
  case round =>
    obtain ⟨k, hk, rfl, rfl, rfl, hsm, hB⟩ := hrel
    rename World => wr
    have SM := Lib.hid hsm
    have BL := Lib.hid hB
    clear hsm hB
    by_cases hlt : k < len
    · obtain ⟨b, off, rfl, hbb, hc⟩ := HS.out.at_ (by omega)
      obtain ⟨x, hx⟩ : ∃ x, xs[k]? = some x := ⟨xs[k]'(by rw [HC.out]; exact hlt), List.getElem?_eq_getElem _⟩
      have hcell : wr.cell? ⟨b, off + k, none⟩ = some (.string x) := by rw [BL.out.cell (p := ⟨b, off + k, none⟩) hbb]; exact hc k x hx
      have HX := Lib.hid hx
      have HCB := Lib.hid (catB_size (xs.take k))
      have hcl := catL_small (xs := xs) (k := k) (by rw [HC.out]; omega) SM.out
      have hzz : (catB (xs.take k)).size ≤ 1150 := by rw [HCB.out]; omega
      clear hx hc hbb hcl
      by_cases hbig : 100 < x.size
      · have hbi : (100 : Int) < (x.size : Int) := by omega
        clear hbig
        go_wp2_with ((go_at_call 23; refine (HA _).out.mono ?_; rintro e w1 ⟨rfl, hB1⟩; have HB := below_step2 BL hB1; clear hB1))
        go_ret
        exact ⟨rfl, HB.out⟩
      · have hbi : ¬ (100 : Int) < (x.size : Int) := by omega
        have HP := fun W => Lib.hid (fput_any x W (by omega))
        have hr := rec_small (x := x) (by omega)
        have HBIG := Lib.hid (show x.size ≤ 100 by omega)
        have HSN := Lib.hid (catB_snoc (xs.take k) x)
        generalize hgr : rec x = r at *
        have hr1 : r.toList.isEmpty = false := by
          cases h : r.toList.isEmpty with
          | false => rfl
          | true =>
            exfalso
            have h2 : r.toList = [] := by simpa using h
            have h3 : r.size = r.toList.length := by rw [Lib.toList_data]; simp
            have h4 : r.toList.length = 0 := by rw [h2]; rfl
            omega
        have hr2 : ¬ r.toList = [] := by intro h; rw [h] at hr1; cases hr1
        have hrz : r.size ≤ 115 := hr.2
        clear hbig hr hgr
        generalize hgs : catB (xs.take k) = S at *
        go_wp2_with ((go_at_call 24; refine (HP _).out.mono ?_; rintro e w1 ⟨rfl, hB1⟩; have HB := below_step2 BL hB1; clear hB1))
        go_round
        case rel => exact ⟨k + 1, by omega, by go_num, by rw [take_snoc HX.out, HSN.out], by rw [HCB.out]; rfl, SM.out.succ HX.out HBIG.out, HB.out⟩
        case measure => simp [intOf]; omega
    · obtain rfl : k = len := by omega
      have HT := Lib.hid (show xs.take k = xs by rw [List.take_of_length_le (by rw [HC.out]; exact Nat.le_refl _)])
      have hcl := catL_small (xs := xs) (k := k) (by rw [HC.out]; exact Nat.le_refl _) SM.out
      rw [HT.out] at hcl
      rw [HT.out]
      have HCB := Lib.hid (catB_size xs)
      have hzz : (catB xs).size ≤ 1150 := by rw [HCB.out]; omega
      have hll : lastOf xs k ≤ 1150 := by
        unfold lastOf
        have := catL_small (xs := xs) (k := k - 1) (by rw [HC.out]; omega) (SM.out.le (by omega))
        omega
      have ALL := Lib.hid (show ∀ y ∈ xs, y.size ≤ 100 from fun y hy => SM.out y (by rw [HT.out]; exact hy))
      have HLAST := Lib.hid (show lastOf xs k = (catL (xs.take (k - 1))).length from rfl)
      have HTL := Lib.hid (catB_list xs)
      have HALL := fun W => Lib.hid (all_row (catB xs) xs (catB xs).size W (by omega) (recsP_all xs (fun y hy => by have := ALL.out y hy; omega)) (fun y hy => by have := ALL.out y hy; omega) (catB_size xs).symm)
      rw [HC.out] at HALL
      generalize hgS : catB xs = S at *
      generalize lastOf xs k = L at *
      obtain ⟨T, hT2⟩ : ∃ T, S ++ behind = T := ⟨_, rfl⟩
      have HTT := Lib.hid (show T.data.toList = catL xs ++ behind.data.toList by rw [← hT2, list_app, HTL.out])
      have hTz : T.size ≤ 1250 := by rw [← hT2, ByteArray.size_append]; omega
      clear hcl
      go_wp2
      go_loopw [12, 13] (fun q i wr => ∃ (j : Nat), j ≤ k ∧ i = .int .i64 j ∧ q = .int .i64 ((catL (xs.take j)).length : Int) ∧ Below w.heap.size w wr) (fun _ i _ => k - (intOf i).toNat)
      case atStart => exact ⟨0, Nat.zero_le _, rfl, rfl, BL.out⟩
      case round =>
        obtain ⟨j, hj, rfl, rfl, hB⟩ := hrel
        rename World => wq
        have BQ := Lib.hid hB
        clear hB
        by_cases hlt2 : j < k
        · obtain ⟨b, off, rfl, hbb, hc⟩ := HS.out.at_ (by omega)
          obtain ⟨x, hx⟩ : ∃ x, xs[j]? = some x := ⟨xs[j]'(by rw [HC.out]; exact hlt2), List.getElem?_eq_getElem _⟩
          have hcell : wq.cell? ⟨b, off + j, none⟩ = some (.string x) := by rw [BQ.out.cell (p := ⟨b, off + j, none⟩) hbb]; exact hc j x hx
          have hxm := ALL.out x (List.mem_of_getElem? hx)
          have hsp : T.data.toList = catL (xs.take j) ++ ((rec x).data.toList ++ (catL (xs.drop (j + 1)) ++ behind.data.toList)) := by
            rw [HTT.out]
            have e : xs = xs.take j ++ (x :: xs.drop (j + 1)) := by
              conv => lhs; rw [← List.take_append_drop (j + 1) xs, take_snoc hx]
              simp
            conv => lhs; rw [e, catL_app, catL_cons]
            simp [List.append_assoc]
          have hnx := nx_rec hsp rfl (by omega)
          have hple : (catL (xs.take j)).length ≤ T.size := by
            have := congrArg List.length hsp
            rw [list_len] at this
            simp only [List.length_append] at this
            omega
          have HN := fun W => Lib.hid (next_any T (catL (xs.take j)).length W (by omega) hple)
          rw [hnx] at HN
          have HNX := Lib.hid (show (catL (xs.take (j + 1))).length = (catL (xs.take j)).length + (rec x).size by rw [take_snoc hx, catL_snoc, List.length_append, list_len])
          unfold NextIs at HN
          generalize (catL (xs.take j)).length = P at *
          obtain ⟨q2, hq2⟩ : ∃ q2, P + (rec x).size = q2 := ⟨_, rfl⟩
          rw [hq2] at HN HNX
          clear hsp hnx hx hc hbb hxm hple hq2
          go_wp2_with ((go_at_call 25; refine (HN _).out.mono ?_; rintro e w1 ⟨rfl, hB1⟩; have HB := below_step2 BQ hB1; have hcell2 : w1.cell? ⟨b, off + j, none⟩ = some (.string x) := (by first | exact (hB1.cell (p := ⟨b, off + j, none⟩) (World.block_lt_of_cell? _ _ hcell)).trans hcell); clear hB1))
          go_roundw
          case rel => exact ⟨j + 1, by omega, by go_num, by rw [HNX.out], HB.out⟩
          case measure => simp [intOf]; omega
        · obtain rfl : j = k := by omega
          rw [HT.out, ← HCB.out]
          have HS1 := fun W (h : Below w.heap.size w W) => Lib.hid (HS.out.below h)
          by_cases h0 : j = 0
          · subst h0
            go_wp2_with (first
              | (go_at_call 28; refine (HALL _).out.mono ?_; rintro e w1 ⟨a1, c1, rfl, hR1, hB1⟩; have HR1 := Lib.hid hR1; have HB1 := below_step2 BQ hB1; clear hB1 hR1)
              | (go_at_call 30; refine (same_is _ _ _ _ _ _ xs _ HR1.out (HS1 _ HB1.out).out).mono ?_; rintro e w2 ⟨rfl, hB2⟩; have HB2 := below_step2 HB1 hB2; clear hB2)
              | (go_at_call 23; refine (HA _).out.mono ?_; rintro e w3 ⟨rfl, hB3⟩; have HB3 := below_step2 HB2 hB3; clear hB3))
            go_ret
            exact ⟨rfl, HB3.out⟩
          · obtain ⟨j1, hj1⟩ : ∃ j1, j = j1 + 1 := ⟨j - 1, by omega⟩
            subst hj1
            obtain ⟨x, hx⟩ : ∃ x, xs[j1]? = some x := ⟨xs[j1]'(by rw [HC.out]; omega), List.getElem?_eq_getElem _⟩
            have hxm := ALL.out x (List.mem_of_getElem? hx)
            have hxe : xs = xs.take j1 ++ [x] := by rw [← take_snoc hx, HT.out]
            have hLL : L = (catL (xs.take j1)).length := by rw [HLAST.out]; rfl
            have hSz : S.size = L + (rec x).size := by
              rw [HCB.out, hLL]; conv => lhs; rw [hxe]
              rw [catL_snoc, List.length_append, list_len]
            have hrs := rec_small hxm
            obtain ⟨m, hm⟩ : ∃ m, m = (rec x).size := ⟨_, rfl⟩
            rw [← hm] at hSz hrs
            obtain ⟨c, hc⟩ : ∃ c : Nat, IntKind.u64.wrap cut = (c : Int) := ⟨(IntKind.u64.wrap cut).toNat, by rw [IntKind.wrap_u64]; omega⟩
            obtain ⟨f, hf⟩ : ∃ f, f = c % m := ⟨_, rfl⟩
            have hfm : f < m := by rw [hf]; exact Nat.mod_lt _ (by omega)
            have e1 : (S.size : Int) - (L : Int) = (m : Int) := by omega
            have e2 : (c : Int).tmod (m : Int) = (f : Int) := by rw [Int.tmod_eq_emod_of_nonneg (by omega), hf]; omega
            have e3 : (c : Int) % (m : Int) = (f : Int) := by rw [hf]; omega
            obtain ⟨z, hz⟩ : ∃ z, z = L + f := ⟨_, rfl⟩
            have e4 : (L : Int) + (f : Int) = (z : Int) := by omega
            have e5 : ((j1 : Int) + 1) - 1 = (j1 : Int) := by omega
            have hzS : (z : Int) ≤ (S.size : Int) := by omega
            have hmz : (m : Int) ≠ 0 := by omega
            have hex : (S.extract 0 z).data.toList = catL (xs.take j1) ++ (rec x).data.toList.take f := by
              rw [Lib.extract_data, HTL.out]
              conv => lhs; rw [hxe]
              rw [catL_snoc, List.drop_zero, Nat.sub_zero, hz, hLL, List.take_append, List.take_of_length_le (by omega), Nat.add_sub_cancel_left]
            have hrc := recsP_cut hex (fun y hy => by have := ALL.out y (List.mem_of_mem_take hy); omega) (by omega) (by omega)
            have HALL2 := fun W => Lib.hid (all_row (S.extract 0 z) (xs.take j1) L W (by simp; omega) hrc (fun y hy => by have := ALL.out y (List.mem_of_mem_take hy); omega) hLL.symm)
            have hl1 : (xs.take j1).length = j1 := by rw [List.length_take, HC.out]; omega
            rw [hl1] at HALL2
            have HS2 := fun W (h : Below w.heap.size w W) => Lib.hid (show StrRow W a j1 (xs.take j1) from by
              have h1 := HS.out.below h
              refine ⟨hl1, by omega, fun i y hy => h1.fits i y (by rw [List.getElem?_take] at hy; split at hy; exact hy; cases hy), fun hpos => ?_⟩
              obtain ⟨b, off, e, hb, hcc⟩ := h1.at_ (by omega)
              exact ⟨b, off, e, hb, fun i y hy => hcc i y (by rw [List.getElem?_take] at hy; split at hy; exact hy; cases hy)⟩)
            obtain ⟨Z, hZ⟩ : ∃ Z, S.extract 0 z = Z := ⟨_, rfl⟩
            rw [hZ] at HALL2
            clear hx hxe hLL hSz hf hz hex hrc hl1 hm
            go_wp2_with (first
              | (go_at_call 28; (with_reducible refine (HALL _).out.mono ?_); rintro e w1 ⟨a1, c1, rfl, hR1, hB1⟩; have HR1 := Lib.hid hR1; have HB1 := below_step2 BQ hB1; clear hB1 hR1)
              | (go_at_call 28; (with_reducible refine (HALL2 _).out.mono ?_); rintro e w4 ⟨a4, c4, rfl, hR4, hB4⟩; have HR4 := Lib.hid hR4; have HB4 := below_step2 HB2 hB4; clear hB4 hR4)
              | (go_at_call 30; (with_reducible refine (same_is _ _ _ _ _ _ xs _ HR1.out (HS1 _ HB1.out).out).mono ?_); rintro e w2 ⟨rfl, hB2⟩; have HB2 := below_step2 HB1 hB2; clear hB2)
              | (go_at_call 30; (with_reducible refine (same_is _ _ _ _ _ _ (xs.take j1) _ (HR4.out.below HB5c.out) (HS2 _ HB5.out).out).mono ?_); rintro e w6 ⟨rfl, hB6⟩; have HB6 := below_step2 HB5 hB6; clear hB6)
              | (go_at_call 23; refine (HA _).out.mono ?_; rintro e w5 ⟨rfl, hB5⟩; have HB5c := Lib.hid hB5; have HB5 := below_step2 HB4 hB5; clear hB5))
            go_ret
            exact ⟨rfl, HB6.out⟩
theorem back_walk (a : Option Addr) (len cap : Nat) (xs : List ByteArray) (behind : ByteArray) (cut : Int) (w : World) (hS : StrRow w a len xs) (hcap : len ≤ cap) :
    Calls Try.prog 7 #[.slice a len cap, .string behind, .int .i64 cut] w fun e w' => e = .returned (.bool true) ∧ Below w.heap.size w w' := by
  by_cases h : 10 < len
  · exact back_far a len cap behind cut w hS.max (.inl h)
  · by_cases h2 : 100 < behind.size
    · exact back_far a len cap behind cut w hS.max (.inr ⟨h, h2⟩)
    · exact back_near a len cap xs behind cut w hS hcap (by omega) (by omega)
end Go.Proofs.Ytnejahfeafllkaa
