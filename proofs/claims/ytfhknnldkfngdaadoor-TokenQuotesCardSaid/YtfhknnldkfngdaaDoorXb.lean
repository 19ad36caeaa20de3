/- WALKS of the reference's begins, sign. -/
import Derived.Test.YtfhknnldkfngdaaDoorXa
namespace Go.Proofs.YtfhknnldkfngdaaDoor
open Go.RowKit
theorem pre_iff {x L : List UInt8} : x.isPrefixOf L = decide (x.length ≤ L.length ∧ L.take x.length = x) := by
  rw [Bool.eq_iff_iff, List.isPrefixOf_iff_prefix, List.prefix_iff_eq_take, decide_eq_true_iff]
  constructor
  · intro h
    refine ⟨?_, h.symm⟩
    rw [h, List.length_take]; omega
  · intro h; exact h.2.symm
theorem ext_cut (s : ByteArray) (q n : Nat) : (s.extract q (q + n)).toList = (s.toList.drop q).take n := by
  rw [ext_take, show q + n - q = n by omega]
set_option maxHeartbeats 1000000 in
theorem begins_as (s x : ByteArray) (q : Nat) (b : Bool) (w : World) (hs : s.size ≤ 140737488355328) (hx : x.size ≤ 100) (hq : q ≤ s.size) (hb : Hid (x.toList.isPrefixOf (s.toList.drop q) = b)) : Calls Tryd.prog 34 #[.string s, .int .i64 (q : Int), .string x] w fun e w' => e = .returned (.bool b) ∧ w = w' := by
  by_cases hl : (x.size : Int) ≤ (s.size : Int) - (q : Int)
  · have hle : q + x.size ≤ s.size := by omega
    have hcut : ((s.extract q (q + x.size)).toList == x.toList) = b := by
      rw [← hb.out, pre_iff, ext_cut, Nm.size_list x, Bool.eq_iff_iff]
      have h1 : x.toList.length ≤ (s.toList.drop q).length := by rw [drop_len, ← Nm.size_list]; omega
      rw [beq_iff_eq, decide_eq_true_iff]
      exact ⟨fun h => ⟨h1, h⟩, fun h => h.2⟩
    go_enter Tryd.func34, Tryd.ntmps34
    go_wp2_with fail
    go_ret
    exact ⟨rfl, rfl⟩
  · have hcut : b = false := by
      rw [← hb.out, pre_iff]
      refine decide_eq_false (fun h => ?_)
      have := h.1
      rw [drop_len, ← Nm.size_list] at this; omega
    subst hcut
    go_enter Tryd.func34, Tryd.ntmps34
    go_wp2_with fail
    go_ret
    exact ⟨rfl, rfl⟩
theorem cons_pre (x c : UInt8) (l : List UInt8) : [x].isPrefixOf (c :: l) = (x == c) := by simp [List.isPrefixOf]
theorem pre_cut {s : ByteArray} {q : Nat} {x : List UInt8} (h : x.isPrefixOf (s.toList.drop q) = true) (hx : x.length = 2 := by rfl) : s.extract q (q + 2) = bs x := by
  rw [pre_iff] at h
  have := (of_decide_eq_true h).2
  rw [hx] at this
  exact bs_ext (by rw [ext_cut, this, bs_list])
theorem pre_room {s : ByteArray} {q : Nat} {x : List UInt8} (h : x.isPrefixOf (s.toList.drop q) = true) (hx : x.length = 2 := by rfl) : q + 2 ≤ s.size := by
  rw [pre_iff] at h
  have := (of_decide_eq_true h).1
  rw [hx, drop_len] at this
  omega
def oneS : ByteArray := ⟨#[58, 59, 123, 125, 40, 41, 38, 124, 43, 45, 42, 46]⟩
theorem one_tab : ∀ k, (h : k < 12) → signsL.getD (k + 3) [] = [oneS[k]'h] := by decide
theorem one_cut : ∀ k, k < 12 → oneS.extract k (k + 1) = ⟨(signsL.getD (k + 3) []).toArray⟩ := by
  intro k hk
  apply bs_ext
  rw [ext_take]
  have e : ∀ k, k < 12 → (oneS.toList.drop k).take (k + 1 - k) = signsL.getD (k + 3) [] := by decide +kernel
  rw [e k hk]
  exact (bs_list _).symm
theorem drew2 (w : World) (a b : Nat) : ∃ m, (w.drewN a).drewN b = w.drewN m := ⟨a + b, by simp only [World.drewN, Nat.add_assoc]⟩
theorem pre_one {s : ByteArray} {q k : Nat} (hq : q < s.size) (hk : k < 12) : (signsL.getD (k + 3) []).isPrefixOf (s.toList.drop q) = ((s[q].toNat : Int) == ((oneS[k]'hk).toNat : Int)) := by
  rw [one_tab k hk, drop_at s q hq, cons_pre, Bool.eq_iff_iff]
  simp
  constructor
  · intro h; rw [h]
  · intro h; exact UInt8.toNat.inj (by omega)
set_option maxRecDepth 100000 in
set_option maxHeartbeats 4000000 in
theorem rsign_any (s : ByteArray) (q : Nat) (w : World) (hs : s.size ≤ 140737488355328) (hq : q < s.size) : Calls Tryd.prog 23 #[.string s, .int .i64 (q : Int)] w fun e w' => e = .returned (.string (bs (signL (s.toList.drop q)))) ∧ ∃ n, w' = w.drewN n := by
  have hq2 : q ≤ s.size := by omega
  have g0 : ∀ b, (signsL.getD 0 []).isPrefixOf (s.toList.drop q) = b → Hid ((ByteArray.toList ⟨#[46, 46, 46]⟩).isPrefixOf (s.toList.drop q) = b) := fun b h => Lib.hid (by rw [← h, Lib.toList_data]; rfl)
  have g1 : ∀ b, (signsL.getD 1 []).isPrefixOf (s.toList.drop q) = b → Hid ((ByteArray.toList ⟨#[62, 61]⟩).isPrefixOf (s.toList.drop q) = b) := fun b h => Lib.hid (by rw [← h, Lib.toList_data]; rfl)
  have g2 : ∀ b, (signsL.getD 2 []).isPrefixOf (s.toList.drop q) = b → Hid ((ByteArray.toList ⟨#[60, 61]⟩).isPrefixOf (s.toList.drop q) = b) := fun b h => Lib.hid (by rw [← h, Lib.toList_data]; rfl)
  cases h0 : (signsL.getD 0 []).isPrefixOf (s.toList.drop q)
  · have G0 := g0 _ h0
    cases h1 : (signsL.getD 1 []).isPrefixOf (s.toList.drop q)
    · have G1 := g1 _ h1
      cases h2 : (signsL.getD 2 []).isPrefixOf (s.toList.drop q)
      · have G2 := g2 _ h2
        have HN := Lib.hid (show ∀ j, j < 3 → (signsL.getD j []).isPrefixOf (s.toList.drop q) = false from fun j hj => by
          obtain rfl | rfl | rfl : j = 0 ∨ j = 1 ∨ j = 2 := by omega
          · exact h0
          · exact h1
          · exact h2)
        clear h0 h1 h2 g0 g1 g2
        go_enter Tryd.func23, Tryd.ntmps23
        go_wp2_with (first | (go_at_call 34; ((with_reducible refine (begins_as s ⟨#[46, 46, 46]⟩ q false _ hs (by decide) hq2 G0).mono ?_); rintro e w' ⟨rfl, rfl⟩)) | (go_at_call 34; ((with_reducible refine (begins_as s ⟨#[62, 61]⟩ q false _ hs (by decide) hq2 G1).mono ?_); rintro e w' ⟨rfl, rfl⟩)) | (go_at_call 34; ((with_reducible refine (begins_as s ⟨#[60, 61]⟩ q false _ hs (by decide) hq2 G2).mono ?_); rintro e w' ⟨rfl, rfl⟩)))
        go_loopw [6] (fun i wr => ∃ k : Nat, k ≤ 12 ∧ i = .int .i64 k ∧ Hid (∀ j, j < k + 3 → (signsL.getD j []).isPrefixOf (s.toList.drop q) = false) ∧ Hid (∃ n, wr = w.drewN n)) (fun i _ => 12 - (intOf i).toNat)
        case atStart => exact ⟨0, by omega, rfl, HN, Lib.hid ⟨0, rfl⟩⟩
        case round =>
          obtain ⟨k, hk, rfl, hN, hW⟩ := hrel
          rename World => wr
          by_cases hlt : k < 12
          · have hi1 : (k : Int) < 12 := by omega
            have hi2 : (q : Int) < (s.size : Int) := by omega
            have hi0 : (0 : Int) ≤ (k : Int) := by omega
            have hj0 : (0 : Int) ≤ (q : Int) := by omega
            go_wp2_with fail
            go_quiet (fail)
            go_wp2_with fail
            · have he : ((s[q].toNat : Int) == (oneS[k].toNat : Int)) = true := by assumption
              have HV := sign_at (L := s.toList.drop q) (k := k + 3) (by omega) hN.out (by rw [pre_one hq hlt, he])
              go_ret
              exact ⟨by rw [HV]; exact ret_str (one_cut k hlt), by obtain ⟨n, rfl⟩ := hW.out; exact drew2 w n nq⟩
            · have he : ((s[q].toNat : Int) == (oneS[k].toNat : Int)) = false := by assumption
              have hn2 := Lib.hid (show ∀ j, j < (k + 1) + 3 → (signsL.getD j []).isPrefixOf (s.toList.drop q) = false from fun j hj => by
                by_cases e : j = k + 3
                · subst e; rw [pre_one hq hlt, he]
                · exact hN.out j (by omega))
              go_roundw
              case rel => exact ⟨k + 1, by omega, by go_num, hn2, Lib.hid (by obtain ⟨n, rfl⟩ := hW.out; exact drew2 w n nq)⟩
              case measure => simp [intOf]; omega
          · obtain rfl : k = 12 := by omega
            have HV := Lib.hid (sign_none hN.out)
            go_wp2_with fail
            go_ret
            exact ⟨by rw [HV.out]; rfl, hW.out⟩
      · have G2 := g2 _ h2
        have HV := Lib.hid (sign_at (L := s.toList.drop q) (k := 2) (by decide) (fun j hj => by
          obtain rfl | rfl : j = 0 ∨ j = 1 := by omega
          · exact h0
          · exact h1) h2)
        have HX := Lib.hid (pre_cut h2)
        have hz : q + 2 ≤ s.size := pre_room h2
        clear h0 h1 h2 g0 g1 g2
        go_enter Tryd.func23, Tryd.ntmps23
        go_wp2_with (first | (go_at_call 34; ((with_reducible refine (begins_as s ⟨#[46, 46, 46]⟩ q false _ hs (by decide) hq2 G0).mono ?_); rintro e w' ⟨rfl, rfl⟩)) | (go_at_call 34; ((with_reducible refine (begins_as s ⟨#[62, 61]⟩ q false _ hs (by decide) hq2 G1).mono ?_); rintro e w' ⟨rfl, rfl⟩)) | (go_at_call 34; ((with_reducible refine (begins_as s ⟨#[60, 61]⟩ q true _ hs (by decide) hq2 G2).mono ?_); rintro e w' ⟨rfl, rfl⟩)))
        go_ret
        exact ⟨by rw [HV.out]; exact ret_str HX.out, 0, rfl⟩
    · have G1 := g1 _ h1
      have HV := Lib.hid (sign_at (L := s.toList.drop q) (k := 1) (by decide) (fun j hj => by
          obtain rfl : j = 0 := by omega
          exact h0) h1)
      have HX := Lib.hid (pre_cut h1)
      have hz : q + 2 ≤ s.size := pre_room h1
      clear h0 h1 g0 g1 g2
      go_enter Tryd.func23, Tryd.ntmps23
      go_wp2_with (first | (go_at_call 34; ((with_reducible refine (begins_as s ⟨#[46, 46, 46]⟩ q false _ hs (by decide) hq2 G0).mono ?_); rintro e w' ⟨rfl, rfl⟩)) | (go_at_call 34; ((with_reducible refine (begins_as s ⟨#[62, 61]⟩ q true _ hs (by decide) hq2 G1).mono ?_); rintro e w' ⟨rfl, rfl⟩)))
      go_ret
      exact ⟨by rw [HV.out]; exact ret_str HX.out, 0, rfl⟩
  · have G0 := g0 _ h0
    have HV := Lib.hid (sign_at (L := s.toList.drop q) (k := 0) (by decide) (fun j hj => absurd hj (Nat.not_lt_zero _)) h0)
    clear h0 g0 g1 g2
    go_enter Tryd.func23, Tryd.ntmps23
    go_wp2_with (go_at_call 34; ((with_reducible refine (begins_as s ⟨#[46, 46, 46]⟩ q true _ hs (by decide) hq2 G0).mono ?_); rintro e w' ⟨rfl, rfl⟩))
    go_ret
    exact ⟨by rw [HV.out]; rfl, 0, rfl⟩
end Go.Proofs.YtfhknnldkfngdaaDoor
