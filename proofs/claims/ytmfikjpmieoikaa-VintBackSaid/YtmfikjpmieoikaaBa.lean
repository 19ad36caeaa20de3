/- The law VintBack at every input. -/
import Derived.Test.YtmfikjpmieoikaaW
import Derived.Test.YtmfikjpmieoikaaZ
namespace Go.Proofs.Ytmfikjpmieoikaa
open Go.RowKit
theorem srow_some {W : World} {a : Option Addr} {c : Nat} {N : List UInt8} (h : SRow W a N) (hne : N ≠ []) : a = none → c = 0 := fun e => by
  subst e; exact absurd (SRow.none_ h) hne
theorem nb_ne (n : Nat) : nb n ≠ [] := by simp [nb]
theorem data_app (A : List UInt8) (h : ByteArray) : ((⟨A.toArray⟩ : ByteArray) ++ h).data.toList = A ++ h.data.toList := by simp
theorem extract_of {S : ByteArray} {A M C : List UInt8} {i j : Nat} (hS : S.data.toList = A ++ (M ++ C)) (hi : i = A.length) (hj : j = i + M.length) : S.extract i j = ⟨M.toArray⟩ := by
  apply ByteArray.ext
  apply Array.toList_inj.1
  rw [Lib.extract_data, hS, hi, hj, hi, List.drop_left, Nat.add_sub_cancel_left, List.take_left]
theorem ba_of (s : ByteArray) : (⟨s.data.toList.toArray⟩ : ByteArray) = s := by simp
theorem text_ok {S s : ByteArray} {A C : List UInt8} {p : Nat} (hS : S.data.toList = A ++ (nb s.size ++ (s.data.toList ++ C))) (hp : p = A.length) (hs : s.size ≤ 400) :
    nxtT p 0 (textR S p (mostR (mostOf (s.size : Int)) (S.data.toList.drop p))) = (s, p + ((nb s.size).length + s.size), 0) := by
  have hd : S.data.toList.drop p = nb s.size ++ (s.data.toList ++ C) := by rw [hS, hp, List.drop_left]
  have hm : mostOf (s.size : Int) = s.size := by unfold mostOf; omega
  have hz : S.size = p + ((nb s.size).length + (s.size + C.length)) := by
    have : S.data.toList.length = S.size := by simp
    rw [← this, hS]
    simp [hp]
  rw [hd, hm, mostR_ok (gets_nb (by omega) _) (Nat.le_refl _)]
  have ht : textR S p (0, s.size, (nb s.size).length) = (0, s, (nb s.size).length + s.size) := by
    unfold textR
    rw [if_neg (by simp), if_neg (by show ¬ S.size - (p + (nb s.size).length) < s.size; omega)]
    have := extract_of (S := S) (A := A ++ nb s.size) (M := s.data.toList) (C := C) (i := p + (nb s.size).length) (j := p + (nb s.size).length + s.size) (by rw [hS]; simp) (by simp [hp]) (by simp)
    show (0, S.extract (p + (nb s.size).length) (p + (nb s.size).length + s.size), (nb s.size).length + s.size) = _
    rw [this, ba_of]
  rw [ht]
  exact nxtT_ok rfl
theorem get_ok {S : ByteArray} {A C : List UInt8} {p n : Nat} (hS : S.data.toList = A ++ (nb n ++ C)) (hp : p = A.length) (hn : n < 18446744073709551616) :
    nxt p 0 (gets (S.data.toList.drop p)) = (n, p + (nb n).length, 0) := by
  have hd : S.data.toList.drop p = nb n ++ C := by rw [hS, hp, List.drop_left]
  rw [hd, gets_nb hn]
  exact nxt_ok rfl
set_option maxHeartbeats 1000000 in
theorem back_long (n : Int) (s h : ByteArray) (w : World) (hs : s.size ≤ maxLen) (hh : h.size ≤ maxLen) (hl : 400 < s.size ∨ 400 < h.size) :
    Calls Try.prog 5 #[.int .u64 n, .string s, .string h] w fun e w' => e = .returned (.bool true) ∧ Below w.heap.size w w' := by
  unfold maxLen at hs hh
  by_cases h1 : 400 < s.size
  all_goals by_cases h2 : 400 < h.size
  all_goals first
    | (exfalso; omega)
    | (go_enter Try.func5, Try.ntmps5
       go_wp2_with (go_at_call 9; refine (vawake_any _).mono ?_; rintro e w' ⟨rfl, hB⟩)
       go_ret
       exact ⟨rfl, hB⟩)
theorem back_short (n : Nat) (s h : ByteArray) (w : World) (hn : n < 18446744073709551616) (hs : s.size ≤ 400) (hh : h.size ≤ 400) :
    Calls Try.prog 5 #[.int .u64 n, .string s, .string h] w fun e w' => e = .returned (.bool true) ∧ Below w.heap.size w w' := by
  have z1 := w64_lo n
  have z2 := w64_hi n
  have hk := sgn_lt z1 z2
  have hu := usg_sgn (wrap64 (n : Int))
  obtain ⟨z, hz⟩ : ∃ z, z = wrap64 (n : Int) := ⟨_, rfl⟩
  rw [← hz] at z1 z2 hk hu
  obtain ⟨k, hk0⟩ : ∃ k, k = sgn z := ⟨_, rfl⟩
  rw [← hk0] at hk hu
  obtain ⟨l1, l1'⟩ := nb_len n hn
  obtain ⟨l2, l2'⟩ := nb_len k hk
  obtain ⟨l3, l3'⟩ := nb_len s.size (by omega)
  have hSd : ((⟨(nb n ++ nb k ++ txt s).toArray⟩ : ByteArray) ++ h).data.toList = nb n ++ (nb k ++ (nb s.size ++ (s.data.toList ++ h.data.toList))) := by
    rw [data_app]; simp [txt]
  obtain ⟨S, hS⟩ : ∃ S : ByteArray, (⟨(nb n ++ nb k ++ txt s).toArray⟩ : ByteArray) ++ h = S := ⟨_, rfl⟩
  rw [hS] at hSd
  have hsz : S.size = (nb n).length + ((nb k).length + ((nb s.size).length + (s.size + h.size))) := by
    have : S.data.toList.length = S.size := by simp
    rw [← this, hSd]; simp
  have e1 := get_ok (A := []) (p := 0) hSd rfl hn
  have e2 := get_ok (A := nb n) (p := (nb n).length) hSd rfl hk
  have e3 := text_ok (A := nb n ++ nb k) (p := (nb n).length + (nb k).length) (s := s) (C := h.data.toList) (by rw [hSd]; simp) (by simp) hs
  have hSb : ((⟨(nb n ++ nb k ++ txt s).toArray⟩ : ByteArray)).size ≤ 500 := by
    show (nb n ++ nb k ++ txt s).toArray.size ≤ 500
    simp [txt]; omega
  have P1 : Hid (∀ W, Calls Try.prog 10 #[.slice none 0 0, .int .u64 n] W (PutsM (nb n) (nb n).length W)) := fun W =>
    (put_any none 0 0 n [] W rfl (.inl ⟨rfl, rfl⟩) (fun _ => rfl) (by decide) hn).mono fun _ _ x => x.m
  have P2 : Hid (∀ W a c, SRow W a (nb n) → Calls Try.prog 11 #[.slice a (nb n).length c, .int .i64 (wrap64 (n : Int))] W (PutsM (nb n ++ nb k) (nb n ++ nb k).length W)) := fun W a c x => by
    rw [← hz, hk0]
    exact (putint_any a c (nb n).length z (nb n) W rfl x (srow_some x (nb_ne n)) (by omega) z1 z2).mono fun _ _ y => y.m
  have P3 : Hid (∀ W a c, SRow W a (nb n ++ nb k) → Calls Try.prog 12 #[.slice a (nb n ++ nb k).length c, .string s] W (PutsM (nb n ++ nb k ++ txt s) (nb n ++ nb k ++ txt s).length W)) := fun W a c x =>
    (puttext_any a c (nb n ++ nb k).length s (nb n ++ nb k) W rfl x (srow_some x (by simp [nb])) (by rw [List.length_append]; omega) (by omega)).mono fun _ _ y => y.m
  have C3 : Hid (ConvM (nb n ++ nb k ++ txt s) (nb n ++ nb k ++ txt s).length ⟨(nb n ++ nb k ++ txt s).toArray⟩) := fun W a c x => conv_row c x
  have G1 : Hid (Does S 18 [] 0 0 (.int .u64 n) (nb n).length 0) := fun W B x => by
    have := get_any B S 0 0 _ W x rfl (by omega) (by omega)
    rw [e1, Nat.zero_add] at this
    exact this
  have G2 : Hid (Does S 22 [] (nb n).length 0 (.int .i64 (wrap64 (n : Int))) ((nb n).length + (nb k).length) 0) := fun W B x => by
    have := getint_any B S _ 0 _ W x rfl (by omega) (by omega)
    rw [e2] at this
    rw [← hz, ← hu]
    exact this
  have G3 : Hid (Does S 24 [.int .i64 s.size] ((nb n).length + (nb k).length) 0 (.string s) ((nb n).length + (nb k).length + ((nb s.size).length + s.size)) 0) := fun W B x => by
    have := gettext_any B S _ 0 (s.size : Int) _ W x rfl (by omega) (by omega) (by omega)
    rw [e3] at this
    exact this
  have G4 : Hid (Does S 25 [] ((nb n).length + (nb k).length + ((nb s.size).length + s.size)) 0 (.int .i64 0) ((nb n).length + (nb k).length + ((nb s.size).length + s.size)) 0) := fun W B x =>
    (err_any B S _ 0 W x).mono fun e w' ⟨he, hw⟩ => by subst hw; exact ⟨he, x, Keep.refl _ _⟩
  have G5 : Hid (Does S 26 [] ((nb n).length + (nb k).length + ((nb s.size).length + s.size)) 0 (.int .i64 h.size) ((nb n).length + (nb k).length + ((nb s.size).length + s.size)) 0) := fun W B x => by
    have := left_any B S _ 0 W x (by omega) (by omega)
    rw [show S.size - ((nb n).length + (nb k).length + ((nb s.size).length + s.size)) = h.size by omega] at this
    exact this
  obtain ⟨⟨m, q, e⟩, hx⟩ : ∃ x, nxt 0 0 (gets h.data.toList) = x := ⟨_, rfl⟩
  have X1 : Hid (Does h 18 [] 0 0 (.int .u64 m) q e) := fun W B x => by
    have := get_any B h 0 0 _ W x rfl (by omega) (by omega)
    rw [List.drop_zero, hx] at this
    exact this
  by_cases he : e = 0
  · obtain ⟨⟨a, b, c⟩, hg⟩ : ∃ g, gets h.data.toList = g := ⟨_, rfl⟩
    have hg2 : gets h.data.toList = (0, m, q) := by
      rw [hg] at hx ⊢
      by_cases ha : a = 0
      · rw [nxt_ok ha, Nat.zero_add] at hx
        cases hx; rw [ha]
      · rw [nxt_no ha] at hx
        cases hx; exact absurd he ha
    obtain ⟨b1, b2, b3⟩ := gets_back hg2
    have hq : q ≤ h.size := by simpa using b3
    refine back_ok n m _ _ _ q e _ _ _ _ (h.size - q) _ _ _ (nb m) s h S _ ⟨(nb m).toArray⟩ w hs hh P1 P2 P3 C3 hSb hS G1 G2 G3 G4 G5 X1
      (fun W => (put_any none 0 0 m [] W rfl (.inl ⟨rfl, rfl⟩) (fun _ => rfl) (by decide) b2).mono fun _ _ x => x.m) (fun W a c x => conv_row c x) hq rfl (fun _ => ?_) he
    rw [b1]
    apply ByteArray.ext
    apply Array.toList_inj.1
    rw [Lib.extract_data]; simp
  · exact back_no n m _ _ _ q e _ _ _ _ _ _ s h S _ w hs hh P1 P2 P3 C3 hSb hS G1 G2 G3 G4 G5 X1 (e : Int) rfl (by simp; exact he)
theorem back_walk (n : Int) (s h : ByteArray) (w : World) (hn : (Lit.int .u64 n).wf = true) (hs : s.size ≤ maxLen) (hh : h.size ≤ maxLen) :
    Calls Try.prog 5 #[.int .u64 n, .string s, .string h] w fun e w' => e = .returned (.bool true) ∧ Below w.heap.size w w' := by
  obtain ⟨b1, b2⟩ := bounds_u64 hn
  obtain ⟨N, rfl⟩ := Int.eq_ofNat_of_zero_le b1
  by_cases hl : 400 < s.size ∨ 400 < h.size
  · exact back_long N s h w hs hh hl
  · exact back_short N s h w (by omega) (by omega) (by omega)
end Go.Proofs.Ytmfikjpmieoikaa
