/- PLAIN MATHEMATICS: a number's text is read as the number, and a text that is read is the number's text. -/
import Derived.Test.YtikhhkhkfaadlaaE
import Derived.Test.YtikhhkhkfaadlaaQ
namespace Go.Proofs.Ytikhhkhkfaadlaa

theorem vr_dz (f n : Nat) (h : n ≤ f) : vr (dz n) = (n : Int) := by
  induction f generalizing n with
  | zero => obtain rfl : n = 0 := by omega
            rfl
  | succ f ih =>
    by_cases h0 : n = 0
    · subst h0; rfl
    · rw [dz_pos n h0, vr_snoc, ih (n / 10) (by omega), digC_nat]; omega
theorem vr_dg (n : Nat) : vr (dg n) = (n : Int) := by
  unfold dg; rw [vr_snoc, vr_dz _ _ (Nat.le_refl _), digC_nat]; omega
theorem dgc_digC (n : Nat) : dgc (digC n) = true := by simp [dgc, digC_nat]; omega
theorem dz_all (f n : Nat) (h : n ≤ f) : (dz n).all dgc = true := by
  induction f generalizing n with
  | zero => obtain rfl : n = 0 := by omega
            rfl
  | succ f ih =>
    by_cases h0 : n = 0
    · subst h0; rfl
    · rw [dz_pos n h0, List.all_append, ih (n / 10) (by omega)]; simp [dgc_digC]
theorem digC_48 (n : Nat) : digC n = 48 ↔ n % 10 = 0 := by
  constructor
  · intro h; have := congrArg UInt8.toNat h; rw [digC_nat] at this; simp at this; omega
  · intro h; apply UInt8.toNat.inj; rw [digC_nat, h]; rfl
theorem dz_head (f n : Nat) (h : n ≤ f) (h0 : n ≠ 0) : ∃ c T, dz n = c :: T ∧ c ≠ 48 := by
  induction f generalizing n with
  | zero => omega
  | succ f ih =>
    rw [dz_pos n h0]
    by_cases h1 : n / 10 = 0
    · rw [h1]
      refine ⟨digC n, [], rfl, fun q => ?_⟩
      have := (digC_48 n).1 q; omega
    · obtain ⟨c, T, e, hc⟩ := ih (n / 10) (by omega) h1
      exact ⟨c, T ++ [digC n], by rw [e]; rfl, hc⟩
theorem natL_dg (n : Nat) : natL (dg n) = true := by
  have a : (dg n).all dgc = true := by unfold dg; rw [List.all_append, dz_all _ _ (Nat.le_refl _)]; simp [dgc_digC]
  unfold natL
  rw [a]
  by_cases h : n / 10 = 0
  · have : dg n = [digC n] := by unfold dg; rw [h]; rfl
    rw [this]; simp
  · obtain ⟨c, T, e, hc⟩ := dz_head _ _ (Nat.le_refl _) h
    have : dg n = c :: (T ++ [digC n]) := by unfold dg; rw [e]; rfl
    rw [this]; simp [hc]
theorem dgc_bounds {c : UInt8} (h : dgc c = true) : 48 ≤ c.toNat ∧ c.toNat ≤ 57 := by simpa [dgc] using h
theorem digC_of {c : UInt8} (h : dgc c = true) (v : Nat) (hv : v % 10 = c.toNat - 48) : digC v = c := by
  have := dgc_bounds h
  apply UInt8.toNat.inj; rw [digC_nat]; omega
theorem vr_pos_head (T : List UInt8) (c : UInt8) (h : (c :: T).all dgc = true) (hc : c ≠ 48) : 0 < vr (c :: T) := by
  simp only [List.all_cons, Bool.and_eq_true] at h
  have hb := dgc_bounds h.1
  have h1 := vr_bound T h.2
  have p : (0 : Int) < 10 ^ T.length := Int.pow_pos (by decide)
  have hn : c.toNat ≠ 48 := fun q => hc (UInt8.toNat.inj (by rw [q]; rfl))
  have : 0 < ((c.toNat : Int) - 48) * 10 ^ T.length := Int.mul_pos (by omega) p
  simp only [vr]; omega
theorem dz_vr (k : Nat) : ∀ D : List UInt8, D.length ≤ k → D.all dgc = true → (D = [] ∨ ∃ c T, D = c :: T ∧ c ≠ 48) → dz (vr D).toNat = D := by
  induction k with
  | zero => intro D hk _ _; rw [List.eq_nil_of_length_eq_zero (by omega : D.length = 0)]; rfl
  | succ k ih =>
    intro D hk ha hh
    rcases List.eq_nil_or_concat D with rfl | ⟨T, c, rfl⟩
    · rfl
    · rw [List.concat_eq_append] at *
      rw [List.all_append, Bool.and_eq_true] at ha
      have hc : dgc c = true := by simpa using ha.2
      have hb := dgc_bounds hc
      have hv := vr_bound T ha.1
      rw [vr_snoc]
      have hT : T = [] ∨ ∃ c T', T = c :: T' ∧ c ≠ 48 := by
        cases T with
        | nil => exact .inl rfl
        | cons d T' =>
          right
          rcases hh with hh | ⟨c', T'', e, hc'⟩
          · simp at hh
          · simp only [List.cons_append, List.cons.injEq] at e
            exact ⟨d, T', rfl, by rw [e.1]; exact hc'⟩
      have h1 := ih T (by simpa using hk) ha.1 hT
      have hnz : (10 * vr T + (c.toNat : Int) - 48).toNat ≠ 0 := by
        rcases hT with rfl | ⟨d, T', rfl, hd⟩
        · rcases hh with hh | ⟨c', T'', e, hc'⟩
          · simp at hh
          · simp only [List.nil_append, List.cons.injEq] at e
            have : c.toNat ≠ 48 := fun q => hc' (by rw [← e.1]; exact UInt8.toNat.inj (by rw [q]; rfl))
            simp only [vr]; omega
        · have := vr_pos_head T' d ha.1 hd
          omega
      rw [dz_pos _ hnz, show (10 * vr T + (c.toNat : Int) - 48).toNat / 10 = (vr T).toNat by omega, h1, digC_of hc _ (by omega)]
theorem natL_parts {D : List UInt8} (h : natL D = true) : D.all dgc = true ∧ ((∃ c, D = [c]) ∨ ∃ c T, D = c :: T ∧ c ≠ 48) := by
  refine ⟨natL_all h, ?_⟩
  unfold natL at h
  cases D with
  | nil => simp at h
  | cons c T =>
    cases T with
    | nil => exact .inl ⟨c, rfl⟩
    | cons d T' =>
      right
      refine ⟨c, d :: T', rfl, fun q => ?_⟩
      subst q
      simp at h
theorem dg_vr {D : List UInt8} (h : natL D = true) : dg (vr D).toNat = D := by
  obtain ⟨ha, ⟨c, rfl⟩ | ⟨c, T, rfl, hc⟩⟩ := natL_parts h
  · have hc : dgc c = true := by simpa using ha
    have hb := dgc_bounds hc
    have e : (vr [c]).toNat = c.toNat - 48 := by simp [vr]; omega
    rw [e, dg_small _ (by omega), digC_of hc _ (by omega)]
  · have hp := vr_pos_head T c ha hc
    rw [dg_dz _ (by omega)]
    exact dz_vr _ _ (Nat.le_refl _) ha (.inr ⟨c, T, rfl, hc⟩)
theorem formOk_pos {D : List UInt8} (h : formOk true D = true) : 0 < vr D := by
  have hn := form_natL h
  obtain ⟨ha, ⟨c, rfl⟩ | ⟨c, T, rfl, hc⟩⟩ := natL_parts hn
  · have hc : dgc c = true := by simpa using ha
    have hb := dgc_bounds hc
    have : c.toNat ≠ 48 := by
      intro q
      have : c = 48 := UInt8.toNat.inj (by rw [q]; rfl)
      subst this
      simp [formOk] at h
    simp [vr]; omega
  · exact vr_pos_head T c ha hc

theorem list_ext {a b : ByteArray} (h : a.data.toList = b.data.toList) : a = b := by
  apply ByteArray.ext; exact Array.toList_inj.1 h
theorem trim_list_neg {s : ByteArray} (h : negS s = true) : s.data.toList = 45 :: (trimS s).data.toList := by
  have h0 := neg_size h
  have hn := neg_get s h0
  rw [h] at hn
  have hn' : (s[0].toNat : Int) = 45 := by simpa using hn
  have h45 : s[0] = 45 := by apply UInt8.toNat.inj; show s[0].toNat = 45; omega
  have e : (trimS s).data.toList = s.data.toList.drop 1 := by
    rw [trim_neg h, ← Lib.toList_data, Lib.extract_toList]
    rw [List.take_of_length_le (by simp)]
  rw [e]
  rw [get_list] at h45
  cases hl : s.data.toList with
  | nil => rw [size_list, hl] at h0; simp at h0
  | cons c T => simp [hl] at h45; simp [h45]
/-- What a text is read as is written as that text. -/
theorem read_back (s : ByteArray) (h : readE (negS s) (trimS s).data.toList = 0) : textS (readV (negS s) (trimS s).data.toList) = s ∧ inB (readV (negS s) (trimS s).data.toList) = true := by
  obtain ⟨neg, hneg⟩ : ∃ neg, negS s = neg := ⟨_, rfl⟩
  rw [hneg] at h ⊢
  unfold readE at h
  cases hf : formOk neg (trimS s).data.toList
  · simp [hf] at h
  · by_cases hl : 16 < (trimS s).data.toList.length
    · simp only [hf, cond_true, if_pos hl] at h; omega
    · have hb : inB (sgnV neg (vr (trimS s).data.toList)) = true := by
        cases e : inB (sgnV neg (vr (trimS s).data.toList))
        · simp only [hf, cond_true, if_neg hl, e, outE, cond_false] at h; omega
        · rfl
      have hv : readV neg (trimS s).data.toList = sgnV neg (vr (trimS s).data.toList) := by
        simp only [readV, hf, cond_true, if_neg hl, hb, outV]
      rw [hv]
      refine ⟨?_, hb⟩
      apply list_ext
      rw [textS_list]
      have hn := form_natL hf
      have hd := dg_vr hn
      have h0 := (vr_bound _ (natL_all hn)).1
      cases neg
      · have e : trimS s = s := trim_pos hneg
        rw [textL_pos (by simp [sgnV]; exact h0)]
        simp only [sgnV, cond_false]
        rw [show (vr (trimS s).data.toList).natAbs = (vr (trimS s).data.toList).toNat by omega, hd, e]
      · have hp := formOk_pos hf
        rw [textL_neg (by simp [sgnV]; exact hp)]
        simp only [sgnV, cond_true]
        rw [show (-vr (trimS s).data.toList).natAbs = (vr (trimS s).data.toList).toNat by omega, hd, trim_list_neg hneg]
theorem dg_head (n : Nat) : (dg n).head? ≠ some 45 := by
  intro h
  have ha := natL_all (natL_dg n)
  cases e : dg n with
  | nil => simp [e] at h
  | cons c T =>
    rw [e] at h ha
    simp at h
    subst h
    simp [dgc] at ha
theorem textS_neg {n : Int} (h : n < 0) : negS (textS n) = true ∧ (trimS (textS n)).data.toList = dg n.natAbs := by
  have h1 : negS (textS n) = true := by unfold negS; rw [textS_list, textL_neg h]; rfl
  refine ⟨h1, ?_⟩
  have := trim_list_neg h1
  rw [textS_list, textL_neg h] at this
  exact (List.cons.inj this).2.symm
theorem textS_pos {n : Int} (h : ¬ n < 0) : negS (textS n) = false ∧ (trimS (textS n)).data.toList = dg n.natAbs := by
  have h1 : negS (textS n) = false := by
    unfold negS; rw [textS_list, textL_pos h]
    simpa using dg_head n.natAbs
  refine ⟨h1, ?_⟩
  rw [trim_pos h1, textS_list, textL_pos h]
theorem dg_long (n : Nat) (h : 16 < (dg n).length) : 9007199254740992 < n := by
  by_cases h0 : n < 10000000000000000
  · have := dz_len 15 (n / 10) (by omega)
    unfold dg at h; simp at h; omega
  · omega
/-- What is written is read again; of an int that the language has not it is told that it is over. -/
theorem text_back (n : Int) : (inB n = true ∧ readV (negS (textS n)) (trimS (textS n)).data.toList = n ∧ readE (negS (textS n)) (trimS (textS n)).data.toList = 0) ∨ (inB n = false ∧ readE (negS (textS n)) (trimS (textS n)).data.toList = 25) := by
  obtain ⟨neg, h1, h2, hs, hf⟩ : ∃ neg, negS (textS n) = neg ∧ (trimS (textS n)).data.toList = dg n.natAbs ∧ sgnV neg (n.natAbs : Int) = n ∧ formOk neg (dg n.natAbs) = true := by
    by_cases h : n < 0
    · refine ⟨true, (textS_neg h).1, (textS_neg h).2, by simp [sgnV]; omega, ?_⟩
      simp only [formOk, natL_dg, Bool.true_and]
      cases e : (dg n.natAbs == [48]) with
      | false => rfl
      | true =>
        exfalso
        have e' : dg n.natAbs = [48] := by simpa using e
        have := vr_dg n.natAbs
        rw [e'] at this
        have h0 : vr [48] = 0 := by decide
        omega
    · exact ⟨false, (textS_pos h).1, (textS_pos h).2, by simp [sgnV]; omega, form_pos (natL_dg _)⟩
  rw [h1, h2]
  by_cases hl : 16 < (dg n.natAbs).length
  · right
    have := dg_long _ hl
    exact ⟨inB_mkno (by omega), by simp only [readE, hf, cond_true, if_pos hl]⟩
  · simp only [readE, readV, hf, cond_true, if_neg hl, vr_dg, hs]
    cases e : inB n
    · right; exact ⟨rfl, rfl⟩
    · left; exact ⟨rfl, rfl, rfl⟩
/-- A sum, less one of its parts, is the other one. -/
theorem sum_less (n m : Int) (h : addE n m = 0) : subE (addV n m) m = 0 ∧ subV (addV n m) m = n := by
  unfold addE outE at h
  cases e1 : (inB n && inB m)
  · rw [e1] at h; simp at h
  · cases e2 : inB (n + m)
    · rw [e1, e2] at h; simp at h
    · simp only [Bool.and_eq_true] at e1
      have e3 : n + m - m = n := by omega
      simp [addV, subE, subV, outV, outE, e1.1, e1.2, e2, e3]
end Go.Proofs.Ytikhhkhkfaadlaa
