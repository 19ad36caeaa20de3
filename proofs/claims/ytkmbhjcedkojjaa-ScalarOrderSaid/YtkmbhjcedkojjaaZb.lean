/- PLAIN MATHEMATICS of scalars: which come first; what is below; atoms. -/
import Derived.Test.YtkmbhjcedkojjaaZa
namespace Go.Proofs.Ytkmbhjcedkojjaa
theorem meet_k {a b x : Sc} (h : a.meet b = some x) : a.k = b.k ∧ x.k = a.k := by
  unfold Sc.meet at h
  split at h
  · rename_i e
    cases hc : commonF a.k a.lo a.hi a.s a.y b.lo b.hi b.s b.y with
    | none => rw [hc] at h; cases h
    | some t => rw [hc] at h; cases h; exact ⟨e, rfl⟩
  · cases h
theorem meet_R {a b x : Sc} (ha : a.R) (hb : b.R) (h : a.meet b = some x) : x.R := by
  have hk := (meet_k h).1
  unfold Sc.meet at h
  rw [if_pos hk] at h
  cases hc : commonF a.k a.lo a.hi a.s a.y b.lo b.hi b.s b.y with
  | none => rw [hc] at h; cases h
  | some t =>
    obtain ⟨lo, hi, s, y⟩ := t
    rw [hc] at h
    cases h
    have hb' : RightP a.k b.lo b.hi b.s b.y b.m false 0 := by rw [hk]; exact hb
    have hr := commonF_right ha hb' hc
    refine ⟨hr.1, hr.2.1, fun e => ?_, hr.2.2.2⟩
    simp only at e ⊢
    cases g : singleB a.k lo hi y
    · rfl
    · rw [g] at e; simp at e
theorem meet_assoc {a b c : Sc} (ha : a.R) (hb : b.R) (hc : c.R) : bd (a.meet b) (·.meet c) = bd (b.meet c) (fun q => a.meet q) := by
  by_cases hk : a.k = b.k ∧ b.k = c.k
  · obtain ⟨k1, k2⟩ := hk
    rcases ha.cases with ⟨s, rfl, _⟩ | ⟨m, rfl⟩ | ⟨k, lo, hi, m, rfl, g1, hl, hm⟩ <;> rcases hb.cases with ⟨t, rfl, _⟩ | ⟨n, rfl⟩ | ⟨k', lo2, hi2, n, rfl, g2, hl2, hn⟩ <;> rcases hc.cases with ⟨u, rfl, _⟩ | ⟨p, rfl⟩ | ⟨k'', lo3, hi3, p, rfl, g3, hl3, hp⟩
    case inr.inr.inr.inr.inr.inr =>
      simp only [num] at k1 k2
      subst k1 k2
      exact meet_num g1 hl hl2 hl3
    all_goals try (exfalso; simp only [txt, anyT, num] at k1 k2; omega)
    all_goals simp only [meet_tt, meet_ta, meet_at, meet_aa, bd]
    · by_cases h1 : s.toList = t.toList
      · have := bytes_ext h1
        subst this
        rw [if_pos rfl]
        by_cases h2 : s.toList = u.toList
        · simp only [if_pos h2, meet_tt, if_true]
        · simp only [if_neg h2, meet_tt]
      · rw [if_neg h1]
        by_cases h2 : t.toList = u.toList
        · simp only [if_pos h2, meet_tt, if_neg h1]
        · simp only [if_neg h2]
    · by_cases h1 : s.toList = t.toList
      · simp only [if_pos h1, meet_ta]
      · simp only [if_neg h1]
    · by_cases h1 : t.toList = u.toList
      · simp only [if_pos h1, meet_at]
      · simp only [if_neg h1]
    · rw [Bool.or_assoc]
  · have l : bd (a.meet b) (·.meet c) = none := by
      cases h : a.meet b with
      | none => rfl
      | some x =>
        obtain ⟨e1, e2⟩ := meet_k h
        exact meet_kk (fun e => hk ⟨e1, by rw [← e1, ← e2, e]⟩)
    have r : bd (b.meet c) (fun q => a.meet q) = none := by
      cases h : b.meet c with
      | none => rfl
      | some x =>
        obtain ⟨e1, e2⟩ := meet_k h
        exact meet_kk (fun e => hk ⟨by rw [e, e2], e1⟩)
    rw [l, r]
theorem meet_left {a b x : Sc} (ha : a.R) (hb : b.R) (h : a.meet b = some x) : x.meet a = some x := by
  have e := meet_assoc hb ha ha
  rw [meet_comm hb ha, h, meet_self ha] at e
  simp only [bd] at e
  rw [e, meet_comm hb ha, h]
theorem meet_right {a b x : Sc} (ha : a.R) (hb : b.R) (h : a.meet b = some x) : x.meet b = some x := by
  have e := meet_assoc ha hb hb
  rw [h, meet_self hb] at e
  simp only [bd] at e
  rw [e, h]
def Sc.has (a c : Sc) : Bool := hasB a.k a.lo a.hi a.s a.y c.k c.lo c.s
def Sc.single (c : Sc) : Bool := singleB c.k c.lo c.hi c.y
theorem has_iff {a c : Sc} (ha : a.R) (hc : c.R) (hs : c.single = true) : a.has c = true ↔ a.meet c = some c := by
  rcases hc.cases with ⟨t, rfl, _⟩ | ⟨n, rfl⟩ | ⟨k2, lo2, hi2, n, rfl, hk2, hl2, hn⟩
  · rcases ha.cases with ⟨s, rfl, _⟩ | ⟨m, rfl⟩ | ⟨k, lo, hi, m, rfl, hk, hl, hm⟩
    · rw [meet_tt]
      by_cases h : s.toList = t.toList
      · rw [if_pos h, bytes_ext h]; simp [Sc.has, hasB, txt]
      · rw [if_neg h]; simp [Sc.has, hasB, txt, h]
    · rw [meet_at]; simp [Sc.has, hasB, txt, anyT]
    · rw [meet_kk (by simp [txt, num]; omega)]; simp [Sc.has, hasB, txt, num]; omega
  · simp [Sc.single, anyT, singleB] at hs
  · have e : lo2 = hi2 := by simpa [Sc.single, num, singleB, hk2] using hs
    subst e
    have hn' : n = false := by
      cases n
      · rfl
      · exact absurd rfl (hn rfl)
    subst hn'
    rcases ha.cases with ⟨s, rfl, _⟩ | ⟨m, rfl⟩ | ⟨k, lo, hi, m, rfl, hk, hl, hm⟩
    · rw [meet_kk (by simp [txt, num]; omega)]; simp [Sc.has, hasB, txt, num]; omega
    · rw [meet_kk (by simp [anyT, num]; omega)]; simp [Sc.has, hasB, anyT, num]; omega
    · by_cases ek : k = k2
      · subst ek
        rw [meet_nn _ _ _ _ _ _ _ hk]
        by_cases g : lo ≤ lo2 ∧ lo2 ≤ hi
        · rw [if_pos (by omega), show max lo lo2 = lo2 by omega, show min hi lo2 = lo2 by omega]
          simp [Sc.has, hasB, num, hk, g]
        · rw [if_neg (by omega)]
          simp [Sc.has, hasB, num, hk]
          omega
      · rw [meet_kk (by simpa [num] using ek)]
        simp [Sc.has, hasB, num, ek]
theorem has_meet {a b c : Sc} (ha : a.R) (hb : b.R) (hc : c.R) (hs : c.single = true) : (∃ x, a.meet b = some x ∧ x.has c = true) ↔ (a.has c = true ∧ b.has c = true) := by
  constructor
  · rintro ⟨x, hx, h⟩
    have hR := meet_R ha hb hx
    have hxc := (has_iff hR hc hs).1 h
    refine ⟨(has_iff ha hc hs).2 ?_, (has_iff hb hc hs).2 ?_⟩
    · have e := meet_assoc ha hR hc
      rw [meet_comm ha hR, meet_left ha hb hx, hxc] at e
      simp only [bd] at e
      rw [← e, hxc]
    · have e := meet_assoc hb hR hc
      rw [meet_comm hb hR, meet_right ha hb hx, hxc] at e
      simp only [bd] at e
      rw [← e, hxc]
  · rintro ⟨h1, h2⟩
    have e := meet_assoc ha hb hc
    rw [(has_iff hb hc hs).1 h2] at e
    simp only [bd] at e
    rw [(has_iff ha hc hs).1 h1] at e
    cases hx : a.meet b with
    | none => rw [hx] at e; cases e
    | some x =>
      rw [hx] at e
      exact ⟨x, rfl, (has_iff (meet_R ha hb hx) hc hs).2 e⟩
end Go.Proofs.Ytkmbhjcedkojjaa
