/- Qa, Ra -/
import Derived.Sort.Walk0
import Derived.Test.YtddleeenlpigfaaGreatDoorY0
/- PLAIN MATHEMATICS: the order of values is total. -/
namespace Go.Proofs.YtddleeenlpigfaaGreatDoor
/-- A comparison: of itself nothing; turned round the other way; it goes on; and how great it is. -/
structure Cmp {α : Type} (f : α → α → Int) : Prop where
  refl : ∀ a, f a a = 0
  anti : ∀ a b, f b a = - f a b
  trans : ∀ a b c, f a b ≤ 0 → f b c ≤ 0 → f a c ≤ 0 ∧ (f a c = 0 → f a b = 0 ∧ f b c = 0)
  small : ∀ a b, -1 ≤ f a b ∧ f a b ≤ 1
theorem Cmp.zero {α : Type} {f : α → α → Int} (h : Cmp f) {a b c : α} (h1 : f a b = 0) (h2 : f b c = 0) : f a c = 0 := by
  have t1 := (h.trans a b c (by omega) (by omega)).1
  have e1 := h.anti a b
  have e2 := h.anti b c
  have t2 := (h.trans c b a (by omega) (by omega)).1
  have e3 := h.anti a c
  omega
theorem cmpI_cmp : Cmp cmpI where
  refl a := by simp [cmpI]
  anti a b := by
    unfold cmpI
    by_cases h1 : a < b
    · rw [if_pos h1, if_neg (by omega), if_pos h1]; rfl
    · by_cases h2 : b < a
      · rw [if_neg h1, if_pos h2, if_pos h2, if_neg h1]
      · rw [if_neg h1, if_neg h2, if_neg h2, if_neg h1]; rfl
  trans a b c := by
    unfold cmpI
    intro h1 h2
    by_cases a1 : a < b <;> by_cases a2 : b < a <;> by_cases b1 : b < c <;> by_cases b2 : c < b <;> by_cases c1 : a < c <;> by_cases c2 : c < a <;> simp_all <;> omega
  small a b := by
    unfold cmpI
    split
    · omega
    · split <;> omega
theorem less_irrefl (u : List UInt8) : Op.bytesLess u u = false := by rw [bytesLess_eq]; simp
theorem cmpS_cmp : Cmp cmpS where
  refl a := by simp [cmpS, less_irrefl]
  anti a b := by
    unfold cmpS
    rw [bytesLess_eq, bytesLess_eq]
    generalize a.toList = u
    generalize b.toList = v
    by_cases h1 : u < v
    · have h2 : ¬ v < u := fun h => List.lt_irrefl u (List.lt_trans h1 h)
      have h3 : ¬ v = u := fun e => by subst e; exact List.lt_irrefl _ h1
      simp [h1, h2, h3]
    · by_cases h2 : v < u
      · have h3 : ¬ u = v := fun e => by subst e; exact List.lt_irrefl _ h2
        simp [h1, h2, h3]
      · have h3 : u = v := List.le_antisymm (List.not_lt.1 h2) (List.not_lt.1 h1)
        simp [h3, List.lt_irrefl]
  trans a b c := by
    unfold cmpS
    rw [bytesLess_eq, bytesLess_eq, bytesLess_eq]
    generalize a.toList = u
    generalize b.toList = v
    generalize c.toList = x
    intro h1 h2
    have k1 : u < v ∨ u = v := by
      by_cases e : u < v
      · exact .inl e
      · by_cases e2 : u = v
        · exact .inr e2
        · simp [e, e2] at h1
    have k2 : v < x ∨ v = x := by
      by_cases e : v < x
      · exact .inl e
      · by_cases e2 : v = x
        · exact .inr e2
        · simp [e, e2] at h2
    rcases k1 with k1 | k1 <;> rcases k2 with k2 | k2
    · have := List.lt_trans k1 k2
      simp [this]
    · subst k2
      simp [k1]
    · subst k1
      simp [k2]
    · subst k1 k2
      simp [List.lt_irrefl]
  small a b := by
    unfold cmpS
    split
    · omega
    · split <;> omega
theorem Cmp.key {α β : Type} {f : β → β → Int} (h : Cmp f) (k : α → β) : Cmp (fun a b => f (k a) (k b)) :=
  ⟨fun _ => h.refl _, fun _ _ => h.anti _ _, fun _ _ _ => h.trans _ _ _, fun _ _ => h.small _ _⟩
theorem Cmp.two {α : Type} {f g : α → α → Int} (hf : Cmp f) (hg : Cmp g) : Cmp (fun a b => two (f a b) (g a b)) where
  refl a := by simp [YtddleeenlpigfaaGreatDoor.two, hf.refl, hg.refl]
  anti a b := by
    unfold YtddleeenlpigfaaGreatDoor.two
    rw [hf.anti a b, hg.anti a b]
    by_cases h : f a b = 0
    · simp [h]
    · rw [if_pos (by omega), if_pos h]
  trans a b c := by
    unfold YtddleeenlpigfaaGreatDoor.two
    intro h1 h2
    have t := hf.trans a b c
    have z := @Cmp.zero _ _ hf a b c
    by_cases e1 : f a b = 0
    · rw [if_neg (by omega)] at h1
      by_cases e2 : f b c = 0
      · rw [if_neg (by omega)] at h2
        have e3 := z e1 e2
        rw [if_neg (by omega), if_neg (by omega), if_neg (by omega)]
        exact hg.trans a b c h1 h2
      · rw [if_pos e2] at h2
        have t1 := t (by omega) h2
        have e3 : f a c ≠ 0 := fun e => e2 (t1.2 e).2
        rw [if_pos e3]
        exact ⟨t1.1, fun e => absurd e e3⟩
    · rw [if_pos e1] at h1
      have hbc : f b c ≤ 0 := by
        by_cases e2 : f b c = 0
        · omega
        · rw [if_pos e2] at h2; exact h2
      have t1 := t h1 hbc
      have e3 : f a c ≠ 0 := fun e => e1 (t1.2 e).1
      rw [if_pos e3]
      exact ⟨t1.1, fun e => absurd e e3⟩
  small a b := by
    unfold YtddleeenlpigfaaGreatDoor.two
    split
    · exact hf.small a b
    · exact hg.small a b
theorem lexL_two {α : Type} (f : α → α → Int) (a : α) (A : List α) (b : α) (B : List α) : lexL f (a :: A) (b :: B) = two (f a b) (lexL f A B) := rfl
theorem Cmp.lex {α : Type} {f : α → α → Int} (hf : Cmp f) : Cmp (lexL f) where
  refl A := by
    induction A with
    | nil => rfl
    | cons a A ih => rw [lexL_two, hf.refl, ih]; rfl
  anti A := by
    induction A with
    | nil => intro B; cases B <;> simp [lexL]
    | cons a A ih =>
      intro B
      cases B with
      | nil => simp [lexL]
      | cons b B =>
        rw [lexL_two, lexL_two, hf.anti a b, ih B]
        unfold YtddleeenlpigfaaGreatDoor.two
        by_cases h : f a b = 0
        · simp [h]
        · rw [if_pos (by omega), if_pos h]
  trans A := by
    induction A with
    | nil =>
      intro B C h1 h2
      cases B <;> cases C <;> simp_all [lexL]
    | cons a A ih =>
      intro B C h1 h2
      cases B with
      | nil => simp [lexL] at h1
      | cons b B =>
        cases C with
        | nil => simp [lexL] at h2
        | cons c C =>
          rw [lexL_two] at h1 h2
          rw [lexL_two, lexL_two, lexL_two]
          have t := hf.trans a b c
          have z := @Cmp.zero _ _ hf a b c
          unfold YtddleeenlpigfaaGreatDoor.two at *
          by_cases e1 : f a b = 0
          · rw [if_neg (by omega)] at h1
            by_cases e2 : f b c = 0
            · rw [if_neg (by omega)] at h2
              have e3 := z e1 e2
              rw [if_neg (by omega), if_neg (by omega), if_neg (by omega)]
              exact ih B C h1 h2
            · rw [if_pos e2] at h2
              have t1 := t (by omega) h2
              have e3 : f a c ≠ 0 := fun e => e2 (t1.2 e).2
              rw [if_pos e3]
              exact ⟨t1.1, fun e => absurd e e3⟩
          · rw [if_pos e1] at h1
            have hbc : f b c ≤ 0 := by
              by_cases e2 : f b c = 0
              · omega
              · rw [if_pos e2] at h2; exact h2
            have t1 := t h1 hbc
            have e3 : f a c ≠ 0 := fun e => e1 (t1.2 e).1
            rw [if_pos e3]
            exact ⟨t1.1, fun e => absurd e e3⟩
  small A := by
    induction A with
    | nil => intro B; cases B <;> simp [lexL]
    | cons a A ih =>
      intro B
      cases B with
      | nil => simp [lexL]
      | cons b B =>
        rw [lexL_two]
        unfold YtddleeenlpigfaaGreatDoor.two
        split
        · exact hf.small a b
        · exact ih B
theorem Cmp.nil {α : Type} : Cmp (fun _ _ : α => (0 : Int)) := ⟨fun _ => rfl, fun _ _ => rfl, fun _ _ _ _ _ => ⟨by omega, fun _ => ⟨rfl, rfl⟩⟩, fun _ _ => by omega⟩
def Tm.k : Tm → Int | .mk k _ _ _ _ _ _ _ => k
def Tm.lo : Tm → Int | .mk _ lo _ _ _ _ _ _ => lo
def Tm.hi : Tm → Int | .mk _ _ hi _ _ _ _ _ => hi
def Tm.s : Tm → ByteArray | .mk _ _ _ s _ _ _ _ => s
def Tm.y : Tm → Bool | .mk _ _ _ _ y _ _ _ => y
def Tm.m : Tm → Bool | .mk _ _ _ _ _ m _ _ => m
def Tm.o : Tm → Bool | .mk _ _ _ _ _ _ o _ => o
theorem plain_two (a b : Tm) : firstL (plainL a b) = two (cmpI a.k b.k) (two (cmpI a.lo b.lo) (two (cmpI a.hi b.hi) (two (cmpS a.s b.s) (two (cmpI (bitI a.y) (bitI b.y)) (two (cmpI (bitI a.m) (bitI b.m)) (two (cmpI (bitI a.o) (bitI b.o)) 0)))))) := by
  obtain ⟨k, lo, hi, s, y, m, o, fs⟩ := a
  obtain ⟨k2, lo2, hi2, s2, y2, m2, o2, fs2⟩ := b
  rfl
theorem plain_cmp : Cmp (fun a b : Tm => firstL (plainL a b)) := by
  have h : (fun a b : Tm => firstL (plainL a b)) = fun a b => two (cmpI a.k b.k) (two (cmpI a.lo b.lo) (two (cmpI a.hi b.hi) (two (cmpS a.s b.s) (two (cmpI (bitI a.y) (bitI b.y)) (two (cmpI (bitI a.m) (bitI b.m)) (two (cmpI (bitI a.o) (bitI b.o)) 0)))))) := by
    funext a b; exact plain_two a b
  rw [h]
  exact (cmpI_cmp.key Tm.k).two ((cmpI_cmp.key Tm.lo).two ((cmpI_cmp.key Tm.hi).two ((cmpS_cmp.key Tm.s).two ((cmpI_cmp.key (fun t : Tm => bitI t.y)).two ((cmpI_cmp.key (fun t : Tm => bitI t.m)).two ((cmpI_cmp.key (fun t : Tm => bitI t.o)).two Cmp.nil))))))
theorem cmpV_cmp : ∀ n, Cmp (cmpV n)
  | 0 => Cmp.nil
  | n + 1 => by
    have hF : Cmp (cmpF (cmpV n)) := (cmpS_cmp.key (fun x : ByteArray × List Tm => x.1)).two ((cmpV_cmp n).key (fun x : ByteArray × List Tm => x.2))
    have hT : Cmp (cmpT (cmpV n)) := plain_cmp.two (hF.lex.key Tm.fs)
    exact hT.lex
end Go.Proofs.YtddleeenlpigfaaGreatDoor
/- WALKS of the reference: numbers, texts, bools, plain. -/
namespace Go.Proofs.YtddleeenlpigfaaGreatDoor
open Go.RowKit
theorem cmpI_self (a : Int) : cmpI a a = 0 := by simp [cmpI]
theorem cmpI_ne {a b : Int} (h : a ≠ b) : cmpI a b ≠ 0 := by unfold cmpI; split <;> (try split) <;> omega
theorem cmpS_eq {a b : ByteArray} (h : a.toList = b.toList) : cmpS a b = 0 := by unfold cmpS; rw [h]; simp [less_irrefl]
theorem cmpS_ne {a b : ByteArray} (h : ¬ a.toList = b.toList) : cmpS a b ≠ 0 := by unfold cmpS; rw [if_neg h]; split <;> decide
theorem bit_ne {a b : Bool} (h : ¬ a = b) : cmpI (bitI a) (bitI b) ≠ 0 := by cases a <;> cases b <;> simp_all [cmpI, bitI]
set_option maxHeartbeats 400000 in
theorem nums_any (a b : Int) (w : World) : Calls Tryz.prog 68 #[.int .i64 a, .int .i64 b] w fun e w' => e = .returned (.int .i64 (cmpI a b)) ∧ w' = w := by
  unfold cmpI
  by_cases h1 : a < b
  · rw [if_pos h1]
    go_enter Tryz.func68, Tryz.ntmps68
    go_wp2_with fail
    go_ret
    exact ⟨rfl, rfl⟩
  · rw [if_neg h1]
    by_cases h2 : b < a
    · rw [if_pos h2]
      go_enter Tryz.func68, Tryz.ntmps68
      go_wp2_with fail
      go_ret
      exact ⟨rfl, rfl⟩
    · rw [if_neg h2]
      go_enter Tryz.func68, Tryz.ntmps68
      go_wp2_with fail
      go_ret
      exact ⟨rfl, rfl⟩
set_option maxHeartbeats 400000 in
theorem texts_any (a b : ByteArray) (w : World) : Calls Tryz.prog 67 #[.string a, .string b] w fun e w' => e = .returned (.int .i64 (cmpS a b)) ∧ w' = w := by
  unfold cmpS
  generalize hu : a.toList = u at *
  generalize hv : b.toList = v at *
  by_cases h1 : Op.bytesLess u v = true
  · rw [if_pos h1]
    go_enter Tryz.func67, Tryz.ntmps67
    go_wp2_with fail
    go_ret
    exact ⟨rfl, rfl⟩
  · rw [if_neg h1]
    have h1' : Op.bytesLess u v = false := by simpa using h1
    by_cases h2 : u = v
    · rw [if_pos h2]
      have h2' : (u == v) = true := by simpa using h2
      clear h2 h1
      go_enter Tryz.func67, Tryz.ntmps67
      go_wp2_with fail
      go_ret
      exact ⟨rfl, rfl⟩
    · rw [if_neg h2]
      have h2' : (u == v) = false := by simpa using h2
      clear h1
      go_enter Tryz.func67, Tryz.ntmps67
      go_wp2_with fail
      go_ret
      exact ⟨rfl, rfl⟩
set_option maxHeartbeats 400000 in
theorem bools_any (a b : Bool) (w : World) : Calls Tryz.prog 109 #[.bool a, .bool b] w fun e w' => e = .returned (.int .i64 (cmpI (bitI a) (bitI b))) ∧ w' = w := by
  cases a <;> cases b
  all_goals
    go_enter Tryz.func109, Tryz.ntmps109
    go_wp2_with fail
    go_ret
    exact ⟨ret_int (by simp [cmpI, bitI]), rfl⟩
set_option maxRecDepth 100000 in
set_option maxHeartbeats 8000000 in
theorem plain_any (k lo hi : Int) (s : ByteArray) (y m o : Bool) (f : Option Addr) (fl fc : Nat) (fs : List (ByteArray × List Tm)) (k2 lo2 hi2 : Int) (s2 : ByteArray) (y2 m2 o2 : Bool) (f2 : Option Addr) (fl2 fc2 : Nat) (fs2 : List (ByteArray × List Tm)) (w : World) :
    Calls Tryz.prog 66 #[tv k lo hi s y m o f fl fc, tv k2 lo2 hi2 s2 y2 m2 o2 f2 fl2 fc2] w (CmpPost (firstL (plainL (.mk k lo hi s y m o fs) (.mk k2 lo2 hi2 s2 y2 m2 o2 fs2))) w) := by
  have HI := fun a b W => Lib.hid (nums_any a b W)
  have HS := fun a b W => Lib.hid (texts_any a b W)
  have HO := fun a b W => Lib.hid (bools_any a b W)
  have HB : Hid (Below w.heap.size w w) := Below.refl _ _
  go_enter Tryz.func66, Tryz.ntmps66
  go_wp2_with (first
    | (go_at_call 68; (with_reducible refine (HI _ _ _).out.mono ?_); rintro e w1 ⟨rfl, h⟩; subst h)
    | (go_at_call 67; (with_reducible refine (HS _ _ _).out.mono ?_); rintro e w1 ⟨rfl, h⟩; subst h)
    | (go_at_call 109; (with_reducible refine (HO _ _ _).out.mono ?_); rintro e w1 ⟨rfl, h⟩; subst h))
  all_goals
    go_ret
    refine ⟨ret_int ?_, bl_alloc (bl_alloc HB.out)⟩
    clear HI HS HO HB
    simp_all [plainL, firstL, cmpI_self, cmpI_ne, cmpS_eq, cmpS_ne, bit_ne]

end Go.Proofs.YtddleeenlpigfaaGreatDoor
