/- WALK of the law ScalarOrder. -/
import Derived.Test.YtkmbhjcedkojjaaZd
import Derived.Test.YtkmbhjcedkojjaaZb
import Derived.Test.YtkmbhjcedkojjaaYb
namespace Go.Proofs.Ytkmbhjcedkojjaa
open Go.RowKit
abbrev Sc.v (a : Sc) (f : Option Addr) (fc : Nat) : Value := tv a.k a.lo a.hi a.s a.y a.m false f 0 fc
def zS : Sc := ⟨0, 0, 0, ⟨#[]⟩, false, false⟩
def oM (o : Option Sc) : Sc := match o with | none => zS | some x => x
theorem meetO {a b : Sc} (ha : a.R) (hb : b.R) (f : Option Addr) (fc : Nat) (g : Option Addr) (gc : Nat) (W : World) :
    Calls Try.prog 24 #[a.v f fc, b.v g gc] W fun e w' => e = .returned (.tuple #[(oM (a.meet b)).v none 0, .bool (a.meet b).isSome]) ∧ Below W.heap.size W w' := by
  obtain ⟨k1, lo1, hi1, s1, y1, m1⟩ := a
  obtain ⟨k2, lo2, hi2, s2, y2, m2⟩ := b
  by_cases hk : k1 = k2
  · subst hk
    unfold Sc.meet
    rw [if_pos rfl]
    simp only
    cases hc : commonF k1 lo1 hi1 s1 y1 lo2 hi2 s2 y2 with
    | none => exact meet_none _ _ _ _ _ _ _ _ _ _ _ _ _ _ _ W ha hb hc
    | some t =>
      obtain ⟨lo, hi, s, y⟩ := t
      exact meet_some _ _ _ _ _ _ f fc _ _ _ _ _ g gc W ha hb hc
  · rw [meet_kk hk]
    exact meet_unlike _ _ _ _ _ _ _ _ _ _ _ _ _ _ _ _ _ _ _ _ W (fun e => hk e.2.2)
theorem zS_no : rightB zS.k zS.lo zS.hi zS.s zS.y zS.m false 0 = false := by
  rw [rightB_no]
  rintro ⟨_, _, _, c | c | c⟩ <;> exact absurd c.1 (by decide)
theorem meetZ (b : Sc) (g : Option Addr) (gc : Nat) (W : World) : Calls Try.prog 24 #[zS.v none 0, b.v g gc] W fun e w' => e = .returned (.tuple #[zS.v none 0, .bool false]) ∧ Below W.heap.size W w' :=
  meet_unlike _ _ _ _ _ _ _ _ _ _ _ _ _ _ _ _ _ _ _ _ W (fun e => absurd (zS_no.symm.trans e.1) (by decide))
theorem meetZ' (b : Sc) (g : Option Addr) (gc : Nat) (W : World) : Calls Try.prog 24 #[b.v g gc, zS.v none 0] W fun e w' => e = .returned (.tuple #[zS.v none 0, .bool false]) ∧ Below W.heap.size W w' :=
  meet_unlike _ _ _ _ _ _ _ _ _ _ _ _ _ _ _ _ _ _ _ _ W (fun e => absurd (zS_no.symm.trans e.2.1) (by decide))
theorem meetL {o : Option Sc} {c : Sc} (ho : ∀ x, o = some x → x.R) (hc : c.R) (g : Option Addr) (gc : Nat) (W : World) :
    Calls Try.prog 24 #[(oM o).v none 0, c.v g gc] W fun e w' => e = .returned (.tuple #[(oM (bd o (·.meet c))).v none 0, .bool (bd o (·.meet c)).isSome]) ∧ Below W.heap.size W w' := by
  cases o with
  | none => exact meetZ c g gc W
  | some x => exact meetO (ho x rfl) hc none 0 g gc W
theorem meetR {o : Option Sc} {c : Sc} (ho : ∀ x, o = some x → x.R) (hc : c.R) (g : Option Addr) (gc : Nat) (W : World) :
    Calls Try.prog 24 #[c.v g gc, (oM o).v none 0] W fun e w' => e = .returned (.tuple #[(oM (bd o (fun q => c.meet q))).v none 0, .bool (bd o (fun q => c.meet q)).isSome]) ∧ Below W.heap.size W w' := by
  cases o with
  | none => exact meetZ' c g gc W
  | some x => exact meetO hc (ho x rfl) g gc none 0 W
theorem sameS {x : Sc} (h : x.R) : decide (SameP x.k x.lo x.hi x.s x.y x.m false 0 x.k x.lo x.hi x.s x.y x.m false 0) = true := same_of h
theorem likeS {o : Option Sc} (ho : ∀ x, o = some x → x.R) (W : World) :
    Calls Try.prog 21 #[(oM o).v none 0, .bool o.isSome, (oM o).v none 0, .bool o.isSome] W fun e w' => e = .returned (.bool true) ∧ Below W.heap.size W w' := by
  have h := like_any (oM o).k (oM o).lo (oM o).hi (oM o).s (oM o).y (oM o).m false none 0 0 o.isSome (oM o).k (oM o).lo (oM o).hi (oM o).s (oM o).y (oM o).m false none 0 0 o.isSome W
  cases o with
  | none => simpa [likeB, zeroB, oM, zS] using h
  | some x =>
    rw [show oM (some x) = x from rfl, sameS (ho x rfl)] at h
    simpa [likeB, oM] using h
theorem belowS {x a : Sc} (hx : x.R) (ha : a.R) (h : x.meet a = some x) (f : Option Addr) (fc : Nat) (W : World) :
    Calls Try.prog 26 #[x.v none 0, a.v f fc] W fun e w' => e = .returned (.bool true) ∧ Below W.heap.size W w' := by
  have hm : ∀ W, Calls Try.prog 24 #[x.v none 0, a.v f fc] W fun e w' => e = .returned (.tuple #[x.v none 0, .bool true]) ∧ Below W.heap.size W w' := fun W => by
    have := meetO hx ha none 0 f fc W
    rw [h] at this
    exact this
  have hb := below_yes _ _ _ _ _ _ _ _ _ _ _ _ _ _ _ _ _ _ _ _ _ _ _ _ _ _ _ _ _ _ W hm
  rw [sameS hx] at hb
  exact hb
theorem hasS (a c : Sc) (f : Option Addr) (fc : Nat) (g : Option Addr) (gc : Nat) (W : World) :
    Calls Try.prog 28 #[a.v f fc, c.v g gc] W fun e w' => e = .returned (.bool (a.has c)) ∧ Below W.heap.size W w' := has_any _ _ _ _ _ _ _ _ _ _ _ _ _ _ _ _ _ _ _ _ W
theorem singleS (c : Sc) (g : Option Addr) (gc : Nat) (W : World) : Calls Try.prog 15 #[c.v g gc] W fun e w' => e = .returned (.bool c.single) ∧ Below W.heap.size W w' := rsingle_any _ _ _ _ _ _ _ _ _ _ W
theorem some_and {o : Option Sc} {f : Sc → Option Sc} : (o.isSome && (bd o f).isSome) = (bd o f).isSome := by cases o <;> simp [bd]
theorem sorder_right {a b c : Sc} (ha : a.R) (hb : b.R) (hc : c.R) (f1 : Option Addr) (fc1 : Nat) (f2 : Option Addr) (fc2 : Nat) (f3 : Option Addr) (fc3 : Nat) (w : World)
    (hs1 : shortB a.s 0 = true) (hs2 : shortB b.s 0 = true) (hs3 : shortB c.s 0 = true) (HA : ∀ W, Calls Try.prog 11 #[] W fun e w' => e = .returned (.bool true) ∧ Below W.heap.size W w') :
    Calls Try.prog 6 #[a.v f1 fc1, b.v f2 fc2, c.v f3 fc3] w fun e w' => e = .returned (.bool true) ∧ Below w.heap.size w w' := by
  have hab : ∀ x, a.meet b = some x → x.R := fun x h => meet_R ha hb h
  have hbc : ∀ x, b.meet c = some x → x.R := fun x h => meet_R hb hc h
  have has := meet_assoc ha hb hc
  have hp : ∀ x, bd (a.meet b) (·.meet c) = some x → x.R := fun x h => by
    cases hx : a.meet b with
    | none => rw [hx] at h; cases h
    | some z => rw [hx] at h; exact meet_R (hab z hx) hc h
  have Mbc := fun W => Lib.hid (meetO hb hc f2 fc2 f3 fc3 W)
  have Mba := fun W => Lib.hid (meetO hb ha f2 fc2 f1 fc1 W)
  rw [meet_comm hb ha] at Mba
  have Maq := fun W => Lib.hid (meetR hbc ha f1 fc1 W)
  rw [← has] at Maq
  have Maa := fun W => Lib.hid (meetO ha ha f1 fc1 f1 fc1 W)
  rw [meet_self ha] at Maa
  refine sorder_gen a.k a.lo a.hi a.s a.y a.m f1 fc1 b.k b.lo b.hi b.s b.y b.m f2 fc2 c.k c.lo c.hi c.s c.y c.m f3 fc3 _ _ _ _ _ _ _ _ _ _ _ _ _ _ _ _ _ _ _ _ _ _ _ _ _ _ _ _ _ _ a.k a.lo a.hi a.s a.y a.m _ _ _ _ _ c.single ((oM (a.meet b)).has c) (a.has c) (b.has c) w HA
    (fun W => meetO ha hb f1 fc1 f2 fc2 W) Mba (fun W => meetL hab hc f3 fc3 W) Mbc Maq Maa (fun W => likeS hab W) ?_ ?_ ?_ ?_ (fun W => singleS c f3 fc3 W) (fun W => hasS (oM (a.meet b)) c none 0 f3 fc3 W) (fun W => hasS a c f1 fc1 f3 fc3 W) (fun W => hasS b c f2 fc2 f3 fc3 W) ?_ ?_ hs1 hs2 hs3 (rightB_iff.2 ha) (rightB_iff.2 hb) (rightB_iff.2 hc)
  · intro W
    have := rsame_any a.k a.lo a.hi a.s a.y a.m false none 0 0 a.k a.lo a.hi a.s a.y a.m false f1 0 fc1 W
    rw [sameS ha] at this
    exact this
  · intro _ h2 W
    cases hx : bd (a.meet b) (·.meet c) with
    | none => rw [hx] at h2; cases h2
    | some p =>
      have := rsame_any p.k p.lo p.hi p.s p.y p.m false none 0 0 p.k p.lo p.hi p.s p.y p.m false none 0 0 W
      rw [sameS (hp p hx)] at this
      exact this
  · intro h W
    cases hx : a.meet b with
    | none => rw [hx] at h; cases h
    | some x => exact belowS (hab x hx) ha (meet_left ha hb hx) f1 fc1 W
  · intro h W
    cases hx : a.meet b with
    | none => rw [hx] at h; cases h
    | some x => exact belowS (hab x hx) hb (meet_right ha hb hx) f2 fc2 W
  · rw [some_and]
    cases hx : bd (a.meet b) (·.meet c) with
    | none => simp
    | some p =>
      have e : (b.meet c).isSome = true := by
        cases hq : b.meet c with
        | none => rw [hq] at has; rw [hx] at has; cases has
        | some q => rfl
      rw [e]; rfl
  · intro hg
    have h := has_meet ha hb hc hg
    rw [Bool.eq_iff_iff, Bool.and_eq_true, Bool.and_eq_true]
    refine Iff.trans ?_ h
    constructor
    · rintro ⟨h1, h2⟩
      cases hx : a.meet b with
      | none => rw [hx] at h1; cases h1
      | some x => rw [hx] at h2; exact ⟨x, rfl, h2⟩
    · rintro ⟨x, hx, h2⟩
      rw [hx]
      exact ⟨rfl, h2⟩
set_option maxRecDepth 100000 in
set_option maxHeartbeats 8000000 in
theorem sorder_walk (k1 lo1 hi1 : Int) (s1 : ByteArray) (y1 m1 o1 : Bool) (f1 : Option Addr) (fl1 fc1 : Nat) (k2 lo2 hi2 : Int) (s2 : ByteArray) (y2 m2 o2 : Bool) (f2 : Option Addr) (fl2 fc2 : Nat) (k3 lo3 hi3 : Int) (s3 : ByteArray) (y3 m3 o3 : Bool) (f3 : Option Addr) (fl3 fc3 : Nat) (w : World) (HA : ∀ W, Calls Try.prog 11 #[] W fun e w' => e = .returned (.bool true) ∧ Below W.heap.size W w') :
    Calls Try.prog 6 #[tv k1 lo1 hi1 s1 y1 m1 o1 f1 fl1 fc1, tv k2 lo2 hi2 s2 y2 m2 o2 f2 fl2 fc2, tv k3 lo3 hi3 s3 y3 m3 o3 f3 fl3 fc3] w fun e w' => e = .returned (.bool true) ∧ Below w.heap.size w w' := by
  by_cases hg : shortB s1 fl1 = true ∧ shortB s2 fl2 = true ∧ shortB s3 fl3 = true ∧ rightB k1 lo1 hi1 s1 y1 m1 o1 fl1 = true ∧ rightB k2 lo2 hi2 s2 y2 m2 o2 fl2 = true ∧ rightB k3 lo3 hi3 s3 y3 m3 o3 fl3 = true
  · obtain ⟨g1, g2, g3, r1, r2, r3⟩ := hg
    have h1 := rightB_iff.1 r1
    have h2 := rightB_iff.1 r2
    have h3 := rightB_iff.1 r3
    obtain ⟨rfl, rfl⟩ := right_shape h1
    obtain ⟨rfl, rfl⟩ := right_shape h2
    obtain ⟨rfl, rfl⟩ := right_shape h3
    exact sorder_right (a := ⟨k1, lo1, hi1, s1, y1, m1⟩) (b := ⟨k2, lo2, hi2, s2, y2, m2⟩) (c := ⟨k3, lo3, hi3, s3, y3, m3⟩) h1 h2 h3 f1 fc1 f2 fc2 f3 fc3 w g1 g2 g3 HA
  · have S1 := fun W => Lib.hid (short_any k1 lo1 hi1 s1 y1 m1 o1 f1 fl1 fc1 W)
    have S2 := fun W => Lib.hid (short_any k2 lo2 hi2 s2 y2 m2 o2 f2 fl2 fc2 W)
    have S3 := fun W => Lib.hid (short_any k3 lo3 hi3 s3 y3 m3 o3 f3 fl3 fc3 W)
    have R1 := fun W => Lib.hid (rright_any k1 lo1 hi1 s1 y1 m1 o1 f1 fl1 fc1 W)
    have R2 := fun W => Lib.hid (rright_any k2 lo2 hi2 s2 y2 m2 o2 f2 fl2 fc2 W)
    have R3 := fun W => Lib.hid (rright_any k3 lo3 hi3 s3 y3 m3 o3 f3 fl3 fc3 W)
    have H11 := fun W => Lib.hid (HA W)
    clear HA
    generalize shortB s1 fl1 = b1 at *
    generalize shortB s2 fl2 = b2 at *
    generalize shortB s3 fl3 = b3 at *
    generalize rightB k1 lo1 hi1 s1 y1 m1 o1 fl1 = b4 at *
    generalize rightB k2 lo2 hi2 s2 y2 m2 o2 fl2 = b5 at *
    generalize rightB k3 lo3 hi3 s3 y3 m3 o3 fl3 = b6 at *
    cases b1
    · clear hg
      go_enter Try.func6, Try.ntmps6
      go_wp2_with (first
        | (go_at_call 10; (with_reducible refine ((S1 _).out).mono ?_); rintro e w1 ⟨rfl, hB⟩; (try clear hc hf); (first | (replace HB := Lib.hid (bl_step HB.out hB)) | (replace HB := Lib.hid (bl_step (bl_alloc HB.out) hB)) | (replace HB := Lib.hid (bl_step (bl_alloc (bl_alloc HB.out)) hB)) | (replace HB := Lib.hid (bl_step (by repeat (first | with_reducible exact HB.out | with_reducible refine bl_alloc ?_ | (with_reducible refine bl_set ?_ ?hset; case hset => (first | with_reducible exact Nat.le_refl _ | (simp; done) | (simp; omega) | omega)))) hB)) | (have HB := Lib.hid hB)); obtain ⟨hc, hf⟩ := bcell HB.out; clear hB; have hz := HB.out.size; simp at hz; have hz2 : w.heap.size + 1 + 1 < w1.heap.size := (by omega); have hz1 : w.heap.size + 1 < w1.heap.size := (by omega); have hz0 : w.heap.size < w1.heap.size := (by omega); clear hz)
        | (go_at_call 11; (with_reducible refine ((H11 _).out).mono ?_); rintro e w1 ⟨rfl, hB⟩; (try clear hc hf); (first | (replace HB := Lib.hid (bl_step HB.out hB)) | (replace HB := Lib.hid (bl_step (bl_alloc HB.out) hB)) | (replace HB := Lib.hid (bl_step (bl_alloc (bl_alloc HB.out)) hB)) | (replace HB := Lib.hid (bl_step (by repeat (first | with_reducible exact HB.out | with_reducible refine bl_alloc ?_ | (with_reducible refine bl_set ?_ ?hset; case hset => (first | with_reducible exact Nat.le_refl _ | (simp; done) | (simp; omega) | omega)))) hB)) | (have HB := Lib.hid hB)); obtain ⟨hc, hf⟩ := bcell HB.out; clear hB))
      go_ret
      exact ⟨rfl, (by (repeat (first | with_reducible exact Below.refl _ _ | with_reducible refine bl_alloc ?_ | (with_reducible refine bl_set ?_ ?hset; case hset => (first | with_reducible exact Nat.le_refl _ | (simp; done) | (simp; omega) | omega)) | with_reducible refine bl_step ?_ HB.out)))⟩
    · skip
      cases b2
      · clear hg
        go_enter Try.func6, Try.ntmps6
        go_wp2_with (first
          | (go_at_call 10; (with_reducible refine ((S1 _).out).mono ?_); rintro e w1 ⟨rfl, hB⟩; (try clear hc hf); (first | (replace HB := Lib.hid (bl_step HB.out hB)) | (replace HB := Lib.hid (bl_step (bl_alloc HB.out) hB)) | (replace HB := Lib.hid (bl_step (bl_alloc (bl_alloc HB.out)) hB)) | (replace HB := Lib.hid (bl_step (by repeat (first | with_reducible exact HB.out | with_reducible refine bl_alloc ?_ | (with_reducible refine bl_set ?_ ?hset; case hset => (first | with_reducible exact Nat.le_refl _ | (simp; done) | (simp; omega) | omega)))) hB)) | (have HB := Lib.hid hB)); obtain ⟨hc, hf⟩ := bcell HB.out; clear hB; have hz := HB.out.size; simp at hz; have hz2 : w.heap.size + 1 + 1 < w1.heap.size := (by omega); have hz1 : w.heap.size + 1 < w1.heap.size := (by omega); have hz0 : w.heap.size < w1.heap.size := (by omega); clear hz)
          | (go_at_call 10; (with_reducible refine ((S2 _).out).mono ?_); rintro e w1 ⟨rfl, hB⟩; (try clear hc hf); (first | (replace HB := Lib.hid (bl_step HB.out hB)) | (replace HB := Lib.hid (bl_step (bl_alloc HB.out) hB)) | (replace HB := Lib.hid (bl_step (bl_alloc (bl_alloc HB.out)) hB)) | (replace HB := Lib.hid (bl_step (by repeat (first | with_reducible exact HB.out | with_reducible refine bl_alloc ?_ | (with_reducible refine bl_set ?_ ?hset; case hset => (first | with_reducible exact Nat.le_refl _ | (simp; done) | (simp; omega) | omega)))) hB)) | (have HB := Lib.hid hB)); obtain ⟨hc, hf⟩ := bcell HB.out; clear hB; have hz := HB.out.size; simp at hz; have hz2 : w.heap.size + 1 + 1 < w1.heap.size := (by omega); have hz1 : w.heap.size + 1 < w1.heap.size := (by omega); have hz0 : w.heap.size < w1.heap.size := (by omega); clear hz)
          | (go_at_call 11; (with_reducible refine ((H11 _).out).mono ?_); rintro e w1 ⟨rfl, hB⟩; (try clear hc hf); (first | (replace HB := Lib.hid (bl_step HB.out hB)) | (replace HB := Lib.hid (bl_step (bl_alloc HB.out) hB)) | (replace HB := Lib.hid (bl_step (bl_alloc (bl_alloc HB.out)) hB)) | (replace HB := Lib.hid (bl_step (by repeat (first | with_reducible exact HB.out | with_reducible refine bl_alloc ?_ | (with_reducible refine bl_set ?_ ?hset; case hset => (first | with_reducible exact Nat.le_refl _ | (simp; done) | (simp; omega) | omega)))) hB)) | (have HB := Lib.hid hB)); obtain ⟨hc, hf⟩ := bcell HB.out; clear hB))
        go_ret
        exact ⟨rfl, (by (repeat (first | with_reducible exact Below.refl _ _ | with_reducible refine bl_alloc ?_ | (with_reducible refine bl_set ?_ ?hset; case hset => (first | with_reducible exact Nat.le_refl _ | (simp; done) | (simp; omega) | omega)) | with_reducible refine bl_step ?_ HB.out)))⟩
      · skip
        cases b3
        · clear hg
          go_enter Try.func6, Try.ntmps6
          go_wp2_with (first
            | (go_at_call 10; (with_reducible refine ((S1 _).out).mono ?_); rintro e w1 ⟨rfl, hB⟩; (try clear hc hf); (first | (replace HB := Lib.hid (bl_step HB.out hB)) | (replace HB := Lib.hid (bl_step (bl_alloc HB.out) hB)) | (replace HB := Lib.hid (bl_step (bl_alloc (bl_alloc HB.out)) hB)) | (replace HB := Lib.hid (bl_step (by repeat (first | with_reducible exact HB.out | with_reducible refine bl_alloc ?_ | (with_reducible refine bl_set ?_ ?hset; case hset => (first | with_reducible exact Nat.le_refl _ | (simp; done) | (simp; omega) | omega)))) hB)) | (have HB := Lib.hid hB)); obtain ⟨hc, hf⟩ := bcell HB.out; clear hB; have hz := HB.out.size; simp at hz; have hz2 : w.heap.size + 1 + 1 < w1.heap.size := (by omega); have hz1 : w.heap.size + 1 < w1.heap.size := (by omega); have hz0 : w.heap.size < w1.heap.size := (by omega); clear hz)
            | (go_at_call 10; (with_reducible refine ((S2 _).out).mono ?_); rintro e w1 ⟨rfl, hB⟩; (try clear hc hf); (first | (replace HB := Lib.hid (bl_step HB.out hB)) | (replace HB := Lib.hid (bl_step (bl_alloc HB.out) hB)) | (replace HB := Lib.hid (bl_step (bl_alloc (bl_alloc HB.out)) hB)) | (replace HB := Lib.hid (bl_step (by repeat (first | with_reducible exact HB.out | with_reducible refine bl_alloc ?_ | (with_reducible refine bl_set ?_ ?hset; case hset => (first | with_reducible exact Nat.le_refl _ | (simp; done) | (simp; omega) | omega)))) hB)) | (have HB := Lib.hid hB)); obtain ⟨hc, hf⟩ := bcell HB.out; clear hB; have hz := HB.out.size; simp at hz; have hz2 : w.heap.size + 1 + 1 < w1.heap.size := (by omega); have hz1 : w.heap.size + 1 < w1.heap.size := (by omega); have hz0 : w.heap.size < w1.heap.size := (by omega); clear hz)
            | (go_at_call 10; (with_reducible refine ((S3 _).out).mono ?_); rintro e w1 ⟨rfl, hB⟩; (try clear hc hf); (first | (replace HB := Lib.hid (bl_step HB.out hB)) | (replace HB := Lib.hid (bl_step (bl_alloc HB.out) hB)) | (replace HB := Lib.hid (bl_step (bl_alloc (bl_alloc HB.out)) hB)) | (replace HB := Lib.hid (bl_step (by repeat (first | with_reducible exact HB.out | with_reducible refine bl_alloc ?_ | (with_reducible refine bl_set ?_ ?hset; case hset => (first | with_reducible exact Nat.le_refl _ | (simp; done) | (simp; omega) | omega)))) hB)) | (have HB := Lib.hid hB)); obtain ⟨hc, hf⟩ := bcell HB.out; clear hB; have hz := HB.out.size; simp at hz; have hz2 : w.heap.size + 1 + 1 < w1.heap.size := (by omega); have hz1 : w.heap.size + 1 < w1.heap.size := (by omega); have hz0 : w.heap.size < w1.heap.size := (by omega); clear hz)
            | (go_at_call 11; (with_reducible refine ((H11 _).out).mono ?_); rintro e w1 ⟨rfl, hB⟩; (try clear hc hf); (first | (replace HB := Lib.hid (bl_step HB.out hB)) | (replace HB := Lib.hid (bl_step (bl_alloc HB.out) hB)) | (replace HB := Lib.hid (bl_step (bl_alloc (bl_alloc HB.out)) hB)) | (replace HB := Lib.hid (bl_step (by repeat (first | with_reducible exact HB.out | with_reducible refine bl_alloc ?_ | (with_reducible refine bl_set ?_ ?hset; case hset => (first | with_reducible exact Nat.le_refl _ | (simp; done) | (simp; omega) | omega)))) hB)) | (have HB := Lib.hid hB)); obtain ⟨hc, hf⟩ := bcell HB.out; clear hB))
          go_ret
          exact ⟨rfl, (by (repeat (first | with_reducible exact Below.refl _ _ | with_reducible refine bl_alloc ?_ | (with_reducible refine bl_set ?_ ?hset; case hset => (first | with_reducible exact Nat.le_refl _ | (simp; done) | (simp; omega) | omega)) | with_reducible refine bl_step ?_ HB.out)))⟩
        · skip
          cases b4
          · clear hg
            go_enter Try.func6, Try.ntmps6
            go_wp2_with (first
              | (go_at_call 10; (with_reducible refine ((S1 _).out).mono ?_); rintro e w1 ⟨rfl, hB⟩; (try clear hc hf); (first | (replace HB := Lib.hid (bl_step HB.out hB)) | (replace HB := Lib.hid (bl_step (bl_alloc HB.out) hB)) | (replace HB := Lib.hid (bl_step (bl_alloc (bl_alloc HB.out)) hB)) | (replace HB := Lib.hid (bl_step (by repeat (first | with_reducible exact HB.out | with_reducible refine bl_alloc ?_ | (with_reducible refine bl_set ?_ ?hset; case hset => (first | with_reducible exact Nat.le_refl _ | (simp; done) | (simp; omega) | omega)))) hB)) | (have HB := Lib.hid hB)); obtain ⟨hc, hf⟩ := bcell HB.out; clear hB; have hz := HB.out.size; simp at hz; have hz2 : w.heap.size + 1 + 1 < w1.heap.size := (by omega); have hz1 : w.heap.size + 1 < w1.heap.size := (by omega); have hz0 : w.heap.size < w1.heap.size := (by omega); clear hz)
              | (go_at_call 10; (with_reducible refine ((S2 _).out).mono ?_); rintro e w1 ⟨rfl, hB⟩; (try clear hc hf); (first | (replace HB := Lib.hid (bl_step HB.out hB)) | (replace HB := Lib.hid (bl_step (bl_alloc HB.out) hB)) | (replace HB := Lib.hid (bl_step (bl_alloc (bl_alloc HB.out)) hB)) | (replace HB := Lib.hid (bl_step (by repeat (first | with_reducible exact HB.out | with_reducible refine bl_alloc ?_ | (with_reducible refine bl_set ?_ ?hset; case hset => (first | with_reducible exact Nat.le_refl _ | (simp; done) | (simp; omega) | omega)))) hB)) | (have HB := Lib.hid hB)); obtain ⟨hc, hf⟩ := bcell HB.out; clear hB; have hz := HB.out.size; simp at hz; have hz2 : w.heap.size + 1 + 1 < w1.heap.size := (by omega); have hz1 : w.heap.size + 1 < w1.heap.size := (by omega); have hz0 : w.heap.size < w1.heap.size := (by omega); clear hz)
              | (go_at_call 10; (with_reducible refine ((S3 _).out).mono ?_); rintro e w1 ⟨rfl, hB⟩; (try clear hc hf); (first | (replace HB := Lib.hid (bl_step HB.out hB)) | (replace HB := Lib.hid (bl_step (bl_alloc HB.out) hB)) | (replace HB := Lib.hid (bl_step (bl_alloc (bl_alloc HB.out)) hB)) | (replace HB := Lib.hid (bl_step (by repeat (first | with_reducible exact HB.out | with_reducible refine bl_alloc ?_ | (with_reducible refine bl_set ?_ ?hset; case hset => (first | with_reducible exact Nat.le_refl _ | (simp; done) | (simp; omega) | omega)))) hB)) | (have HB := Lib.hid hB)); obtain ⟨hc, hf⟩ := bcell HB.out; clear hB; have hz := HB.out.size; simp at hz; have hz2 : w.heap.size + 1 + 1 < w1.heap.size := (by omega); have hz1 : w.heap.size + 1 < w1.heap.size := (by omega); have hz0 : w.heap.size < w1.heap.size := (by omega); clear hz)
              | (go_at_call 12; (with_reducible refine ((R1 _).out).mono ?_); rintro e w1 ⟨rfl, hB⟩; (try clear hc hf); (first | (replace HB := Lib.hid (bl_step HB.out hB)) | (replace HB := Lib.hid (bl_step (bl_alloc HB.out) hB)) | (replace HB := Lib.hid (bl_step (bl_alloc (bl_alloc HB.out)) hB)) | (replace HB := Lib.hid (bl_step (by repeat (first | with_reducible exact HB.out | with_reducible refine bl_alloc ?_ | (with_reducible refine bl_set ?_ ?hset; case hset => (first | with_reducible exact Nat.le_refl _ | (simp; done) | (simp; omega) | omega)))) hB)) | (have HB := Lib.hid hB)); obtain ⟨hc, hf⟩ := bcell HB.out; clear hB; have hz := HB.out.size; simp at hz; have hz2 : w.heap.size + 1 + 1 < w1.heap.size := (by omega); have hz1 : w.heap.size + 1 < w1.heap.size := (by omega); have hz0 : w.heap.size < w1.heap.size := (by omega); clear hz)
              | (go_at_call 11; (with_reducible refine ((H11 _).out).mono ?_); rintro e w1 ⟨rfl, hB⟩; (try clear hc hf); (first | (replace HB := Lib.hid (bl_step HB.out hB)) | (replace HB := Lib.hid (bl_step (bl_alloc HB.out) hB)) | (replace HB := Lib.hid (bl_step (bl_alloc (bl_alloc HB.out)) hB)) | (replace HB := Lib.hid (bl_step (by repeat (first | with_reducible exact HB.out | with_reducible refine bl_alloc ?_ | (with_reducible refine bl_set ?_ ?hset; case hset => (first | with_reducible exact Nat.le_refl _ | (simp; done) | (simp; omega) | omega)))) hB)) | (have HB := Lib.hid hB)); obtain ⟨hc, hf⟩ := bcell HB.out; clear hB))
            go_ret
            exact ⟨rfl, (by (repeat (first | with_reducible exact Below.refl _ _ | with_reducible refine bl_alloc ?_ | (with_reducible refine bl_set ?_ ?hset; case hset => (first | with_reducible exact Nat.le_refl _ | (simp; done) | (simp; omega) | omega)) | with_reducible refine bl_step ?_ HB.out)))⟩
          · skip
            cases b5
            · clear hg
              go_enter Try.func6, Try.ntmps6
              go_wp2_with (first
                | (go_at_call 10; (with_reducible refine ((S1 _).out).mono ?_); rintro e w1 ⟨rfl, hB⟩; (try clear hc hf); (first | (replace HB := Lib.hid (bl_step HB.out hB)) | (replace HB := Lib.hid (bl_step (bl_alloc HB.out) hB)) | (replace HB := Lib.hid (bl_step (bl_alloc (bl_alloc HB.out)) hB)) | (replace HB := Lib.hid (bl_step (by repeat (first | with_reducible exact HB.out | with_reducible refine bl_alloc ?_ | (with_reducible refine bl_set ?_ ?hset; case hset => (first | with_reducible exact Nat.le_refl _ | (simp; done) | (simp; omega) | omega)))) hB)) | (have HB := Lib.hid hB)); obtain ⟨hc, hf⟩ := bcell HB.out; clear hB; have hz := HB.out.size; simp at hz; have hz2 : w.heap.size + 1 + 1 < w1.heap.size := (by omega); have hz1 : w.heap.size + 1 < w1.heap.size := (by omega); have hz0 : w.heap.size < w1.heap.size := (by omega); clear hz)
                | (go_at_call 10; (with_reducible refine ((S2 _).out).mono ?_); rintro e w1 ⟨rfl, hB⟩; (try clear hc hf); (first | (replace HB := Lib.hid (bl_step HB.out hB)) | (replace HB := Lib.hid (bl_step (bl_alloc HB.out) hB)) | (replace HB := Lib.hid (bl_step (bl_alloc (bl_alloc HB.out)) hB)) | (replace HB := Lib.hid (bl_step (by repeat (first | with_reducible exact HB.out | with_reducible refine bl_alloc ?_ | (with_reducible refine bl_set ?_ ?hset; case hset => (first | with_reducible exact Nat.le_refl _ | (simp; done) | (simp; omega) | omega)))) hB)) | (have HB := Lib.hid hB)); obtain ⟨hc, hf⟩ := bcell HB.out; clear hB; have hz := HB.out.size; simp at hz; have hz2 : w.heap.size + 1 + 1 < w1.heap.size := (by omega); have hz1 : w.heap.size + 1 < w1.heap.size := (by omega); have hz0 : w.heap.size < w1.heap.size := (by omega); clear hz)
                | (go_at_call 10; (with_reducible refine ((S3 _).out).mono ?_); rintro e w1 ⟨rfl, hB⟩; (try clear hc hf); (first | (replace HB := Lib.hid (bl_step HB.out hB)) | (replace HB := Lib.hid (bl_step (bl_alloc HB.out) hB)) | (replace HB := Lib.hid (bl_step (bl_alloc (bl_alloc HB.out)) hB)) | (replace HB := Lib.hid (bl_step (by repeat (first | with_reducible exact HB.out | with_reducible refine bl_alloc ?_ | (with_reducible refine bl_set ?_ ?hset; case hset => (first | with_reducible exact Nat.le_refl _ | (simp; done) | (simp; omega) | omega)))) hB)) | (have HB := Lib.hid hB)); obtain ⟨hc, hf⟩ := bcell HB.out; clear hB; have hz := HB.out.size; simp at hz; have hz2 : w.heap.size + 1 + 1 < w1.heap.size := (by omega); have hz1 : w.heap.size + 1 < w1.heap.size := (by omega); have hz0 : w.heap.size < w1.heap.size := (by omega); clear hz)
                | (go_at_call 12; (with_reducible refine ((R1 _).out).mono ?_); rintro e w1 ⟨rfl, hB⟩; (try clear hc hf); (first | (replace HB := Lib.hid (bl_step HB.out hB)) | (replace HB := Lib.hid (bl_step (bl_alloc HB.out) hB)) | (replace HB := Lib.hid (bl_step (bl_alloc (bl_alloc HB.out)) hB)) | (replace HB := Lib.hid (bl_step (by repeat (first | with_reducible exact HB.out | with_reducible refine bl_alloc ?_ | (with_reducible refine bl_set ?_ ?hset; case hset => (first | with_reducible exact Nat.le_refl _ | (simp; done) | (simp; omega) | omega)))) hB)) | (have HB := Lib.hid hB)); obtain ⟨hc, hf⟩ := bcell HB.out; clear hB; have hz := HB.out.size; simp at hz; have hz2 : w.heap.size + 1 + 1 < w1.heap.size := (by omega); have hz1 : w.heap.size + 1 < w1.heap.size := (by omega); have hz0 : w.heap.size < w1.heap.size := (by omega); clear hz)
                | (go_at_call 12; (with_reducible refine ((R2 _).out).mono ?_); rintro e w1 ⟨rfl, hB⟩; (try clear hc hf); (first | (replace HB := Lib.hid (bl_step HB.out hB)) | (replace HB := Lib.hid (bl_step (bl_alloc HB.out) hB)) | (replace HB := Lib.hid (bl_step (bl_alloc (bl_alloc HB.out)) hB)) | (replace HB := Lib.hid (bl_step (by repeat (first | with_reducible exact HB.out | with_reducible refine bl_alloc ?_ | (with_reducible refine bl_set ?_ ?hset; case hset => (first | with_reducible exact Nat.le_refl _ | (simp; done) | (simp; omega) | omega)))) hB)) | (have HB := Lib.hid hB)); obtain ⟨hc, hf⟩ := bcell HB.out; clear hB; have hz := HB.out.size; simp at hz; have hz2 : w.heap.size + 1 + 1 < w1.heap.size := (by omega); have hz1 : w.heap.size + 1 < w1.heap.size := (by omega); have hz0 : w.heap.size < w1.heap.size := (by omega); clear hz)
                | (go_at_call 11; (with_reducible refine ((H11 _).out).mono ?_); rintro e w1 ⟨rfl, hB⟩; (try clear hc hf); (first | (replace HB := Lib.hid (bl_step HB.out hB)) | (replace HB := Lib.hid (bl_step (bl_alloc HB.out) hB)) | (replace HB := Lib.hid (bl_step (bl_alloc (bl_alloc HB.out)) hB)) | (replace HB := Lib.hid (bl_step (by repeat (first | with_reducible exact HB.out | with_reducible refine bl_alloc ?_ | (with_reducible refine bl_set ?_ ?hset; case hset => (first | with_reducible exact Nat.le_refl _ | (simp; done) | (simp; omega) | omega)))) hB)) | (have HB := Lib.hid hB)); obtain ⟨hc, hf⟩ := bcell HB.out; clear hB))
              go_ret
              exact ⟨rfl, (by (repeat (first | with_reducible exact Below.refl _ _ | with_reducible refine bl_alloc ?_ | (with_reducible refine bl_set ?_ ?hset; case hset => (first | with_reducible exact Nat.le_refl _ | (simp; done) | (simp; omega) | omega)) | with_reducible refine bl_step ?_ HB.out)))⟩
            · skip
              cases b6
              · clear hg
                go_enter Try.func6, Try.ntmps6
                go_wp2_with (first
                  | (go_at_call 10; (with_reducible refine ((S1 _).out).mono ?_); rintro e w1 ⟨rfl, hB⟩; (try clear hc hf); (first | (replace HB := Lib.hid (bl_step HB.out hB)) | (replace HB := Lib.hid (bl_step (bl_alloc HB.out) hB)) | (replace HB := Lib.hid (bl_step (bl_alloc (bl_alloc HB.out)) hB)) | (replace HB := Lib.hid (bl_step (by repeat (first | with_reducible exact HB.out | with_reducible refine bl_alloc ?_ | (with_reducible refine bl_set ?_ ?hset; case hset => (first | with_reducible exact Nat.le_refl _ | (simp; done) | (simp; omega) | omega)))) hB)) | (have HB := Lib.hid hB)); obtain ⟨hc, hf⟩ := bcell HB.out; clear hB; have hz := HB.out.size; simp at hz; have hz2 : w.heap.size + 1 + 1 < w1.heap.size := (by omega); have hz1 : w.heap.size + 1 < w1.heap.size := (by omega); have hz0 : w.heap.size < w1.heap.size := (by omega); clear hz)
                  | (go_at_call 10; (with_reducible refine ((S2 _).out).mono ?_); rintro e w1 ⟨rfl, hB⟩; (try clear hc hf); (first | (replace HB := Lib.hid (bl_step HB.out hB)) | (replace HB := Lib.hid (bl_step (bl_alloc HB.out) hB)) | (replace HB := Lib.hid (bl_step (bl_alloc (bl_alloc HB.out)) hB)) | (replace HB := Lib.hid (bl_step (by repeat (first | with_reducible exact HB.out | with_reducible refine bl_alloc ?_ | (with_reducible refine bl_set ?_ ?hset; case hset => (first | with_reducible exact Nat.le_refl _ | (simp; done) | (simp; omega) | omega)))) hB)) | (have HB := Lib.hid hB)); obtain ⟨hc, hf⟩ := bcell HB.out; clear hB; have hz := HB.out.size; simp at hz; have hz2 : w.heap.size + 1 + 1 < w1.heap.size := (by omega); have hz1 : w.heap.size + 1 < w1.heap.size := (by omega); have hz0 : w.heap.size < w1.heap.size := (by omega); clear hz)
                  | (go_at_call 10; (with_reducible refine ((S3 _).out).mono ?_); rintro e w1 ⟨rfl, hB⟩; (try clear hc hf); (first | (replace HB := Lib.hid (bl_step HB.out hB)) | (replace HB := Lib.hid (bl_step (bl_alloc HB.out) hB)) | (replace HB := Lib.hid (bl_step (bl_alloc (bl_alloc HB.out)) hB)) | (replace HB := Lib.hid (bl_step (by repeat (first | with_reducible exact HB.out | with_reducible refine bl_alloc ?_ | (with_reducible refine bl_set ?_ ?hset; case hset => (first | with_reducible exact Nat.le_refl _ | (simp; done) | (simp; omega) | omega)))) hB)) | (have HB := Lib.hid hB)); obtain ⟨hc, hf⟩ := bcell HB.out; clear hB; have hz := HB.out.size; simp at hz; have hz2 : w.heap.size + 1 + 1 < w1.heap.size := (by omega); have hz1 : w.heap.size + 1 < w1.heap.size := (by omega); have hz0 : w.heap.size < w1.heap.size := (by omega); clear hz)
                  | (go_at_call 12; (with_reducible refine ((R1 _).out).mono ?_); rintro e w1 ⟨rfl, hB⟩; (try clear hc hf); (first | (replace HB := Lib.hid (bl_step HB.out hB)) | (replace HB := Lib.hid (bl_step (bl_alloc HB.out) hB)) | (replace HB := Lib.hid (bl_step (bl_alloc (bl_alloc HB.out)) hB)) | (replace HB := Lib.hid (bl_step (by repeat (first | with_reducible exact HB.out | with_reducible refine bl_alloc ?_ | (with_reducible refine bl_set ?_ ?hset; case hset => (first | with_reducible exact Nat.le_refl _ | (simp; done) | (simp; omega) | omega)))) hB)) | (have HB := Lib.hid hB)); obtain ⟨hc, hf⟩ := bcell HB.out; clear hB; have hz := HB.out.size; simp at hz; have hz2 : w.heap.size + 1 + 1 < w1.heap.size := (by omega); have hz1 : w.heap.size + 1 < w1.heap.size := (by omega); have hz0 : w.heap.size < w1.heap.size := (by omega); clear hz)
                  | (go_at_call 12; (with_reducible refine ((R2 _).out).mono ?_); rintro e w1 ⟨rfl, hB⟩; (try clear hc hf); (first | (replace HB := Lib.hid (bl_step HB.out hB)) | (replace HB := Lib.hid (bl_step (bl_alloc HB.out) hB)) | (replace HB := Lib.hid (bl_step (bl_alloc (bl_alloc HB.out)) hB)) | (replace HB := Lib.hid (bl_step (by repeat (first | with_reducible exact HB.out | with_reducible refine bl_alloc ?_ | (with_reducible refine bl_set ?_ ?hset; case hset => (first | with_reducible exact Nat.le_refl _ | (simp; done) | (simp; omega) | omega)))) hB)) | (have HB := Lib.hid hB)); obtain ⟨hc, hf⟩ := bcell HB.out; clear hB; have hz := HB.out.size; simp at hz; have hz2 : w.heap.size + 1 + 1 < w1.heap.size := (by omega); have hz1 : w.heap.size + 1 < w1.heap.size := (by omega); have hz0 : w.heap.size < w1.heap.size := (by omega); clear hz)
                  | (go_at_call 12; (with_reducible refine ((R3 _).out).mono ?_); rintro e w1 ⟨rfl, hB⟩; (try clear hc hf); (first | (replace HB := Lib.hid (bl_step HB.out hB)) | (replace HB := Lib.hid (bl_step (bl_alloc HB.out) hB)) | (replace HB := Lib.hid (bl_step (bl_alloc (bl_alloc HB.out)) hB)) | (replace HB := Lib.hid (bl_step (by repeat (first | with_reducible exact HB.out | with_reducible refine bl_alloc ?_ | (with_reducible refine bl_set ?_ ?hset; case hset => (first | with_reducible exact Nat.le_refl _ | (simp; done) | (simp; omega) | omega)))) hB)) | (have HB := Lib.hid hB)); obtain ⟨hc, hf⟩ := bcell HB.out; clear hB; have hz := HB.out.size; simp at hz; have hz2 : w.heap.size + 1 + 1 < w1.heap.size := (by omega); have hz1 : w.heap.size + 1 < w1.heap.size := (by omega); have hz0 : w.heap.size < w1.heap.size := (by omega); clear hz)
                  | (go_at_call 11; (with_reducible refine ((H11 _).out).mono ?_); rintro e w1 ⟨rfl, hB⟩; (try clear hc hf); (first | (replace HB := Lib.hid (bl_step HB.out hB)) | (replace HB := Lib.hid (bl_step (bl_alloc HB.out) hB)) | (replace HB := Lib.hid (bl_step (bl_alloc (bl_alloc HB.out)) hB)) | (replace HB := Lib.hid (bl_step (by repeat (first | with_reducible exact HB.out | with_reducible refine bl_alloc ?_ | (with_reducible refine bl_set ?_ ?hset; case hset => (first | with_reducible exact Nat.le_refl _ | (simp; done) | (simp; omega) | omega)))) hB)) | (have HB := Lib.hid hB)); obtain ⟨hc, hf⟩ := bcell HB.out; clear hB))
                go_ret
                exact ⟨rfl, (by (repeat (first | with_reducible exact Below.refl _ _ | with_reducible refine bl_alloc ?_ | (with_reducible refine bl_set ?_ ?hset; case hset => (first | with_reducible exact Nat.le_refl _ | (simp; done) | (simp; omega) | omega)) | with_reducible refine bl_step ?_ HB.out)))⟩
              · skip
                exact absurd ⟨rfl, rfl, rfl, rfl, rfl, rfl⟩ hg

end Go.Proofs.Ytkmbhjcedkojjaa
