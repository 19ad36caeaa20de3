/- Gg, Gh -/
import Derived.Test.YtddleeenlpigfaaGreatDoorY4
import Derived.Test.YtddleeenlpigfaaGreatDoorY6
/- WALKS of Compare and of the function that Terms hands over. -/
namespace Go.Proofs.YtddleeenlpigfaaGreatDoor.G
open Go.RowKit
set_option maxRecDepth 100000 in
set_option maxHeartbeats 2000000 in
theorem closure_any (nm : ByteArray) (t : Option Addr) (tl tc : Nat) (nm2 : ByteArray) (t2 : Option Addr) (tl2 tc2 : Nat) (r : Int) (w : World)
    (HG : ∀ W, Gr w.heap.size w W → Calls Tryz.prog 111 #[.agg #[.slice t tl tc], .agg #[.slice t2 tl2 tc2]] W (GmpPost r W)) :
    Calls Tryz.prog 127 #[.agg #[.string nm, .slice t tl tc], .agg #[.string nm2, .slice t2 tl2 tc2]] w (GmpPost (two (cmpS nm nm2) r) w) := by
  have HG' := Lib.hid HG
  clear HG
  have HS := fun W => Lib.hid (cmpS_any nm nm2 W)
  generalize cmpS nm nm2 = c at *
  have HB : Hid (Gr w.heap.size w w) := Gr.refl _ _
  by_cases h0 : c = 0
  · subst h0
    go_enter Tryz.func127, Tryz.ntmps127
    go_wp2_with (first
      | (go_at_call 124; (with_reducible refine (HS _).out.mono ?_); rintro e w1 ⟨rfl, rfl⟩)
      | (go_at_call 111; refine (HG'.out _ ?_).mono ?_; rotate_left; rintro e w2 ⟨rfl, hB2⟩; have HB2 := Lib.hid hB2; clear hB2))
    · go_ret
      exact ⟨rfl, gl_step (gl_alloc (gl_alloc HB.out)) HB2.out⟩
    · exact gl_alloc (gl_alloc HB.out)
  · have hb : (c != 0) = true := by simpa using h0
    have HN := Lib.hid h0
    clear h0
    go_enter Tryz.func127, Tryz.ntmps127
    go_wp2_with (first
      | (go_at_call 124; (with_reducible refine (HS _).out.mono ?_); rintro e w1 ⟨rfl, h1⟩; subst h1))
    go_ret
    exact ⟨ret_int (by unfold two; rw [if_pos HN.out]), gl_alloc (gl_alloc HB.out)⟩
set_option maxRecDepth 100000 in
set_option maxHeartbeats 2000000 in
theorem compare_any (t : Option Addr) (tl tc : Nat) (t2 : Option Addr) (tl2 tc2 : Nat) (r : Int) (w : World)
    (HG : ∀ W, Gr w.heap.size w W → Calls Tryz.prog 138 #[.slice t tl tc, .slice t2 tl2 tc2, .func (.func 88) #[] #[]] W (GmpPost r W)) :
    Calls Tryz.prog 111 #[.agg #[.slice t tl tc], .agg #[.slice t2 tl2 tc2]] w (GmpPost r w) := by
  have HG' := Lib.hid HG
  clear HG
  have HB : Hid (Gr w.heap.size w w) := Gr.refl _ _
  go_enter Tryz.func111, Tryz.ntmps111
  go_wp2_with (go_at_call 138; refine (HG'.out _ ?_).mono ?_; rotate_left; rintro e w2 ⟨rfl, hB2⟩; have HB2 := Lib.hid hB2; clear hB2)
  · go_ret
    exact ⟨rfl, gl_step (gl_alloc (gl_alloc HB.out)) HB2.out⟩
  · exact gl_alloc (gl_alloc HB.out)

end Go.Proofs.YtddleeenlpigfaaGreatDoor.G
/- rank: Compare, whole. -/
namespace Go.Proofs.YtddleeenlpigfaaGreatDoor.G
open Go.RowKit
theorem terms_in (n : Nat) (ih : ∀ (W : World) t tl tc A t2 tl2 tc2 B, InV W n t tl tc A → InV W n t2 tl2 tc2 B → Calls Tryz.prog 111 #[.agg #[.slice t tl tc], .agg #[.slice t2 tl2 tc2]] W (GmpPost (cmpV n A B) W))
    (W : World) (k lo hi : Int) (s : ByteArray) (y0 m0 o : Bool) (f : Option Addr) (fl fc : Nat) (fs : List (ByteArray × List Tm)) (k2 lo2 hi2 : Int) (s2 : ByteArray) (y2 m2 o2 : Bool) (f2 : Option Addr) (fl2 fc2 : Nat) (fs2 : List (ByteArray × List Tm))
    (h1 : InF (fun t tl tc V => InV W n t tl tc V) W f fl fs) (h2 : InF (fun t tl tc V => InV W n t tl tc V) W f2 fl2 fs2) :
    Calls Tryz.prog 88 #[tv k lo hi s y0 m0 o f fl fc, tv k2 lo2 hi2 s2 y2 m2 o2 f2 fl2 fc2] W (GmpPost (cmpT (cmpV n) (.mk k lo hi s y0 m0 o fs) (.mk k2 lo2 hi2 s2 y2 m2 o2 fs2)) W) :=
  terms_any (cmpV n) k lo hi s y0 m0 o f fl fc fs k2 lo2 hi2 s2 y2 m2 o2 f2 fl2 fc2 fs2 W (fun W2 hW2 =>
    listsF_any (cmpV n) (fun w t tl tc V => InV w n t tl tc V) (fun w t tl tc V => InV w n t tl tc V) (fun hb _ _ _ _ h => InV.gr hb h) (fun hb _ _ _ _ h => InV.gr hb h)
      (fun W3 nm t tl tc V nm2 t2 tl2 tc2 V2 i1 i2 => closure_any nm t tl tc nm2 t2 tl2 tc2 (cmpV n V V2) W3 (fun W4 hW4 => ih W4 _ _ _ _ _ _ _ _ (InV.gr hW4 i1) (InV.gr hW4 i2)))
      f fl fc fs f2 fl2 fc2 fs2 W2 (InF.gr (fun _ _ _ _ h => InV.gr hW2 h) hW2 h1) (InF.gr (fun _ _ _ _ h => InV.gr hW2 h) hW2 h2))
theorem compare_in : ∀ (n : Nat) (W : World) t tl tc A t2 tl2 tc2 B, InV W n t tl tc A → InV W n t2 tl2 tc2 B → Calls Tryz.prog 111 #[.agg #[.slice t tl tc], .agg #[.slice t2 tl2 tc2]] W (GmpPost (cmpV n A B) W)
  | 0, _, _, _, _, _, _, _, _, _, h, _ => h.elim
  | n + 1, W, t, tl, tc, A, t2, tl2, tc2, B, h1, h2 =>
    compare_any t tl tc t2 tl2 tc2 (cmpV (n + 1) A B) W (fun W2 hW2 =>
      listsT_any (cmpV n) n n (fun W3 k lo hi s y0 m0 o f fl fc fs k2 lo2 hi2 s2 y2 m2 o2 f2 fl2 fc2 fs2 i1 i2 => terms_in n (compare_in n) W3 k lo hi s y0 m0 o f fl fc fs k2 lo2 hi2 s2 y2 m2 o2 f2 fl2 fc2 fs2 i1 i2)
        t tl tc A t2 tl2 tc2 B W2 (InV.gr hW2 h1) (InV.gr hW2 h2))

end Go.Proofs.YtddleeenlpigfaaGreatDoor.G
