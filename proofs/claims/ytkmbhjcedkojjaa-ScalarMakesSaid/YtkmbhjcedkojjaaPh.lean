/- rank: Compare, whole. -/
import Derived.Test.YtkmbhjcedkojjaaPe
import Derived.Test.YtkmbhjcedkojjaaPf
import Derived.Test.YtkmbhjcedkojjaaPg
namespace Go.Proofs.Ytkmbhjcedkojjaa
open Go.RowKit
theorem InF.same {I J : Option Addr → Nat → Nat → List Tm → Prop} (hIJ : ∀ t tl tc V, I t tl tc V → J t tl tc V) {w : World} {f : Option Addr} {fl : Nat} {fs : List (ByteArray × List Tm)} (h : InF I w f fl fs) : InF J w f fl fs := InF.below hIJ (Below.refl _ _) h
theorem InV.up {w : World} : ∀ {n : Nat} {t : Option Addr} {tl tc : Nat} {V : List Tm}, InV w n t tl tc V → InV w (n + 1) t tl tc V
  | 0, _, _, _, _, h => h.elim
  | n + 1, t, tl, tc, V, h => ⟨h.1, h.2.1, fun i hi => by
      obtain ⟨b, off, e, h2⟩ := h.2.2 i hi
      exact ⟨b, off, e, InT.below (fun t tl tc V h => InV.up h) (Below.refl _ _) h2⟩⟩
theorem InV.le {w : World} {n m : Nat} (hnm : n ≤ m) {t : Option Addr} {tl tc : Nat} {V : List Tm} (h : InV w n t tl tc V) : InV w m t tl tc V := by
  induction m with
  | zero => obtain rfl : n = 0 := by omega
            exact h
  | succ m ih =>
    by_cases e : n = m + 1
    · subst e; exact h
    · exact (ih (by omega)).up
theorem terms_in (n : Nat) (ih : ∀ (W : World) t tl tc A t2 tl2 tc2 B, InV W n t tl tc A → InV W n t2 tl2 tc2 B → Calls Try.prog 33 #[.agg #[.slice t tl tc], .agg #[.slice t2 tl2 tc2]] W (CmpPost (cmpV n A B) W))
    (W : World) (k lo hi : Int) (s : ByteArray) (y0 m0 o : Bool) (f : Option Addr) (fl fc : Nat) (fs : List (ByteArray × List Tm)) (k2 lo2 hi2 : Int) (s2 : ByteArray) (y2 m2 o2 : Bool) (f2 : Option Addr) (fl2 fc2 : Nat) (fs2 : List (ByteArray × List Tm))
    (h1 : InF (fun t tl tc V => InV W n t tl tc V) W f fl fs) (h2 : InF (fun t tl tc V => InV W n t tl tc V) W f2 fl2 fs2) :
    Calls Try.prog 31 #[tv k lo hi s y0 m0 o f fl fc, tv k2 lo2 hi2 s2 y2 m2 o2 f2 fl2 fc2] W (CmpPost (cmpT (cmpV n) (.mk k lo hi s y0 m0 o fs) (.mk k2 lo2 hi2 s2 y2 m2 o2 fs2)) W) :=
  terms_any (cmpV n) k lo hi s y0 m0 o f fl fc fs k2 lo2 hi2 s2 y2 m2 o2 f2 fl2 fc2 fs2 W (fun W2 hW2 =>
    listsF_any (cmpV n) (fun w t tl tc V => InV w n t tl tc V) (fun w t tl tc V => InV w n t tl tc V) (fun hb _ _ _ _ h => InV.below hb h) (fun hb _ _ _ _ h => InV.below hb h)
      (fun W3 nm t tl tc V nm2 t2 tl2 tc2 V2 i1 i2 => closure_any nm t tl tc nm2 t2 tl2 tc2 (cmpV n V V2) W3 (fun W4 hW4 => ih W4 _ _ _ _ _ _ _ _ (InV.below hW4 i1) (InV.below hW4 i2)))
      f fl fc fs f2 fl2 fc2 fs2 W2 (InF.below (fun _ _ _ _ h => InV.below hW2 h) hW2 h1) (InF.below (fun _ _ _ _ h => InV.below hW2 h) hW2 h2))
theorem compare_in : ∀ (n : Nat) (W : World) t tl tc A t2 tl2 tc2 B, InV W n t tl tc A → InV W n t2 tl2 tc2 B → Calls Try.prog 33 #[.agg #[.slice t tl tc], .agg #[.slice t2 tl2 tc2]] W (CmpPost (cmpV n A B) W)
  | 0, _, _, _, _, _, _, _, _, _, h, _ => h.elim
  | n + 1, W, t, tl, tc, A, t2, tl2, tc2, B, h1, h2 =>
    compare_any t tl tc t2 tl2 tc2 (cmpV (n + 1) A B) W (fun W2 hW2 =>
      listsT_any (cmpV n) n n (fun W3 k lo hi s y0 m0 o f fl fc fs k2 lo2 hi2 s2 y2 m2 o2 f2 fl2 fc2 fs2 i1 i2 => terms_in n (compare_in n) W3 k lo hi s y0 m0 o f fl fc fs k2 lo2 hi2 s2 y2 m2 o2 f2 fl2 fc2 fs2 i1 i2)
        t tl tc A t2 tl2 tc2 B W2 (InV.below hW2 h1) (InV.below hW2 h2))

end Go.Proofs.Ytkmbhjcedkojjaa
