/- WALK of the law RankTotal. -/
import Derived.Test.YtkmbhjcedkojjaaPk
import Derived.Test.YtkmbhjcedkojjaaQa
namespace Go.Proofs.Ytkmbhjcedkojjaa
open Go.RowKit
theorem cmpC_of {n : Nat} {w : World} {t1 : Option Addr} {tl1 tc1 : Nat} {A : List Tm} {t2 : Option Addr} {tl2 tc2 : Nat} {B : List Tm} (h1 : InV w n t1 tl1 tc1 A) (h2 : InV w n t2 tl2 tc2 B) : CmpC w (.agg #[.slice t1 tl1 tc1]) (.agg #[.slice t2 tl2 tc2]) (cmpV n A B) :=
  fun W hW => compare_in n W _ _ _ _ _ _ _ _ (h1.below hW) (h2.below hW)
theorem rtotal_walk {n1 n2 n3 : Nat} {w : World} {t1 t2 t3 : Option Addr} {tl1 tc1 tl2 tc2 tl3 tc3 : Nat} {A B C : List Tm} (h1 : InV w n1 t1 tl1 tc1 A) (h2 : InV w n2 t2 tl2 tc2 B) (h3 : InV w n3 t3 tl3 tc3 C) :
    Calls Try.prog 8 #[.agg #[.slice t1 tl1 tc1], .agg #[.slice t2 tl2 tc2], .agg #[.slice t3 tl3 tc3]] w fun e w' => e = .returned (.bool true) ∧ Below w.heap.size w w' := by
  have g1 := h1.le (show n1 ≤ n1 + n2 + n3 by omega)
  have g2 := h2.le (show n2 ≤ n1 + n2 + n3 by omega)
  have g3 := h3.le (show n3 ≤ n1 + n2 + n3 by omega)
  generalize n1 + n2 + n3 = n at *
  have hc := cmpV_cmp n
  refine rtotal_gen t1 t2 t3 tl1 tc1 tl2 tc2 tl3 tc3 (cmpV n A B) (cmpV n B C) (cmpV n A C) w (fun W hW => few_any n W _ _ _ _ (g1.below hW)) (fun W hW => few_any n W _ _ _ _ (g2.below hW)) (fun W hW => few_any n W _ _ _ _ (g3.below hW))
    (cmpC_of g1 g2) (cmpC_of g2 g3) (cmpC_of g1 g3) ?_ ?_ (hc.small _ _) (hc.small _ _) (hc.small _ _) (hc.trans A B C)
  · rw [← hc.anti A B]; exact cmpC_of g2 g1
  · have := cmpC_of g1 g1
    rw [hc.refl A] at this
    exact this

end Go.Proofs.Ytkmbhjcedkojjaa
