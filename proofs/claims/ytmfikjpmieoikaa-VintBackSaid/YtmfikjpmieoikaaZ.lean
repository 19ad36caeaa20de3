/- WALK of the law VintBack where what stands behind is no number. -/
import Derived.Test.YtmfikjpmieoikaaV
import Derived.Test.YtmfikjpmieoikaaN
namespace Go.Proofs.Ytmfikjpmieoikaa
open Go.RowKit
theorem belowNz {B : Nat} {w a : World} (h : Below B w a) (n : Nat) : Below B w (a.drewN n) := ⟨h.os, h.tape, h.output, h.size, h.block⟩
theorem keep_stepz {w a b : World} {B : Nat} (h : Hid (Below w.heap.size w a)) (hB : w.heap.size ≤ B) (k : Keep B a b) : Hid (Below w.heap.size w b) := Keep.below h.out k hB h.out.size
/-- What a call of the reader on this text does, wherever the reader lies. -/
abbrev Doesz (s : ByteArray) (f : Nat) (args : List Value) (p e : Nat) (v : Value) (p' e' : Nat) : Prop :=
  ∀ (W : World) (B : Nat), Rd W B s p e → Calls Try.prog f (.pointer (some ⟨B, 0, none⟩) :: args).toArray W (RdPost B s v p' e' W)
set_option maxRecDepth 100000 in
set_option maxHeartbeats 4000000 in
theorem back_no (n m l1 l2 l3 q e mm1 mm2 mm3 : Nat) (N1 N2 N3 : List UInt8) (s h S Sb : ByteArray) (w : World)
    (hs : s.size ≤ 400) (hh : h.size ≤ 400)
    (P1 : Hid (∀ W, Calls Try.prog 10 #[.slice none 0 0, .int .u64 n] W (PutsM N1 mm1 W)))
    (P2 : Hid (∀ W a c, SRow W a N1 → Calls Try.prog 11 #[.slice a mm1 c, .int .i64 (wrap64 (n : Int))] W (PutsM N2 mm2 W)))
    (P3 : Hid (∀ W a c, SRow W a N2 → Calls Try.prog 12 #[.slice a mm2 c, .string s] W (PutsM N3 mm3 W)))
    (C3 : Hid (ConvM N3 mm3 Sb)) (hSb : Sb.size ≤ 500) (hS : Sb ++ h = S)
    (G1 : Hid (Doesz S 18 [] 0 0 (.int .u64 n) l1 0))
    (G2 : Hid (Doesz S 22 [] l1 0 (.int .i64 (wrap64 (n : Int))) l2 0))
    (G3 : Hid (Doesz S 24 [.int .i64 s.size] l2 0 (.string s) l3 0))
    (G4 : Hid (Doesz S 25 [] l3 0 (.int .i64 0) l3 0))
    (G5 : Hid (Doesz S 26 [] l3 0 (.int .i64 h.size) l3 0))
    (X1 : Hid (Doesz h 18 [] 0 0 (.int .u64 m) q e))
    (v : Int) (hv : v = (e : Int)) (hne : (v == 0) = false) :
    Calls Try.prog 5 #[.int .u64 n, .string s, .string h] w fun e w' => e = .returned (.bool true) ∧ Below w.heap.size w w' := by
  have BL := Lib.hid (Below.refl w.heap.size w)
  have HV := Lib.hid hv
  clear hv
  go_enter Try.func5, Try.ntmps5
  go_wp2_with (first
    | (go_at_call 10; (with_reducible refine (P1.out _).mono ?_); rintro e w1 ⟨a1, c1, rfl, hR, hB⟩; replace BL := below_step' BL hB; have R1 := Lib.hid hR; clear hR hB)
    | (go_at_call 11; (with_reducible refine (P2.out _ a1 c1 ?_).mono ?_); (exact R1.out); rintro e w2 ⟨a2, c2, rfl, hR, hB⟩; replace BL := below_step' BL hB; have R2 := Lib.hid hR; clear hR hB)
    | (go_at_call 12; (with_reducible refine (P3.out _ a2 c2 ?_).mono ?_); (exact R2.out); rintro e w3 ⟨a3, c3, rfl, hR, hB⟩; replace BL := below_step' BL hB; have hcv := C3.out _ a3 c3 hR; clear hR hB)
    | (go_at_call 16; refine (new_any _ _).mono ?_; rintro e w4 ⟨rfl, hR, hB, hz⟩; have HZ := Lib.hid (BL.out.size); replace BL := below_step' BL hB; have RD := Lib.hid hR; clear hR hB hz)
    | (go_at_call 18; (with_reducible refine (G1.out _ _ RD.out).mono ?_); rintro e w5 ⟨rfl, hR, hK⟩; replace BL := keep_stepz BL HZ.out hK; replace RD := Lib.hid hR; clear hR hK)
    | (go_at_call 22; (with_reducible refine (G2.out _ _ RD.out).mono ?_); rintro e w5 ⟨rfl, hR, hK⟩; replace BL := keep_stepz BL HZ.out hK; replace RD := Lib.hid hR; clear hR hK)
    | (go_at_call 24; (with_reducible refine (G3.out _ _ RD.out).mono ?_); rintro e w5 ⟨rfl, hR, hK⟩; replace BL := keep_stepz BL HZ.out hK; replace RD := Lib.hid hR; clear hR hK)
    | (go_at_call 25; (with_reducible refine (G4.out _ _ RD.out).mono ?_); rintro e w5 ⟨rfl, hR, hK⟩; replace BL := keep_stepz BL HZ.out hK; replace RD := Lib.hid hR; clear hR hK)
    | (go_at_call 26; (with_reducible refine (G5.out _ _ RD.out).mono ?_); rintro e w5 ⟨rfl, hR, hK⟩; replace BL := keep_stepz BL HZ.out hK; replace RD := Lib.hid hR; clear hR hK)
    | (go_at_call 18; (with_reducible refine (X1.out _ _ RD.out).mono ?_); rintro e w6 ⟨rfl, hR, hK⟩; replace BL := keep_stepz BL HZ.out hK; replace RD := Lib.hid hR; clear hR hK))
  have HErr := fun w x => Lib.hid (err_any w5.heap.size h q e w x)
  rw [← HV.out] at HErr
  go_quiet ((go_at_call 25; exact Calls.quiet_of_same ((HErr _ (show Rd (w6.drewN _) w5.heap.size h q e from RD.out)).out.mono fun _ _ x => ⟨x.1, x.2.symm⟩)))
  all_goals
    replace BL := Lib.hid (belowNz BL.out nq)
    go_wp2_with (go_at_call 9; refine (vawake_any _).mono ?_; rintro e w9 ⟨rfl, hB⟩; replace BL := below_step' BL hB; clear hB)
    go_ret
    exact ⟨rfl, BL.out⟩
end Go.Proofs.Ytmfikjpmieoikaa
