/- WALK of the law VintBack. -/
import Derived.Test.YtmfikjpmieoikaaV
import Derived.Test.YtmfikjpmieoikaaN
namespace Go.Proofs.Ytmfikjpmieoikaa
open Go.RowKit
set_option maxHeartbeats 400000 in
theorem left_drew (B : Nat) (s : ByteArray) (p e : Nat) (w : World) (h : Rd w B s p e) (hp : p ≤ s.size) (hs : s.size ≤ 140737488355328) : Calls Try.prog 26 #[.pointer (some ⟨B, 0, none⟩)] w fun en w' => en = .returned (.int .i64 ((s.size - p : Nat) : Int)) ∧ ∃ q, w' = w.drewN q := by
  obtain ⟨h0, h1, h2, _, _⟩ := h.cells
  have hw : IntKind.i64.wrap ((s.size : Int) - (p : Int)) = ((s.size - p : Nat) : Int) := by rw [IntKind.wrap_i64]; omega
  clear h
  go_enter Try.func26, Try.ntmps26
  go_wp2
  go_quiet (fail)
  go_wp2
  go_ret
  exact ⟨rfl, _, rfl⟩
theorem belowN {B : Nat} {w a : World} (h : Below B w a) (n : Nat) : Below B w (a.drewN n) := ⟨h.os, h.tape, h.output, h.size, h.block⟩
theorem keep_step {w a b : World} {B : Nat} (h : Hid (Below w.heap.size w a)) (hB : w.heap.size ≤ B) (k : Keep B a b) : Hid (Below w.heap.size w b) := Keep.below h.out k hB h.out.size
/-- What a call of the reader on this text does, wherever the reader lies. -/
abbrev Does (s : ByteArray) (f : Nat) (args : List Value) (p e : Nat) (v : Value) (p' e' : Nat) : Prop :=
  ∀ (W : World) (B : Nat), Rd W B s p e → Calls Try.prog f (.pointer (some ⟨B, 0, none⟩) :: args).toArray W (RdPost B s v p' e' W)
set_option maxRecDepth 100000 in
set_option maxHeartbeats 4000000 in
theorem back_ok (n m l1 l2 l3 q e mm1 mm2 mm3 mm lf : Nat) (N1 N2 N3 Nm : List UInt8) (s h S Sb Sm : ByteArray) (w : World)
    (hs : s.size ≤ 400) (hh : h.size ≤ 400)
    (P1 : Hid (∀ W, Calls Try.prog 10 #[.slice none 0 0, .int .u64 n] W (PutsM N1 mm1 W)))
    (P2 : Hid (∀ W a c, SRow W a N1 → Calls Try.prog 11 #[.slice a mm1 c, .int .i64 (wrap64 (n : Int))] W (PutsM N2 mm2 W)))
    (P3 : Hid (∀ W a c, SRow W a N2 → Calls Try.prog 12 #[.slice a mm2 c, .string s] W (PutsM N3 mm3 W)))
    (C3 : Hid (ConvM N3 mm3 Sb)) (hSb : Sb.size ≤ 500) (hS : Sb ++ h = S)
    (G1 : Hid (Does S 18 [] 0 0 (.int .u64 n) l1 0))
    (G2 : Hid (Does S 22 [] l1 0 (.int .i64 (wrap64 (n : Int))) l2 0))
    (G3 : Hid (Does S 24 [.int .i64 s.size] l2 0 (.string s) l3 0))
    (G4 : Hid (Does S 25 [] l3 0 (.int .i64 0) l3 0))
    (G5 : Hid (Does S 26 [] l3 0 (.int .i64 h.size) l3 0))
    (X1 : Hid (Does h 18 [] 0 0 (.int .u64 m) q e))
    (PM : Hid (∀ W, Calls Try.prog 10 #[.slice none 0 0, .int .u64 m] W (PutsM Nm mm W))) (CM : Hid (ConvM Nm mm Sm))
    (hq : q ≤ h.size) (hlf : lf = h.size - q) (hSm : Hid (e = 0 → Sm = h.extract 0 q)) (he : e = 0) :
    Calls Try.prog 5 #[.int .u64 n, .string s, .string h] w fun e w' => e = .returned (.bool true) ∧ Below w.heap.size w w' := by
  have BL := Lib.hid (Below.refl w.heap.size w)
  go_enter Try.func5, Try.ntmps5
  go_wp2_with (first
    | (go_at_call 10; (with_reducible refine (P1.out _).mono ?_); rintro e w1 ⟨a1, c1, rfl, hR, hB⟩; replace BL := below_step' BL hB; have R1 := Lib.hid hR; clear hR hB)
    | (go_at_call 11; (with_reducible refine (P2.out _ a1 c1 ?_).mono ?_); (exact R1.out); rintro e w2 ⟨a2, c2, rfl, hR, hB⟩; replace BL := below_step' BL hB; have R2 := Lib.hid hR; clear hR hB)
    | (go_at_call 12; (with_reducible refine (P3.out _ a2 c2 ?_).mono ?_); (exact R2.out); rintro e w3 ⟨a3, c3, rfl, hR, hB⟩; replace BL := below_step' BL hB; have hcv := C3.out _ a3 c3 hR; clear hR hB)
    | (go_at_call 16; refine (new_any _ _).mono ?_; rintro e w4 ⟨rfl, hR, hB, hz⟩; have HZ := Lib.hid (BL.out.size); replace BL := below_step' BL hB; have RD := Lib.hid hR; clear hR hB hz)
    | (go_at_call 18; (with_reducible refine (G1.out _ _ RD.out).mono ?_); rintro e w5 ⟨rfl, hR, hK⟩; replace BL := keep_step BL HZ.out hK; replace RD := Lib.hid hR; clear hR hK)
    | (go_at_call 22; (with_reducible refine (G2.out _ _ RD.out).mono ?_); rintro e w5 ⟨rfl, hR, hK⟩; replace BL := keep_step BL HZ.out hK; replace RD := Lib.hid hR; clear hR hK)
    | (go_at_call 24; (with_reducible refine (G3.out _ _ RD.out).mono ?_); rintro e w5 ⟨rfl, hR, hK⟩; replace BL := keep_step BL HZ.out hK; replace RD := Lib.hid hR; clear hR hK)
    | (go_at_call 25; (with_reducible refine (G4.out _ _ RD.out).mono ?_); rintro e w5 ⟨rfl, hR, hK⟩; replace BL := keep_step BL HZ.out hK; replace RD := Lib.hid hR; clear hR hK)
    | (go_at_call 26; (with_reducible refine (G5.out _ _ RD.out).mono ?_); rintro e w5 ⟨rfl, hR, hK⟩; replace BL := keep_step BL HZ.out hK; replace RD := Lib.hid hR; clear hR hK)
    | (go_at_call 18; (with_reducible refine (X1.out _ _ RD.out).mono ?_); rintro e w6 ⟨rfl, hR, hK⟩; replace BL := keep_step BL HZ.out hK; replace RD := Lib.hid hR; clear hR hK))
  replace RD := Lib.hid (show Rd w6.drew w5.heap.size h q e from RD.out)
  replace BL := Lib.hid BL.out.drew
  have HErr := fun w x => Lib.hid (err_any w5.heap.size h q e w x)
  obtain rfl := he
  have hS2 := hSm.out rfl
  have hi1 : IntKind.i64.wrap ((h.size : Int) - (lf : Int)) = (q : Int) := by rw [IntKind.wrap_i64]; omega
  have hi2 : (q : Int) ≤ (h.size : Int) := by omega
  have HLf := fun w x => Lib.hid (left_drew w5.heap.size h q 0 w x hq (by omega))
  rw [← hlf] at HLf
  have hdec : (!Sm.toList == (h.extract 0 q).toList) = false := by rw [hS2]; simp
  have HS2 := Lib.hid hS2
  clear hS2 hlf
  go_region_with (first
    | (go_at_call 25; (with_reducible refine (HErr _ RD.out).out.mono ?_); rintro e w7 ⟨rfl, rfl⟩)
    | (go_at_call 10; (with_reducible refine (PM.out _).mono ?_); rintro e w7 ⟨a5, c5, rfl, hR, hB⟩; replace BL := below_step' BL hB; have RM := Lib.hid hR; have cv := CM.out _ a5 c5 hR; replace RD := Lib.hid (RD.out.below hB); clear hR hB)
    | (go_at_call 26; (with_reducible refine (HLf _ RD.out).out.mono ?_); rintro e w8 ⟨rfl, k8, rfl⟩; replace BL := Lib.hid (belowN BL.out k8); have cv2 := CM.out (w7.drewN k8) a5 c5 RM.out))
  all_goals
    go_wp2_with (go_at_call 9; refine (vawake_any _).mono ?_; rintro e w9 ⟨rfl, hB⟩; replace BL := below_step' BL hB; clear hB)
    go_ret
    exact ⟨rfl, BL.out⟩
end Go.Proofs.Ytmfikjpmieoikaa
