/- WALKS of expr's samePair and Same. -/
import Derived.Test.YtngnegnofmpgkaaTf
namespace Go.Proofs.Ytngnegnofmpgkaa
open Go.RowKit
set_option maxRecDepth 100000 in
set_option maxHeartbeats 2000000 in
theorem samePair_any (w0 : World) (I I' : Hd → Ex → Prop) (ask : ∀ (h h' : Hd) (x y : Ex) (W : World), I h x → I' h' y → Below w0.heap.size w0 W → Calls Try.prog 29 #[h.agg, h'.agg] W (BoolP (eqB x y) W))
    (h h' : Hd) (x y : ByteArray × Ex) (w : World) (hI : I h x.2) (hI' : I' h' y.2) (hb0 : Below w0.heap.size w0 w) : Calls Try.prog 44 #[h.pair x.1, h'.pair y.1] w (BoolP (eqB x y) w) := by
  have KC := fun (W : World) (hW : Below w.heap.size w W) => Lib.hid (ask h h' x.2 y.2 W hI hI' (below_step hb0 hW))
  obtain ⟨nm, x⟩ := x
  obtain ⟨nm2, y⟩ := y
  obtain ⟨op, nn, s, p, pl, pc, q, ql, qc, o, ka, kl, kc⟩ := h
  obtain ⟨op2, nn2, s2, p2, pl2, pc2, q2, ql2, qc2, o2, k2, kl2, kc2⟩ := h'
  unfold Hd.agg at KC
  unfold Hd.pair
  dsimp only at KC ⊢
  clear hI hI' hb0 ask
  obtain ⟨r, hr⟩ : ∃ r, eqB x y = r := ⟨_, rfl⟩
  rw [hr] at KC
  have HR := Lib.hid hr
  clear hr
  have HBB := below_alloc (below_alloc (Below.refl w.heap.size w) (.cells #[.string nm, .int .i64 op, .int .i64 nn, .string s, .slice p pl pc, .slice q ql qc, .bool o, .slice ka kl kc] 69)) (.cells #[.string nm2, .int .i64 op2, .int .i64 nn2, .string s2, .slice p2 pl2 pc2, .slice q2 ql2 qc2, .bool o2, .slice k2 kl2 kc2] 69)
  have HB2 := Lib.hid HBB
  clear HBB
  cases he : (nm.toList == nm2.toList)
  · have HE := Lib.hid (eqB_no (fun e : (nm, x) = (nm2, y) => text_ne he (congrArg Prod.fst e)))
    go_enter Try.func44, Try.ntmps44
    go_wp2_with fail
    go_ret
    exact ⟨ret_bool HE.out.symm, HB2.out⟩
  · obtain rfl := text_eq he
    have HE := Lib.hid (eqB_iff ⟨fun e : (nm, x) = (nm, y) => congrArg Prod.snd e, fun e : x = y => by rw [e]⟩)
    clear he
    go_enter Try.func44, Try.ntmps44
    go_wp2_with (go_at_call 29; refine (KC _ HB2.out).out.mono ?_; rintro e w4 ⟨rfl, hB4⟩; have HB4 := Lib.hid hB4; clear hB4)
    go_ret
    exact ⟨ret_bool (by rw [HE.out, HR.out]), below_step HB2.out HB4.out⟩
/-- What Same asks of the lists, one behind the other. -/
structure Lists (w0 : World) (h h' : Hd) (pa pa2 : List ByteArray) (ps ps2 : List (ByteArray × Ex)) (ks ks2 : List Ex) : Prop where
  a : ∀ W, Below w0.heap.size w0 W → Calls Try.prog 42 #[.slice h.p h.pl h.pc, .slice h'.p h'.pl h'.pc] W (BoolP (eqB pa pa2) W)
  b : ∀ W, Below w0.heap.size w0 W → Calls Try.prog 43 #[.slice h.q h.ql h.qc, .slice h'.q h'.ql h'.qc, .func (.func 44) #[] #[]] W (BoolP (eqB ps ps2) W)
  c : ∀ W, Below w0.heap.size w0 W → Calls Try.prog 28 #[.slice h.k h.kl h.kc, .slice h'.k h'.kl h'.kc, .func (.func 29) #[] #[]] W (BoolP (eqB ks ks2) W)
set_option maxRecDepth 100000 in
set_option maxHeartbeats 4000000 in
theorem same_body (w0 w : World) (op n : Int) (s : ByteArray) (p : Option Addr) (pl pc : Nat) (q : Option Addr) (ql qc : Nat) (o : Bool) (k : Option Addr) (kl kc : Nat) (op2 n2 : Int) (s2 : ByteArray) (p2 : Option Addr) (pl2 pc2 : Nat) (q2 : Option Addr) (ql2 qc2 : Nat) (o2 : Bool) (k2 : Option Addr) (kl2 kc2 : Nat)
    (pa pa2 : List ByteArray) (ps ps2 : List (ByteArray × Ex)) (ks ks2 : List Ex) (L : Lists w0 ⟨op, n, s, p, pl, pc, q, ql, qc, o, k, kl, kc⟩ ⟨op2, n2, s2, p2, pl2, pc2, q2, ql2, qc2, o2, k2, kl2, kc2⟩ pa pa2 ps ps2 ks ks2) (hb0 : Below w0.heap.size w0 w) :
    Calls Try.prog 29 #[.agg #[.int .i64 op, .int .i64 n, .string s, .slice p pl pc, .slice q ql qc, .bool o, .slice k kl kc], .agg #[.int .i64 op2, .int .i64 n2, .string s2, .slice p2 pl2 pc2, .slice q2 ql2 qc2, .bool o2, .slice k2 kl2 kc2]] w
      (BoolP (eqB (Ex.mk op n s pa ps o ks) (Ex.mk op2 n2 s2 pa2 ps2 o2 ks2)) w) := by
  obtain ⟨la, lb, lc⟩ := L
  dsimp only at la lb lc
  have HB1 : Hid (Below w.heap.size w ((w.alloc (.cells #[.int .i64 op, .int .i64 n, .string s, .slice p pl pc, .slice q ql qc, .bool o, .slice k kl kc] 38)).alloc (.cells #[.int .i64 op2, .int .i64 n2, .string s2, .slice p2 pl2 pc2, .slice q2 ql2 qc2, .bool o2, .slice k2 kl2 kc2] 38))) := below_alloc (below_alloc (Below.refl _ _) _) _
  by_cases h1 : op = op2
  · subst h1
    by_cases h2 : n = n2
    · subst h2
      cases he : (s.toList == s2.toList)
      · have HE := Lib.hid (eqB_no (fun e : Ex.mk op n s pa ps o ks = Ex.mk op n s2 pa2 ps2 o2 ks2 => text_ne he (mk_inj.1 e).2.2.1))
        clear la lb lc
        go_enter Try.func29, Try.ntmps29
        go_wp2_with fail
        go_ret
        exact ⟨ret_bool HE.out.symm, HB1.out⟩
      · obtain rfl := text_eq he
        clear he
        by_cases h3 : o = o2
        · subst h3
          obtain ⟨r1, hr1⟩ : ∃ r, eqB pa pa2 = r := ⟨_, rfl⟩
          obtain ⟨r2, hr2⟩ : ∃ r, eqB ps ps2 = r := ⟨_, rfl⟩
          obtain ⟨r3, hr3⟩ : ∃ r, eqB ks ks2 = r := ⟨_, rfl⟩
          have h0 : eqB (Ex.mk op n s pa ps o ks) (Ex.mk op n s pa2 ps2 o ks2) = (r1 && (r2 && r3)) := by
            rw [← hr1, ← hr2, ← hr3]
            by_cases e1 : pa = pa2
            · by_cases e2 : ps = ps2
              · by_cases e3 : ks = ks2
                · rw [eqB_yes e1, eqB_yes e2, eqB_yes e3, eqB_yes (mk_inj.2 ⟨rfl, rfl, rfl, e1, e2, rfl, e3⟩)]; rfl
                · rw [eqB_no e3, eqB_no (fun e => e3 (mk_inj.1 e).2.2.2.2.2.2)]; simp
              · rw [eqB_no e2, eqB_no (fun e => e2 (mk_inj.1 e).2.2.2.2.1)]; simp
            · rw [eqB_no e1, eqB_no (fun e => e1 (mk_inj.1 e).2.2.2.1)]; simp
          have HE := Lib.hid h0
          clear h0
          have LA := fun W hW => Lib.hid (la W (below_step hb0 hW))
          have LB := fun W hW => Lib.hid (lb W (below_step hb0 hW))
          have LC := fun W hW => Lib.hid (lc W (below_step hb0 hW))
          rw [hr1] at LA
          rw [hr2] at LB
          rw [hr3] at LC
          clear la lb lc hr1 hr2 hr3 hb0
          cases r1
          · cases o
            all_goals
              go_enter Try.func29, Try.ntmps29
              go_wp2_with (go_at_call 42; refine (LA _ HB1.out).out.mono ?_; rintro e w4 ⟨rfl, hB4⟩; have HB4 := Lib.hid hB4; clear hB4)
              go_ret
              exact ⟨ret_bool (by rw [HE.out]; rfl), below_step HB1.out HB4.out⟩
          · cases r2
            · cases o
              all_goals
                go_enter Try.func29, Try.ntmps29
                go_wp2_with (first
                  | (go_at_call 42; refine (LA _ HB1.out).out.mono ?_; rintro e w4 ⟨rfl, hB4⟩; obtain ⟨hc, hf⟩ := bcell hB4; have HB4 := Lib.hid hB4; clear hB4)
                  | (go_at_call 43; refine (LB _ (below_step HB1.out HB4.out)).out.mono ?_; rintro e w5 ⟨rfl, hB5⟩; have HB5 := Lib.hid hB5; clear hB5))
                go_ret
                exact ⟨ret_bool (by rw [HE.out]; rfl), below_step (below_step HB1.out HB4.out) HB5.out⟩
            · cases o
              all_goals
                go_enter Try.func29, Try.ntmps29
                go_wp2_with (first
                  | (go_at_call 42; refine (LA _ HB1.out).out.mono ?_; rintro e w4 ⟨rfl, hB4⟩; obtain ⟨hc, hf⟩ := bcell hB4; have HB4 := Lib.hid hB4; clear hB4)
                  | (go_at_call 43; refine (LB _ (below_step HB1.out HB4.out)).out.mono ?_; rintro e w5 ⟨rfl, hB5⟩; have HZ5 := Lib.hid hB5; obtain ⟨hc, hf⟩ := bcell (below_step HB4.out hB5); have HB5 := Lib.hid hB5; clear hB5)
                  | (go_at_call 28; refine (LC _ (below_step (below_step HB1.out HB4.out) HB5.out)).out.mono ?_; rintro e w6 ⟨rfl, hB6⟩; have HB6 := Lib.hid hB6; clear hB6))
                go_ret
                exact ⟨ret_bool (by rw [HE.out]; rfl), below_step (below_step (below_step HB1.out HB4.out) HB5.out) HB6.out⟩
        · have HE := Lib.hid (eqB_no (fun e : Ex.mk op n s pa ps o ks = Ex.mk op n s pa2 ps2 o2 ks2 => h3 (mk_inj.1 e).2.2.2.2.2.1))
          clear la lb lc
          have e3 : (o == o2) = false := by simpa using h3
          clear h3
          go_enter Try.func29, Try.ntmps29
          go_wp2_with fail
          go_ret
          exact ⟨ret_bool HE.out.symm, HB1.out⟩
    · have HE := Lib.hid (eqB_no (fun e : Ex.mk op n s pa ps o ks = Ex.mk op n2 s2 pa2 ps2 o2 ks2 => h2 (mk_inj.1 e).2.1))
      have e2 := eq_no h2
      clear la lb lc h2
      go_enter Try.func29, Try.ntmps29
      go_wp2_with fail
      go_ret
      exact ⟨ret_bool HE.out.symm, HB1.out⟩
  · have HE := Lib.hid (eqB_no (fun e : Ex.mk op n s pa ps o ks = Ex.mk op2 n2 s2 pa2 ps2 o2 ks2 => h1 (mk_inj.1 e).1))
    have e1 := eq_no h1
    clear la lb lc h1
    go_enter Try.func29, Try.ntmps29
    go_wp2_with fail
    go_ret
    exact ⟨ret_bool HE.out.symm, HB1.out⟩
theorem same_any (w0 : World) : ∀ (n m : Nat) (h h' : Hd) (x y : Ex) (w : World), InX w0 n h x → InX w0 m h' y → Below w0.heap.size w0 w → Calls Try.prog 29 #[h.agg, h'.agg] w (BoolP (eqB x y) w)
  | 0, _, _, _, _, _, _, h, _, _ => h.elim
  | _ + 1, 0, _, _, _, _, _, _, h, _ => h.elim
  | n + 1, m + 1, ⟨op, nn, s, p, pl, pc, q, ql, qc, o, k, kl, kc⟩, ⟨op2, nn2, s2, p2, pl2, pc2, q2, ql2, qc2, o2, k2, kl2, kc2⟩, .mk _ _ _ pa ps _ ks, .mk _ _ _ pa2 ps2 _ ks2, w, ⟨h1, h2, h3, h4, _, h5, h6, h7⟩, ⟨g1, g2, g3, g4, _, g5, g6, g7⟩, hb => by
    dsimp only at h1 h2 h3 h4 g1 g2 g3 g4
    subst h1 h2 h3 h4 g1 g2 g3 g4
    exact same_body w0 w _ _ _ _ _ _ _ _ _ _ _ _ _ _ _ _ _ _ _ _ _ _ _ _ _ _ pa pa2 ps ps2 ks ks2
      ⟨fun W hW => equal_eq _ _ _ _ _ _ _ _ W (h5.below hW) (g5.below hW),
       fun W hW => eqf_ps w0 (InX w0 n) (InX w0 m) _ _ _ _ _ _ ps ps2 h6 g6 (fun a b x y W ha hb hW => samePair_any w0 (InX w0 n) (InX w0 m) (fun a b x y W ha hb hW => same_any w0 n m a b x y W ha hb hW) a b x y W ha hb hW) W hW,
       fun W hW => eqf_ks w0 (InX w0 n) (InX w0 m) _ _ _ _ _ _ ks ks2 h7 g7 (fun a b x y W ha hb hW => same_any w0 n m a b x y W ha hb hW) W hW⟩ hb
end Go.Proofs.Ytngnegnofmpgkaa
