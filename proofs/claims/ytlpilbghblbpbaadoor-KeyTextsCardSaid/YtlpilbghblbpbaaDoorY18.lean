/- Vv -/
import Derived.Test.YtlpilbghblbpbaaDoorY14
import Derived.Test.YtlpilbghblbpbaaDoorY17
/- WALKS of show's Expr and of the reference's. -/
namespace Go.Proofs.YtlpilbghblbpbaaDoor.Sw
open Go.RowKit
open Lx (bs bl_alloc bl_step)
/-- One head lies at a place. -/
theorem hd_eq {w : World} {b off : Nat} {x y : Hd} (hx : HdAt w b off x) (hy : HdAt w b off y) : x = y := by
  obtain ⟨x0, x1, x2, x3, x4, x5, x6⟩ := hx
  obtain ⟨y0, y1, y2, y3, y4, y5, y6⟩ := hy
  obtain ⟨⟩ := x
  obtain ⟨⟩ := y
  dsimp only at x0 x1 x2 x3 x4 x5 x6 y0 y1 y2 y3 y4 y5 y6
  rw [x0] at y0
  rw [x1] at y1
  rw [x2] at y2
  rw [x3] at y3
  rw [x4] at y4
  rw [x5] at y5
  rw [x6] at y6
  simp only [Option.some.injEq, Value.int.injEq, Value.string.injEq, Value.slice.injEq, Value.bool.injEq, true_and] at y0 y1 y2 y3 y4 y5 y6
  obtain ⟨a1, a2, a3⟩ := y3
  obtain ⟨a4, a5, a6⟩ := y4
  obtain ⟨a7, a8, a9⟩ := y6
  subst y0 y1 y2 a1 a2 a3 a4 a5 a6 y5 a7 a8 a9
  rfl
/-- What Check tells. -/
noncomputable def chk (n : Nat) (x : Ex) : Int := if rightB n x then (if 16 < depW n x then 22 else 0) else 1
/-- An expression's text, and its error. -/
noncomputable def sexp (n : Nat) (x : Ex) : ByteArray := if chk n x = 0 then bs (xt n x) else ⟨#[]⟩
theorem chk_zero {n : Nat} {x : Ex} (h : chk n x = 0) : rightB n x = true := by
  unfold chk at h
  cases hr : rightB n x with
  | true => rfl
  | false => rw [hr] at h; simp at h
theorem Cp.below {w w' : World} (hb : Below w.heap.size w w') : ∀ {n : Nat} {h : Hd} {x : Ex}, InX w n h x → Cp w n h x → Cp w' n h x
  | 0, _, _, hx, _ => hx.elim
  | n + 1, h, .mk _ _ _ _ ps _ ks, hx, hc => by
    obtain ⟨-, -, -, -, -, -, hps, hks⟩ := hx
    obtain ⟨hc1, hc2, hc3⟩ := hc
    refine ⟨hc1, fun i hi b off y hq hy => ?_, fun i hi b off y hq hy => ?_⟩
    · obtain ⟨b1, off1, y1, e, lt, -, -, hy1, hI⟩ := hps.at_ i hi
      obtain ⟨rfl, rfl⟩ : b = b1 ∧ off = off1 := by rw [hq] at e; injection e with e; injection e with e1 e2; exact ⟨e1, e2⟩
      obtain rfl := hd_eq hy (hy1.below hb lt)
      exact Cp.below hb hI (hc2 i hi b off y hq hy1)
    · obtain ⟨b1, off1, y1, e, lt, hy1, hI⟩ := hks.at_ i hi
      obtain ⟨rfl, rfl⟩ : b = b1 ∧ off = off1 := by rw [hq] at e; injection e with e; injection e with e1 e2; exact ⟨e1, e2⟩
      obtain rfl := hd_eq hy (hy1.below hb lt)
      exact Cp.below hb hI (hc3 i hi b off y hq hy1)
def TxE (t : ByteArray) (c : Int) (w : World) (e : Ending) (w' : World) : Prop := e = .returned (.tuple #[.string t, .int .i64 c]) ∧ Below w.heap.size w w'
set_option maxRecDepth 100000 in
set_option maxHeartbeats 4000000 in
theorem expr_any (w : World) (n : Nat) (h : Hd) (x : Ex) (hx : InX w n h x) (hcx : Cp w n h x) (hS : SE w) (hN : ∀ W, SE W → NText W) (hc : tN n x ≤ 1000000) : Calls Tryd.prog 11 #[h.agg] w (TxE (sexp n x) (chk n x) w) := by
  have HCK := Lib.hid (fun W (hW : Below w.heap.size w W) => check_any W n h x (hx.below hW) (hS.env.below hW))
  have HX := Lib.hid hx
  have HCX := Lib.hid hcx
  have HS := Lib.hid hS
  have HN := Lib.hid hN
  have HC := Lib.hid hc
  obtain ⟨m, rfl⟩ := hx.pos
  obtain ⟨op, nn, s, p, pl, pc, q, ql, qc, o, k, kl, kc⟩ := h
  have HB1 := Lib.hid (bl_alloc (o := .cells #[.int .i64 op, .int .i64 nn, .string s, .slice p pl pc, .slice q ql qc, .bool o, .slice k kl kc] 38) (Below.refl w.heap.size w))
  have HE := Lib.hid (World.alloc_heap_new w (.cells #[.int .i64 op, .int .i64 nn, .string s, .slice p pl pc, .slice q ql qc, .bool o, .slice k kl kc] 38))
  have f := bxc HE.out
  change Hid (∀ W, Below w.heap.size w W → Calls Tryd.prog 21 _ W (IntP (chk (m + 1) x) W)) at HCK
  obtain ⟨c, hcc⟩ : ∃ c, chk (m + 1) x = c := ⟨_, rfl⟩
  rw [hcc] at HCK ⊢
  have HCC := Lib.hid hcc
  clear hx hcx hS hN hc
  by_cases h0 : c = 0
  · subst h0
    have hs : sexp (m + 1) x = bs (xt (m + 1) x) := if_pos hcc
    have HSX := Lib.hid hs
    have HRT := Lib.hid (chk_zero hcc)
    have HLN := Lib.hid (xt_len (m + 1) x HRT.out)
    clear hcc hs
    change Calls Tryd.prog 11 #[.agg #[.int .i64 op, .int .i64 nn, .string s, .slice p pl pc, .slice q ql qc, .bool o, .slice k kl kc]] w _
    go_enter Tryd.func11, Tryd.ntmps11
    go_wp2_with (first
      | (go_at_call 21; refine (HCK.out _ HB1.out).mono ?_; rintro e w2 ⟨rfl, hb2⟩; have HB2 := Lib.hid (bl_step HB1.out hb2); have HE2 := Lib.hid ((hb2.block _ (Array.getElem?_eq_some_iff.1 HE.out).1).trans HE.out); have HBW := Lib.hid (bl_alloc (o := .cells #[.pointer none, .slice none 0 0] 57) (Below.refl w2.heap.size w2)); have HE3 := Lib.hid ((HBW.out.block _ (Array.getElem?_eq_some_iff.1 HE2.out).1).trans HE2.out); clear f; have f := bxc HE3.out; clear hb2)
      | (go_at_call 22; refine (ask_all w2 w2.heap.size w2.heap.size (Nat.le_refl _) (HS.out.below HB2.out) (HN.out w2 (HS.out.below HB2.out)) (m + 1) ⟨op, nn, s, p, pl, pc, q, ql, qc, o, k, kl, kc⟩ x 1 [] _ (HX.out.below HB2.out) (Cp.below HB2.out HX.out HCX.out) HRT.out (Int.le_refl _) HBW.out (new_wb w2 w2.heap.size (Nat.le_refl _)) (by rw [br_one]; have h1 := HLN.out; have h2 := HC.out; simp only [List.length_nil]; omega)).mono ?_; rintro e w4 ⟨rfl, hw4, hr4⟩; rw [br_one, List.nil_append] at hw4; have HW4 := Lib.hid hw4; have HR4 := Lib.hid ((Wr.of HBW.out (Nat.le_refl _)).trans hr4); clear hw4 hr4 f)
      | (go_at_call 23; refine (str_some w2.heap.size w2.heap.size (xt (m + 1) x) _ HW4.out (xt_ne HRT.out)).mono ?_; rintro e w5 ⟨rfl, hb5⟩; have HB5 := Lib.hid (HR4.out.bl.trans hb5); clear hb5))
    go_ret2
    exact ⟨by rw [HSX.out] <;> rfl, HB2.out.trans (HB5.out.mono HB2.out.size)⟩
  · have hs : sexp (m + 1) x = ⟨#[]⟩ := if_neg (by rw [hcc]; exact h0)
    have hne : (c != 0) = true := by simpa using h0
    have HSX := Lib.hid hs
    clear hcc hs h0
    change Calls Tryd.prog 11 #[.agg #[.int .i64 op, .int .i64 nn, .string s, .slice p pl pc, .slice q ql qc, .bool o, .slice k kl kc]] w _
    go_enter Tryd.func11, Tryd.ntmps11
    go_wp2_with (go_at_call 21; refine (HCK.out _ HB1.out).mono ?_; rintro e w2 ⟨rfl, hb2⟩; have HB2 := Lib.hid (bl_step HB1.out hb2); clear hb2 f)
    go_ret2
    exact ⟨by rw [HSX.out] <;> rfl, HB2.out⟩
end Go.Proofs.YtlpilbghblbpbaaDoor.Sw
