/- Te, Tf, Tg, Th, Vq, Vr, Vs -/
import Derived.Deep.DeepCutAuto
import Derived.Deep.CutBlock
import Derived.Test.YtlpilbghblbpbaaDoorY9
import Derived.Test.YtlpilbghblbpbaaDoorY12
/- WALKS of slices.Equal at texts, slices.EqualFunc at expressions. -/
namespace Go.Proofs.YtlpilbghblbpbaaDoor.Nm
open Go.RowKit
end Go.Proofs.YtlpilbghblbpbaaDoor.Nm
namespace Go.Proofs.YtlpilbghblbpbaaDoor
open Go.RowKit
noncomputable def eqB {α : Type} (a b : α) : Bool := @decide (a = b) (Classical.propDecidable _)
theorem eqB_yes {α : Type} {a b : α} (h : a = b) : eqB a b = true := by unfold eqB; exact @decide_eq_true _ (Classical.propDecidable _) h
theorem eqB_no {α : Type} {a b : α} (h : ¬ a = b) : eqB a b = false := by unfold eqB; exact @decide_eq_false _ (Classical.propDecidable _) h
theorem of_eqB {α : Type} {a b : α} (h : eqB a b = true) : a = b := by unfold eqB at h; exact @of_decide_eq_true _ (Classical.propDecidable _) h
theorem not_eqB {α : Type} {a b : α} (h : eqB a b = false) : ¬ a = b := by unfold eqB at h; exact @of_decide_eq_false _ (Classical.propDecidable _) h
theorem eqB_iff {α β : Type} {a b : α} {c d : β} (h : a = b ↔ c = d) : eqB a b = eqB c d := by
  by_cases e : a = b
  · rw [eqB_yes e, eqB_yes (h.1 e)]
  · rw [eqB_no e, eqB_no (fun k => e (h.2 k))]
theorem sameB_eq (xs ys : List ByteArray) : Nm.sameB xs ys = eqB xs ys := by
  by_cases e : xs = ys
  · rw [eqB_yes e, e]; simp [Nm.sameB]
  · rw [eqB_no e]
    refine decide_eq_false fun h => e ?_
    refine List.ext_getElem (by have := congrArg List.length h; simpa [Nm.bl] using this) fun i h1 h2 => ?_
    have h3 : (Nm.bl xs)[i]'(by simpa [Nm.bl] using h1) = (Nm.bl ys)[i]'(by simpa [Nm.bl] using h2) := by simp only [h]
    simp only [Nm.bl, List.getElem_map] at h3
    exact ByteArray.ext (Array.toList_inj.1 h3)
theorem take_all {α : Type} {xs ys : List α} (hl : xs.length = ys.length) (h : xs.take xs.length = ys.take xs.length) : xs = ys := by
  rw [List.take_length, hl, List.take_length] at h; exact h
theorem take_next {α : Type} {xs ys : List α} {k : Nat} (h1 : k < xs.length) (h2 : k < ys.length) (h : xs.take k = ys.take k) (e : xs[k] = ys[k]) : xs.take (k + 1) = ys.take (k + 1) := by
  rw [List.take_succ_eq_append_getElem h1, List.take_succ_eq_append_getElem h2, h, e]
end Go.Proofs.YtlpilbghblbpbaaDoor
/- WALKS of slices.EqualFunc at pairs, expr's samePair and Same. -/
namespace Go.Proofs.YtlpilbghblbpbaaDoor
open Go.RowKit
/-- A pair as it is handed over. -/
def Hd.pair (h : Hd) (nm : ByteArray) : Value := .agg #[.string nm, .int .i64 h.op, .int .i64 h.n, .string h.s, .slice h.p h.pl h.pc, .slice h.q h.ql h.qc, .bool h.o, .slice h.k h.kl h.kc]
end Go.Proofs.YtlpilbghblbpbaaDoor
/- WALKS of expr's samePair and Same. -/
namespace Go.Proofs.YtlpilbghblbpbaaDoor
open Go.RowKit
theorem text_ne {a b : ByteArray} (h : (a.toList == b.toList) = false) : ¬ a = b := fun e => by subst e; simp at h
theorem text_eq {a b : ByteArray} (h : (a.toList == b.toList) = true) : a = b := by
  rw [Lib.toList_data, Lib.toList_data] at h
  exact ByteArray.ext (Array.toList_inj.1 (by simpa using h))
theorem mk_inj {op n : Int} {s : ByteArray} {pa : List ByteArray} {ps : List (ByteArray × Ex)} {o : Bool} {ks : List Ex} {op2 n2 : Int} {s2 : ByteArray} {pa2 : List ByteArray} {ps2 : List (ByteArray × Ex)} {o2 : Bool} {ks2 : List Ex} :
    Ex.mk op n s pa ps o ks = Ex.mk op2 n2 s2 pa2 ps2 o2 ks2 ↔ op = op2 ∧ n = n2 ∧ s = s2 ∧ pa = pa2 ∧ ps = ps2 ∧ o = o2 ∧ ks = ks2 :=
  ⟨fun e => by injection e with h1 h2 h3 h4 h5 h6 h7; exact ⟨h1, h2, h3, h4, h5, h6, h7⟩, fun ⟨h1, h2, h3, h4, h5, h6, h7⟩ => by rw [h1, h2, h3, h4, h5, h6, h7]⟩
end Go.Proofs.YtlpilbghblbpbaaDoor
/- WALK of the reference's Same of expressions. -/
namespace Go.Proofs.YtlpilbghblbpbaaDoor
open Go.RowKit
theorem region_class {P : Program} {C : World → Prop} {id : Nat} {Q : Exit → Act → World → Prop} {a : Act} {w : World} {l : List Oper} (hm : P.follows .mixedOrders = true) (hB : Region.lexB .any l.toArray = true)
    (hC : C { w with drawn := w.drawn + 1 }) (h : wpQuiet P l.toArray C (fun a' => ∀ w', C w' → Q .normal a' w') l a) : (Code.region id l.toArray true).wp P Q a w :=
  wp_region_quiet (C := C) hm hB hC (by simpa using h)
/-- Two expressions' cells, with their names, and the lists' headers in two boxes. -/
structure Two (W : World) (B1 B2 off1 off2 : Nat) (v1 v2 : Value) (b1 o1 b2 o2 : Nat) (x y : Hd) : Prop where
  h1 : W.cell? ⟨B1, off1, none⟩ = some v1
  h2 : W.cell? ⟨B2, off2, none⟩ = some v2
  x : HdAt W b1 o1 x
  y : HdAt W b2 o2 y
theorem Two.below {W W' : World} {B1 B2 off1 off2 : Nat} {v1 v2 : Value} {b1 o1 b2 o2 : Nat} {x y : Hd} (h : Two W B1 B2 off1 off2 v1 v2 b1 o1 b2 o2 x y) (hb : Below W.heap.size W W') (l1 : B1 < W.heap.size) (l2 : B2 < W.heap.size) (l3 : b1 < W.heap.size) (l4 : b2 < W.heap.size) : Two W' B1 B2 off1 off2 v1 v2 b1 o1 b2 o2 x y :=
  ⟨(hb.cell (p := ⟨B1, off1, none⟩) l1).trans h.h1, (hb.cell (p := ⟨B2, off2, none⟩) l2).trans h.h2, h.x.below hb l3, h.y.below hb l4⟩
end Go.Proofs.YtlpilbghblbpbaaDoor
/- WALK of the reference's Of: a struct. -/
namespace Go.Proofs.YtlpilbghblbpbaaDoor.Sw
open Go.RowKit
open Lx (bs bl_alloc bl_step)
/-- The reference's Of writes an expression of so many levels. -/
def RAsk (w0 : World) (n : Nat) : Prop := ∀ (h : Hd) (x : Ex) (w : World), InX w0 n h x → rightB n x = true → Below w0.heap.size w0 w → (xt n x).length ≤ 1099511627776 → Calls Tryd.prog 15 #[h.agg] w (TxP (bs (xt n x)) w)
theorem pp_bytes (P : List UInt8) (sp nm : ByteArray) (X : List UInt8) : bs P ++ sp ++ nm ++ bs [58, 32] ++ bs X ++ bs [59] = bs (P ++ (sp.data.toList ++ (nm.toList ++ [58, 32] ++ X ++ [59]))) := by
  rw [Lib.toList_data]
  apply ByteArray.ext
  apply Array.toList_inj.1
  simp [bs]
set_option maxRecDepth 100000 in
set_option maxHeartbeats 8000000 in
theorem rof_struct (w0 : World) (n : Nat) (hA : RAsk w0 n) (nn : Int) (s : ByteArray) (p : Option Addr) (pl pc : Nat) (q : Option Addr) (ql qc : Nat) (o : Bool) (k : Option Addr) (kl kc : Nat) (ps : List (ByteArray × Ex)) (w : World) (hp : InPs (InX w0 n) w0 q ql ps) (hr : ∀ y ∈ ps, rightB n y.2 = true) (hb : Below w0.heap.size w0 w) (hl : (fT (xt n) ps o).length ≤ 1099511627776) :
    Calls Tryd.prog 15 #[.agg #[.int .i64 10, .int .i64 nn, .string s, .slice p pl pc, .slice q ql qc, .bool o, .slice k kl kc]] w (TxP (bs (fT (xt n) ps o)) w) := by
  obtain ⟨m, hm⟩ : ∃ m, ps.length = m := ⟨_, rfl⟩
  have hq := hp.count
  rw [hm] at hq
  subst hq
  have hmm := hp.max
  have hl3 : (pT (xt n) ps m).length + 5 ≤ 1099511627776 + 5 := by
    unfold fT at hl
    rw [hm] at hl
    simp only [List.length_append] at hl
    omega
  have HA := Lib.hid hA
  have HP := Lib.hid hp
  have HR := Lib.hid hr
  have HB0 := Lib.hid hb
  have HM := Lib.hid hm
  have HE := Lib.hid (World.alloc_heap_new w (.cells #[.int .i64 10, .int .i64 nn, .string s, .slice p pl pc, .slice q m qc, .bool o, .slice k kl kc] 38))
  have HB1 := Lib.hid (bl_alloc (o := .cells #[.int .i64 10, .int .i64 nn, .string s, .slice p pl pc, .slice q m qc, .bool o, .slice k kl kc] 38) (Below.refl w.heap.size w))
  obtain ⟨W1, hW1⟩ : ∃ W, w.alloc (.cells #[.int .i64 10, .int .i64 nn, .string s, .slice p pl pc, .slice q m qc, .bool o, .slice k kl kc] 38) = W := ⟨_, rfl⟩
  rw [hW1] at HE HB1
  have HW1 := Lib.hid hW1
  clear hA hp hr hb hm hl hW1
  go_enter Tryd.func15, Tryd.ntmps15
  have f := bxc (World.alloc_heap_new w (.cells #[.int .i64 10, .int .i64 nn, .string s, .slice p pl pc, .slice q m qc, .bool o, .slice k kl kc] 38))
  go_wp2_with fail
  rw [HW1.out]
  clear f
  go_loopw [3, 4] (fun t i wr => ∃ j : Nat, j ≤ m ∧ i = .int .i64 j ∧ t = .string (bs (pT (xt n) ps j)) ∧ Hid (Below W1.heap.size W1 wr)) (fun _ i _ => m - (intOf i).toNat)
  case atStart => exact ⟨0, Nat.zero_le _, rfl, rfl, Lib.hid (Below.refl _ _)⟩
  case round =>
    obtain ⟨j, hj, rfl, rfl, hB⟩ := hrel
    rename World => wr
    have HEr := Lib.hid ((hB.out.block _ (Array.getElem?_eq_some_iff.1 HE.out).1).trans HE.out)
    have f := bxc HEr.out
    have hpl : (bs (pT (xt n) ps j)).size ≤ 1099511627776 := by rw [size_bs]; exact Nat.le_trans (pT_le (xt n) ps hj) (by omega)
    by_cases hlt : j < m
    · have hki : (j : Int) < (m : Int) := by omega
      have hk0 : (0 : Int) ≤ (j : Int) := by omega
      have hjx : j < ps.length := by rw [HM.out]; exact hlt
      have HBr := Lib.hid (bl_step HB0.out (bl_step HB1.out hB.out))
      obtain ⟨b1, off, hd, rfl, lt1, hnz, hn1, hx1, hI1⟩ := HP.out.at_ j hjx
      have hstep := pT_step (xt n) hjx
      have hle : (pT (xt n) ps (j + 1)).length ≤ (pT (xt n) ps m).length := pT_le (xt n) ps hlt
      have hry := HR.out _ (List.getElem_mem hjx)
      rw [hstep, pp_is] at hle
      obtain ⟨⟨nm, x⟩, hpx⟩ : ∃ y, ps[j] = y := ⟨_, rfl⟩
      rw [hpx] at hn1 hI1 hstep hle hry hnz
      dsimp only at hn1 hI1 hle hry hnz
      have xn := (HBr.out.cell (p := ⟨b1, off + j * 8, none⟩) lt1).trans hn1
      have xh := hx1.below HBr.out lt1
      have LT1 := Lib.hid (Nat.lt_of_lt_of_le lt1 HBr.out.size)
      have LTE := Lib.hid (Array.getElem?_eq_some_iff.1 HEr.out).1
      simp only [List.length_append] at hle
      have KC2 : Hid (∀ W, Below wr.heap.size wr W → Calls Tryd.prog 15 #[hd.agg] W fun e w' => e = .returned (.string (bs (xt n x))) ∧ Below wr.heap.size wr w') := Lib.hid fun W hW => (HA.out hd x W hI1 hry (bl_step HBr.out hW) (by omega)).mono fun _ _ ⟨a, b⟩ => ⟨a, bl_step hW b⟩
      obtain ⟨yop, yn, ys, yp, ypl, ypc, yq, yql, yqc, yo, yk, ykl, ykc⟩ := hd
      have VX : Hid (∀ W, Below wr.heap.size wr W → W.cell? ⟨w.heap.size, 4, none⟩ = some (.slice (some ⟨b1, off, none⟩) m qc) ∧ W.cell? ⟨b1, off + j * 8, none⟩ = some (.string nm) ∧ HdAt W b1 (off + j * 8 + 1) ⟨yop, yn, ys, yp, ypl, ypc, yq, yql, yqc, yo, yk, ykl, ykc⟩) := Lib.hid fun W hW =>
        ⟨(hW.cell (p := ⟨w.heap.size, 4, none⟩) LTE.out).trans (f 4), (hW.cell (p := ⟨b1, off + j * 8, none⟩) LT1.out).trans xn, xh.below hW LT1.out⟩
      have hxl : (bs (xt n x)).size ≤ 1099511627776 := by rw [size_bs]; omega
      have HST := Lib.hid hstep
      unfold Hd.agg at KC2
      dsimp only at KC2
      clear xn xh hn1 hx1 hI1 hry hpx lt1 hstep hle
      by_cases hj0 : j = 0
      · have hj1 : ¬ (0 : Int) < (j : Int) := by omega
        have HJ0 := Lib.hid hj0
        clear hj0
        go_upto_region 29 with fail
        clear f
        refine region_class (C := fun W => Below wr.heap.size wr W) (by kernel_rfl) (by kernel_rfl) ((Below.refl _ _).drew) ?_
        repeat (first | go_big_quiet_skip | (go_big_quiet_want; go_big_quiet_op; first | go_big_quiet_on | (apply Exists.intro; refine ⟨fun W hW => ?_, ?_⟩; (first | rfl | exact (KC2.out W hW) | (obtain ⟨a1, a2, ⟨c0, c1, c2, c3, c4, c5, c6⟩⟩ := VX.out W hW; dsimp only at c0 c1 c2 c3 c4 c5 c6; go_simp; first | done | rfl | exact ⟨rfl, rfl⟩)); go_big_quiet_on)))
        refine wpQuiet_nil ?_
        intro w9 hW9
        go_wp2_with fail
        go_roundw
        case rel => exact ⟨j + 1, by omega, by go_num, by rw [HST.out, pp_is, ← pp_bytes]; unfold btw; rw [if_pos HJ0.out]; show _ = Value.string (bs _ ++ bs [] ++ nm ++ bs [58, 32] ++ bs (xt n x) ++ bs [59]); rw [cat_bs, List.append_nil]; rfl, Lib.hid (bl_step hB.out hW9)⟩
        case measure => simp [intOf]; omega
      · have hj1 : (0 : Int) < (j : Int) := by omega
        have HJ0 := Lib.hid hj0
        have hpl2 : (bs (pT (xt n) ps j) ++ ⟨#[32]⟩).size ≤ 1099511627777 := by rw [ByteArray.size_append]; show _ + 1 ≤ _; omega
        clear hj0
        go_upto_region 29 with fail
        clear f
        refine region_class (C := fun W => Below wr.heap.size wr W) (by kernel_rfl) (by kernel_rfl) ((Below.refl _ _).drew) ?_
        repeat (first | go_big_quiet_skip | (go_big_quiet_want; go_big_quiet_op; first | go_big_quiet_on | (apply Exists.intro; refine ⟨fun W hW => ?_, ?_⟩; (first | rfl | exact (KC2.out W hW) | (obtain ⟨a1, a2, ⟨c0, c1, c2, c3, c4, c5, c6⟩⟩ := VX.out W hW; dsimp only at c0 c1 c2 c3 c4 c5 c6; go_simp; first | done | rfl | exact ⟨rfl, rfl⟩)); go_big_quiet_on)))
        refine wpQuiet_nil ?_
        intro w9 hW9
        go_wp2_with fail
        go_roundw
        case rel => exact ⟨j + 1, by omega, by go_num, by rw [HST.out, pp_is, ← pp_bytes]; unfold btw; rw [if_neg HJ0.out]; rfl, Lib.hid (bl_step hB.out hW9)⟩
        case measure => simp [intOf]; omega
    · obtain rfl : j = m := by omega
      have hki : ¬ ((j : Int) < (j : Int)) := by omega
      have hend : Below w.heap.size w wr := bl_step HB1.out hB.out
      have HEND := Lib.hid hend
      clear hend
      cases o with
      | true =>
        by_cases h0 : j = 0
        · have hj1 : ¬ (0 : Int) < (j : Int) := by omega
          have hT : fT (xt n) ps true = [123] ++ pT (xt n) ps j ++ ([] ++ [46, 46, 46]) ++ [125] := by unfold fT; rw [HM.out, if_pos rfl, if_pos h0]
          have HT := Lib.hid hT
          clear hT h0
          go_wp2_with fail
          go_ret
          refine ⟨?_, HEND.out⟩
          rw [HT.out, ← cat_bs, ← cat_bs, ← cat_bs, ← cat_bs]
          show Ending.returned (.string (bs [123] ++ (bs (pT (xt n) ps j) ++ bs [46, 46, 46]) ++ bs [125])) = Ending.returned (.string (bs [123] ++ bs (pT (xt n) ps j) ++ bs [46, 46, 46] ++ bs [125]))
          simp only [cat_bs, List.append_assoc]
        · have hj1 : (0 : Int) < (j : Int) := by omega
          have hT : fT (xt n) ps true = [123] ++ pT (xt n) ps j ++ ([32] ++ [46, 46, 46]) ++ [125] := by unfold fT; rw [HM.out, if_pos rfl, if_neg h0]
          have HT := Lib.hid hT
          clear hT h0
          have hpl2 : (bs (pT (xt n) ps j) ++ ⟨#[32]⟩).size ≤ 1099511627777 := by rw [ByteArray.size_append]; show _ + 1 ≤ _; omega
          go_wp2_with fail
          go_ret
          refine ⟨?_, HEND.out⟩
          rw [HT.out]
          show Ending.returned (.string (bs [123] ++ (bs (pT (xt n) ps j) ++ bs [32] ++ bs [46, 46, 46]) ++ bs [125])) = _
          simp only [cat_bs, List.append_assoc]
      | false =>
        have hT : fT (xt n) ps false = [123] ++ pT (xt n) ps j ++ [] ++ [125] := by unfold fT; rw [HM.out, if_neg (by decide)]
        have HT := Lib.hid hT
        clear hT
        go_wp2_with fail
        go_ret
        refine ⟨?_, HEND.out⟩
        rw [HT.out]
        show Ending.returned (.string (bs [123] ++ bs (pT (xt n) ps j) ++ bs [125])) = _
        simp only [cat_bs, List.append_assoc, List.nil_append]
end Go.Proofs.YtlpilbghblbpbaaDoor.Sw
/- WALK of the reference's Of: what has kids; all levels. -/
namespace Go.Proofs.YtlpilbghblbpbaaDoor.Sw
open Go.RowKit
open Lx (bs bl_alloc bl_step)
theorem InX.op {w : World} : ∀ {n : Nat} {h : Hd} {x : Ex}, InX w n h x → h.op = x.op
  | 0, _, _, h => h.elim
  | _ + 1, _, .mk _ _ _ _ _ _ _, ⟨h1, _⟩ => h1
set_option maxRecDepth 100000 in
set_option maxHeartbeats 8000000 in
theorem rof_kids (w0 : World) (n : Nat) (hA : RAsk w0 n) (r : Nat) (hop : r = 11 ∨ r = 12 ∨ r = 13 ∨ r = 14 ∨ r = 15) (nn : Int) (s : ByteArray) (p : Option Addr) (pl pc : Nat) (q : Option Addr) (ql qc : Nat) (o : Bool) (k : Option Addr) (m kc : Nat) (ks : List Ex) (w : World) (hk : InKs (InX w0 n) w0 k m ks) (hr : ∀ y ∈ ks, rightB n y = true) (hb : Below w0.heap.size w0 w) (hl : (kT (xt n) r ks ks.length).length ≤ 1099511627776) :
    Calls Tryd.prog 15 #[.agg #[.int .i64 r, .int .i64 nn, .string s, .slice p pl pc, .slice q ql qc, .bool o, .slice k m kc]] w (TxP (bs (kT (xt n) r ks ks.length)) w) := by
  have hm := hk.count
  have hmm := hk.max
  rw [hm] at hl ⊢
  have hopi : (r : Int) = 11 ∨ (r : Int) = 12 ∨ (r : Int) = 13 ∨ (r : Int) = 14 ∨ (r : Int) = 15 := by omega
  have HOPI := Lib.hid hopi
  have HA := Lib.hid hA
  have HP := Lib.hid hk
  have HR := Lib.hid hr
  have HB0 := Lib.hid hb
  have HM := Lib.hid hm
  have HE := Lib.hid (World.alloc_heap_new w (.cells #[.int .i64 r, .int .i64 nn, .string s, .slice p pl pc, .slice q ql qc, .bool o, .slice k m kc] 38))
  have HB1 := Lib.hid (bl_alloc (o := .cells #[.int .i64 r, .int .i64 nn, .string s, .slice p pl pc, .slice q ql qc, .bool o, .slice k m kc] 38) (Below.refl w.heap.size w))
  have HSG := Lib.hid (fun W => rsign_any (r : Int) W hopi)
  have hn : ∀ c : Int, c = 1 ∨ c = 2 ∨ c = 3 ∨ c = 4 ∨ c = 5 ∨ c = 6 ∨ c = 7 ∨ c = 8 ∨ c = 9 ∨ c = 10 → ((r : Int) == c) = false := fun c hc => by simp; omega
  have n1 := hn 1 (by omega)
  have n2 := hn 2 (by omega)
  have n3 := hn 3 (by omega)
  have n4 := hn 4 (by omega)
  have n5 := hn 5 (by omega)
  have n6 := hn 6 (by omega)
  have n7 := hn 7 (by omega)
  have n8 := hn 8 (by omega)
  have n9 := hn 9 (by omega)
  have n10 := hn 10 (by omega)
  obtain ⟨W1, hW1⟩ : ∃ W, w.alloc (.cells #[.int .i64 r, .int .i64 nn, .string s, .slice p pl pc, .slice q ql qc, .bool o, .slice k m kc] 38) = W := ⟨_, rfl⟩
  rw [hW1] at HE HB1
  have HW1 := Lib.hid hW1
  clear hA hk hr hb hm hop hopi hn hW1
  go_enter Tryd.func15, Tryd.ntmps15
  have f := bxc (World.alloc_heap_new w (.cells #[.int .i64 r, .int .i64 nn, .string s, .slice p pl pc, .slice q ql qc, .bool o, .slice k m kc] 38))
  go_wp2_with fail
  rw [HW1.out]
  clear f n1 n2 n3 n4 n5 n6 n7 n8 n9 n10
  go_loopw [3, 5] (fun t i wr => ∃ j : Nat, j ≤ m ∧ i = .int .i64 j ∧ t = .string (bs (kT (xt n) r ks j)) ∧ Hid (Below W1.heap.size W1 wr)) (fun _ i _ => m - (intOf i).toNat)
  case atStart => exact ⟨0, Nat.zero_le _, rfl, rfl, Lib.hid (Below.refl _ _)⟩
  case round =>
    obtain ⟨j, hj, rfl, rfl, hB⟩ := hrel
    rename World => wr
    have HEr := Lib.hid ((hB.out.block _ (Array.getElem?_eq_some_iff.1 HE.out).1).trans HE.out)
    have f := bxc HEr.out
    have hpl : (bs (kT (xt n) r ks j)).size ≤ 1099511627776 := by rw [size_bs]; exact Nat.le_trans (kT_le (xt n) r ks hj) (by omega)
    by_cases hlt : j < m
    · have hki : (j : Int) < (m : Int) := by omega
      have hk0 : (0 : Int) ≤ (j : Int) := by omega
      have hjx : j < ks.length := by rw [HM.out]; exact hlt
      have HBr := Lib.hid (bl_step HB0.out (bl_step HB1.out hB.out))
      obtain ⟨b1, off, hd, rfl, lt1, hx1, hI1⟩ := HP.out.at_ j hjx
      have hstep := kT_step (xt n) r hjx
      have hle : (kT (xt n) r ks (j + 1)).length ≤ (kT (xt n) r ks m).length := kT_le (xt n) r ks hlt
      have hry := HR.out _ (List.getElem_mem hjx)
      rw [hstep, List.length_append] at hle
      generalize ks[j] = x at hI1 hstep hle hry
      have hxk : (xt n x).length ≤ (kp (xt n) r j x).length := by
        unfold kp br
        split <;> split <;> simp only [List.length_append, List.length_cons, List.length_nil] <;> omega
      have xh := hx1.below HBr.out lt1
      have LT1 := Lib.hid (Nat.lt_of_lt_of_le lt1 HBr.out.size)
      have LTE := Lib.hid (Array.getElem?_eq_some_iff.1 HEr.out).1
      have KC2 : Hid (∀ W, Below wr.heap.size wr W → Calls Tryd.prog 15 #[hd.agg] W fun e w' => e = .returned (.string (bs (xt n x))) ∧ Below wr.heap.size wr w') := Lib.hid fun W hW => (HA.out hd x W hI1 hry (bl_step HBr.out hW) (by omega)).mono fun _ _ ⟨a, b⟩ => ⟨a, bl_step hW b⟩
      have hox := InX.op hI1
      obtain ⟨yop, yn, ys, yp, ypl, ypc, yq, yql, yqc, yo, yk, ykl, ykc⟩ := hd
      dsimp only at hox
      have HOP := Lib.hid hox
      have VX : Hid (∀ W, Below wr.heap.size wr W → W.cell? ⟨w.heap.size, 0, none⟩ = some (.int .i64 (r : Int)) ∧ W.cell? ⟨w.heap.size, 6, none⟩ = some (.slice (some ⟨b1, off, none⟩) m kc) ∧ HdAt W b1 (off + j * 7) ⟨yop, yn, ys, yp, ypl, ypc, yq, yql, yqc, yo, yk, ykl, ykc⟩) := Lib.hid fun W hW =>
        ⟨(hW.cell (p := ⟨w.heap.size, 0, none⟩) LTE.out).trans (f 0), (hW.cell (p := ⟨w.heap.size, 6, none⟩) LTE.out).trans (f 6), xh.below hW LT1.out⟩
      have KB : Hid (∀ W, Below wr.heap.size wr W → Calls Tryd.prog 32 #[.int .i64 (r : Int), .int .i64 j, .int .i64 yop] W fun e w' => e = .returned (.bool (decide (bnd yop < lst (r : Int) j))) ∧ Below wr.heap.size wr w') := Lib.hid fun W hW => (rbrack_any (r : Int) j yop W HOPI.out).mono fun _ _ ⟨a, b⟩ => ⟨a, b ▸ hW⟩
      have hxl : (bs (xt n x)).size ≤ 1099511627776 := by rw [size_bs]; omega
      have HST := Lib.hid hstep
      unfold Hd.agg at KC2
      dsimp only at KC2
      clear xh hx1 hI1 hry lt1 hstep hle hxk hox
      by_cases hj0 : j = 0
      · have hj1 : ¬ (0 : Int) < (j : Int) := by omega
        have HJ := Lib.hid hj0
        clear hj0
        go_upto_region 40 with fail
        clear f
        refine region_class (C := fun W => Below wr.heap.size wr W) (by kernel_rfl) (by kernel_rfl) ((Below.refl _ _).drew) ?_
        repeat (first | go_big_quiet_skip | (go_big_quiet_want; go_big_quiet_op; first | go_big_quiet_on | (apply Exists.intro; refine ⟨fun W hW => ?_, ?_⟩; (first | rfl | exact (KB.out W hW) | (obtain ⟨e0, e6, ⟨c0, c1, c2, c3, c4, c5, c6⟩⟩ := VX.out W hW; dsimp only at c0 c1 c2 c3 c4 c5 c6; go_simp; first | done | rfl | exact ⟨rfl, rfl⟩)); go_big_quiet_on)))
        refine wpQuiet_nil ?_
        intro w9 hW9
        obtain ⟨e0, e6, ⟨c0, c1, c2, c3, c4, c5, c6⟩⟩ := VX.out w9 hW9
        dsimp only at c0 c1 c2 c3 c4 c5 c6
        have HK9 := Lib.hid (KC2.out w9 hW9)
        by_cases hbk : bnd yop < lst (r : Int) j
        · have hbd : decide (bnd yop < lst (r : Int) j) = true := decide_eq_true hbk
          have hkp : kp (xt n) r j x = [] ++ ([40] ++ xt n x ++ [41]) := by
            unfold kp br
            rw [HOP.out] at hbk
            rw [if_pos HJ.out, if_pos hbk]
          have HKP := Lib.hid hkp
          have hp4 : (bs (kT (xt n) r ks j) ++ ⟨#[40]⟩).size ≤ 1099511627780 := by
            rw [ByteArray.size_append]
            show _ + 1 ≤ _
            omega
          rw [hbd]
          clear hkp hbd hbk
          go_wp2_with (go_at_call 15; refine HK9.out.mono ?_; rintro e w10 ⟨rfl, hb10⟩; have HB10 := Lib.hid hb10; clear hb10)
          go_roundw
          case rel => exact ⟨j + 1, by omega, by go_num, by rw [HST.out, HKP.out]; show Value.string (bs (kT (xt n) r ks j) ++ bs [40] ++ bs (xt n x) ++ bs [41]) = _; simp only [cat_bs, List.append_assoc, List.nil_append], Lib.hid (bl_step hB.out HB10.out)⟩
          case measure => simp [intOf]; omega
        · have hbd : decide (bnd yop < lst (r : Int) j) = false := decide_eq_false hbk
          have hkp : kp (xt n) r j x = [] ++ xt n x := by
            unfold kp br
            rw [HOP.out] at hbk
            rw [if_pos HJ.out, if_neg hbk]
          have HKP := Lib.hid hkp
          rw [hbd]
          clear hkp hbd hbk
          go_wp2_with (go_at_call 15; refine HK9.out.mono ?_; rintro e w10 ⟨rfl, hb10⟩; have HB10 := Lib.hid hb10; clear hb10)
          go_roundw
          case rel => exact ⟨j + 1, by omega, by go_num, by rw [HST.out, HKP.out]; show Value.string (bs (kT (xt n) r ks j) ++ bs (xt n x)) = _; simp only [cat_bs, List.nil_append], Lib.hid (bl_step hB.out HB10.out)⟩
          case measure => simp [intOf]; omega
      · have hj1 : (0 : Int) < (j : Int) := by omega
        have HJ := Lib.hid hj0
        have hsz : (bs [32, sgn (r : Int), 32]).size = 3 := rfl
        have hpl2 : (bs (kT (xt n) r ks j) ++ bs [32, sgn (r : Int), 32]).size ≤ 1099511627779 := by rw [ByteArray.size_append, hsz]; omega
        clear hj0
        go_upto_region 40 with (go_at_call 31; refine (HSG.out _).mono ?_; rintro e w7 ⟨rfl, rfl⟩)
        clear f
        refine region_class (C := fun W => Below wr.heap.size wr W) (by kernel_rfl) (by kernel_rfl) ((Below.refl _ _).drew) ?_
        repeat (first | go_big_quiet_skip | (go_big_quiet_want; go_big_quiet_op; first | go_big_quiet_on | (apply Exists.intro; refine ⟨fun W hW => ?_, ?_⟩; (first | rfl | exact (KB.out W hW) | (obtain ⟨e0, e6, ⟨c0, c1, c2, c3, c4, c5, c6⟩⟩ := VX.out W hW; dsimp only at c0 c1 c2 c3 c4 c5 c6; go_simp; first | done | rfl | exact ⟨rfl, rfl⟩)); go_big_quiet_on)))
        refine wpQuiet_nil ?_
        intro w9 hW9
        obtain ⟨e0, e6, ⟨c0, c1, c2, c3, c4, c5, c6⟩⟩ := VX.out w9 hW9
        dsimp only at c0 c1 c2 c3 c4 c5 c6
        have HK9 := Lib.hid (KC2.out w9 hW9)
        by_cases hbk : bnd yop < lst (r : Int) j
        · have hbd : decide (bnd yop < lst (r : Int) j) = true := decide_eq_true hbk
          have hkp : kp (xt n) r j x = [32, sgn r, 32] ++ ([40] ++ xt n x ++ [41]) := by
            unfold kp br
            rw [HOP.out] at hbk
            rw [if_neg HJ.out, if_pos hbk]
          have HKP := Lib.hid hkp
          have hp4 : ((bs (kT (xt n) r ks j) ++ bs [32, sgn r, 32]) ++ ⟨#[40]⟩).size ≤ 1099511627780 := by
            rw [ByteArray.size_append, ByteArray.size_append, size_bs [32, sgn r, 32]]
            show _ + 1 ≤ _
            show _ + 3 + 1 ≤ _; omega
          rw [hbd]
          clear hkp hbd hbk
          go_wp2_with (go_at_call 15; refine HK9.out.mono ?_; rintro e w10 ⟨rfl, hb10⟩; have HB10 := Lib.hid hb10; clear hb10)
          go_roundw
          case rel => exact ⟨j + 1, by omega, by go_num, by rw [HST.out, HKP.out]; show Value.string (bs (kT (xt n) r ks j) ++ bs [32, sgn r, 32] ++ bs [40] ++ bs (xt n x) ++ bs [41]) = _; simp only [cat_bs, List.append_assoc], Lib.hid (bl_step hB.out HB10.out)⟩
          case measure => simp [intOf]; omega
        · have hbd : decide (bnd yop < lst (r : Int) j) = false := decide_eq_false hbk
          have hkp : kp (xt n) r j x = [32, sgn r, 32] ++ xt n x := by
            unfold kp br
            rw [HOP.out] at hbk
            rw [if_neg HJ.out, if_neg hbk]
          have HKP := Lib.hid hkp
          rw [hbd]
          clear hkp hbd hbk
          go_wp2_with (go_at_call 15; refine HK9.out.mono ?_; rintro e w10 ⟨rfl, hb10⟩; have HB10 := Lib.hid hb10; clear hb10)
          go_roundw
          case rel => exact ⟨j + 1, by omega, by go_num, by rw [HST.out, HKP.out]; show Value.string (bs (kT (xt n) r ks j) ++ bs [32, sgn r, 32] ++ bs (xt n x)) = _; simp only [cat_bs, List.append_assoc], Lib.hid (bl_step hB.out HB10.out)⟩
          case measure => simp [intOf]; omega
    · obtain rfl : j = m := by omega
      have hki : ¬ ((j : Int) < (j : Int)) := by omega
      have HEND := Lib.hid (bl_step HB1.out hB.out)
      go_wp2_with fail
      go_ret
      exact ⟨rfl, HEND.out⟩
end Go.Proofs.YtlpilbghblbpbaaDoor.Sw
/- WALK of the reference's Of: all levels. -/
namespace Go.Proofs.YtlpilbghblbpbaaDoor.Sw
open Go.RowKit
open Lx (bs bl_alloc bl_step)
/-- The reference's Text writes right paths. -/
def RNText (w0 : World) : Prop := ∀ (a : Option Addr) (n c : Nat) (path : List ByteArray), Nm.StrRow w0 a n path → Nm.pathB path = true → ∀ W, Below w0.heap.size w0 W → Calls Tryd.prog 30 #[.slice a n c] W (TxP (bs (pathT path)) W)
theorem rask_step (w0 : World) (n : Nat) (hN : RNText w0) (hA : RAsk w0 n) : RAsk w0 (n + 1) := by
  intro h x w hx hr hb hlen
  obtain ⟨op, nn, s, p, pl, pc, q, ql, qc, o, k, kl, kc⟩ := h
  obtain ⟨op', nn', s', path, ps, o', ks⟩ := x
  obtain ⟨h1, h2, h3, h4, -, hp, hps, hks⟩ := hx
  dsimp only at h1 h2 h3 h4 hp hps hks
  subst h1 h2 h3 h4
  obtain ⟨hown, hparts⟩ := right_step hr
  rcases own_ops hown with ⟨hop, hn⟩ | ⟨rfl, hn⟩ | ⟨rfl, hn⟩ | ⟨rfl, hn⟩ | rfl | rfl | ⟨rfl, hn⟩ | ⟨rfl, -, -⟩ | ⟨hop, -⟩
  · rcases hop with rfl | rfl | rfl
    · exact rof_int nn s p pl pc q ql qc o k kl kc w hn
    · exact rof_least nn s p pl pc q ql qc o k kl kc w hn
    · exact rof_most nn s p pl pc q ql qc o k kl kc w hn
  · exact rof_text nn s p pl pc q ql qc o k kl kc w hn
  · rcases hn with rfl | rfl
    · exact rof_bool0 s p pl pc q ql qc o k kl kc w
    · exact rof_bool1 s p pl pc q ql qc o k kl kc w
  · exact rof_kind nn s p pl pc q ql qc o k kl kc w hn
  · exact rof_none nn s p pl pc q ql qc o k kl kc w
  · exact rof_later nn s p pl pc q ql qc o k kl kc w
  · exact rof_path nn s p pl pc q ql qc o k kl kc w w0 path hb (hN p pl pc path hp hn)
  · exact rof_struct w0 n hA nn s p pl pc q ql qc o k kl kc ps w hps (fun y hy => hparts y.2 (List.mem_map.2 ⟨y, hy, rfl⟩)) hb hlen
  · have hnt : ¬ op = 10 := by omega
    have hpk : ∀ y ∈ ks, rightB n y = true := fun y hy => hparts y (by
      show y ∈ (if op = 10 then ps.map (·.2) else ks)
      rw [if_neg hnt]; exact hy)
    obtain ⟨r, rfl⟩ : ∃ r : Nat, op = (r : Int) := ⟨op.toNat, by omega⟩
    have hb5 : ¬ bnd (r : Int) = 5 := by rcases hop with e | e | e | e | e <;> rw [e] <;> decide
    have hx : xt (n + 1) (.mk (r : Int) nn s path ps o ks) = kT (xt n) r ks ks.length := if_neg hb5
    rw [hx] at hlen ⊢
    exact rof_kids w0 n hA r (by omega) nn s p pl pc q ql qc o k kl kc ks w hks hpk hb hlen
/-- The reference's Of writes any right expression's text. -/
theorem rask_all (w0 : World) (hN : RNText w0) : ∀ n, RAsk w0 n
  | 0 => fun _ _ _ hx => hx.elim
  | n + 1 => rask_step w0 n hN (rask_all w0 hN n)
end Go.Proofs.YtlpilbghblbpbaaDoor.Sw
