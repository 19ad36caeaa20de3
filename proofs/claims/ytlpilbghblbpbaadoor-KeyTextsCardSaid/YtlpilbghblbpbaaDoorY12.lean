/- Vn, Vo, Vp -/
import Derived.Test.YtlpilbghblbpbaaDoorY11
/- WALK of show's expr: all levels. -/
namespace Go.Proofs.YtlpilbghblbpbaaDoor.Sw
open Go.RowKit
open Lx (bs bl_alloc bl_step)
/-- name.Text writes right paths. -/
def NText (w0 : World) : Prop := ∀ (a : Option Addr) (n c : Nat) (path : List ByteArray), Nm.StrRow w0 a n path → n ≤ c → Nm.pathB path = true → ∀ W, Below w0.heap.size w0 W → Calls Tryd.prog 48 #[.slice a n c] W fun e w' => e = .returned (.tuple #[.string (bs (pathT path)), .bool true]) ∧ Below W.heap.size W w'
/-- What is asked for inside an expression, behind its brackets. -/
def Inner (w0 : World) (B b : Nat) (z : Int) (v : Value) (X : List UInt8) : Prop := ∀ (T : List UInt8) (W : World), Below w0.heap.size w0 W → WB B b T W → T.length + X.length ≤ 140737488355328 → (z = 5 → Calls Tryd.prog 36 #[.pointer (some ⟨b, 0, none⟩), v] W (WP B b (T ++ X) W)) ∧ (¬ z = 5 → Calls Tryd.prog 37 #[.pointer (some ⟨b, 0, none⟩), v] W (WP B b (T ++ X) W))
set_option maxRecDepth 100000 in
set_option maxHeartbeats 4000000 in
theorem expr_low (w0 : World) (B b : Nat) (hS : SE w0) (r : Nat) (hr1 : 1 ≤ r) (hr2 : r ≤ 15) (nn : Int) (s : ByteArray) (p : Option Addr) (pl pc : Nat) (q : Option Addr) (ql qc : Nat) (o : Bool) (k : Option Addr) (kl kc : Nat) (X : List UInt8) (hI : Inner w0 B b (bnd r) (.agg #[.int .i64 r, .int .i64 nn, .string s, .slice p pl pc, .slice q ql qc, .bool o, .slice k kl kc]) X) (least : Int) (hle : ¬ bnd r < least) (T : List UInt8) (w : World) (hb : Below w0.heap.size w0 w) (hw : WB B b T w) (hl : T.length + X.length ≤ 140737488355328) :
    Calls Tryd.prog 22 #[.pointer (some ⟨b, 0, none⟩), .agg #[.int .i64 r, .int .i64 nn, .string s, .slice p pl pc, .slice q ql qc, .bool o, .slice k kl kc], .int .i64 least] w (WP B b (T ++ X) w) := by
  have hbs := hw.lt
  have HB1 := Lib.hid (bl_alloc (o := .cells #[.int .i64 r, .int .i64 nn, .string s, .slice p pl pc, .slice q ql qc, .bool o, .slice k kl kc] 38) (Below.refl w.heap.size w))
  have hb1 := hb.trans (HB1.out.mono hb.size)
  have f := bxc (World.alloc_heap_new w (.cells #[.int .i64 r, .int .i64 nn, .string s, .slice p pl pc, .slice q ql qc, .bool o, .slice k kl kc] 38))
  have hg0 := (hS.below hb1).bi r hr1 hr2
  obtain ⟨h5, h6⟩ := hI T _ hb1 (hw.below HB1.out) hl
  have hr0 : (0 : Int) ≤ (r : Int) := by omega
  have hr16 : (r : Int) < 16 := by omega
  generalize bnd (r : Int) = z at hg0 h5 h6 hle
  clear hI hS hw hb hb1 hl
  by_cases hz : z = 5
  · have HF := Lib.hid (h5 hz)
    have hz5 : (z == 5) = true := by simpa using hz
    clear h5 h6 hz
    go_enter Tryd.func22, Tryd.ntmps22
    go_wp2_with (go_at_call 36; refine HF.out.mono ?_; rintro e w4 ⟨rfl, hw4, hr4⟩; have HW4 := Lib.hid hw4; have HR4 := Lib.hid hr4; clear hw4 hr4)
    go_end0
    exact ⟨rfl, HW4.out, (Wr.of HB1.out (by omega)).trans HR4.out⟩
  · have HF := Lib.hid (h6 hz)
    have hz5 : (z == 5) = false := by simpa using hz
    clear h5 h6 hz
    go_enter Tryd.func22, Tryd.ntmps22
    go_wp2_with (go_at_call 37; refine HF.out.mono ?_; rintro e w4 ⟨rfl, hw4, hr4⟩; have HW4 := Lib.hid hw4; have HR4 := Lib.hid hr4; clear hw4 hr4)
    go_end0
    exact ⟨rfl, HW4.out, (Wr.of HB1.out (by omega)).trans HR4.out⟩
set_option maxRecDepth 100000 in
set_option maxHeartbeats 4000000 in
theorem expr_high (w0 : World) (B b : Nat) (hB : w0.heap.size ≤ B) (hS : SE w0) (r : Nat) (hr1 : 1 ≤ r) (hr2 : r ≤ 15) (nn : Int) (s : ByteArray) (p : Option Addr) (pl pc : Nat) (q : Option Addr) (ql qc : Nat) (o : Bool) (k : Option Addr) (kl kc : Nat) (X : List UInt8) (hI : Inner w0 B b (bnd r) (.agg #[.int .i64 r, .int .i64 nn, .string s, .slice p pl pc, .slice q ql qc, .bool o, .slice k kl kc]) X) (least : Int) (hle : bnd r < least) (T : List UInt8) (w : World) (hb : Below w0.heap.size w0 w) (hw : WB B b T w) (hl : T.length + ([40] ++ X ++ [41]).length ≤ 140737488355328) :
    Calls Tryd.prog 22 #[.pointer (some ⟨b, 0, none⟩), .agg #[.int .i64 r, .int .i64 nn, .string s, .slice p pl pc, .slice q ql qc, .bool o, .slice k kl kc], .int .i64 least] w (WP B b (T ++ ([40] ++ X ++ [41])) w) := by
  simp only [List.length_append, List.length_cons, List.length_nil] at hl
  have hbs := hw.lt
  have HW := Lib.hid hw
  have HB0 := Lib.hid hb
  have HB1 := Lib.hid (bl_alloc (o := .cells #[.int .i64 r, .int .i64 nn, .string s, .slice p pl pc, .slice q ql qc, .bool o, .slice k kl kc] 38) (Below.refl w.heap.size w))
  have hb1 := hb.trans (HB1.out.mono hb.size)
  have HE := Lib.hid (World.alloc_heap_new w (.cells #[.int .i64 r, .int .i64 nn, .string s, .slice p pl pc, .slice q ql qc, .bool o, .slice k kl kc] 38))
  have f := bxc HE.out
  have hg0 := (hS.below hb1).bi r hr1 hr2
  have HL := Lib.hid (expr_low w0 B b hS r hr1 hr2 nn s p pl pc q ql qc o k kl kc X hI 1 (by have := bnd_pos (r : Int); omega))
  have hr0 : (0 : Int) ≤ (r : Int) := by omega
  have hr16 : (r : Int) < 16 := by omega
  have P1 := Lib.hid (Nat.le_refl 0)
  generalize bnd (r : Int) = z at hg0 hle
  clear hI hS hw hb hb1
  go_enter Tryd.func22, Tryd.ntmps22
  go_wp2_with (first
    | (go_at_call 35; clear P1; refine (put1 (World.size_alloc _ _) (HW.out.below HB1.out) (by simp only [Lib.toList_data, List.length_cons, List.length_nil]; omega)).mono ?_; rintro e w2 ⟨rfl, hw2, hr2⟩; have HW2 := Lib.hid hw2; have HR2 := Lib.hid ((Wr.of HB1.out (by omega)).trans hr2); have HE2 := Lib.hid (hr2.keep HE.out (by decide) (by decide)); clear f; have f := bxc HE2.out; clear hw2 hr2)
    | (go_at_call 22; refine (HL.out _ _ (Wr.low HB0.out HR2.out hB) HW2.out (by simp only [Lib.toList_data, List.length_append, List.length_cons, List.length_nil]; omega)).mono ?_; rintro e w3 ⟨rfl, hw3, hr3⟩; have HW3 := Lib.hid hw3; have HR3 := Lib.hid (HR2.out.trans hr3); clear hw3 hr3 f)
    | (go_at_call 35; refine (put1 rfl HW3.out (by simp only [Lib.toList_data, List.length_append, List.length_cons, List.length_nil]; omega)).mono ?_; rintro e w4 ⟨rfl, hw4, hr4⟩; have HW4 := Lib.hid hw4; have HR4 := Lib.hid (HR3.out.trans hr4); clear hw4 hr4))
  go_end0
  refine ⟨rfl, ?_, HR4.out⟩
  have h4 := HW4.out
  simp only [Lib.toList_data, List.append_assoc] at h4 ⊢
  exact h4
theorem ask_step (w0 : World) (B b n : Nat) (hB : w0.heap.size ≤ B) (hS : SE w0) (hN : NText w0) (hA : Ask w0 B b n) : Ask w0 B b (n + 1) := by
  intro h x least T w hx hcp hr hl hb hw hlen
  obtain ⟨op, nn, s, p, pl, pc, q, ql, qc, o, k, kl, kc⟩ := h
  obtain ⟨op', nn', s', path, ps, o', ks⟩ := x
  obtain ⟨h1, h2, h3, h4, -, hp, hps, hks⟩ := hx
  obtain ⟨hc1, hc2, hc3⟩ := hcp
  dsimp only at h1 h2 h3 h4 hp hps hks hc1 hc2 hc3
  subst h1 h2 h3 h4
  obtain ⟨hown, hparts⟩ := right_step hr
  have key : ∃ r : Nat, op = (r : Int) ∧ 1 ≤ r ∧ r ≤ 15 ∧ Inner w0 B b (bnd op) (Hd.agg ⟨op, nn, s, p, pl, pc, q, ql, qc, o, k, kl, kc⟩) (xt (n + 1) (.mk op nn s path ps o ks)) := by
    rcases own_ops hown with ⟨hop, hn⟩ | ⟨rfl, hn⟩ | ⟨rfl, hn⟩ | ⟨rfl, hn⟩ | rfl | rfl | ⟨rfl, hn⟩ | ⟨rfl, hn, -⟩ | ⟨hop, hn⟩
    · rcases hop with rfl | rfl | rfl
      · exact ⟨1, rfl, by decide, by decide, fun T W hW hwb hlen => ⟨fun _ => unit_int B b nn s p pl pc q ql qc o k kl kc T W hn hwb hlen, fun hc => absurd rfl hc⟩⟩
      · exact ⟨7, rfl, by decide, by decide, fun T W hW hwb hlen => ⟨fun _ => unit_least B b nn s p pl pc q ql qc o k kl kc T W hn hwb hlen, fun hc => absurd rfl hc⟩⟩
      · exact ⟨8, rfl, by decide, by decide, fun T W hW hwb hlen => ⟨fun _ => unit_most B b nn s p pl pc q ql qc o k kl kc T W hn hwb hlen, fun hc => absurd rfl hc⟩⟩
    · exact ⟨2, rfl, by decide, by decide, fun T W hW hwb hlen => ⟨fun _ => unit_text B b nn s p pl pc q ql qc o k kl kc T W hn hwb hlen, fun hc => absurd rfl hc⟩⟩
    · exact ⟨3, rfl, by decide, by decide, fun T W hW hwb hlen => ⟨fun _ => unit_bool w0 B b hS nn s p pl pc q ql qc o k kl kc T W hn hW hwb hlen, fun hc => absurd rfl hc⟩⟩
    · exact ⟨4, rfl, by decide, by decide, fun T W hW hwb hlen => ⟨fun _ => unit_kind w0 B b hS nn s p pl pc q ql qc o k kl kc T W hn hW hwb hlen, fun hc => absurd rfl hc⟩⟩
    · exact ⟨5, rfl, by decide, by decide, fun T W hW hwb hlen => ⟨fun _ => unit_none B b nn s p pl pc q ql qc o k kl kc T W hwb hlen, fun hc => absurd rfl hc⟩⟩
    · exact ⟨6, rfl, by decide, by decide, fun T W hW hwb hlen => ⟨fun _ => unit_later B b nn s p pl pc q ql qc o k kl kc T W hwb hlen, fun hc => absurd rfl hc⟩⟩
    · exact ⟨9, rfl, by decide, by decide, fun T W hW hwb hlen => ⟨fun _ => unit_path w0 B b nn s p pl pc q ql qc o k kl kc T W path (hN p pl pc path hp hc1 hn) hW hwb hlen, fun hc => absurd rfl hc⟩⟩
    · have hpp : ∀ y ∈ ps, rightB n y.2 = true := fun y hy => hparts y.2 (List.mem_map.2 ⟨y, hy, rfl⟩)
      exact ⟨10, rfl, by decide, by decide, fun T W hW hwb hlen => ⟨fun _ => unit_struct w0 B b n hB hA nn s p pl pc q ql qc o k kl kc ps T W hps hc2 hpp hn hW hwb hlen, fun hc => absurd rfl hc⟩⟩
    · have hnt : ¬ op = 10 := by omega
      have hpk : ∀ y ∈ ks, rightB n y = true := fun y hy => hparts y (by
        show y ∈ (if op = 10 then ps.map (·.2) else ks)
        rw [if_neg hnt]; exact hy)
      obtain ⟨r, rfl⟩ : ∃ r : Nat, op = (r : Int) := ⟨op.toNat, by omega⟩
      have hb5 : ¬ bnd (r : Int) = 5 := by rcases hop with e | e | e | e | e <;> rw [e] <;> decide
      refine ⟨r, rfl, by omega, by omega, fun T W hW hwb hlen => ⟨fun hc => absurd hc hb5, fun _ => ?_⟩⟩
      have hx : xt (n + 1) (.mk (r : Int) nn s path ps o ks) = kT (xt n) r ks ks.length := if_neg hb5
      rw [hx] at hlen ⊢
      exact kids_any w0 B b n hB hS hA r (by omega) (by omega) nn s p pl pc q ql qc o k kl kc ks T W hks hc3 hpk hn hW hwb hlen
  obtain ⟨r, rfl, hr1, hr2, hI⟩ := key
  unfold br at hlen ⊢
  by_cases hc : bnd (r : Int) < least
  · have e : bnd (Ex.op (.mk (r : Int) nn s path ps o ks)) < least := hc
    rw [if_pos e] at hlen ⊢
    exact expr_high w0 B b hB hS r hr1 hr2 nn s p pl pc q ql qc o k kl kc _ hI least hc T w hb hw hlen
  · have e : ¬ bnd (Ex.op (.mk (r : Int) nn s path ps o ks)) < least := hc
    rw [if_neg e] at hlen ⊢
    exact expr_low w0 B b hS r hr1 hr2 nn s p pl pc q ql qc o k kl kc _ hI least hc T w hb hw hlen
/-- expr writes any right expression's text. -/
theorem ask_all (w0 : World) (B b : Nat) (hB : w0.heap.size ≤ B) (hS : SE w0) (hN : NText w0) : ∀ n, Ask w0 B b n
  | 0 => fun _ _ _ _ _ hx => hx.elim
  | n + 1 => ask_step w0 B b n hB hS hN (ask_all w0 B b hB hS hN n)
end Go.Proofs.YtlpilbghblbpbaaDoor.Sw
/- WALKS of the reference's kind, sign, bracketed. -/
namespace Go.Proofs.YtlpilbghblbpbaaDoor.Sw
open Go.RowKit
open Lx (bs)
theorem rkind_any (m : Int) (w : World) (hm : m = 1 ∨ m = 2 ∨ m = 3 ∨ m = 5) : Calls Tryd.prog 29 #[.int .i64 m] w fun e w' => e = .returned (.string (bs (kindT m))) ∧ w = w' := by
  rcases hm with rfl | rfl | rfl | rfl
  all_goals
    go_enter Tryd.func29, Tryd.ntmps29
    go_wp2
    go_ret
    exact ⟨rfl, rfl⟩
theorem rsign_any (op : Int) (w : World) (hop : op = 11 ∨ op = 12 ∨ op = 13 ∨ op = 14 ∨ op = 15) : Calls Tryd.prog 31 #[.int .i64 op] w fun e w' => e = .returned (.string (bs [32, sgn op, 32])) ∧ w = w' := by
  rcases hop with rfl | rfl | rfl | rfl | rfl
  all_goals
    go_enter Tryd.func31, Tryd.ntmps31
    go_wp2
    go_ret
    exact ⟨rfl, rfl⟩
set_option maxHeartbeats 4000000 in
theorem rbrack_any (op : Int) (j : Nat) (kid : Int) (w : World) (hop : op = 11 ∨ op = 12 ∨ op = 13 ∨ op = 14 ∨ op = 15) : Calls Tryd.prog 32 #[.int .i64 op, .int .i64 j, .int .i64 kid] w fun e w' => e = .returned (.bool (decide (bnd kid < lst op j))) ∧ w = w' := by
  have hk : (kid = 12 ∨ kid = 11 ∨ kid = 13 ∨ kid = 14 ∨ kid = 15) ∨ ((kid == 12) = false ∧ (kid == 11) = false ∧ (kid == 13) = false ∧ (kid == 14) = false ∧ (kid == 15) = false ∧ bnd kid = 5) := by
    by_cases h : kid = 12 ∨ kid = 11 ∨ kid = 13 ∨ kid = 14 ∨ kid = 15
    · exact .inl h
    · refine .inr ⟨by simp; omega, by simp; omega, by simp; omega, by simp; omega, by simp; omega, ?_⟩
      unfold bnd
      rw [if_neg (by omega), if_neg (by omega), if_neg (by omega), if_neg (by omega)]
  by_cases hj : j = 0
  · subst hj
    rcases hop with rfl | rfl | rfl | rfl | rfl
    all_goals
      rcases hk with (rfl | rfl | rfl | rfl | rfl) | ⟨k1, k2, k3, k4, k5, hb⟩
      all_goals
        try have HB := Lib.hid hb
        try clear hb
        go_enter Tryd.func32, Tryd.ntmps32
        go_wp2
        go_ret
        first
          | exact ⟨rfl, rfl⟩
          | (refine ⟨ret_bool ?_, rfl⟩; rw [HB.out]; rfl)
  · have hj0 : (0 : Int) < (j : Int) := by omega
    have hl : ∀ op, lst op j = bnd op + 1 := fun op => lst_succ op hj
    have HL := Lib.hid hl
    clear hl hj
    rcases hop with rfl | rfl | rfl | rfl | rfl
    all_goals
      rcases hk with (rfl | rfl | rfl | rfl | rfl) | ⟨k1, k2, k3, k4, k5, hb⟩
      all_goals
        try have HB := Lib.hid hb
        try clear hb
        go_enter Tryd.func32, Tryd.ntmps32
        go_wp2
        go_ret
        first
          | (refine ⟨ret_bool ?_, rfl⟩; rw [HL.out]; rfl)
          | (refine ⟨ret_bool ?_, rfl⟩; rw [HL.out, HB.out]; rfl)
end Go.Proofs.YtlpilbghblbpbaaDoor.Sw
/- WALK of the reference's Of: what has no kids and no fields. -/
namespace Go.Proofs.YtlpilbghblbpbaaDoor.Sw
open Go.RowKit
open Lx (bs bl_alloc bl_step)
/-- A text is answered. -/
def TxP (t : ByteArray) (w : World) (e : Ending) (w' : World) : Prop := e = .returned (.string t) ∧ Below w.heap.size w w'
theorem rtext_as (n : Int) (t : ByteArray) (w : World) (hn : inB n = true) (ht : Hid (Nt.textS n = t)) : Calls Tryd.prog 14 #[.int .i64 n] w (TxP t w) := by
  rw [← ht.out]
  unfold inB at hn
  simp only [Bool.and_eq_true, decide_eq_true_eq] at hn
  exact Nt.rtext_any n w (by omega) (by omega)
theorem textS_bs (n : Int) : Nt.textS n = bs (Nt.textL n) := rfl
theorem cat_bs (a b : List UInt8) : bs a ++ bs b = bs (a ++ b) := Lx.bs_app a b
theorem size_bs (a : List UInt8) : (bs a).size = a.length := Lx.bs_size a
set_option maxRecDepth 100000 in
set_option maxHeartbeats 4000000 in
theorem rof_int (nn : Int) (s : ByteArray) (p : Option Addr) (pl pc : Nat) (q : Option Addr) (ql qc : Nat) (o : Bool) (k : Option Addr) (kl kc : Nat) (w : World) (hn : inB nn = true) :
    Calls Tryd.prog 15 #[.agg #[.int .i64 1, .int .i64 nn, .string s, .slice p pl pc, .slice q ql qc, .bool o, .slice k kl kc]] w (TxP (bs (Nt.textL nn)) w) := by
  have HB1 := Lib.hid (bl_alloc (o := .cells #[.int .i64 1, .int .i64 nn, .string s, .slice p pl pc, .slice q ql qc, .bool o, .slice k kl kc] 38) (Below.refl w.heap.size w))
  have f := bxc (World.alloc_heap_new w (.cells #[.int .i64 1, .int .i64 nn, .string s, .slice p pl pc, .slice q ql qc, .bool o, .slice k kl kc] 38))
  obtain ⟨t, ht⟩ : ∃ t, Nt.textS nn = t := ⟨_, rfl⟩
  have HTX := Lib.hid ht
  have htz : t.size ≤ 20 := by
    rw [← ht]
    unfold inB at hn
    simp only [Bool.and_eq_true, decide_eq_true_eq] at hn
    exact Nt.textS_size nn (by omega)
  clear ht
  go_enter Tryd.func15, Tryd.ntmps15
  go_wp2_with (first
    | (go_at_call 14; refine (rtext_as nn t _ hn HTX).mono ?_; rintro e w3 ⟨rfl, hb3⟩; have HB3 := Lib.hid hb3; clear hb3 f))
  go_ret
  exact ⟨by show Ending.returned (.string t) = .returned (.string (bs (Nt.textL nn))); rw [← textS_bs, HTX.out], bl_step HB1.out HB3.out⟩
set_option maxRecDepth 100000 in
set_option maxHeartbeats 4000000 in
theorem rof_least (nn : Int) (s : ByteArray) (p : Option Addr) (pl pc : Nat) (q : Option Addr) (ql qc : Nat) (o : Bool) (k : Option Addr) (kl kc : Nat) (w : World) (hn : inB nn = true) :
    Calls Tryd.prog 15 #[.agg #[.int .i64 7, .int .i64 nn, .string s, .slice p pl pc, .slice q ql qc, .bool o, .slice k kl kc]] w (TxP (bs ([62, 61] ++ Nt.textL nn)) w) := by
  have HB1 := Lib.hid (bl_alloc (o := .cells #[.int .i64 7, .int .i64 nn, .string s, .slice p pl pc, .slice q ql qc, .bool o, .slice k kl kc] 38) (Below.refl w.heap.size w))
  have f := bxc (World.alloc_heap_new w (.cells #[.int .i64 7, .int .i64 nn, .string s, .slice p pl pc, .slice q ql qc, .bool o, .slice k kl kc] 38))
  obtain ⟨t, ht⟩ : ∃ t, Nt.textS nn = t := ⟨_, rfl⟩
  have HTX := Lib.hid ht
  have htz : t.size ≤ 20 := by
    rw [← ht]
    unfold inB at hn
    simp only [Bool.and_eq_true, decide_eq_true_eq] at hn
    exact Nt.textS_size nn (by omega)
  clear ht
  go_enter Tryd.func15, Tryd.ntmps15
  go_wp2_with (first
    | (go_at_call 14; refine (rtext_as nn t _ hn HTX).mono ?_; rintro e w3 ⟨rfl, hb3⟩; have HB3 := Lib.hid hb3; clear hb3 f))
  go_ret
  exact ⟨by show Ending.returned (.string (bs [62, 61] ++ t)) = .returned (.string (bs ([62, 61] ++ Nt.textL nn))); rw [← cat_bs, ← textS_bs, HTX.out], bl_step HB1.out HB3.out⟩
set_option maxRecDepth 100000 in
set_option maxHeartbeats 4000000 in
theorem rof_most (nn : Int) (s : ByteArray) (p : Option Addr) (pl pc : Nat) (q : Option Addr) (ql qc : Nat) (o : Bool) (k : Option Addr) (kl kc : Nat) (w : World) (hn : inB nn = true) :
    Calls Tryd.prog 15 #[.agg #[.int .i64 8, .int .i64 nn, .string s, .slice p pl pc, .slice q ql qc, .bool o, .slice k kl kc]] w (TxP (bs ([60, 61] ++ Nt.textL nn)) w) := by
  have HB1 := Lib.hid (bl_alloc (o := .cells #[.int .i64 8, .int .i64 nn, .string s, .slice p pl pc, .slice q ql qc, .bool o, .slice k kl kc] 38) (Below.refl w.heap.size w))
  have f := bxc (World.alloc_heap_new w (.cells #[.int .i64 8, .int .i64 nn, .string s, .slice p pl pc, .slice q ql qc, .bool o, .slice k kl kc] 38))
  obtain ⟨t, ht⟩ : ∃ t, Nt.textS nn = t := ⟨_, rfl⟩
  have HTX := Lib.hid ht
  have htz : t.size ≤ 20 := by
    rw [← ht]
    unfold inB at hn
    simp only [Bool.and_eq_true, decide_eq_true_eq] at hn
    exact Nt.textS_size nn (by omega)
  clear ht
  go_enter Tryd.func15, Tryd.ntmps15
  go_wp2_with (first
    | (go_at_call 14; refine (rtext_as nn t _ hn HTX).mono ?_; rintro e w3 ⟨rfl, hb3⟩; have HB3 := Lib.hid hb3; clear hb3 f))
  go_ret
  exact ⟨by show Ending.returned (.string (bs [60, 61] ++ t)) = .returned (.string (bs ([60, 61] ++ Nt.textL nn))); rw [← cat_bs, ← textS_bs, HTX.out], bl_step HB1.out HB3.out⟩
set_option maxRecDepth 100000 in
set_option maxHeartbeats 4000000 in
theorem rof_text (nn : Int) (s : ByteArray) (p : Option Addr) (pl pc : Nat) (q : Option Addr) (ql qc : Nat) (o : Bool) (k : Option Addr) (kl kc : Nat) (w : World) (hn : s.size ≤ 256) :
    Calls Tryd.prog 15 #[.agg #[.int .i64 2, .int .i64 nn, .string s, .slice p pl pc, .slice q ql qc, .bool o, .slice k kl kc]] w (TxP (bs (Lx.quoteL s.toList)) w) := by
  have HB1 := Lib.hid (bl_alloc (o := .cells #[.int .i64 2, .int .i64 nn, .string s, .slice p pl pc, .slice q ql qc, .bool o, .slice k kl kc] 38) (Below.refl w.heap.size w))
  have f := bxc (World.alloc_heap_new w (.cells #[.int .i64 2, .int .i64 nn, .string s, .slice p pl pc, .slice q ql qc, .bool o, .slice k kl kc] 38))
  have HTX : ∀ W, Hid (Calls Tryd.prog 28 #[.string s] W (TxP (bs (Lx.quoteL s.toList)) W)) := fun W => Lib.hid (Lx.rquote_any s W (by omega))
  go_enter Tryd.func15, Tryd.ntmps15
  go_wp2_with (first
    | (go_at_call 28; refine (HTX _).out.mono ?_; rintro e w3 ⟨rfl, hb3⟩; have HB3 := Lib.hid hb3; clear hb3 f))
  go_ret
  exact ⟨rfl, bl_step HB1.out HB3.out⟩
set_option maxRecDepth 100000 in
set_option maxHeartbeats 4000000 in
theorem rof_path (nn : Int) (s : ByteArray) (p : Option Addr) (pl pc : Nat) (q : Option Addr) (ql qc : Nat) (o : Bool) (k : Option Addr) (kl kc : Nat) (w : World) (w0 : World) (path : List ByteArray) (hb : Below w0.heap.size w0 w) (hn : ∀ W, Below w0.heap.size w0 W → Calls Tryd.prog 30 #[.slice p pl pc] W (TxP (bs (pathT path)) W)) :
    Calls Tryd.prog 15 #[.agg #[.int .i64 9, .int .i64 nn, .string s, .slice p pl pc, .slice q ql qc, .bool o, .slice k kl kc]] w (TxP (bs (pathT path)) w) := by
  have HB1 := Lib.hid (bl_alloc (o := .cells #[.int .i64 9, .int .i64 nn, .string s, .slice p pl pc, .slice q ql qc, .bool o, .slice k kl kc] 38) (Below.refl w.heap.size w))
  have f := bxc (World.alloc_heap_new w (.cells #[.int .i64 9, .int .i64 nn, .string s, .slice p pl pc, .slice q ql qc, .bool o, .slice k kl kc] 38))
  have HTX := Lib.hid hn
  have HB0 := Lib.hid (hb.trans (HB1.out.mono hb.size))
  clear hn hb
  go_enter Tryd.func15, Tryd.ntmps15
  go_wp2_with (first
    | (go_at_call 30; refine (HTX.out _ HB0.out).mono ?_; rintro e w3 ⟨rfl, hb3⟩; have HB3 := Lib.hid hb3; clear hb3 f))
  go_ret
  exact ⟨rfl, bl_step HB1.out HB3.out⟩
set_option maxRecDepth 100000 in
set_option maxHeartbeats 4000000 in
theorem rof_none (nn : Int) (s : ByteArray) (p : Option Addr) (pl pc : Nat) (q : Option Addr) (ql qc : Nat) (o : Bool) (k : Option Addr) (kl kc : Nat) (w : World)  :
    Calls Tryd.prog 15 #[.agg #[.int .i64 5, .int .i64 nn, .string s, .slice p pl pc, .slice q ql qc, .bool o, .slice k kl kc]] w (TxP (bs ([110, 111, 110, 101])) w) := by
  have HB1 := Lib.hid (bl_alloc (o := .cells #[.int .i64 5, .int .i64 nn, .string s, .slice p pl pc, .slice q ql qc, .bool o, .slice k kl kc] 38) (Below.refl w.heap.size w))
  have f := bxc (World.alloc_heap_new w (.cells #[.int .i64 5, .int .i64 nn, .string s, .slice p pl pc, .slice q ql qc, .bool o, .slice k kl kc] 38))
  go_enter Tryd.func15, Tryd.ntmps15
  go_wp2_with fail
  go_ret
  exact ⟨rfl, HB1.out⟩
set_option maxRecDepth 100000 in
set_option maxHeartbeats 4000000 in
theorem rof_later (nn : Int) (s : ByteArray) (p : Option Addr) (pl pc : Nat) (q : Option Addr) (ql qc : Nat) (o : Bool) (k : Option Addr) (kl kc : Nat) (w : World)  :
    Calls Tryd.prog 15 #[.agg #[.int .i64 6, .int .i64 nn, .string s, .slice p pl pc, .slice q ql qc, .bool o, .slice k kl kc]] w (TxP (bs ([99, 111, 109, 112, 117, 116, 101, 100])) w) := by
  have HB1 := Lib.hid (bl_alloc (o := .cells #[.int .i64 6, .int .i64 nn, .string s, .slice p pl pc, .slice q ql qc, .bool o, .slice k kl kc] 38) (Below.refl w.heap.size w))
  have f := bxc (World.alloc_heap_new w (.cells #[.int .i64 6, .int .i64 nn, .string s, .slice p pl pc, .slice q ql qc, .bool o, .slice k kl kc] 38))
  go_enter Tryd.func15, Tryd.ntmps15
  go_wp2_with fail
  go_ret
  exact ⟨rfl, HB1.out⟩
set_option maxRecDepth 100000 in
set_option maxHeartbeats 4000000 in
theorem rof_bool0 (s : ByteArray) (p : Option Addr) (pl pc : Nat) (q : Option Addr) (ql qc : Nat) (o : Bool) (k : Option Addr) (kl kc : Nat) (w : World)  :
    Calls Tryd.prog 15 #[.agg #[.int .i64 3, .int .i64 0, .string s, .slice p pl pc, .slice q ql qc, .bool o, .slice k kl kc]] w (TxP (bs (boolT 0)) w) := by
  have HB1 := Lib.hid (bl_alloc (o := .cells #[.int .i64 3, .int .i64 0, .string s, .slice p pl pc, .slice q ql qc, .bool o, .slice k kl kc] 38) (Below.refl w.heap.size w))
  have f := bxc (World.alloc_heap_new w (.cells #[.int .i64 3, .int .i64 0, .string s, .slice p pl pc, .slice q ql qc, .bool o, .slice k kl kc] 38))
  go_enter Tryd.func15, Tryd.ntmps15
  go_wp2_with fail
  go_ret
  exact ⟨rfl, HB1.out⟩
set_option maxRecDepth 100000 in
set_option maxHeartbeats 4000000 in
theorem rof_bool1 (s : ByteArray) (p : Option Addr) (pl pc : Nat) (q : Option Addr) (ql qc : Nat) (o : Bool) (k : Option Addr) (kl kc : Nat) (w : World)  :
    Calls Tryd.prog 15 #[.agg #[.int .i64 3, .int .i64 1, .string s, .slice p pl pc, .slice q ql qc, .bool o, .slice k kl kc]] w (TxP (bs (boolT 1)) w) := by
  have HB1 := Lib.hid (bl_alloc (o := .cells #[.int .i64 3, .int .i64 1, .string s, .slice p pl pc, .slice q ql qc, .bool o, .slice k kl kc] 38) (Below.refl w.heap.size w))
  have f := bxc (World.alloc_heap_new w (.cells #[.int .i64 3, .int .i64 1, .string s, .slice p pl pc, .slice q ql qc, .bool o, .slice k kl kc] 38))
  go_enter Tryd.func15, Tryd.ntmps15
  go_wp2_with fail
  go_ret
  exact ⟨rfl, HB1.out⟩
set_option maxRecDepth 100000 in
set_option maxHeartbeats 4000000 in
theorem rof_kind (nn : Int) (s : ByteArray) (p : Option Addr) (pl pc : Nat) (q : Option Addr) (ql qc : Nat) (o : Bool) (k : Option Addr) (kl kc : Nat) (w : World) (hn : nn = 1 ∨ nn = 2 ∨ nn = 3 ∨ nn = 5) :
    Calls Tryd.prog 15 #[.agg #[.int .i64 4, .int .i64 nn, .string s, .slice p pl pc, .slice q ql qc, .bool o, .slice k kl kc]] w (TxP (bs (kindT nn)) w) := by
  have HB1 := Lib.hid (bl_alloc (o := .cells #[.int .i64 4, .int .i64 nn, .string s, .slice p pl pc, .slice q ql qc, .bool o, .slice k kl kc] 38) (Below.refl w.heap.size w))
  have f := bxc (World.alloc_heap_new w (.cells #[.int .i64 4, .int .i64 nn, .string s, .slice p pl pc, .slice q ql qc, .bool o, .slice k kl kc] 38))
  have HTX := fun W => Lib.hid (rkind_any nn W hn)
  go_enter Tryd.func15, Tryd.ntmps15
  go_wp2_with (first
    | (go_at_call 29; refine (HTX _).out.mono ?_; rintro e w3 ⟨rfl, rfl⟩; clear f))
  go_ret
  exact ⟨rfl, HB1.out⟩
end Go.Proofs.YtlpilbghblbpbaaDoor.Sw
