/- Rc, Rd, Re, Sb -/
import Derived.Lib.AppendZeros
import Derived.Maps.AppendAt
import Derived.Test.YtlpilbghblbpbaaDoorY2
import Derived.Test.YtlpilbghblbpbaaDoorY3
/- What slices.Values' iterator over expressions promises. -/
namespace Go.Proofs.YtlpilbghblbpbaaDoor
open Go.RowKit Go.Shelf
attribute [local go_sem] Oper.semAt_some
theorem take_it {α : Type} (l : List α) (i : Nat) (h : i < l.length) : l.take (i + 1) = l.take i ++ [l[i]] := by
  rw [List.take_succ_eq_append_getElem h]
set_option maxRecDepth 100000 in
set_option maxHeartbeats 2000000 in
theorem vals_fit (w0 : World) (n be : Nat) (a : Option Addr) (ll c : Nat) (ks : List Ex) (h : InKs (InX w0 n) w0 a ll ks) :
    FitSeq Tryd.prog 70 #[.pointer (some ⟨be, 0, none⟩)] encX (fun X => Below w0.heap.size w0 X ∧ Boxed X be 22 (.slice a ll c)) (FitP w0 n ks) (fun xs => xs.map (·.2) = ks) (fun pre => pre.map (·.2) <+: ks) := by
  intro l J Jx W hJ hJx hInv hY h0
  obtain ⟨_, hbox⟩ := hInv _ [] W h0
  have hbl := hbox.lt
  have hbc := hbox.cell
  have hl := h.count
  have hmax := h.max
  subst hl
  have HJ := Lib.hid hJ
  have HY := Lib.hid hY
  have HI := Lib.hid hInv
  have HK := Lib.hid h
  clear hJ hJx hY hInv h
  refine (callsIn_wide (n := 9)).1 ?_
  refine callsIn_of_wp Tryd.func70 rfl trivial ?_ rfl
  simp only [Tryd.ntmps70, List.size_toArray, List.length_cons, List.length_nil, Nat.reduceAdd, Nat.reduceSub, Array.replicate_succ, Array.replicate_zero, List.push_toArray, List.append_toArray, List.nil_append, List.cons_append]
  gi_wp2
  gi_loopw [7] (fun x wr => ∃ (pre : List HX) (i : Nat), i ≤ ks.length ∧ x = .int .i64 i ∧ pre.map (·.2) = ks.take i ∧ J none_ pre wr) (fun x _ => ks.length - (intOf x).toNat)
  case atStart => exact ⟨[], 0, Nat.zero_le _, rfl, rfl, h0⟩
  case round =>
    obtain ⟨pre, i, hi, rfl, hpm, hj⟩ := hrel
    rename World => wr
    obtain ⟨hbw, _⟩ := HI.out _ pre wr hj
    have HJ2 := Lib.hid hj
    have HP := Lib.hid hpm
    clear hj hpm
    by_cases hlt : i < ks.length
    · obtain ⟨b, off, x, rfl, lt, hx, hI⟩ := HK.out.at_ i hlt
      have hx2 := HdAt.below hx hbw lt
      have HF : Hid (FitX w0 n (x, ks[i])) := hI
      obtain ⟨op, nn, s, p, pl, pc, q, ql, qc, o, k, kl, kc⟩ := x
      obtain ⟨c0, c1, c2, c3, c4, c5, c6⟩ := hx2
      clear hx hI hbw
      dsimp only at c0 c1 c2 c3 c4 c5 c6
      have HP3 := Lib.hid (show (pre ++ [((⟨op, nn, s, p, pl, pc, q, ql, qc, o, k, kl, kc⟩, ks[i]) : HX)]).map (·.2) = ks.take (i + 1) by rw [List.map_append, HP.out, take_it _ i hlt]; rfl)
      obtain ⟨fn, tmps, assign, body, hy, hR⟩ := HY.out 8 none_ pre (⟨op, nn, s, p, pl, pc, q, ql, qc, o, k, kl, kc⟩, ks[i]) (wr.alloc (.cells #[.int .i64 op, .int .i64 nn, .string s, .slice p pl pc, .slice q ql qc, .bool o, .slice k kl kc] 38)) (HJ.out.alloc HJ2.out _) ⟨HF.out, by rw [HP3.out]; exact List.take_prefix _ _⟩
      dsimp only [encX, Hd.agg] at hy
      gi_wp2
      refine hR.mono ?_
      rintro e W3 (⟨rfl, hJ3, -⟩ | ⟨rfl, hJx3, -⟩)
      · have HJ4 := Lib.hid hJ3
        clear hy hR hJ3
        gi_wp2
        go_roundw
        case rel => exact ⟨_, i + 1, by omega, by go_num, HP3.out, HJ4.out⟩
        case measure => simp [intOf]; omega
      · have HJ4 := Lib.hid hJx3
        clear hy hR hJx3
        gi_wp2
        refine bodyPost_ret (results_none rfl _ _ _) rfl ?_
        exact ⟨⟨_, rfl⟩, .inr ⟨_, by rw [HP3.out]; exact List.take_prefix _ _, HJ4.out⟩⟩
    · obtain rfl : i = ks.length := by omega
      gi_wp2
      go_end0
      exact ⟨⟨_, rfl⟩, .inl ⟨pre, by rw [HP.out, List.take_length], HJ2.out⟩⟩
end Go.Proofs.YtlpilbghblbpbaaDoor
/- What the iterator over a struct's pairs promises; a box of an expression. -/
namespace Go.Proofs.YtlpilbghblbpbaaDoor
open Go.RowKit Go.Shelf
attribute [local go_sem] Oper.semAt_some
/-- An expression's box. -/
def BoxH (X : World) (b : Nat) (h : Hd) : Prop := X.heap[b]? = some (.cells h.vals 38)
theorem BoxH.lt {X : World} {b : Nat} {h : Hd} (hb : BoxH X b h) : b < X.heap.size := (Array.getElem?_eq_some_iff.1 hb).1
theorem BoxH.cells {X : World} {b : Nat} {h : Hd} (hb : BoxH X b h) : HdAt X b 0 h := by
  unfold BoxH at hb
  constructor <;> simp [World.cell?, hb, Hd.vals]
theorem BoxH.frozen {X : World} {b : Nat} {h : Hd} (hb : BoxH X b h) : ∀ i, X.frozen? ⟨b, i, none⟩ = false := fun i => by
  unfold BoxH at hb
  simp [World.frozen?, hb]
theorem BoxH.new (X : World) (h : Hd) : BoxH (X.alloc (.cells h.vals 38)) X.heap.size h := World.alloc_heap_new X _
theorem BoxH.stays {F : Nat → Prop} {b : Nat} {X Y : World} {h : Hd} (hs : Stays F X Y) (hb : F b) (hx : BoxH X b h) : BoxH Y b h := (hs.2 b hb hx.lt).trans hx
theorem BoxH.alloc {X : World} {b : Nat} {h : Hd} (hx : BoxH X b h) (o : Obj) : BoxH (X.alloc o) b h := (Below.heap_alloc _ _ _ hx.lt).trans hx
set_option maxRecDepth 100000 in
set_option maxHeartbeats 2000000 in
theorem pairs_fit (w0 : World) (n be : Nat) (hd : Hd) (ps : List (ByteArray × Ex)) (h : InPs (InX w0 n) w0 hd.q hd.ql ps) :
    FitSeq Tryd.prog 64 #[.pointer (some ⟨be, 0, none⟩)] encX (fun X => Below w0.heap.size w0 X ∧ BoxH X be hd) (FitP w0 n (ps.map (·.2))) (fun xs => xs.map (·.2) = ps.map (·.2)) (fun pre => pre.map (·.2) <+: ps.map (·.2)) := by
  intro l J Jx W hJ hJx hInv hY h0
  obtain ⟨_, hbox⟩ := hInv _ [] W h0
  have hbl := hbox.lt
  have hbc := hbox.cells.c4
  obtain ⟨hop, hn, hs, hp, hpl, hpc, a, ll, c, ho, hk, hkl, hkc⟩ := hd
  dsimp only at hbc h
  simp only [Nat.zero_add] at hbc
  have hl := h.count
  have hmax := h.max
  subst hl
  have HJ := Lib.hid hJ
  have HY := Lib.hid hY
  have HI := Lib.hid hInv
  have HK := Lib.hid h
  clear hJ hJx hY hInv h hbox
  refine (callsIn_wide (n := 9)).1 ?_
  refine callsIn_of_wp Tryd.func64 rfl trivial ?_ rfl
  simp only [Tryd.ntmps64, List.size_toArray, List.length_cons, List.length_nil, Nat.reduceAdd, Nat.reduceSub, Array.replicate_succ, Array.replicate_zero, List.push_toArray, List.append_toArray, List.nil_append, List.cons_append]
  gi_wp2
  gi_loopw [8] (fun x wr => ∃ (pre : List HX) (i : Nat), i ≤ ps.length ∧ x = .int .i64 i ∧ pre.map (·.2) = (ps.map (·.2)).take i ∧ J none_ pre wr) (fun x _ => ps.length - (intOf x).toNat)
  case atStart => exact ⟨[], 0, Nat.zero_le _, rfl, rfl, h0⟩
  case round =>
    obtain ⟨pre, i, hi, rfl, hpm, hj⟩ := hrel
    rename World => wr
    obtain ⟨hbw, _⟩ := HI.out _ pre wr hj
    have HJ2 := Lib.hid hj
    have HP := Lib.hid hpm
    clear hj hpm
    by_cases hlt : i < ps.length
    · obtain ⟨b, off, x, rfl, lt, hz, hc, hx, hI⟩ := HK.out.at_ i hlt
      have hx2 := HdAt.below hx hbw lt
      have hc2 := (hbw.cell (p := ⟨b, off + i * 8, none⟩) lt).trans hc
      generalize hnm : (ps[i]).1 = nm at hc2
      have HF : Hid (FitX w0 n (x, ps[i].2)) := hI
      obtain ⟨op, nn, s, p, pl, pc, q, ql, qc, o, k, kl, kc⟩ := x
      obtain ⟨c0, c1, c2, c3, c4, c5, c6⟩ := hx2
      clear hx hI hbw hnm hc hz
      dsimp only at c0 c1 c2 c3 c4 c5 c6
      have HT := Lib.hid (show (pre ++ [((⟨op, nn, s, p, pl, pc, q, ql, qc, o, k, kl, kc⟩, ps[i].2) : HX)]).map (·.2) = (ps.map (·.2)).take (i + 1) by rw [List.map_append, HP.out, take_it _ i (by simpa using hlt)]; simp)
      obtain ⟨fn, tmps, assign, body, hy, hR⟩ := HY.out 8 none_ pre (⟨op, nn, s, p, pl, pc, q, ql, qc, o, k, kl, kc⟩, ps[i].2) (wr.alloc (.cells #[.string nm, .int .i64 op, .int .i64 nn, .string s, .slice p pl pc, .slice q ql qc, .bool o, .slice k kl kc] 69)) (HJ.out.alloc HJ2.out _) ⟨HF.out, by rw [HT.out]; exact List.take_prefix _ _⟩
      dsimp only [encX, Hd.agg] at hy
      gi_wp2
      refine hR.mono ?_
      rintro e W3 (⟨rfl, hJ3, -⟩ | ⟨rfl, hJx3, -⟩)
      · have HJ4 := Lib.hid hJ3
        clear hy hR hJ3
        gi_wp2
        go_roundw
        case rel => exact ⟨_, i + 1, by omega, by go_num, HT.out, HJ4.out⟩
        case measure => simp [intOf]; omega
      · have HJ4 := Lib.hid hJx3
        clear hy hR hJx3
        gi_wp2
        refine bodyPost_ret (results_none rfl _ _ _) rfl ?_
        exact ⟨⟨_, rfl⟩, .inr ⟨_, by rw [HT.out]; exact List.take_prefix _ _, HJ4.out⟩⟩
    · obtain rfl : i = ps.length := by omega
      gi_wp2
      go_end0
      exact ⟨⟨_, rfl⟩, .inl ⟨pre, by rw [HP.out]; exact List.take_of_length_le (by simp), HJ2.out⟩⟩
end Go.Proofs.YtlpilbghblbpbaaDoor
/- WALKS of expr's parts and inOrder: which iterators they hand back. -/
namespace Go.Proofs.YtlpilbghblbpbaaDoor
open Go.RowKit Go.Shelf
theorem grown_below {w X : World} (h : Below w.heap.size w X) : w.grownBy X none := ⟨h.os, h.tape, h.output, h.size, fun i hi _ => h.block i hi⟩
theorem heap_new1 (w : World) (o o2 : Obj) : ((w.alloc o).alloc o2).heap[w.heap.size + 1]? = some o2 := by
  have := World.alloc_heap_new (w.alloc o) o2
  rwa [World.size_alloc] at this
theorem below_alloc {w X : World} (h : Below w.heap.size w X) (o : Obj) : Below w.heap.size w (X.alloc o) := h.alloc h.size o
theorem below_step {w X Y : World} (h : Below w.heap.size w X) (k : Below X.heap.size X Y) : Below w.heap.size w Y := h.trans (k.mono h.size)
set_option maxHeartbeats 400000 in
theorem values_any (a : Option Addr) (l c : Nat) (w : World) : Calls Tryd.prog 63 #[.slice a l c] w fun e w' => e = .returned (.func (.func 70) #[] #[.pointer (some ⟨w.heap.size, 0, none⟩)]) ∧ w' = w.alloc (.cells #[.slice a l c] 22) := by
  go_enter Tryd.func63, Tryd.ntmps63
  go_wp2
  go_ret
  exact ⟨rfl, rfl⟩
/-- An iterator over an expression's parts, which lies in a box of its own. -/
def PartsPost (w0 : World) (n : Nat) (x : Ex) (w : World) (e : Ending) (w' : World) : Prop := ∃ (gf be : Nat) (ob : Obj), e = .returned (.func (.func gf) #[] #[.pointer (some ⟨be, 0, none⟩)]) ∧ w.heap.size ≤ be ∧ w'.heap[be]? = some ob ∧
  Below w.heap.size w w' ∧ (∀ args W, (callFunc gf args).run Tryd.prog W = .ok (.enter gf args) W) ∧
  FitSeq Tryd.prog gf #[.pointer (some ⟨be, 0, none⟩)] encX (fun X => Below w0.heap.size w0 X ∧ X.heap[be]? = some ob) (FitP w0 n x.parts) (fun xs => xs.map (·.2) = x.parts) (fun pre => pre.map (·.2) <+: x.parts)
set_option maxHeartbeats 1000000 in
theorem parts_any (w0 : World) (n : Nat) (h : Hd) (x : Ex) (w : World) (hx : InX w0 (n + 1) h x) : Calls Tryd.prog 46 #[h.agg] w (PartsPost w0 n x w) := by
  obtain ⟨xop, xn, xs, xpath, xps, xo, xks⟩ := x
  have hV := fun a l c W => Lib.hid (values_any a l c W)
  obtain ⟨op, nn, s, p, pl, pc, q, ql, qc, o, k, kl, kc⟩ := h
  obtain ⟨rfl, rfl, rfl, rfl, _, _, hps, hks⟩ := hx
  dsimp only at hps hks
  have HP := Lib.hid (pairs_fit w0 n w.heap.size ⟨op, nn, s, p, pl, pc, q, ql, qc, o, k, kl, kc⟩ xps hps)
  have HK := Lib.hid (vals_fit w0 n (w.heap.size + 1) k kl kc xks hks)
  clear hps hks
  unfold Hd.agg
  by_cases h10 : op = 10
  · subst h10
    go_enter Tryd.func46, Tryd.ntmps46
    go_wp2_with fail
    go_ret
    refine ⟨64, w.heap.size, _, rfl, Nat.le_refl _, World.alloc_heap_new w _, below_alloc (Below.refl _ _) _, enters_of Tryd.func64 (by kernel_rfl) rfl, HP.out⟩
  · have e1 : (op == 10) = false := by simpa using h10
    have e2 : (op != 10) = true := by simpa using h10
    have H10 := Lib.hid h10
    clear h10
    go_enter Tryd.func46, Tryd.ntmps46
    go_wp2_with (go_at_call 63; refine (hV _ _ _ _).out.mono ?_; rintro e w' ⟨rfl, rfl⟩)
    go_ret
    refine ⟨70, w.heap.size + 1, _, by simp, by omega, heap_new1 _ _ _, below_alloc (below_alloc (Below.refl _ _) _) _, enters_of Tryd.func70 (by kernel_rfl) rfl, ?_⟩
    have e3 : (Ex.mk op nn s xpath xps o xks).parts = xks := if_neg H10.out
    rw [e3]; exact HK.out
set_option maxHeartbeats 400000 in
theorem inOrder_any (h : Hd) (w : World) : Calls Tryd.prog 44 #[h.agg] w fun e w' => e = .returned (.func (.func 57) #[] #[.pointer (some ⟨w.heap.size, 0, none⟩)]) ∧ w' = w.alloc (.cells h.vals 38) := by
  obtain ⟨op, nn, s, p, pl, pc, q, ql, qc, o, k, kl, kc⟩ := h
  unfold Hd.agg Hd.vals
  go_enter Tryd.func44, Tryd.ntmps44
  go_wp2
  go_ret
  exact ⟨rfl, rfl⟩
end Go.Proofs.YtlpilbghblbpbaaDoor
/- WALK of expr's rising. -/
namespace Go.Proofs.YtlpilbghblbpbaaDoor
open Go.RowKit
theorem own_base {w : World} {base e size n : Nat} {v : Value} {xs : List Value} (h : w.ownsRow base e size v n xs) : ∀ k, v.ownBlock = some k → base ≤ k := by
  intro k hk
  rcases h.2 with ⟨rfl, _⟩ | ⟨g, cap, cur, rfl, hb, _⟩
  · simp [Value.ownBlock] at hk
  · simp [Value.ownBlock] at hk; omega
/-- A row that the call owns, as a slice of texts. -/
theorem row_own {w : World} {base n : Nat} {v : Value} {xs : List ByteArray} (h : w.ownsRow base 9 1 v n (xs.map Value.string)) (hn : n ≤ 140737488355328) (hx : ∀ x ∈ xs, x.size ≤ 140737488355328) : ∃ a cap, v = .slice a n cap ∧ Nm.StrRow w a n xs := by
  have hl := h.1
  rw [List.length_map, Nat.mul_one] at hl
  rcases h.2 with ⟨rfl, hn0⟩ | ⟨g, cap, cur, rfl, hb, hg, hcap, hm, hsz, htake⟩
  · obtain rfl : n = 0 := hn0
    exact ⟨none, 0, rfl, hl, by omega, fun i x hi => hx x (List.mem_of_getElem? hi), fun h => absurd h (by omega)⟩
  · refine ⟨_, cap, rfl, hl, hn, fun i x hi => hx x (List.mem_of_getElem? hi), fun _ => ⟨g, 0, rfl, ?_, fun i x hi => ?_⟩⟩
    · exact (Array.getElem?_eq_some_iff.1 hg).1
    · have hi2 := (List.getElem?_eq_some_iff.1 hi).1
      have h1 : (xs.map Value.string)[i]? = some (.string x) := by simp [hi]
      rw [← htake, Nat.mul_one, List.getElem?_take_of_lt (by omega)] at h1
      simp only [World.cell?, hg, Nat.zero_add]
      simpa using h1
theorem info9 : (Tryd.prog.info? 9).map (fun i => (i.zero, i.size, i.bytes)) = some (some (.string ByteArray.empty), 1, 16) := by kernel_rfl
/-- A bool, and nothing that was there has changed. -/
def BoolP (b : Bool) (w : World) (e : Ending) (w' : World) : Prop := e = .returned (.bool b) ∧ Below w.heap.size w w'
noncomputable def risP (ps : List (ByteArray × Ex)) : Bool := decide (ps.length ≤ 32) && Nm.risB (ps.map (·.1))
set_option maxRecDepth 100000 in
set_option maxHeartbeats 4000000 in
theorem rising_any (I : Hd → Ex → Prop) (w0 w : World) (f : Option Addr) (fl fc : Nat) (ps : List (ByteArray × Ex)) (h : InPs I w0 f fl ps) (hb0 : Below w0.heap.size w0 w) (hE : Nm.Env w) :
    Calls Tryd.prog 59 #[.slice f fl fc] w (BoolP (risP ps) w) := by
  have hmax := h.max
  obtain rfl := h.count
  have hnm : ∀ x ∈ ps, x.1.size ≤ 140737488355328 := fun x hx => by
    obtain ⟨i, hi, rfl⟩ := List.mem_iff_getElem.1 hx
    obtain ⟨b, off, y, _, _, h3, _⟩ := h.at_ i hi
    exact h3
  obtain ⟨i0, hi, hx⟩ := Option.map_eq_some_iff.1 info9
  simp only [Prod.mk.injEq] at hx
  obtain ⟨hz0, hz1, hz2⟩ := hx
  have HNM := Lib.hid hnm
  have HK := Lib.hid h
  have HB0 := Lib.hid hb0
  have HE := Lib.hid hE
  clear h hnm hb0 hE
  by_cases h32 : 32 < ps.length
  · have hl : (32 : Int) < (ps.length : Int) := by omega
    have HB := Lib.hid (show risP ps = false by unfold risP; rw [decide_eq_false (by omega)]; rfl)
    go_enter Tryd.func59, Tryd.ntmps59
    go_wp2_with fail
    go_ret
    exact ⟨ret_bool (by rw [HB.out]), Below.refl _ _⟩
  · have hl : ¬ (32 : Int) < (ps.length : Int) := by omega
    obtain ⟨r, hr⟩ : ∃ r, Nm.risB (ps.map (·.1)) = r := ⟨_, rfl⟩
    have HB := Lib.hid (show risP ps = r by unfold risP; rw [decide_eq_true (by omega), hr]; rfl)
    have HR := Lib.hid hr
    clear hr
    go_enter Tryd.func59, Tryd.ntmps59
    go_wp2_with fail
    go_loopw [3, 11] (fun v i wr => ∃ k : Nat, k ≤ ps.length ∧ i = .int .i64 k ∧ Hid (wr.ownsRow w.heap.size 9 1 v k (((ps.take k).map (·.1)).map Value.string)) ∧ Hid (Below w.heap.size w wr)) (fun _ i _ => ps.length - (intOf i).toNat)
    case atStart => exact ⟨0, Nat.zero_le _, rfl, World.ownsRow_nil _ _ _ _, Below.refl _ _⟩
    case round =>
      obtain ⟨k, hk, rfl, hO, hB⟩ := hrel
      rename World => wr
      by_cases hlt : k < ps.length
      · have hki : (k : Int) < (ps.length : Int) := by omega
        have hk0 : (0 : Int) ≤ (k : Int) := by omega
        obtain ⟨b, off, x, rfl, lt, hz, hc, hx, -⟩ := HK.out.at_ k hlt
        have hbw := below_step HB0.out hB.out
        have hx2 := HdAt.below hx hbw lt
        have hc2 := (hbw.cell (p := ⟨b, off + k * 8, none⟩) lt).trans hc
        have hT : Hid (((ps.take (k + 1)).map (·.1)).map Value.string = ((ps.take k).map (·.1)).map Value.string ++ [.string ps[k].1]) := by
          rw [List.take_succ_eq_append_getElem hlt, List.map_append, List.map_append]; rfl
        have hsz : w.heap.size ≤ wr.heap.size := hB.out.size
        generalize (ps[k]).1 = nm at *
        obtain ⟨op, nn, s, p, pl, pc, q, ql, qc, o, ka, kl, kc⟩ := x
        obtain ⟨c0, c1, c2, c3, c4, c5, c6⟩ := hx2
        dsimp only at c0 c1 c2 c3 c4 c5 c6
        clear hx hbw hc hz lt
        have HCN : Hid (∀ j u, [Value.string nm][j]? = some u → ((wr.alloc (.cells #[.string nm, .int .i64 op, .int .i64 nn, .string s, .slice p pl pc, .slice q ql qc, .bool o, .slice ka kl kc] 69)).alloc (.cells #[.string nm] 9)).cell? ((⟨wr.heap.size + 1, 0, none⟩ : Addr).add j) = some u) := by
          have h := cell_one_new (wr.alloc (.cells #[.string nm, .int .i64 op, .int .i64 nn, .string s, .slice p pl pc, .slice q ql qc, .bool o, .slice ka kl kc] 69)) (.string nm) 9
          rw [World.size_alloc] at h; exact h
        go_wp2_with (at_builtin; refine wpList_append_own _ rfl _ _ 35 rfl w.heap.size 9 i0 (.string ByteArray.empty) 1 16 Tryd.underlying35 hi hz0 hz1 hz2 rfl (by decide) _ _ _ rfl ((hO.out.alloc _).alloc _) ⟨wr.heap.size + 1, 0, none⟩ 1 1 [.string nm] rfl rfl HCN.out (fun x hx => by simp at hx; subst hx; rfl) (by unfold maxLen; omega) (by omega) (by simp; omega) ?_; intro v' w3 hown' hgrow3 hnil3; have OW3 := Lib.hid hown'; have G3 := Lib.hid hgrow3; clear hown' hgrow3 hnil3)
        go_roundw
        case rel => exact ⟨k + 1, by omega, by go_num, (by rw [hT.out]; exact OW3.out), (((hB.out.alloc hsz _).alloc (by simp; omega) _).grown G3.out (by simp; omega) (own_base hO.out))⟩
        case measure => simp [intOf]; omega
      · obtain rfl : k = ps.length := by omega
        have hT : Hid (((ps.take ps.length).map (·.1)).map Value.string = (ps.map (·.1)).map Value.string) := by rw [List.take_length]; rfl
        rw [hT.out] at hO
        obtain ⟨a1, cap1, rfl, hS1⟩ := row_own (xs := ps.map (·.1)) hO.out (by omega) (fun x hx => by obtain ⟨y, hy, rfl⟩ := List.mem_map.1 hx; exact HNM.out y hy)
        have S1 := Lib.hid hS1
        clear hS1 hT
        have HRC : Hid (Calls Tryd.prog 68 #[.slice a1 ps.length cap1] wr (BoolP r wr)) := by rw [← HR.out]; exact Nm.rising_any _ _ _ _ _ (HE.out.below hB.out) S1.out
        go_wp2_with (go_at_call 68; refine HRC.out.mono ?_; rintro e w4 ⟨rfl, hB4⟩; have HB4 := Lib.hid hB4; clear hB4)
        go_ret
        exact ⟨ret_bool (by rw [HB.out]), below_step hB.out HB4.out⟩
end Go.Proofs.YtlpilbghblbpbaaDoor
