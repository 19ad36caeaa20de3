/- What the iterator over a struct's pairs promises; a box of an expression. -/
import Derived.Test.YtngikbimlhoigaaDoorRc
namespace Go.Proofs.YtngikbimlhoigaaDoor
open Go.RowKit Go.Shelf
attribute [local go_sem] Oper.semAt_some
/-- An expression's box. -/
def BoxH (X : World) (b : Nat) (h : Hd) : Prop := X.heap[b]? = some (.cells h.vals 26)
theorem BoxH.lt {X : World} {b : Nat} {h : Hd} (hb : BoxH X b h) : b < X.heap.size := (Array.getElem?_eq_some_iff.1 hb).1
theorem BoxH.cells {X : World} {b : Nat} {h : Hd} (hb : BoxH X b h) : HdAt X b 0 h := by
  unfold BoxH at hb
  constructor <;> simp [World.cell?, hb, Hd.vals]
theorem BoxH.frozen {X : World} {b : Nat} {h : Hd} (hb : BoxH X b h) : ∀ i, X.frozen? ⟨b, i, none⟩ = false := fun i => by
  unfold BoxH at hb
  simp [World.frozen?, hb]
theorem BoxH.new (X : World) (h : Hd) : BoxH (X.alloc (.cells h.vals 26)) X.heap.size h := World.alloc_heap_new X _
theorem BoxH.stays {F : Nat → Prop} {b : Nat} {X Y : World} {h : Hd} (hs : Stays F X Y) (hb : F b) (hx : BoxH X b h) : BoxH Y b h := (hs.2 b hb hx.lt).trans hx
theorem BoxH.alloc {X : World} {b : Nat} {h : Hd} (hx : BoxH X b h) (o : Obj) : BoxH (X.alloc o) b h := (Below.heap_alloc _ _ _ hx.lt).trans hx
set_option maxRecDepth 100000 in
set_option maxHeartbeats 2000000 in
theorem pairs_fit (w0 : World) (n be : Nat) (hd : Hd) (ps : List (ByteArray × Ex)) (h : InPs (InX w0 n) w0 hd.q hd.ql ps) :
    FitSeq Tryd.prog 52 #[.pointer (some ⟨be, 0, none⟩)] encX (fun X => Below w0.heap.size w0 X ∧ BoxH X be hd) (FitP w0 n (ps.map (·.2))) (fun xs => xs.map (·.2) = ps.map (·.2)) (fun pre => pre.map (·.2) <+: ps.map (·.2)) := by
  intro l J Jx W hJ hJx hInv hY h0
  obtain ⟨_, hbox⟩ := hInv _ [] W h0
  have hbl := hbox.lt
  have hbc := hbox.cells.c4
  obtain ⟨hop, hn, hs, hp, hpl, hpc, a, ll, c, ho, hk, hkl, hkc⟩ := hd
  dsimp only at hbc h
  simp only [Nat.zero_add] at hbc
  have hl := h.count
  have hmax := h.max
  subst hl
  have HJ := Lib.hid hJ
  have HY := Lib.hid hY
  have HI := Lib.hid hInv
  have HK := Lib.hid h
  clear hJ hJx hY hInv h hbox
  refine (callsIn_wide (n := 9)).1 ?_
  refine callsIn_of_wp Tryd.func52 rfl trivial ?_ rfl
  simp only [Tryd.ntmps52, List.size_toArray, List.length_cons, List.length_nil, Nat.reduceAdd, Nat.reduceSub, Array.replicate_succ, Array.replicate_zero, List.push_toArray, List.append_toArray, List.nil_append, List.cons_append]
  gi_wp2
  gi_loopw [8] (fun x wr => ∃ (pre : List HX) (i : Nat), i ≤ ps.length ∧ x = .int .i64 i ∧ pre.map (·.2) = (ps.map (·.2)).take i ∧ J none_ pre wr) (fun x _ => ps.length - (intOf x).toNat)
  case atStart => exact ⟨[], 0, Nat.zero_le _, rfl, rfl, h0⟩
  case round =>
    obtain ⟨pre, i, hi, rfl, hpm, hj⟩ := hrel
    rename World => wr
    obtain ⟨hbw, _⟩ := HI.out _ pre wr hj
    have HJ2 := Lib.hid hj
    have HP := Lib.hid hpm
    clear hj hpm
    by_cases hlt : i < ps.length
    · obtain ⟨b, off, x, rfl, lt, hz, hc, hx, hI⟩ := HK.out.at_ i hlt
      have hx2 := HdAt.below hx hbw lt
      have hc2 := (hbw.cell (p := ⟨b, off + i * 8, none⟩) lt).trans hc
      generalize hnm : (ps[i]).1 = nm at hc2
      have HF : Hid (FitX w0 n (x, ps[i].2)) := hI
      obtain ⟨op, nn, s, p, pl, pc, q, ql, qc, o, k, kl, kc⟩ := x
      obtain ⟨c0, c1, c2, c3, c4, c5, c6⟩ := hx2
      clear hx hI hbw hnm hc hz
      dsimp only at c0 c1 c2 c3 c4 c5 c6
      have HT := Lib.hid (show (pre ++ [((⟨op, nn, s, p, pl, pc, q, ql, qc, o, k, kl, kc⟩, ps[i].2) : HX)]).map (·.2) = (ps.map (·.2)).take (i + 1) by rw [List.map_append, HP.out, take_it _ i (by simpa using hlt)]; simp)
      obtain ⟨fn, tmps, assign, body, hy, hR⟩ := HY.out 8 none_ pre (⟨op, nn, s, p, pl, pc, q, ql, qc, o, k, kl, kc⟩, ps[i].2) (wr.alloc (.cells #[.string nm, .int .i64 op, .int .i64 nn, .string s, .slice p pl pc, .slice q ql qc, .bool o, .slice k kl kc] 51)) (HJ.out.alloc HJ2.out _) ⟨HF.out, by rw [HT.out]; exact List.take_prefix _ _⟩
      dsimp only [encX, Hd.agg] at hy
      gi_wp2
      refine hR.mono ?_
      rintro e W3 (⟨rfl, hJ3, -⟩ | ⟨rfl, hJx3, -⟩)
      · have HJ4 := Lib.hid hJ3
        clear hy hR hJ3
        gi_wp2
        go_roundw
        case rel => exact ⟨_, i + 1, by omega, by go_num, HT.out, HJ4.out⟩
        case measure => simp [intOf]; omega
      · have HJ4 := Lib.hid hJx3
        clear hy hR hJx3
        gi_wp2
        refine bodyPost_ret (results_none rfl _ _ _) rfl ?_
        exact ⟨⟨_, rfl⟩, .inr ⟨_, by rw [HT.out]; exact List.take_prefix _ _, HJ4.out⟩⟩
    · obtain rfl : i = ps.length := by omega
      gi_wp2
      go_end0
      exact ⟨⟨_, rfl⟩, .inl ⟨pre, by rw [HP.out]; exact List.take_of_length_le (by simp), HJ2.out⟩⟩
end Go.Proofs.YtngikbimlhoigaaDoor
