/- Px, Qk, Qm, Ql, Ma -/
import Derived.Shelf.SlicesE.DeleteFunc
import Derived.Ground.SlgfProg
import Derived.Test.YtdlcpnpmmmpccaaZ18
import Derived.Test.YtdlcpnpmmmpccaaZ14
import Derived.WalkMore
import Derived.Deep.RegionLaw
import Derived.Test.YtdlcpnpmmmpccaaU0
import Derived.Test.YtdlcpnpmmmpccaaT0
import Derived.Test.YtdlcpnpmmmpccaaT2
/- slices.DeleteFunc at int with a closure that looks into a map of numbers. -/
namespace Go.Proofs
open Go.Shelf
def Try.deleteI_ren : Go.Shelf.Ren := ⟨fun | 10 => 65 | 6 => 86 | n => n, fun | 25 => 99 | 23 => 3 | 22 => 54 | n => n, fun | n => n⟩
theorem Try.deleteI : Go.Proofs.SlLaysH.n10 Try.prog Try.deleteI_ren := {
  mixed := by kernel_rfl
  f6 := ⟨Try.f86.name, by decide, Try.func86.trans (congrArg some (by kernel_rfl))⟩
  f10 := ⟨Try.f65.name, by decide, Try.func65.trans (congrArg some (by kernel_rfl))⟩
  t0 := Try.underlying0
  a0 := Try.isAgg0
  z0 := Try.sizeOf0
  v0 := Try.zeroValue0
  t3 := Try.underlying3
  a3 := Try.isAgg3
  z3 := Try.sizeOf3
  v3 := Try.zeroValue3
  t4 := Try.underlying4
  a4 := Try.isAgg4
  z4 := Try.sizeOf4
  v4 := Try.zeroValue4
  t22 := Try.underlying54
  a22 := Try.isAgg54
  z22 := Try.sizeOf54
  v22 := Try.zeroValue54
  a23 := Try.isAgg3
  z23 := Try.sizeOf3
  t25 := Try.underlying99
  a25 := Try.isAgg99
  z25 := Try.sizeOf99
  v25 := Try.zeroValue99 }
end Go.Proofs
namespace Go.Proofs.Ytdlcpnpmmmpccaa.Gn
open Go.RowKit Go.Maps Go.Sort
open Go.Proofs.Ytdlcpnpmmmpccaa.Gr (grown_none grown_row below_none Qrow qrow_of nodup_le grown_trans Qrow.slice Qrow.shape heap_put grown_put take_put)
abbrev Tx := { s : Int // okS s }
instance : Inhabited Tx := ⟨⟨0, by unfold okS; decide⟩⟩
def encX (x : Tx) : Value := .int .i64 x.1
def unX (x : Tx) : Int := x.1
theorem sub_list {xs : List Int} (h : ∀ x ∈ xs, okS x) : ∃ ts : List Tx, ts.map unX = xs := ⟨xs.attach.map fun x => ⟨x.1, h x.1 x.2⟩, by rw [List.map_map]; exact List.attach_map_subtype_val xs⟩
theorem index_nil (f : Value) (w : World) : Calls Try.prog 86 #[.slice none 0 0, f] w fun e w' => e = .returned (.int .i64 (-1)) ∧ w = w' := by
  go_enter Try.func86, Try.ntmps86
  go_wp2
  go_loop [8] (fun i => i = .int .i64 0) (fun _ => 0)
  case atStart => rfl
  case round =>
    subst hrel
    go_wp2
    go_ret
    exact ⟨rfl, rfl⟩
theorem delete_any (g : Nat) (eg : ∀ args w, (callFunc g args).run Try.prog w = .ok (.enter g args) w) {w : World} {base : Nat} {v : Value} {xs : List Int} (hr : w.ownsRow base 3 1 v xs.length (xs.map (Value.int .i64))) (hok : ∀ x ∈ xs, okS x) {B b m : Nat} {Q R : Int → Bool} (hC : ClM w B b m Q) (hT : Tells g B b m Q R) (hB : v.ownBlock ≠ some B) (hb : v.ownBlock ≠ some b) :
    Calls Try.prog 65 #[v, .func (.func g) #[] #[.pointer (some ⟨B, 0, none⟩)]] w (CutP (xs.filter fun x => !R x) base v w) := by
  rcases hr.2 with ⟨rfl, h0⟩ | ⟨r, cap, cur, rfl, hbase, hcell, h1, h2, h3, h4⟩
  · obtain rfl : xs = [] := List.eq_nil_of_length_eq_zero h0
    clear hr hok hB hb h0 hC hT
    go_enter Try.func65, Try.ntmps65
    go_wp2_with (go_at_call 86; refine (index_nil _ _).mono ?_; rintro e w' ⟨rfl, rfl⟩)
    go_wp2
    go_ret
    exact ⟨_, rfl, World.ownsRow_nil _ _ _ _, ⟨rfl, rfl, rfl, Nat.le_refl _, fun _ _ _ => rfl⟩⟩
  · obtain ⟨ts, rfl⟩ := sub_list hok
    have hlt := (Array.getElem?_eq_some_iff.1 hcell).1
    rw [Nat.mul_one, List.map_map, List.length_map] at h4
    rw [List.length_map] at h1
    unfold maxLen at h2
    have henc : ∀ x : Tx, Calls Try.prog g #[encX x, .pointer (some ⟨B, 0, none⟩)] w fun e w' => e = .returned (.bool (R x.1)) ∧ w = w' := fun x => hT w x.1 hC x.2
    have hpa : PredAt Try.prog g #[.pointer (some ⟨B, 0, none⟩)] encX (fun x => R x.1) w := fun W x hW => (hT W x.1 (hC.kept (grow_of hW) (by simp) (by simp)) x.2).mono fun e w' ⟨he, hw⟩ => ⟨he, 0, by rw [← hw]; rfl⟩
    have hpo : PredOver Try.prog g #[.pointer (some ⟨B, 0, none⟩)] encX (fun x => R x.1) r 0 ts.toArray.size w := fun n os dk x _ => (hT _ x.1 (hC.kept (grown_put dk) (fun e => hB e) (fun e => hb e)) x.2).mono fun e w' ⟨he, hw⟩ => ⟨he, 0, by rw [← hw]; rfl⟩
    have hH : Holds encX w r 0 ts.toArray := by
      intro j hj
      have hj' : j < ts.length := by simpa using hj
      refine ⟨?_, by simp [World.frozen?, hcell]⟩
      have e1 : (cur.toList.take ts.length)[j]? = (ts.map ((Value.int .i64) ∘ unX))[j]? := by rw [h4]
      rw [List.getElem?_take_of_lt hj'] at e1
      simp only [World.cell?, hcell, Nat.zero_add]
      simp only [Option.isSome_none, Bool.false_eq_true, if_false]
      rw [← Array.getElem?_toList, e1]
      simp [hj', encX, unX]
    have hd := AnyE.slices_DeleteFunc Try.deleteI encX (fun _ => rfl) (fun x => R x.1) g #[.pointer (some ⟨B, 0, none⟩)] eg default (fun w => Try.zeroValue3 w) r 0 cap ts.toArray w hpa hpo hH (by simp; omega) (by simpa using h1)
    rw [show (Value.slice (some ⟨r, 0, none⟩) (List.map unX ts).length cap) = Value.slice (some ⟨r, 0, none⟩) ts.toArray.size cap by simp]
    refine hd.mono ?_
    rintro e w' ⟨rfl, q, rfl⟩
    have hfl : (ts.map unX).filter (fun x => !R x) = (ts.filter fun x => !R x.1).map unX := by rw [List.filter_map]; rfl
    have hle := List.length_filter_le (fun x : Tx => !R x.1) ts
    refine ⟨_, rfl, ?_, ?_⟩
    · rw [hfl, List.length_map, List.map_map]
      refine ⟨by simp, .inr ⟨r, cap, _, rfl, hbase, heap_put _ hcell, by omega, h2, by simp [putCells, h3], ?_⟩⟩
      rw [Nat.mul_one, take_put _ _ _ (by simp) (by simp; omega)]
      simp [encX, unX]
    · have := grown_put (w := w) (g := r) (q := q) (os := #[]) (enc := encX) ((ts.filter fun x : Tx => !R x.1) ++ List.replicate (ts.toArray.size - (ts.filter fun x : Tx => !R x.1).length) default).toArray
      rw [grow_empty] at this
      exact this
end Go.Proofs.Ytdlcpnpmmmpccaa.Gn
/- ORDER: its closure, and small steps. (at int) -/
namespace Go.Proofs.Ytdlcpnpmmmpccaa.Gn
open Go.RowKit Go.Maps Go.Sort
open Go.Proofs.Ytdlcpnpmmmpccaa.Gr (grown_none grown_row below_none Qrow qrow_of nodup_le grown_trans Qrow.slice Qrow.shape hp_alloc it step_append_run)
set_option maxHeartbeats 1000000 in
theorem tells58 (B b m : Nat) (Q : Int → Bool) : Tells 66 B b m Q Q := by
  intro w s h hs
  obtain ⟨c0, hM⟩ := h
  have hl := hM.look hs
  generalize Q s = q at *
  clear hM
  go_enter Try.func66, Try.ntmps66
  go_wp2
  go_ret
  exact ⟨rfl, rfl⟩
theorem enters58 : ∀ args w, (callFunc 66 args).run Try.prog w = .ok (.enter 66 args) w := fun args w => by kernel_rfl
set_option maxRecDepth 100000 in
/-- A slice is cut from its front. -/
theorem run_tailA {w w1 : World} {bA : Nat} {v : Value} {t : Int} {r : List Int} (h : AhP w1 bA v (t :: r)) :
    ∃ v', (Instr.slice 54 v (some (.int .i64 1)) none none).run Try.prog w = .ok v' w ∧ AhP w1 bA v' r := by
  obtain ⟨a, c, rfl, hc, hS, hb⟩ := h
  obtain ⟨g, off, rfl, hlt, hcell⟩ := hS.at_ (by simp)
  have hs := run_slice_l (P := Try.prog) w 54 (some ⟨g, off, none⟩) (r.length + 1) c Try.underlying54 .i64 1 (by omega) (by omega)
  rw [List.length_cons, hs, show Try.prog.elem 54 = 3 by kernel_rfl, Try.sizeOf3]
  simp only [Result.andThen, sliced]
  rw [List.length_cons] at hc
  have hr : ∀ off', (0 < r.length → off' = off + 1) → StrRow w1 (some ⟨g, off', none⟩) r.length r := fun off' ho => by
    have hm := hS.max
    rw [List.length_cons] at hm
    refine ⟨rfl, by omega, fun i x hx => hS.each (i + 1) x (by simpa using hx), fun h0 => ⟨g, off', rfl, hlt, fun i x hx => ?_⟩⟩
    rw [ho h0, show off + 1 + i = off + (i + 1) by omega]
    exact hcell (i + 1) x (by simpa using hx)
  by_cases hc1 : c = 1
  · subst hc1
    exact ⟨_, rfl, some ⟨g, off, none⟩, 0, by simp, by omega, hr off (fun h => by omega), fun q hq => hb q hq⟩
  · have h1 : ¬ c = Int.toNat 1 := by simpa using hc1
    rw [if_neg h1]
    exact ⟨_, rfl, some ⟨g, off + 1, none⟩, c - 1, by simp [Addr.add], by omega, hr _ (fun _ => rfl), fun q hq => hb q hq⟩
theorem one_row (w : World) {p : Int} (hp : okS p) : StrRow (w.alloc (.cells #[.int .i64 p] 3)) (some ⟨w.heap.size, 0, none⟩) 1 [p] :=
  ⟨rfl, by decide, fun i x hx => by
    cases i with
    | zero => injection hx with hx; subst hx; exact hp
    | succ i => simp at hx, fun _ => ⟨_, 0, rfl, by simp, fun i x hx => by
    cases i with
    | zero => injection hx with hx; subst hx; exact cell_one_new w (.int .i64 p) 3 0 _ rfl
    | succ i => simp at hx⟩⟩
/-- Whereto the lines of p go. -/
def toP (pts : List Int) (ls : List Ln2) (p : Int) : List Int := pts.filter fun t => inL ls p t
theorem toP_mem {pts : List Int} {ls : List Ln2} (h : ∀ y ∈ ls, y.2 ∈ pts) {p t : Int} : t ∈ toP pts ls p ↔ inL ls p t = true := by
  unfold toP
  rw [List.mem_filter]
  exact ⟨fun h => h.2, fun h2 => ⟨h _ (inL_iff.1 h2), h2⟩⟩
theorem toP_set {P : Int → Bool} {pts : List Int} {ls : List Ln2} (hS : SetL P pts) (h : ∀ y ∈ ls, y.2 ∈ pts) {p : Int} {l : List Int} (hl : SetL (fun t => inL ls p t) l) : l = toP pts ls p :=
  set_unique hl (P' := fun t => inL ls p t) ⟨hS.1.sublist List.filter_sublist, fun s => by
    rw [toP_mem h]
    exact ⟨fun h2 => ⟨((hS.2 s).1 (h _ (inL_iff.1 h2))).1, h2⟩, fun h2 => h2.2⟩⟩ (fun _ _ => rfl)
/-- What To hands out, behind ahead's block. -/
theorem ah_of {w w' : World} {e : Ending} {l : List Int} {bA : Nat} (h : TxtsP l w e w') (hb : bA < w.heap.size) (hl : l.length ≤ 1000000) (hok : ∀ x ∈ l, okS x) : ∃ a c, e = .returned (.slice a l.length c) ∧ AhP w' bA (.slice a l.length c) l ∧ Below w.heap.size w w' := by
  obtain ⟨v, rfl, hr, hB⟩ := h
  obtain ⟨a, c, rfl, hS⟩ := str_row hr (by omega) hok
  refine ⟨a, c, rfl, ⟨a, c, rfl, ?_, hS, fun g hg => by have := own_base hr g hg; omega⟩, hB⟩
  rcases hr.2 with ⟨e, h1⟩ | ⟨g, cap, cur, e, -, -, h1, -⟩
  · omega
  · injection e with e1 e2 e3; omega
theorem AhP.chg {w w2 : World} {X : List Nat} {bA : Nat} {v : Value} {xs : List Int} (h : AhP w bA v xs) (hc : Chg w w2 X) (hX : ∀ x ∈ X, x = bA) : AhP w2 bA v xs := by
  obtain ⟨a, c, rfl, h1, h2, h3⟩ := h
  exact ⟨a, c, rfl, h1, hc.texts (c := c) h2 (fun g hg hm => h3 g hg (hX g hm)), h3⟩
end Go.Proofs.Ytdlcpnpmmmpccaa.Gn
/- ORDER: how it begins; more of Chg. (at int) -/
namespace Go.Proofs.Ytdlcpnpmmmpccaa.Gn
open Go.RowKit Go.Maps Go.Sort
open Go.Proofs.Ytdlcpnpmmmpccaa.Gr (grown_none grown_row below_none Qrow qrow_of nodup_le grown_trans Qrow.slice Qrow.shape hp_alloc it step_append_run)
theorem Chg.sub {w w2 : World} {X Y : List Nat} (h : Chg w w2 X) (hs : ∀ x ∈ X, x ∈ Y ∨ w.heap.size ≤ x) : Chg w w2 Y :=
  ⟨h.os, h.tape, h.output, h.size, fun k hk hn => h.block k hk (fun hm => by
    rcases hs k hm with h1 | h1
    · exact hn h1
    · omega)⟩
/-- While ahead is built. -/
structure AB (w : World) (bA : Nat) (pts : List Int) (ls : List Ln2) (vp : Value) (k : Nat) (FA : Int → Value) (wr : World) : Prop where
  below : Below w.heap.size w wr
  low : w.heap.size ≤ bA
  lt : bA < wr.heap.size
  prow : wr.ownsRow w.heap.size 3 1 vp pts.length (pts.map (Value.int .i64))
  apart : vp.ownBlock ≠ some bA
  map : MS wr bA pts FA
  rows : ∀ j x, pts[j]? = some x → j < k → AhP wr bA (FA x) (toP pts ls x)
theorem AB.more {w wr w4 w5 : World} {bA k : Nat} {pts : List Int} {ls : List Ln2} {vp v : Value} {FA : Int → Value} {x : Int} (h : AB w bA pts ls vp k FA wr) (hx : pts[k]? = some x) (hB : Below wr.heap.size wr w4) (hA : AhP w4 bA v (toP pts ls x)) (hM : MS w5 bA pts (fun s => if s = x then v else FA s)) (hg : w4.grownBy w5 (some bA)) : AB w bA pts ls vp (k + 1) (fun s => if s = x then v else FA s) w5 := by
  have c1 : Chg wr w4 [] := chg_of (grow_of hB)
  have c2 : Chg w4 w5 [bA] := chg_of hg
  have c3 := c1.trans c2
  refine ⟨(below_step h.below hB).grown hg (by have := h.below.size; have := hB.size; omega) (fun r e => by injection e with e; have := h.low; omega), h.low, Nat.lt_of_lt_of_le h.lt c3.size, c3.row h.prow (fun g hg hm => h.apart (by simp at hm; rw [hg, hm])), h.apart, hM, fun j y hy hj => ?_⟩
  by_cases e : y = x
  · subst e
    simp only [if_true]
    exact hA.chg c2 (by simp)
  · simp only [e, if_false]
    refine (h.rows j y hy ?_).chg c3 (by simp)
    refine Nat.lt_of_le_of_ne (by omega) (fun e2 => ?_)
    subst e2
    rw [hx] at hy
    injection hy with hy
    exact e hy.symm
theorem hp_alloc (w : World) (o : Obj) (k : Nat) : (w.alloc o).heap[k]? = if k = w.heap.size then some o else w.heap[k]? := by
  show (w.heap.push o)[k]? = _
  rw [Array.getElem?_push]
/-- The world in which Order's loop begins. -/
abbrev wOr (w1 : World) : World := ((((w1.alloc (.map #[] 0)).alloc (.map #[] 0)).alloc (.cells #[.map (some w1.heap.size)] 91)).alloc (.cells #[] 3)).alloc (.cells #[.slice (some ⟨w1.heap.size + 1 + 1 + 1, 0, none⟩) 0 0] 97)
theorem OM.begin {w w1 : World} {bA : Nat} {pts : List Int} {ls : List Ln2} {a : Option Addr} {c : Nat} {FA : Int → Value} (h : AB w bA pts ls (.slice a pts.length c) pts.length FA w1) (hok : ∀ x ∈ pts, okS x) (hl : pts.length ≤ 1000000) : OM w1 bA w1.heap.size (w1.heap.size + 1 + 1) (w1.heap.size + 1) (w1.heap.size + 1 + 1 + 1 + 1) pts (wOr w1) [] [] pts FA (fun _ => nilS) (toP pts ls) (fun _ => []) (.slice (some ⟨w1.heap.size + 1 + 1 + 1, 0, none⟩) 0 0) (.slice none 0 0) (.slice a pts.length c) := by
  have b1 : Below w1.heap.size w1 (w1.alloc (.map #[] 0)) := (Below.refl _ _).alloc (Nat.le_refl _) _
  have b2 := b1.alloc b1.size (.map #[] 0)
  have b3 := b2.alloc b2.size (.cells #[.map (some w1.heap.size)] 91)
  have b4 := b3.alloc b3.size (.cells #[] 3)
  have b5 := b4.alloc b4.size (.cells #[.slice (some ⟨w1.heap.size + 1 + 1 + 1, 0, none⟩) 0 0] 97)
  have hsz : (wOr w1).heap.size = w1.heap.size + 1 + 1 + 1 + 1 + 1 := by simp
  have c5 : Chg w1 (wOr w1) [] := chg_of (grow_of b5)
  have hA := h.lt
  obtain ⟨a', c', e, hS⟩ := str_row h.prow (by omega) hok
  have hblk : ∀ g, (Value.slice a pts.length c).ownBlock = some g → g < w1.heap.size := fun g hg => (h.prow.lt g hg).2
  have n1 : Below (w1.alloc (.map #[] 0)).heap.size (w1.alloc (.map #[] 0)) (wOr w1) := ((((Below.refl _ _).alloc (Nat.le_refl _) _).alloc (by simp) _).alloc (by simp) _).alloc (by simp) _
  have n2 : Below ((w1.alloc (.map #[] 0)).alloc (.map #[] 0)).heap.size ((w1.alloc (.map #[] 0)).alloc (.map #[] 0)) (wOr w1) := (((Below.refl _ _).alloc (Nat.le_refl _) _).alloc (by simp) _).alloc (by simp) _
  have m1 := (SM.made w1).below n1
  have m2 := (MS.made (w1.alloc (.map #[] 0)) pts).below n2
  rw [show (w1.alloc (.map #[] 0)).heap.size = w1.heap.size + 1 by simp] at m2
  refine ⟨⟨c5.os, c5.tape, c5.output, c5.size, fun k hk _ => c5.block k hk (by simp)⟩, hA, fun b hb => ?_, ?_, c5.ms h.map (by simp), fun k hk => ?_, ⟨?_, m1⟩, m2, fun q hq _ => World.ownsRow_nil _ _ _ _, ⟨?_, ?_, ?_⟩, fun i h0 hi => by simp at hi, World.ownsRow_nil _ _ _ _, ⟨a', c', e, c5.texts (c := c) hS (fun _ _ => by simp)⟩, fun g hg => by have := hblk g hg; omega, ?_⟩
  · rw [hsz]
    simp at hb
    omega
  · simp
    omega
  · obtain ⟨i, hi, e⟩ := List.getElem_of_mem hk
    exact h.rows i k (by rw [← e]; exact List.getElem?_eq_getElem hi) hi
  · have g2 : (wOr w1).heap[w1.heap.size + 1 + 1]? = some (.cells #[.map (some w1.heap.size)] 91) := by
      rw [hp_alloc, if_neg (by simp), hp_alloc, if_neg (by simp), hp_alloc, if_pos (by simp)]
    simp only [World.cell?, g2]
    simp
  · rw [hp_alloc, if_pos (by simp)]
  · refine ⟨by simp, .inr ⟨_, 0, #[], rfl, by omega, ?_, by simp, by decide, by simp, by simp⟩⟩
    rw [hp_alloc, if_neg (by simp), hp_alloc, if_pos (by simp)]
  · simp [Value.ownBlock]
  · intro t ht g hg
    cases t with
    | hp =>
      simp [bkT, Value.ownBlock] at hg
      subst hg
      refine ⟨by simp; omega, fun t' _ hne => ?_⟩
      cases t' with
      | hp => exact absurd rfl hne
      | ls => simp [bkT, Value.ownBlock]
      | op => intro e; have := hblk _ e; omega
      | wt q => simp [bkT, Value.ownBlock]
    | ls => simp [bkT, Value.ownBlock] at hg
    | op =>
      have h1 := hblk g hg
      have h2 : g ≠ bA := fun e2 => h.apart (by rw [← e2]; exact hg)
      refine ⟨by simp; omega, fun t' _ hne => ?_⟩
      cases t' with
      | hp => intro e; simp [bkT, Value.ownBlock] at e; omega
      | ls => simp [bkT, Value.ownBlock]
      | op => exact absurd rfl hne
      | wt q => simp [bkT, Value.ownBlock]
    | wt q => simp [bkT, Value.ownBlock] at hg
end Go.Proofs.Ytdlcpnpmmmpccaa.Gn
/- WALK of graph's Order. (at int) -/
namespace Go.Proofs.Ytdlcpnpmmmpccaa.Gn
open Go.RowKit Go.Maps Go.Sort
open Go.Proofs.Ytdlcpnpmmmpccaa.Gr (grown_none grown_row below_none Qrow qrow_of nodup_le grown_trans Qrow.slice Qrow.shape hp_alloc it step_append_run)
/-- What Order hands out. -/
def OrderP (P : Int → Bool) (ls : List Ln2) (w : World) (e : Ending) (w' : World) : Prop := ∃ pts v1 v2, SetL P pts ∧ e = .returned (.tuple #[v1, v2]) ∧ w'.ownsRow w.heap.size 3 1 v1 (ordL pts ls).length ((ordL pts ls).map (Value.int .i64)) ∧ w'.ownsRow w.heap.size 3 1 v2 (pts.filter fun p => !inB p (ordL pts ls)).length ((pts.filter fun p => !inB p (ordL pts ls)).map (Value.int .i64)) ∧ Below w.heap.size w w'
set_option maxRecDepth 100000 in
set_option maxHeartbeats 16000000 in
theorem order_any {w : World} {base G m : Nat} {P : Int → Bool} {ls : List Ln2} (h : GR w base G m P (inL ls)) (hm : m ≤ 300000) (hPL : ∀ y ∈ ls, P y.1 = true ∧ P y.2 = true) (hLn : ∀ y ∈ ls, okS y.1 ∧ okS y.2) : Calls Try.prog 31 #[.pointer (some ⟨G, 0, none⟩)] w (OrderP P ls w) := by
  have HG := Lib.hid h
  have HLP := Lib.hid hPL
  have HLN := Lib.hid hLn
  have HPT := Lib.hid (points_any h (by omega))
  have hmm := @run_makeMap Try.prog
  obtain ⟨i0, hi, hz0, hz1, hz2⟩ := info_parts info3
  clear h hPL hLn
  go_enter Try.func31, Try.ntmps31
  go_wp2_with fail
  go_at_call 62; refine HPT.out.mono ?_; rintro e w2 ⟨pts, ⟨v2, rfl, hr2, hB2⟩, hS2, hl2⟩
  obtain ⟨a2, c2, rfl, hR2⟩ := str_row hr2 (by omega) (fun y hy => ((hS2.2 y).1 hy).1)
  have HS2 := Lib.hid hS2
  have HL2 := Lib.hid (show pts.length ≤ 300000 by omega)
  have HY := Lib.hid (show ∀ y ∈ ls, y.2 ∈ pts from fun y hy => (hS2.2 _).2 ⟨(HLN.out y hy).2, (HLP.out y hy).2⟩)
  have hbelow2 : Below w2.heap.size w2 (w2.alloc (.map #[] 0)) := (Below.refl _ _).alloc (Nat.le_refl _) _
  have HA0 := Lib.hid (show AB w w2.heap.size pts ls (.slice a2 pts.length c2) 0 (fun _ => nilS) (w2.alloc (.map #[] 0)) from
    ⟨below_step hB2 hbelow2, hB2.size, by simp, (chg_of (grow_of hbelow2)).row hr2 (fun _ _ => by simp), fun e => by have := (hr2.lt _ e).2; omega, MS.made w2 pts, fun j x _ hj => absurd hj (by omega)⟩)
  clear hr2 hB2 hR2 hS2 hl2 hbelow2 HPT
  go_wp2_with fail
  go_loopw [21] (fun i wr => ∃ (k : Nat) (FA : Int → Value), k ≤ pts.length ∧ i = .int .i64 k ∧ Hid (AB w w2.heap.size pts ls (.slice a2 pts.length c2) k FA wr)) (fun i _ => pts.length - (intOf i).toNat)
  case atStart => exact ⟨0, _, by omega, rfl, HA0⟩
  case round =>
    obtain ⟨k, FA, hk, rfl, hA⟩ := hrel
    rename World => wr
    have HA := Lib.hid hA.out
    clear hA HA0
    have hpl := HL2.out
    by_cases hlt : k < pts.length
    · obtain ⟨x, hx⟩ : ∃ x, pts[k]? = some x := ⟨pts[k], List.getElem?_eq_getElem _⟩
      have hxm := List.mem_of_getElem? hx
      obtain ⟨g, cap', hv, hgb, hgl⟩ := HA.out.prow.form (by omega)
      injection hv with e1 e2 e3
      subst e1 e3
      have hc : wr.cell? ⟨g, k, none⟩ = some (.int .i64 x) := by
        rw [HA.out.prow.cellAt k (by simpa using hlt)]
        simp [hx]
      have hok := ((HS2.out.2 x).1 hxm).1
      have HTo := Lib.hid (to_any (HG.out.below HA.out.below) (by omega) hok)
      have HX := Lib.hid hx
      have HXM := Lib.hid hxm
      have HOK := Lib.hid hok
      have HWL := Lib.hid HA.out.lt
      clear hx hxm hok hgb hgl e2
      go_wp2_with fail
      go_at_call 63; refine HTo.out.mono ?_; rintro e w4 ⟨tl, hT4, hS4, hl4⟩
      obtain rfl := toP_set HS2.out HY.out hS4
      obtain ⟨a4, c4, rfl, hA4, hB4⟩ := ah_of hT4 HWL.out (by omega) (fun y hy => ((hS4.2 y).1 hy).1)
      obtain ⟨w5, hrun5, hM5, hg5⟩ := (HA.out.map.below hB4).put HS2.out.1 (fun s hs => ((HS2.out.2 s).1 hs).1) HXM.out (by have := HL2.out; omega) a4 (toP pts ls x).length c4
      have HN := Lib.hid (HA.out.more HX.out hB4 hA4 hM5 hg5)
      clear hT4 hS4 hl4 hA4 hB4 hM5 hg5
      go_wp2_with fail
      go_roundw
      case rel => exact ⟨k + 1, _, by omega, by go_num, HN⟩
      case measure => simp [intOf]; omega
    · have hki : ¬ (k : Int) < (pts.length : Int) := by omega
      obtain rfl : k = pts.length := by omega
      rename World => w1
      have HOK := Lib.hid (show ∀ x ∈ pts, okS x from fun x hx => ((HS2.out.2 x).1 hx).1)
      have HM0 := Lib.hid (OM.begin HA.out HOK.out (by omega))
      have HO0 := Lib.hid (OI.begin (ls := ls) (T := toP pts ls) HS2.out.1.nodup)
      go_wp2_with fail
      go_loopg [2, 11] 300001 (fun gk u2 u11 wr => ∃ l hs opx FA FW AH WT vh a11 n11 c11, u11 = .slice a11 n11 c11 ∧ n11 ≤ 300000 ∧ Hid (n11 = opx.length) ∧ Hid (pts.length < gk + l.length) ∧ Hid (OM w1 w2.heap.size w1.heap.size (w1.heap.size + 1 + 1) (w1.heap.size + 1) (w1.heap.size + 1 + 1 + 1 + 1) pts wr l hs opx FA FW AH WT vh u2 (.slice a11 n11 c11)) ∧ Hid (OI pts ls (toP pts ls) l hs opx AH WT))
      case atStart => exact ⟨_, _, _, _, _, _, _, _, a2, _, c2, rfl, hpl, Lib.hid rfl, Lib.hid (by simp; omega), HM0, HO0⟩
      case round =>
        obtain ⟨l, hs, opx, FA, FW, AH, WT, vh, a11, n11, c11, rfl, hn, hno, hgk, hM, hO⟩ := hrel
        have HNO := Lib.hid hno.out
        have HGK := Lib.hid hgk.out
        have HM := Lib.hid hM.out
        have HO := Lib.hid hO.out
        clear hno hgk hM hO HM0 HO0
        go_wp2_with fail
        go_step3
        go_wp2_with fail
        go_step3
        go_wp2_with fail
        go_loopw [38] (fun i wr => ∃ (k : Nat) (hs : List Int) (FA FW : Int → Value) (AH WT : Int → List Int) (vh : Value), k ≤ n11 ∧ i = .int .i64 k ∧ Hid (OM w1 w2.heap.size w1.heap.size (w1.heap.size + 1 + 1) (w1.heap.size + 1) (w1.heap.size + 1 + 1 + 1 + 1) pts wr l hs opx FA FW AH WT vh u2 (.slice a11 n11 c11)) ∧ Hid (OI pts ls (toP pts ls) l hs (opx.drop k) AH WT)) (fun i _ => n11 - (intOf i).toNat)
        case atStart => exact ⟨0, hs, FA, FW, AH, WT, vh, by omega, rfl, HM, HO⟩
        case round =>
          clear HM HO
          obtain ⟨k, hs, FA, FW, AH, WT, vh, hk, rfl, hM, hO⟩ := hrel
          have HM := Lib.hid hM.out
          have HO := Lib.hid hO.out
          clear hM hO
          by_cases hlt : k < n11
          · have hnn := HNO.out
            obtain ⟨a', c', e', hS⟩ := HM.out.opened
            injection e' with e1 e2 e3
            subst e1 e3
            obtain ⟨b0, off, rfl, hb, hc⟩ := hS.at_ (by omega)
            obtain ⟨p, hp⟩ : ∃ p, opx[k]? = some p := ⟨opx[k]'(by omega), List.getElem?_eq_getElem _⟩
            have hcell : wr.cell? ⟨b0, off + k, none⟩ = some (.int .i64 p) := hc k p hp
            have hdr : opx.drop k = p :: opx.drop (k + 1) := by
              obtain ⟨hlt2, e⟩ := List.getElem?_eq_some_iff.1 hp
              rw [List.drop_eq_getElem_cons hlt2, e]
            rw [hdr] at HO
            have hpm : p ∈ pts := HO.out.sub p (by simp)
            have hok := HOK.out p hpm
            have HPM := Lib.hid hpm
            have HOKP := Lib.hid hok
            have hlen : (AH p).length < 300001 := by
              obtain ⟨d, e, -⟩ := HO.out.ahd p hpm
              have h1 := congrArg List.length e
              have h2 := List.length_filter_le (fun t => inL ls p t) pts
              unfold toP at h1
              rw [List.length_append] at h1
              omega
            have HLEN := Lib.hid hlen
            clear e2 hb hc hp hS hdr hpm hok hlen hnn
            go_wp2_with fail
            go_loopg [] 300001 (fun gk wr => ∃ FA AH, Hid ((AH p).length < gk) ∧ Hid (OM w1 w2.heap.size w1.heap.size (w1.heap.size + 1 + 1) (w1.heap.size + 1) (w1.heap.size + 1 + 1 + 1 + 1) pts wr l hs opx FA FW AH WT vh u2 (.slice (some ⟨b0, off, none⟩) n11 c11)) ∧ Hid (OI pts ls (toP pts ls) l hs (p :: opx.drop (k + 1)) AH WT))
            case atStart => exact ⟨FA, AH, HLEN, HM, HO⟩
            case round =>
              clear HM HO hcell HLEN
              obtain ⟨FA, AH, hgk4, hM, hO⟩ := hrel
              have HG4 := Lib.hid hgk4.out
              have HM := Lib.hid hM.out
              have HO := Lib.hid hO.out
              clear hgk4 hM hO
              rename World => wr
              obtain ⟨aA, cA, eA, hcA, hSA, hbA⟩ := HM.out.rowsA p HPM.out
              have hlA := HM.out.ahead.look HOKP.out
              rw [eA] at hlA
              have HEA := Lib.hid eA
              have HFEW := Lib.hid HO.out.few
              cases hAp : AH p with
              | nil =>
                rw [hAp, List.length_nil] at hlA
                have HAP := Lib.hid hAp
                have HPU := Lib.hid (hpush_any HM.out.heap HM.out.isH (by have := HFEW.out; omega) HM.out.base.size HOKP.out)
                clear hAp eA hcA hSA hbA
                go_wp2_with fail
                go_at_call 54; refine HPU.out.mono ?_; rintro e w5 ⟨rfl, vh', hs', hp', hi', hH', hst'⟩
                have HN := Lib.hid (HM.out.heapS hst' hH' hi')
                have HN2 := Lib.hid (HO.out.push (fun p t h => (toP_mem HY.out).2 h) HAP.out hp')
                clear hp' hi' hH' hst' HPU HAP HEA
                go_wp2_with fail
                go_roundw
                case rel => exact ⟨k + 1, hs', FA, FW, AH, WT, vh', by omega, by go_num, HN, HN2⟩
                case measure => simp [intOf]; omega
              | cons t r =>
                rw [hAp, List.length_cons] at hlA hSA hcA
                obtain ⟨g, off2, rfl, -, -⟩ := hSA.at_ (by omega)
                have hAw := ((chg_of HM.out.base).texts (c := cA) hSA (fun g hg hm => hbA g (by rw [eA, hAp]; exact hg) (by simpa using hm)))
                obtain ⟨g', off', e', -, hc2⟩ := hAw.at_ (by omega)
                injection e' with e'
                injection e' with e1 e2
                subst e1 e2
                have hc0 : wr.cell? ⟨g, off2, none⟩ = some (.int .i64 t) := hc2 0 t rfl
                have hmt : t ∈ toP pts ls p := by
                  obtain ⟨d, e, -⟩ := HO.out.ahd p HPM.out
                  rw [e, hAp]; simp
                have htm : t ∈ pts := (List.mem_filter.1 hmt).1
                have hokt := HOK.out t htm
                have hciB := HM.out.ins.1
                have hlI := HM.out.ins.2.look hokt
                have HAP := Lib.hid hAp
                have HTM := Lib.hid htm
                have HOKT := Lib.hid hokt
                obtain ⟨nA, hnA⟩ : ∃ n, r.length + 1 = n := ⟨_, rfl⟩
                have hposA : 0 < nA := by omega
                have HAH : Hid (AhP w1 w2.heap.size (.slice (some ⟨g, off2, none⟩) nA cA) (t :: r)) := Lib.hid (by
                  rw [← hnA]
                  exact ⟨some ⟨g, off2, none⟩, cA, by simp, by simpa using hcA, hSA, fun q hq => hbA q (by rw [eA, hAp]; exact hq)⟩)
                rw [hnA] at hlA
                have HNA := Lib.hid hnA
                clear hAp eA hcA hSA hbA hAw hc2 hmt htm hokt hnA
                cases hin : inB t l with
                | true =>
                  rw [hin] at hlI
                  obtain ⟨v', hrunT, hAv⟩ := run_tailA (w := wr) HAH.out
                  have hAv2 := hAv
                  obtain ⟨a5, c5, rfl, -⟩ := hAv2
                  obtain ⟨w5, hrun5, hM5, hg5⟩ := HM.out.ahead.put HS2.out.1 HOK.out HPM.out (by omega) a5 r.length c5
                  have HN := Lib.hid (HM.out.drop hM5 hg5 hAv)
                  have HN2 := Lib.hid (HO.out.drop HAP.out (inB_iff.1 hin))
                  have HL5 := Lib.hid (show r.length + 1 < gk by have := HG4.out; rw [HAP.out] at this; simpa using this)
                  clear hin hAv hM5 hg5
                  go_wp2_with fail
                  go_roundg (r.length + 1)
                  case measure => exact HL5.out
                  case rel => exact ⟨_, _, Lib.hid (by simp), HN, HN2⟩
                | false =>
                  rw [hin] at hlI
                  have htl : t ∉ l := fun hm => by rw [inB_iff.2 hm] at hin; cases hin
                  have HIN := Lib.hid hin
                  have hlW := HM.out.wait.look HOKT.out
                  have rowW := HM.out.rowsW t HTM.out htl
                  obtain ⟨aw, cw, eW⟩ := (qrow_of rowW).slice
                  rw [List.length_map] at eW
                  have hwl := HO.out.fewW htl
                  obtain ⟨v', w5, hrunA, hR5, hg5, hat5⟩ := run_own (news := [p]) (rowW.alloc (.cells #[.int .i64 p] 3)) (one_row wr HOKP.out) (c := 1) (by rw [List.length_singleton]; omega) (by have := HM.out.base.size; simp; omega) 54
                  obtain ⟨a5, c5, rfl⟩ := (qrow_of hR5).slice
                  rw [List.length_map] at hrunA hR5 hat5
                  rw [List.length_singleton] at hrunA
                  have hsepT := HM.out.sep (.wt t) ⟨HTM.out, htl⟩
                  have hbW : ∀ q, (FW t).ownBlock = some q → q ≠ w1.heap.size + 1 := fun q hq e => (hsepT q hq).1 (by simp [e])
                  have hWlt := (HM.out.far (w1.heap.size + 1) (by simp)).2
                  have cA1 : Chg wr (wr.alloc (.cells #[.int .i64 p] 3)) [] := chg_of (World.grownBy_alloc wr (.cells #[.int .i64 p] 3) none)
                  have hMS5 := (chg_of hg5).ms (cA1.ms HM.out.wait (by simp)) (fun hm => hbW _ (by simpa using hm) rfl)
                  obtain ⟨w6, hrun6, hM6, hg6⟩ := hMS5.put HS2.out.1 HOK.out HTM.out (by omega) a5 (WT t ++ [p]).length c5
                  have hcc : Chg wr w6 ((w1.heap.size + 1) :: (FW t).ownBlock.toList) := ((cA1.trans (chg_of hg5)).trans (chg_of hg6)).sub (fun x hx => by
                    simp at hx
                    rcases hx with hx | hx
                    · exact .inl (by simp [hx])
                    · exact .inl (by simp [hx]))
                  have hat6 : (Value.slice a5 (WT t ++ [p]).length c5).ownBlock = (FW t).ownBlock ∨ ∃ g, (Value.slice a5 (WT t ++ [p]).length c5).ownBlock = some g ∧ wr.heap.size ≤ g := by
                    rcases hat5 with h5 | h5
                    · exact .inl h5
                    · exact .inr ⟨_, h5, by simp⟩
                  have hR6 := (chg_of hg6).row hR5 (fun q hq hm => by
                    have hm : q = w1.heap.size + 1 := by simpa using hm
                    rcases hat6 with h5 | ⟨q2, h5, h6⟩
                    · exact hbW q (by rw [← h5]; exact hq) hm
                    · rw [h5] at hq; injection hq with hq; omega)
                  have HN := Lib.hid (HM.out.waitS HTM.out htl hcc hR6 hat6 hM6)
                  have HN2 := Lib.hid (HO.out.wait (fun p t h => (toP_mem HY.out).1 h) HAP.out htl)
                  rw [eW] at hlW hrunA
                  obtain ⟨nW, hnW⟩ : ∃ n, (WT t ++ [p]).length = n := ⟨_, rfl⟩
                  rw [hnW] at hrunA hrun6 HN
                  clear hnW
                  clear hin htl rowW eW hR5 hg5 hat5 hsepT hbW hWlt cA1 hMS5 hM6 hg6 hcc hat6 hR6 hwl
                  go_wp2_with (at_builtin; refine Lib.wpList_append_run _ rfl _ _ _ _ rfl _ _ rfl rfl _ _ hrunA ?_)
                  go_roundw
                  case rel => exact ⟨k + 1, hs, _, _, _, _, vh, by omega, by go_num, HN, HN2⟩
                  case measure => simp [intOf]; omega
          · obtain rfl : k = n11 := by omega
            have hdr : opx.drop k = [] := List.drop_of_length_le (by have := HNO.out; omega)
            rw [hdr] at HO
            obtain ⟨ah, ch, rfl⟩ := HM.out.heap.shape
            have hcH := HM.out.heap.cell
            have HFEW := Lib.hid HO.out.few
            by_cases hs0 : hs = []
            · subst hs0
              have HL := Lib.hid HO.out.done
              have c1 := chg_of HM.out.base
              have hpw : wr.ownsRow w.heap.size 3 1 (.slice a2 pts.length c2) pts.length (pts.map (Value.int .i64)) := c1.row HA.out.prow (fun q hq hm => HA.out.apart (by rw [hq]; congr; simpa using hm))
              have hv2 : ∀ q, (Value.slice a2 pts.length c2).ownBlock = some q → q < w1.heap.size := fun q hq => (HA.out.prow.lt q hq).2
              have HD := Lib.hid (delete_any 66 enters58 hpw HOK.out HM.out.ins (tells58 _ _ _ _) (fun e => by have := hv2 _ e; omega) (fun e => by have := hv2 _ e; omega))
              have HV2 := Lib.hid hv2
              have hB5 : Below w.heap.size w wr := HA.out.below.grown HM.out.base HA.out.below.size (fun r e => by injection e with e; have := HA.out.low; omega)
              have HB5 := Lib.hid hB5
              have HPW := Lib.hid hpw
              clear hdr c1 hpw hv2 hB5
              rw [List.length_nil] at hcH
              go_wp2_with fail
              go_at_call 64; refine (hlen_any _ _ _ _).mono ?_; rintro e w6 ⟨rfl, rfl⟩
              go_wp2_with fail
              rw [Exit.noGoto_exit]
              go_wp2_with fail
              go_at_call 65; refine HD.out.mono ?_; rintro e w6 ⟨v6, rfl, hr6, hg6⟩
              have HZ := Lib.hid (And.intro hr6 hg6)
              clear hr6 hg6
              go_wp2_with fail
              go_ret2
              obtain ⟨hr6, hg6⟩ := HZ.out
              have hl := HL.out
              have hrl := (chg_of hg6).row HM.out.row (fun q hq hm => by
                have h1 := own_base HM.out.row q hq
                cases hb : (Value.slice a2 pts.length c2).ownBlock with
                | none => rw [hb] at hm; simp at hm
                | some q2 => rw [hb] at hm; have := HV2.out q2 hb; simp at hm; omega)
              have h1 := HA.out.below.size
              refine ⟨pts, u2, v6, HS2.out, rfl, ?_, ?_, HB5.out.grown hg6 (by have := HB5.out.size; omega) (fun r e => own_base HPW.out r e)⟩
              · rw [← hl]; exact owns_up hrl h1
              · rw [← hl]
                exact hr6
            · have hpos : 0 < hs.length := by
                cases hs with
                | nil => exact absurd rfl hs0
                | cons x xs => simp
              have HPOP := Lib.hid (hpop_any HM.out.heap HM.out.isH (by have := HFEW.out; omega) hpos)
              have HLEAST := Lib.hid HM.out.isH.least
              obtain ⟨kk, hkk⟩ : ∃ kk, gE hs 0 = kk := ⟨_, rfl⟩
              unfold HPopP at HPOP
              rw [hkk] at HPOP HLEAST
              obtain ⟨nh, hnh⟩ : ∃ n, hs.length = n := ⟨_, rfl⟩
              rw [hnh] at HM hcH HPOP hpos
              have HNH := Lib.hid hnh
              have hne : ¬ (nh : Int) = 0 := by omega
              clear hdr hs0 hkk hnh
              go_wp2_with fail
              go_at_call 64; refine (hlen_any _ _ _ _).mono ?_; rintro e w6 ⟨rfl, rfl⟩
              go_wp2_with fail
              go_at_call 56; refine HPOP.out.mono ?_; rintro e w5 ⟨rfl, vh', hs', hp', hi', hH', hst'⟩
              have hM5 := HM.out.heapS hst' hH' hi'
              have hkh : kk ∈ hs := hp'.mem_iff.1 (by simp)
              have hkp : kk ∈ pts := HO.out.sub kk (by simp [hkh])
              have hkl : kk ∉ l := fun hm => by
                have h1 := HO.out.nd
                rw [List.nodup_append] at h1
                exact h1.2.2 kk hm kk (by simp [hkh]) rfl
              have hokk := HOK.out kk hkp
              have HN2 := Lib.hid (HO.out.pop HS2.out.1 hp' (fun q hq => by
                obtain ⟨i, hi, e⟩ := List.getElem_of_mem hq
                have := HLEAST.out i (by have := HNH.out; omega)
                unfold gE at this
                rw [List.getD_eq_getElem?_getD, List.getElem?_eq_getElem hi] at this
                rw [← e]
                exact this))
              have hwl := HO.out.fewW hkl
              have chg0 : Chg w5 (World.drew w5) [] := chg_of (grow_of ((Below.refl w5.heap.size w5).drew))
              have hrow := chg0.row hM5.row (fun _ _ => by simp)
              obtain ⟨v6, w6, hrun6, hR6, hg6, hat6⟩ := run_own (news := [kk]) (hrow.alloc (.cells #[.int .i64 kk] 3)) (one_row (World.drew w5) hokk) (c := 1) (by rw [List.length_singleton]; have := HFEW.out; omega) (by have h1 := hM5.base.size; have h2 := chg0.size; simp; omega) 54
              rw [List.length_singleton] at hrun6
              have cA1 : Chg (World.drew w5) ((World.drew w5).alloc (.cells #[.int .i64 kk] 3)) [] := chg_of (World.grownBy_alloc (World.drew w5) (.cells #[.int .i64 kk] 3) none)
              have c6 := (chg0.trans cA1).trans (chg_of hg6)
              have hsepL := hM5.sep .ls trivial
              have hxl : ∀ z ∈ [w2.heap.size, w1.heap.size, w1.heap.size + 1 + 1, w1.heap.size + 1, w1.heap.size + 1 + 1 + 1 + 1], z ∉ ([] ++ [] ++ u2.ownBlock.toList) := fun z hz hm => (hsepL z (by simpa [bkT] using hm)).1 hz
              have hin6 := c6.clm hM5.ins (hxl _ (by simp)) (hxl _ (by simp))
              obtain ⟨w7, hrun7, hM7, hg7⟩ := hin6.2.put hokk (by have := HFEW.out; omega)
              have hcD : (World.drew w5).cell? ⟨w1.heap.size + 1 + 1, 0, none⟩ = some (.map (some w1.heap.size)) := (chg0.clm hM5.ins (by simp) (by simp)).1
              have hcA : ((World.drew w5).alloc (.cells #[.int .i64 kk] 3)).cell? ⟨w1.heap.size + 1 + 1, 0, none⟩ = some (.map (some w1.heap.size)) := ((chg0.trans cA1).clm hM5.ins (by simp) (by simp)).1
              have hcA2 : (World.drew (w5.alloc (.cells #[.int .i64 kk] 3))).cell? ⟨w1.heap.size + 1 + 1, 0, none⟩ = some (.map (some w1.heap.size)) := hcA
              have hc6 := hin6.1
              have c7 : Chg w5 w7 (w1.heap.size :: u2.ownBlock.toList) := (c6.trans (chg_of hg7)).sub (fun x hx => by
                simp at hx
                rcases hx with hx | hx
                · exact .inl (by simp [hx])
                · exact .inl (by simp [hx]))
              have hat7 : v6.ownBlock = u2.ownBlock ∨ ∃ g, v6.ownBlock = some g ∧ w5.heap.size ≤ g := by
                rcases hat6 with h5 | h5
                · exact .inl h5
                · exact .inr ⟨_, h5, (chg0.trans cA1).size⟩
              have hbI := (hM5.far w1.heap.size (by simp)).2
              have hR7 := (chg_of hg7).row hR6 (fun q hq hm => by
                have hm : q = w1.heap.size := by simpa using hm
                rcases hat7 with h5 | ⟨q2, h5, h6⟩
                · exact (hsepL q (by simp only [bkT]; rw [← h5]; exact hq)).1 (by simp [hm])
                · rw [h5] at hq; injection hq with hq; omega)
              have hClM : ClM w7 (w1.heap.size + 1 + 1) w1.heap.size (l ++ [kk]).length (fun s => inB s (l ++ [kk])) := by
                refine ⟨?_, ?_⟩
                · have hltB : w1.heap.size + 1 + 1 < w6.heap.size := World.block_lt_of_cell? _ _ hc6
                  rw [World.cell?_of_block (w := w6) (a := ⟨w1.heap.size + 1 + 1, 0, none⟩) (hg7.block _ hltB (by simp; omega))]
                  exact hc6
                · have : (fun s => inB s (l ++ [kk])) = fun s => inB s l || decide (s = kk) := by
                    funext s
                    simp [inB, eq_comm]
                  rw [this, List.length_append]
                  exact hM7
              have HN := Lib.hid (hM5.next hkp hkl (fun x hx => HOK.out x (HO.out.wt kk x hkl hx).1) (by omega) c7 hR7 hat7 hClM)
              have hlW := HN.out.wait.look hokk
              obtain ⟨aK, cK, eK, -⟩ := HN.out.opened
              rw [eK] at hlW HN
              have hass := run_assert kk w5
              have HRUN := Lib.hid hrun6
              have HGR := Lib.hid (show pts.length - l.length < gk ∧ pts.length < (pts.length - l.length) + (l ++ [kk]).length from by
                have h1 := HFEW.out
                have h2 := HGK.out
                rw [List.length_append, List.length_singleton]
                omega)
              clear hp' hi' hH' hst' hM5 hkh hkp hkl hokk chg0 hrow hR6 hg6 hat6 cA1 c6 hsepL hxl hin6 hM7 hg7 c7 hat7 hbI hR7 hClM eK hrun6
              go_upto_region 23 with fail
              go_region_law (refine step_append_run (by rfl) _ _ _ _ (by rfl) _ _ (by rfl) (by rfl) _ _ HRUN.out ?_)
              all_goals
                go_wp2_with fail
                rw [Exit.noGoto_normal]
                go_wp2_with fail
                go_roundg (pts.length - l.length)
                case measure => exact HGR.out.1
                case rel => exact ⟨l ++ [kk], hs', WT kk, FA, FW, AH, WT, vh', aK, _, cK, rfl, by omega, Lib.hid rfl, Lib.hid HGR.out.2, HN, HN2⟩
end Go.Proofs.Ytdlcpnpmmmpccaa.Gn
/- GRAPHS OF DIGITS, as numbers and as texts: plain mathematics. -/
namespace Go.Proofs.Ytdlcpnpmmmpccaa.Gn
open Go
open Go.Proofs.Ytdlcpnpmmmpccaa
/-- A digit. -/
def Dg (n : Int) : Prop := 0 ≤ n ∧ n < 10
/-- As a text. -/
def dig (n : Int) : ByteArray := ⟨#[UInt8.ofNat (48 + n.toNat)]⟩
def digL (y : Ln2) : Gr.Ln2 := (dig y.1, dig y.2)
theorem Dg.fin {n : Int} (h : Dg n) : ∃ i : Fin 10, n = (i.val : Int) := ⟨⟨n.toNat, by unfold Dg at h; omega⟩, by unfold Dg at h; simp; omega⟩
theorem dig_dec : ∀ i j : Fin 10, (dig (i.val : Int) = dig (j.val : Int) → i = j) ∧ (((i.val : Int) < (j.val : Int)) ↔ (dig (i.val : Int)).data.toList < (dig (j.val : Int)).data.toList) := by decide
theorem dig_inj {a b : Int} (ha : Dg a) (hb : Dg b) (h : dig a = dig b) : a = b := by
  obtain ⟨i, rfl⟩ := ha.fin
  obtain ⟨j, rfl⟩ := hb.fin
  rw [(dig_dec i j).1 h]
theorem dig_lt {a b : Int} (ha : Dg a) (hb : Dg b) (h : a < b) : (dig a).data.toList < (dig b).data.toList := by
  obtain ⟨i, rfl⟩ := ha.fin
  obtain ⟨j, rfl⟩ := hb.fin
  exact (dig_dec i j).2.1 h
theorem dig_eq {a b : Int} (ha : Dg a) (hb : Dg b) : decide (dig a = dig b) = decide (a = b) := decide_eq_decide.2 ⟨dig_inj ha hb, fun e => by rw [e]⟩
theorem inB_dig {p : Int} {out : List Int} (hp : Dg p) (ho : ∀ x ∈ out, Dg x) : Gr.inB (dig p) (out.map dig) = inB p out := by
  rw [Bool.eq_iff_iff, Gr.inB_iff, inB_iff, List.mem_map]
  exact ⟨fun ⟨x, hx, e⟩ => by rw [← dig_inj (ho x hx) hp e]; exact hx, fun h => ⟨p, h, rfl⟩⟩
theorem all_same {α : Type} {f g : α → Bool} : ∀ {l : List α}, (∀ x ∈ l, f x = g x) → l.all f = l.all g
  | [], _ => rfl
  | x :: l, h => by
    rw [List.all_cons, List.all_cons, h x (by simp), all_same fun y hy => h y (by simp [hy])]
theorem find_same {f g : Int → Bool} : ∀ {l : List Int}, (∀ x ∈ l, f x = g x) → l.find? f = l.find? g
  | [], _ => rfl
  | x :: l, h => by
    rw [List.find?_cons, List.find?_cons, h x (by simp), find_same fun y hy => h y (by simp [hy])]
theorem filter_same {f g : Int → Bool} : ∀ {l : List Int}, (∀ x ∈ l, f x = g x) → l.filter f = l.filter g := fun h => List.filter_congr h
theorem rdyB_dig {ls : List Ln2} {out : List Int} {p : Int} (hp : Dg p) (hl : ∀ y ∈ ls, Dg y.1 ∧ Dg y.2) (ho : ∀ x ∈ out, Dg x) : Gr.rdyB (ls.map digL) (out.map dig) (dig p) = rdyB ls out p := by
  unfold Gr.rdyB rdyB
  rw [List.all_map]
  refine all_same fun y hy => ?_
  obtain ⟨h1, h2⟩ := hl y hy
  show (!decide (dig y.1 = dig p) || Gr.inB (dig y.2) (out.map dig)) = _
  rw [dig_eq h1 hp, inB_dig h2 ho]
theorem nextP_dig {pts : List Int} {ls : List Ln2} {out : List Int} (hp : ∀ x ∈ pts, Dg x) (hl : ∀ y ∈ ls, Dg y.1 ∧ Dg y.2) (ho : ∀ x ∈ out, Dg x) : Gr.nextP (pts.map dig) (ls.map digL) (out.map dig) = (nextP pts ls out).map dig := by
  unfold Gr.nextP nextP
  rw [List.find?_map]
  congr 1
  refine find_same fun x hx => ?_
  show (!Gr.inB (dig x) (out.map dig) && Gr.rdyB (ls.map digL) (out.map dig) (dig x)) = _
  rw [inB_dig (hp x hx) ho, rdyB_dig (hp x hx) hl ho]
theorem ordN_dig {pts : List Int} {ls : List Ln2} (hp : ∀ x ∈ pts, Dg x) (hl : ∀ y ∈ ls, Dg y.1 ∧ Dg y.2) : ∀ n, Gr.it (Gr.ordS (pts.map dig) (ls.map digL)) n [] = (Gr.it (ordS pts ls) n []).map dig ∧ ∀ x ∈ Gr.it (ordS pts ls) n [], x ∈ pts
  | 0 => ⟨rfl, fun x h => by simp [Gr.it] at h⟩
  | n + 1 => by
    obtain ⟨h1, h2⟩ := ordN_dig hp hl n
    show Gr.ordS (pts.map dig) (ls.map digL) (Gr.it (Gr.ordS (pts.map dig) (ls.map digL)) n []) = (ordS pts ls (Gr.it (ordS pts ls) n [])).map dig ∧ ∀ x ∈ ordS pts ls (Gr.it (ordS pts ls) n []), x ∈ pts
    rw [h1]
    generalize Gr.it (ordS pts ls) n [] = out at *
    have h3 := nextP_dig (out := out) hp hl fun x hx => hp x (h2 x hx)
    cases hn : nextP pts ls out with
    | none =>
      rw [hn] at h3
      have e : ordS pts ls out = out := by unfold ordS; rw [hn]
      rw [Gr.ordS_none h3, e]
      exact ⟨rfl, h2⟩
    | some k =>
      rw [hn] at h3
      have e : ordS pts ls out = out ++ [k] := by unfold ordS; rw [hn]
      rw [Gr.ordS_some h3, e, List.map_append]
      refine ⟨rfl, fun x hx => ?_⟩
      rcases List.mem_append.1 hx with hx | hx
      · exact h2 x hx
      · simp at hx
        subst hx
        exact (nextP_some hn).1
theorem ordL_dig {pts : List Int} {ls : List Ln2} (hp : ∀ x ∈ pts, Dg x) (hl : ∀ y ∈ ls, Dg y.1 ∧ Dg y.2) : Gr.ordL (pts.map dig) (ls.map digL) = (ordL pts ls).map dig := by
  unfold Gr.ordL ordL
  rw [List.length_map]
  exact (ordN_dig hp hl pts.length).1
theorem ordL_sub {pts : List Int} {ls : List Ln2} (hp : ∀ x ∈ pts, Dg x) (hl : ∀ y ∈ ls, Dg y.1 ∧ Dg y.2) : ∀ x ∈ ordL pts ls, x ∈ pts := (ordN_dig hp hl pts.length).2
theorem rest_dig {pts : List Int} {ls : List Ln2} (hp : ∀ x ∈ pts, Dg x) (hl : ∀ y ∈ ls, Dg y.1 ∧ Dg y.2) : ((pts.map dig).filter fun p => !Gr.inB p (Gr.ordL (pts.map dig) (ls.map digL))) = (pts.filter fun p => !inB p (ordL pts ls)).map dig := by
  rw [List.filter_map, ordL_dig hp hl]
  congr 1
  refine filter_same fun x hx => ?_
  show (!Gr.inB (dig x) ((ordL pts ls).map dig)) = _
  rw [inB_dig (hp x hx) fun y hy => hp y (ordL_sub hp hl y hy)]
/-- The points: the ends of the lines. -/
def QI (ls : List Ln2) : Int → Bool := fun s => ls.any fun l => decide (s = l.1) || decide (s = l.2)
theorem Dg.ok {n : Int} (h : Dg n) : okS n := by
  obtain ⟨i, rfl⟩ := h.fin
  clear h
  unfold okS
  revert i
  decide
theorem dig_ok (n : Int) : Gr.okS (dig n) := by show 1 ≤ 140737488355328; omega
theorem pts_dig {pts : List Int} {ls : List Ln2} (hS : SetL (QI ls) pts) (hl : ∀ y ∈ ls, Dg y.1 ∧ Dg y.2) : Gr.ptsL [] (ls.map digL) = pts.map dig ∧ ∀ x ∈ pts, Dg x := by
  have hmem : ∀ x, x ∈ pts ↔ ∃ y ∈ ls, x = y.1 ∨ x = y.2 := fun x => by
    rw [hS.2]
    unfold QI
    rw [List.any_eq_true]
    constructor
    · rintro ⟨-, y, hy, h⟩
      exact ⟨y, hy, by simpa using h⟩
    · rintro ⟨y, hy, h⟩
      refine ⟨?_, y, hy, by simpa using h⟩
      rcases h with rfl | rfl
      · exact (hl y hy).1.ok
      · exact (hl y hy).2.ok
  have hD : ∀ x ∈ pts, Dg x := fun x hx => by
    obtain ⟨y, hy, h⟩ := (hmem x).1 hx
    rcases h with rfl | rfl
    · exact (hl y hy).1
    · exact (hl y hy).2
  refine ⟨?_, hD⟩
  have hr : Gr.Rise (pts.map dig) := List.pairwise_map.2 (List.Pairwise.imp_of_mem (fun {a b} ha hb h => dig_lt (hD a ha) (hD b hb) h) hS.1)
  have h0 := Gr.ptsG_set (l := []) (ls := ls.map digL) (fun s h => by simp at h) (fun y hy => by
    obtain ⟨x, -, rfl⟩ := List.mem_map.1 hy
    exact ⟨dig_ok _, dig_ok _⟩)
  refine Gr.rise_unique h0.1 hr fun s => ?_
  rw [h0.2, List.mem_map]
  unfold Gr.QG
  simp only [Gr.inB, List.any_nil, Bool.false_or, List.any_map, List.any_eq_true]
  constructor
  · rintro ⟨-, y, hy, h⟩
    simp only [Function.comp, digL, Bool.or_eq_true] at h
    rcases h with h | h
    · exact ⟨y.1, (hmem _).2 ⟨y, hy, .inl rfl⟩, (of_decide_eq_true h).symm⟩
    · exact ⟨y.2, (hmem _).2 ⟨y, hy, .inr rfl⟩, (of_decide_eq_true h).symm⟩
  · rintro ⟨x, hx, rfl⟩
    obtain ⟨y, hy, h⟩ := (hmem x).1 hx
    refine ⟨dig_ok _, y, hy, ?_⟩
    simp only [Function.comp, digL, Bool.or_eq_true]
    rcases h with rfl | rfl
    · exact .inl (decide_eq_true rfl)
    · exact .inr (decide_eq_true rfl)
end Go.Proofs.Ytdlcpnpmmmpccaa.Gn
