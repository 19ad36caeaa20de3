/- Ho, Ic, Ii, Ij, Ik, Il -/
import Derived.Shelf.SlicesE.DeleteFunc
import Derived.Ground.SlgfProg
import Derived.Test.YtngnegnofmpgkaaZ8
import Derived.Test.YtngnegnofmpgkaaZ16
import Derived.Test.YtngnegnofmpgkaaZ17
/- WALKS of Missing's closure, and of slices.IndexFunc with it. -/
namespace Go.Proofs.Ytngnegnofmpgkaa.Gr
open Go.RowKit Go.Maps Go.Sort
open Go.Proofs.Ytngnegnofmpgkaa.Nm (StrRow)
/-- The closure's box in B, its map in b. -/
def ClM (w : World) (B b m : Nat) (Q : ByteArray → Bool) : Prop := w.cell? ⟨B, 0, none⟩ = some (.map (some b)) ∧ SM w b m Q
/-- No text ahead of place k is told. -/
def Nq (Q : ByteArray → Bool) (xs : List ByteArray) (k : Nat) : Prop := ∀ (j : Nat) (x : ByteArray), xs[j]? = some x → j < k → Q x = false
/-- Where the first one stands that is told, or -1. -/
def Ixq (Q : ByteArray → Bool) (xs : List ByteArray) (i : Int) : Prop := (i = -1 ∧ Nq Q xs xs.length) ∨ ∃ (k : Nat) (x : ByteArray), i = (k : Int) ∧ xs[k]? = some x ∧ Q x = true ∧ Nq Q xs k
end Go.Proofs.Ytngnegnofmpgkaa.Gr
/- slices.DeleteFunc with a closure that looks into a map of names. -/
namespace Go.Proofs
open Go.Shelf
def Try.deleteA_ren : Go.Shelf.Ren := ⟨fun | 10 => 66 | 6 => 90 | n => n, fun | 25 => 63 | 22 => 26 | 23 => 9 | n => n, fun | n => n⟩
theorem Try.deleteA : Go.Proofs.SlLaysH.n10 Try.prog Try.deleteA_ren := {
  mixed := by kernel_rfl
  f6 := ⟨Try.f90.name, by decide, Try.func90.trans (congrArg some (by kernel_rfl))⟩
  f10 := ⟨Try.f66.name, by decide, Try.func66.trans (congrArg some (by kernel_rfl))⟩
  t0 := Try.underlying0
  a0 := Try.isAgg0
  z0 := Try.sizeOf0
  v0 := Try.zeroValue0
  t3 := Try.underlying3
  a3 := Try.isAgg3
  z3 := Try.sizeOf3
  v3 := Try.zeroValue3
  t4 := Try.underlying4
  a4 := Try.isAgg4
  z4 := Try.sizeOf4
  v4 := Try.zeroValue4
  t22 := Try.underlying26
  a22 := Try.isAgg26
  z22 := Try.sizeOf26
  v22 := Try.zeroValue26
  a23 := Try.isAgg9
  z23 := Try.sizeOf9
  t25 := Try.underlying63
  a25 := Try.isAgg63
  z25 := Try.sizeOf63
  v25 := Try.zeroValue63 }
end Go.Proofs
namespace Go.Proofs.Ytngnegnofmpgkaa.Gr
open Go.RowKit Go.Maps Go.Sort
open Go.Proofs.Ytngnegnofmpgkaa.Nm (StrRow)
/-- A text that the memory holds. -/
abbrev Tx := { s : ByteArray // okS s }
instance : Inhabited Tx := ⟨⟨ByteArray.empty, by unfold okS; decide⟩⟩
def encX (x : Tx) : Value := .string x.1
def unX (x : Tx) : ByteArray := x.1
theorem heap_put {α : Type} [Inhabited α] {enc : α → Value} {w : World} {g q : Nat} {cur : Array Value} {e : TypeId} {fr : Nat × Nat} (d : Array α) (hb : w.heap[g]? = some (.cells cur e fr)) : (putRow enc (Sort.ahead w q) g 0 d).heap[g]? = some (.cells (putCells enc 0 d cur) e fr) := by
  simp [putRow, mapBlock, Sort.ahead, Array.getElem?_modify, hb, onCells]
theorem grown_put {α : Type} [Inhabited α] {enc : α → Value} {w : World} {g q : Nat} {os : Array Obj} (d : Array α) : w.grownBy (Sort.grow (putRow enc (Sort.ahead w q) g 0 d) os) (some g) := by
  refine ⟨rfl, rfl, rfl, by simp, fun k hk hne => ?_⟩
  have h1 : g ≠ k := fun e => hne (by rw [e])
  rw [heap_grow_old _ _ (by simpa using hk)]
  simp [putRow, mapBlock, Sort.ahead, Array.getElem?_modify, h1]
theorem take_put {α : Type} [Inhabited α] {enc : α → Value} (cur : Array Value) (ts : List α) (n : Nat) (hn : n ≤ ts.length) (h : ts.length ≤ cur.size) : (putCells enc 0 ts.toArray cur).toList.take n = (ts.take n).map enc := by
  apply List.ext_getElem?
  intro j
  by_cases hj : j < n
  · have h1 : j < ts.length := by omega
    rw [List.getElem?_take_of_lt hj, Array.getElem?_toList]
    simp [putCells, h1, hj, show j < cur.size by omega]
  · rw [List.getElem?_take_eq_none (by omega), List.getElem?_eq_none (by simp; omega)]
theorem sub_list {xs : List ByteArray} (h : ∀ x ∈ xs, okS x) : ∃ ts : List Tx, ts.map unX = xs := ⟨xs.attach.map fun x => ⟨x.1, h x.1 x.2⟩, by rw [List.map_map]; exact List.attach_map_subtype_val xs⟩
/-- What stands ahead, but for a row and new blocks, keeps the closure's map. -/
theorem ClM.kept {w w' : World} {B b m : Nat} {Q : ByteArray → Bool} (h : ClM w B b m Q) {r : Option Nat} (hg : w.grownBy w' r) (h1 : r ≠ some B) (h2 : r ≠ some b) : ClM w' B b m Q :=
  ⟨hg.cell h.1 (fun e => h1 e.symm), h.2.kept hg h2⟩
/-- What a closure over a box tells of texts, wherever its map stands. -/
def Tells (g B b m : Nat) (Q R : ByteArray → Bool) : Prop := ∀ (W : World) (x : ByteArray), ClM W B b m Q → okS x → Calls Try.prog g #[.string x, .pointer (some ⟨B, 0, none⟩)] W fun e w' => e = .returned (.bool (R x)) ∧ W = w'
def CutP (xs : List ByteArray) (base : Nat) (v : Value) (w : World) (e : Ending) (w' : World) : Prop := ∃ v', e = .returned v' ∧ w'.ownsRow base 9 1 v' xs.length (xs.map Value.string) ∧ w.grownBy w' v.ownBlock
theorem index_nil (f : Value) (w : World) : Calls Try.prog 90 #[.slice none 0 0, f] w fun e w' => e = .returned (.int .i64 (-1)) ∧ w = w' := by
  go_enter Try.func90, Try.ntmps90
  go_wp2
  go_loop [8] (fun i => i = .int .i64 0) (fun _ => 0)
  case atStart => rfl
  case round =>
    subst hrel
    go_wp2
    go_ret
    exact ⟨rfl, rfl⟩
theorem delete_any (g : Nat) (eg : ∀ args w, (callFunc g args).run Try.prog w = .ok (.enter g args) w) {w : World} {base : Nat} {v : Value} {xs : List ByteArray} (hr : w.ownsRow base 9 1 v xs.length (xs.map Value.string)) (hok : ∀ x ∈ xs, okS x) {B b m : Nat} {Q R : ByteArray → Bool} (hC : ClM w B b m Q) (hT : Tells g B b m Q R) (hB : v.ownBlock ≠ some B) (hb : v.ownBlock ≠ some b) :
    Calls Try.prog 66 #[v, .func (.func g) #[] #[.pointer (some ⟨B, 0, none⟩)]] w (CutP (xs.filter fun x => !R x) base v w) := by
  rcases hr.2 with ⟨rfl, h0⟩ | ⟨r, cap, cur, rfl, hbase, hcell, h1, h2, h3, h4⟩
  · obtain rfl : xs = [] := List.eq_nil_of_length_eq_zero h0
    clear hr hok hB hb h0 hC hT
    go_enter Try.func66, Try.ntmps66
    go_wp2_with (go_at_call 90; refine (index_nil _ _).mono ?_; rintro e w' ⟨rfl, rfl⟩)
    go_wp2
    go_ret
    exact ⟨_, rfl, World.ownsRow_nil _ _ _ _, ⟨rfl, rfl, rfl, Nat.le_refl _, fun _ _ _ => rfl⟩⟩
  · obtain ⟨ts, rfl⟩ := sub_list hok
    have hlt := (Array.getElem?_eq_some_iff.1 hcell).1
    rw [Nat.mul_one, List.map_map, List.length_map] at h4
    rw [List.length_map] at h1
    unfold maxLen at h2
    have henc : ∀ x : Tx, Calls Try.prog g #[encX x, .pointer (some ⟨B, 0, none⟩)] w fun e w' => e = .returned (.bool (R x.1)) ∧ w = w' := fun x => hT w x.1 hC x.2
    have hpa : PredAt Try.prog g #[.pointer (some ⟨B, 0, none⟩)] encX (fun x => R x.1) w := fun W x hW => (hT W x.1 (hC.kept (grow_of hW) (by simp) (by simp)) x.2).mono fun e w' ⟨he, hw⟩ => ⟨he, 0, by rw [← hw]; rfl⟩
    have hpo : PredOver Try.prog g #[.pointer (some ⟨B, 0, none⟩)] encX (fun x => R x.1) r 0 ts.toArray.size w := fun n os dk x _ => (hT _ x.1 (hC.kept (grown_put dk) (fun e => hB e) (fun e => hb e)) x.2).mono fun e w' ⟨he, hw⟩ => ⟨he, 0, by rw [← hw]; rfl⟩
    have hH : Holds encX w r 0 ts.toArray := by
      intro j hj
      have hj' : j < ts.length := by simpa using hj
      refine ⟨?_, by simp [World.frozen?, hcell]⟩
      have e1 : (cur.toList.take ts.length)[j]? = (ts.map (Value.string ∘ unX))[j]? := by rw [h4]
      rw [List.getElem?_take_of_lt hj'] at e1
      simp only [World.cell?, hcell, Nat.zero_add]
      simp only [Option.isSome_none, Bool.false_eq_true, if_false]
      rw [← Array.getElem?_toList, e1]
      simp [hj', encX, unX]
    have hd := AnyE.slices_DeleteFunc Try.deleteA encX (fun _ => rfl) (fun x => R x.1) g #[.pointer (some ⟨B, 0, none⟩)] eg default (fun w => Try.zeroValue9 w) r 0 cap ts.toArray w hpa hpo hH (by simp; omega) (by simpa using h1)
    rw [show (Value.slice (some ⟨r, 0, none⟩) (List.map unX ts).length cap) = Value.slice (some ⟨r, 0, none⟩) ts.toArray.size cap by simp]
    refine hd.mono ?_
    rintro e w' ⟨rfl, q, rfl⟩
    have hfl : (ts.map unX).filter (fun x => !R x) = (ts.filter fun x => !R x.1).map unX := by rw [List.filter_map]; rfl
    have hle := List.length_filter_le (fun x : Tx => !R x.1) ts
    refine ⟨_, rfl, ?_, ?_⟩
    · rw [hfl, List.length_map, List.map_map]
      refine ⟨by simp, .inr ⟨r, cap, _, rfl, hbase, heap_put _ hcell, by omega, h2, by simp [putCells, h3], ?_⟩⟩
      rw [Nat.mul_one, take_put _ _ _ (by simp) (by simp; omega)]
      simp [encX, unX]
    · have := grown_put (w := w) (g := r) (q := q) (os := #[]) (enc := encX) ((ts.filter fun x : Tx => !R x.1) ++ List.replicate (ts.toArray.size - (ts.filter fun x : Tx => !R x.1).length) default).toArray
      rw [grow_empty] at this
      exact this
end Go.Proofs.Ytngnegnofmpgkaa.Gr
/- WALKS of refs' Missing, ofNodes. -/
namespace Go.Proofs.Ytngnegnofmpgkaa.Gr
open Go.RowKit Go.Maps Go.Sort
open Go.Proofs.Ytngnegnofmpgkaa.Nm (StrRow)
theorem clos93 {w : World} {B b m : Nat} {Q : ByteArray → Bool} (h : ClM w B b m Q) {s : ByteArray} (hs : okS s) : Calls Try.prog 67 #[.string s, .pointer (some ⟨B, 0, none⟩)] w fun e w' => e = .returned (.bool (!Q s)) ∧ w = w' := by
  obtain ⟨c0, hM⟩ := h
  have hl := hM.look hs
  generalize Q s = q at *
  clear hM
  go_enter Try.func67, Try.ntmps67
  cases q
  · go_wp2
    go_ret
    exact ⟨rfl, rfl⟩
  · go_wp2
    go_ret
    exact ⟨rfl, rfl⟩
theorem tells93 (B b m : Nat) (Q : ByteArray → Bool) : Tells 67 B b m Q (fun s => !Q s) := fun _ _ h hs => clos93 h hs
theorem enters93 (args : Array Value) (w : World) : (callFunc 67 args).run Try.prog w = .ok (.enter 67 args) w := by
  simp [callFunc, Try.func67]
  rfl
theorem set_only {P Q : ByteArray → Bool} {l : List ByteArray} (h : SetL P l) : SetL (fun s => P s && Q s) (l.filter Q) := by
  refine ⟨h.1.sublist List.filter_sublist, fun s => ?_⟩
  rw [List.mem_filter, h.2 s, Bool.and_eq_true, and_assoc]
theorem node_names {w : World} {n : Nat} {a : Option Addr} {len : Nat} {xs : List Nd} (hX : NodeRow w n a len xs) : ∀ s ∈ xs.map Nd.name, okS s := by
  intro s hs
  obtain ⟨x, hx, rfl⟩ := List.mem_map.1 hs
  obtain ⟨i, hi, e⟩ := List.getElem_of_mem hx
  have hc := hX.count
  obtain ⟨b, off, -, -, hc⟩ := hX.at_ (by omega)
  obtain ⟨a', dl, dc, hN⟩ := hc i x (by rw [← e]; exact List.getElem?_eq_getElem hi)
  exact hN.ok
/-- A rising list, those of a set. -/
def MissP (P : ByteArray → Bool) (w : World) (e : Ending) (w' : World) : Prop := ∃ r, TxtsP r w e w' ∧ SetL P r
/-- Those of a list of one's own that are nodes' names. -/
def OfNP (ns l : List ByteArray) (base : Nat) (v : Value) (w : World) (e : Ending) (w' : World) : Prop := ∃ v', e = .returned v' ∧ w'.ownsRow base 9 1 v' (l.filter fun s => inB s ns).length ((l.filter fun s => inB s ns).map Value.string) ∧ w.grownBy w' v.ownBlock
set_option maxRecDepth 100000 in
set_option maxHeartbeats 16000000 in
theorem ofnodes_any (a : Option Addr) (len cap n : Nat) (xs : List Nd) (w : World) (hX : NodeRow w n a len xs) (hl : len ≤ 100000) {base : Nat} {v : Value} {l : List ByteArray} (hr : w.ownsRow base 9 1 v l.length (l.map Value.string)) (hok : ∀ s ∈ l, okS s) : Calls Try.prog 46 #[.slice a len cap, v] w (OfNP (xs.map Nd.name) l base v w) := by
  have hcx := hX.count
  have HN := Lib.hid (names_any a len cap n xs w hX (by omega))
  have HO := Lib.hid (node_names hX)
  have hnl : (xs.map Nd.name).length ≤ 100000 := by rw [List.length_map]; omega
  obtain ⟨ns, hns⟩ : ∃ ns, xs.map Nd.name = ns := ⟨_, rfl⟩
  rw [hns] at HN HO hnl
  rw [hns]
  have HR := Lib.hid hr
  have HK := Lib.hid hok
  clear hX hns hr hok
  go_enter Try.func46, Try.ntmps46
  go_wp2_with fail
  go_at_call 65; refine HN.out.mono ?_; rintro e w1 hT1
  obtain ⟨a1, c1, rfl, hR1, hB1, -⟩ := row_new hT1 (by omega) HO.out
  have HR1 := Lib.hid hR1
  have HB1 := Lib.hid hB1
  have HZ1 := Lib.hid hB1.size
  clear hT1 hR1 hB1 HN
  go_wp2_with fail
  go_at_call 64; refine (set_any a1 _ c1 _ w1 HR1.out (by omega)).mono ?_; rintro e w2 ⟨bm, rfl, hbm, hM2, hB2⟩
  have HM2 := Lib.hid hM2
  have HW2 := Lib.hid (HB1.out.trans (hB2.mono HB1.out.size))
  have HLT := Lib.hid (And.intro hbm hM2.lt)
  clear hM2 hB2 hbm HB1
  obtain ⟨w3, hw3⟩ : ∃ w3, w2.alloc (.cells #[.map (some bm)] 90) = w3 := ⟨_, rfl⟩
  have hB3 : Below w2.heap.size w2 w3 := by rw [← hw3]; exact (Below.refl _ _).alloc (Nat.le_refl _) _
  have hc3 : w3.cell? ⟨w2.heap.size, 0, none⟩ = some (.map (some bm)) := by rw [← hw3]; have := cell_one_new w2 (.map (some bm)) 90 0 _ rfl; rwa [Addr.add_lit] at this
  have hW3 := HW2.out.trans (hB3.mono HW2.out.size)
  have hC3 : ClM w3 w2.heap.size bm ns.length (fun s => inB s ns) := ⟨hc3, HM2.out.below hB3⟩
  have hr3 : w3.ownsRow base 9 1 v l.length (l.map Value.string) := HR.out.kept (grow_of hW3) (by cases v.ownBlock <;> simp)
  have h1 := HLT.out
  have h2 := HW2.out.size
  have h3 := HZ1.out
  have HD := Lib.hid (delete_any 67 enters93 hr3 HK.out hC3 (tells93 _ _ _ _) (fun e => by have := (HR.out.lt _ e).2; omega) (fun e => by have := (HR.out.lt _ e).2; omega))
  have HW3 := Lib.hid hW3
  have HE3 := Lib.hid hw3
  clear hB3 hc3 hw3 hW3 hC3 hr3 h1 h2 h3
  go_wp2_with fail
  rw [HE3.out]
  go_at_call 66; refine HD.out.mono ?_; rintro e w6 ⟨v6, rfl, hr6, hg6⟩
  go_wp2_with fail
  go_ret
  have hfe : (l.filter fun s => !(!inB s ns)) = l.filter fun s => inB s ns := by simp
  rw [hfe] at hr6
  exact ⟨v6, rfl, hr6, ⟨hg6.os.trans HW3.out.os, hg6.tape.trans HW3.out.tape, hg6.output.trans HW3.out.output, Nat.le_trans HW3.out.size hg6.size, fun k hk hne => (hg6.block k (Nat.lt_of_lt_of_le hk HW3.out.size) hne).trans (HW3.out.block k hk)⟩⟩
end Go.Proofs.Ytngnegnofmpgkaa.Gr
/- WALKS of refs' Reads, Touched. -/
namespace Go.Proofs.Ytngnegnofmpgkaa.Gr
open Go.RowKit Go.Maps Go.Sort
open Go.Proofs.Ytngnegnofmpgkaa.Nm (StrRow)
/-- Those of names that are reached. -/
def ReadP (ls : List Ln2) (P : ByteArray → Bool) (ns l : List ByteArray) (w : World) (e : Ending) (w' : World) : Prop := ∃ r, TxtsP r w e w' ∧ Rise r ∧ (∀ k, k ∈ r ↔ Rc (inL ls) P l k ∧ k ∈ ns) ∧ (∀ k ∈ r, okS k) ∧ r.length ≤ 1000000
theorem PG_ends {ns : List ByteArray} {ls : List Ln2} (hn : ∀ y ∈ ls, y.1 ∈ ns) : ∀ y ∈ ls, PG ns ls y.1 = true ∧ PG ns ls y.2 = true := by
  intro y hy
  unfold PG
  exact ⟨by rw [inB_iff.2 (hn y hy)]; rfl, by rw [Bool.or_eq_true, List.any_eq_true]; exact .inr ⟨y, hy, by simp⟩⟩
theorem lnL_from {n : Nat} {xs : List Nd} : ∀ y ∈ lnL n xs, y.1 ∈ xs.map Nd.name := by
  intro y hy
  obtain ⟨x, hx, hy⟩ := List.mem_flatMap.1 hy
  obtain ⟨t, _, rfl⟩ := List.mem_map.1 hy
  exact List.mem_map.2 ⟨x, hx, rfl⟩
theorem row_own {w : World} {a : Option Addr} {len : Nat} {xs : List ByteArray} (h : StrRow w a len xs) {w' : World} (hb : Below w.heap.size w w') : StrRow w' a len xs := h.below hb
theorem lt_inL {ls : List Ln2} (hLn : ∀ y ∈ ls, okS y.1 ∧ okS y.2) : lt (inL ls) = inL (turnL ls) := by
  funext x y
  unfold lt
  rw [Bool.eq_iff_iff]
  simp only [Bool.and_eq_true, decide_eq_true_eq, inL_iff]
  unfold turnL
  rw [List.mem_map]
  constructor
  · rintro ⟨-, -, h⟩
    exact ⟨_, h, rfl⟩
  · rintro ⟨⟨a, b⟩, h, e⟩
    injection e with e1 e2
    subst e1 e2
    exact ⟨(hLn _ h).1, (hLn _ h).2, h⟩
theorem turn_ok {ls : List Ln2} {P : ByteArray → Prop} (h : ∀ y ∈ ls, P y.1 ∧ P y.2) : ∀ y ∈ turnL ls, P y.1 ∧ P y.2 := by
  intro y hy
  obtain ⟨z, hz, rfl⟩ := List.mem_map.1 hy
  exact ⟨(h z hz).2, (h z hz).1⟩
set_option maxRecDepth 100000 in
set_option maxHeartbeats 16000000 in
theorem touched_any (a : Option Addr) (len cap n : Nat) (xs : List Nd) (a2 : Option Addr) (len2 cap2 : Nat) (l : List ByteArray) (w : World) (hX : NodeRow w n a len xs) (hl : len ≤ 100000) (hF : FewN n xs) (hLn : ∀ y ∈ lnL n xs, okS y.1 ∧ okS y.2) (hS : StrRow w a2 len2 l) (hl2 : len2 ≤ 100000) :
    Calls Try.prog 32 #[.slice a len cap, .slice a2 len2 cap2] w (ReadP (turnL (lnL n xs)) (PG (xs.map Nd.name) (lnL n xs)) (xs.map Nd.name) l w) := by
  have hcx := hX.count
  have HX := Lib.hid hX
  have HS := Lib.hid hS
  have HG := Lib.hid (graph_any a len cap n xs w hX hl hF)
  have HFL := Lib.hid hF.lines
  have HLT := Lib.hid (lt_inL hLn)
  have HL := Lib.hid (turn_ok hLn)
  have HE := Lib.hid (turn_ok (P := fun s => PG (xs.map Nd.name) (lnL n xs) s = true) (PG_ends (lnL_from (n := n) (xs := xs))))
  have HXL := Lib.hid (show xs.length ≤ 100000 by omega)
  have HTL := Lib.hid (show (turnL (lnL n xs)).length ≤ 300000 by unfold turnL; rw [List.length_map]; exact HFL.out)
  clear hX hS hF hLn hcx
  go_enter Try.func32, Try.ntmps32
  go_wp2_with fail
  go_at_call 47; refine HG.out.mono ?_; rintro e w1 ⟨G, rfl, hG1, hB1⟩
  have HT := Lib.hid (turned_any hG1 (by have := HXL.out; have := HFL.out; omega))
  have HB1 := Lib.hid hB1
  clear hG1 hB1 HG
  go_wp2_with fail
  go_at_call 48; refine HT.out.mono ?_; rintro e w2 ⟨G2, rfl, hG2, hB2⟩
  rw [HLT.out] at hG2
  have hW2 := HB1.out.trans (hB2.mono HB1.out.size)
  have HR := Lib.hid (reach_any (cap := cap2) hG2 (by have := HXL.out; have := HFL.out; omega) HE.out HL.out HTL.out a2 len2 l (HS.out.below hW2) hl2)
  have HW2 := Lib.hid hW2
  clear hG2 hB2 HT HB1 hW2
  go_wp2_with fail
  go_at_call 49; refine HR.out.mono ?_; rintro e w3 ⟨r, ⟨v2, rfl, hr2, hB2⟩, hri, hrm, hok, hrl⟩
  have HB2 := Lib.hid (HW2.out.trans (hB2.mono HW2.out.size))
  have HO := Lib.hid (ofnodes_any a len cap n xs w3 (HX.out.below HB2.out) hl hr2 hok)
  have HV2 := Lib.hid (own_base hr2)
  have HRR := Lib.hid (And.intro hri (And.intro hrm (And.intro hok hrl)))
  have HZ1 := Lib.hid HW2.out.size
  clear hr2 hB2 hri hrm hok hrl HR
  go_wp2_with fail
  go_at_call 46; refine HO.out.mono ?_; rintro e w4 ⟨v3, rfl, hr3, hg3⟩
  go_wp2_with fail
  go_ret
  obtain ⟨hri, hrm, hok, hrl⟩ := HRR.out
  refine ⟨_, ⟨v3, rfl, owns_up hr3 HZ1.out, HB2.out.grown hg3 HB2.out.size (fun r e => by have := HV2.out r e; have := HZ1.out; omega)⟩, hri.sublist List.filter_sublist, fun k => ?_, fun k hk => hok k (List.mem_filter.1 hk).1, Nat.le_trans (List.length_filter_le _ _) hrl⟩
  rw [List.mem_filter, hrm, inB_iff]
end Go.Proofs.Ytngnegnofmpgkaa.Gr
/- WALKS of the laws' read and awake: the page's example. -/
namespace Go.Proofs.Ytngnegnofmpgkaa.Gr
open Go.RowKit Go.Maps Go.Sort
open Go.Proofs.Ytngnegnofmpgkaa.Nm (StrRow)
def hdR (b : Nat) : Hd := ⟨9, 0, ⟨#[]⟩, some ⟨b, 0, none⟩, 1, 1, none, 0, 0, false, none, 0, 0⟩
def RdP (s : ByteArray) (w : World) (e : Ending) (w' : World) : Prop := ∃ b, e = .returned (.agg #[.int .i64 9, .int .i64 0, .string ⟨#[]⟩, .slice (some ⟨b, 0, none⟩) 1 1, .slice none 0 0, .bool false, .slice none 0 0]) ∧ w.heap.size ≤ b ∧ w'.heap[b]? = some (.cells #[.string s] 9) ∧ Below w.heap.size w w'
def exR (s : ByteArray) : Ex := .mk 9 0 ⟨#[]⟩ [s] [] false []
/-- The page's nodes. -/
def ndsA : List Nd := [⟨tA, true, [exR tB]⟩, ⟨tB, false, [exR tC]⟩, ⟨tC, true, [exR tA]⟩]
theorem ndsA_lines : lnL 2 ndsA = [(tA, tB), (tB, tC), (tC, tA)] := by kernel_rfl
theorem ndsA_res : resL ndsA = [tA, tC] := by kernel_rfl
theorem tAB : tA ≠ tB := by decide
theorem tAC : tA ≠ tC := by decide
theorem tBC : tB ≠ tC := by decide
theorem okA : okS tA := by unfold okS; decide
theorem okB : okS tB := by unfold okS; decide
theorem okC : okS tC := by unfold okS; decide
theorem ndsA_ok : ∀ y ∈ lnL 2 ndsA, okS y.1 ∧ okS y.2 := by
  rw [ndsA_lines]
  intro y hy
  simp at hy
  rcases hy with rfl | rfl | rfl
  · exact ⟨okA, okB⟩
  · exact ⟨okB, okC⟩
  · exact ⟨okC, okA⟩
theorem ndsA_few : FewN 2 ndsA := by
  refine ⟨by rw [ndsA_lines]; decide, fun x hx => ?_, fun x hx e he => ?_⟩
  · simp [ndsA] at hx
    rcases hx with rfl | rfl | rfl
    · show (rL 2 [exR tB]).length ≤ _
      rw [show (rL 2 [exR tB]).length = 1 by kernel_rfl]; omega
    · show (rL 2 [exR tC]).length ≤ _
      rw [show (rL 2 [exR tC]).length = 1 by kernel_rfl]; omega
    · show (rL 2 [exR tA]).length ≤ _
      rw [show (rL 2 [exR tA]).length = 1 by kernel_rfl]; omega
  · simp [ndsA] at hx
    rcases hx with rfl | rfl | rfl <;> simp at he <;> subst he
    · rw [show (allN 2 (exR tB)).length = 1 by kernel_rfl]; omega
    · rw [show (allN 2 (exR tC)).length = 1 by kernel_rfl]; omega
    · rw [show (allN 2 (exR tA)).length = 1 by kernel_rfl]; omega
theorem dp_sub {ls : List Ln2} {T : ByteArray → Bool} {s : ByteArray} (M : List ByteArray) (h1 : ∀ y ∈ ls, y.1 = s → y.2 ∈ M) (h2 : ∀ y ∈ ls, y.1 ∈ M → y.1 ≠ s → T y.1 = false → y.2 ∈ M) : ∀ k, Dp (inL ls) T s k → k ∈ M := by
  intro k hk
  induction hk with
  | base h => exact h1 _ (inL_iff.1 h) rfl
  | step _ h3 h4 h5 ih => exact h2 _ (inL_iff.1 h5) ih h3 h4
theorem one_of {r : List ByteArray} {t : ByteArray} (hr : Rise r) (h : ∀ k, k ∈ r ↔ k = t) : r = [t] :=
  rise_unique hr (List.pairwise_singleton _ _) fun k => by rw [h, List.mem_singleton]
theorem deps_a : ∀ k, (Dp (inL [(tA, tB), (tB, tC), (tC, tA)]) (fun x => inB x [tA, tC]) tA k ∧ k ≠ tA ∧ inB k [tA, tC] = true) ↔ k = tC := by
  intro k
  constructor
  · rintro ⟨h1, h2, h3⟩
    have := inB_iff.1 h3
    simp [h2] at this
    exact this
  · rintro rfl
    exact ⟨.step (j := tB) (.base (by decide)) tAB.symm (by decide) (by decide), tAC.symm, by decide⟩
theorem deps_b : ∀ k, (Dp (inL [(tA, tB), (tB, tC), (tC, tA)]) (fun x => inB x [tA, tC]) tB k ∧ k ≠ tB ∧ inB k [tA, tC] = true) ↔ k = tC := by
  intro k
  constructor
  · rintro ⟨h1, h2, h3⟩
    have := dp_sub [tC] (fun y hy => by
      simp at hy
      rcases hy with rfl | rfl | rfl
      · exact fun e => absurd e tAB
      · exact fun _ => by simp
      · exact fun e => absurd e tBC.symm) (fun y hy => by
      simp at hy
      rcases hy with rfl | rfl | rfl
      · exact fun e => absurd (List.mem_singleton.1 e) tAC
      · exact fun e => absurd (List.mem_singleton.1 e) tBC
      · exact fun _ _ e => absurd e (by decide)) k h1
    simpa using this
  · rintro rfl
    exact ⟨.base (by decide), tBC.symm, by decide⟩
theorem deps_c : ∀ k, (Dp (inL [(tA, tB), (tB, tC), (tC, tA)]) (fun x => inB x [tA, tC]) tC k ∧ k ≠ tC ∧ inB k [tA, tC] = true) ↔ k = tA := by
  intro k
  constructor
  · rintro ⟨h1, h2, h3⟩
    have := inB_iff.1 h3
    simp [h2] at this
    exact this
  · rintro rfl
    exact ⟨.base (by decide), tAC, by decide⟩
def defR (b : Nat) : Obj := .cells #[.int .i64 9, .int .i64 0, .string ⟨#[]⟩, .slice (some ⟨b, 0, none⟩) 1 1, .slice none 0 0, .bool false, .slice none 0 0] 38
theorem ks_one {W : World} {b d : Nat} {s : ByteArray} (hs : s.size ≤ 1000) (hb : W.heap[b]? = some (.cells #[.string s] 9)) (hd : W.heap[d]? = some (defR b)) : InKs (InX W 2) W (some ⟨d, 0, none⟩) 1 [exR s] := by
  have ld := (Array.getElem?_eq_some_iff.1 hd).1
  have hx : InX W 2 ⟨9, 0, ⟨#[]⟩, some ⟨b, 0, none⟩, 1, 1, none, 0, 0, false, none, 0, 0⟩ (exR s) := inx_ref (pa := [s]) hb rfl (by omega) (fun x hx => by simp at hx; subst hx; exact hs)
  unfold defR at hd
  refine ⟨rfl, by omega, fun i hi => ?_⟩
  obtain rfl : i = 0 := by simpa using hi
  exact ⟨d, 0, _, rfl, ld, ⟨by simp [World.cell?, hd], by simp [World.cell?, hd], by simp [World.cell?, hd], by simp [World.cell?, hd], by simp [World.cell?, hd], by simp [World.cell?, hd], by simp [World.cell?, hd]⟩, hx⟩
def ndR (d1 d2 d3 : Nat) : Obj := .cells #[.string ⟨#[97]⟩, .bool true, .slice (some ⟨d1, 0, none⟩) 1 1, .string ⟨#[98]⟩, .bool false, .slice (some ⟨d2, 0, none⟩) 1 1, .string ⟨#[99]⟩, .bool true, .slice (some ⟨d3, 0, none⟩) 1 1] 40
theorem ndsA_row {W : World} {b1 b2 b3 d1 d2 d3 nd : Nat} (h1 : W.heap[b1]? = some (.cells #[.string ⟨#[98]⟩] 9)) (h2 : W.heap[b2]? = some (.cells #[.string ⟨#[99]⟩] 9)) (h3 : W.heap[b3]? = some (.cells #[.string ⟨#[97]⟩] 9))
    (k1 : W.heap[d1]? = some (defR b1)) (k2 : W.heap[d2]? = some (defR b2)) (k3 : W.heap[d3]? = some (defR b3)) (hn : W.heap[nd]? = some (ndR d1 d2 d3)) : NodeRow W 2 (some ⟨nd, 0, none⟩) 3 ndsA := by
  have ln := (Array.getElem?_eq_some_iff.1 hn).1
  have e1 := ks_one (s := tB) (by decide) h1 k1
  have e2 := ks_one (s := tC) (by decide) h2 k2
  have e3 := ks_one (s := tA) (by decide) h3 k3
  unfold ndR at hn
  refine ⟨rfl, by omega, fun _ => ⟨nd, 0, rfl, ln, fun i x hx => ?_⟩⟩
  match i, hx with
  | 0, hx => 
    injection hx with hx
    subst hx
    exact ⟨_, 1, 1, ⟨by simp [World.cell?, hn]; rfl, by simp [World.cell?, hn], by simp [World.cell?, hn], okA, e1⟩⟩
  | 1, hx => 
    injection hx with hx
    subst hx
    exact ⟨_, 1, 1, ⟨by simp [World.cell?, hn]; rfl, by simp [World.cell?, hn], by simp [World.cell?, hn], okB, e2⟩⟩
  | 2, hx => 
    injection hx with hx
    subst hx
    exact ⟨_, 1, 1, ⟨by simp [World.cell?, hn]; rfl, by simp [World.cell?, hn], by simp [World.cell?, hn], okC, e3⟩⟩
  | _ + 3, hx => simp [ndsA] at hx
theorem str_lit {w : World} {t : ByteArray} (ht : okS t) : StrRow (w.alloc (.cells #[.string t] 9)) (some ⟨w.heap.size, 0, none⟩) 1 [t] := by
  refine ⟨rfl, by omega, fun i x h => ?_, fun _ => ⟨w.heap.size, 0, rfl, by simp, fun i x h => ?_⟩⟩
  · have := List.mem_of_getElem? h
    simp at this
    subst this
    exact ht
  · obtain ⟨hi, e⟩ := List.getElem?_eq_some_iff.1 h
    obtain rfl : i = 0 := by simpa using hi
    simp at e
    subst e
    have h2 := cell_one_new w (.string t) 9 0 _ rfl
    rwa [Addr.add_lit] at h2
end Go.Proofs.Ytngnegnofmpgkaa.Gr
/- WHAT FOLLOWS FOR NODES THAT ARE FEW AND RIGHT. -/
namespace Go.Proofs.Ytngnegnofmpgkaa.Gr
open Go.RowKit Go.Maps Go.Sort
open Go.Proofs.Ytngnegnofmpgkaa.Nm (StrRow)
theorem ris_rise {xs : List ByteArray} (h : Nm.risB xs = true) : Rise xs := by
  have hR : Nm.Ris xs xs.length := @of_decide_eq_true _ (Classical.propDecidable _) h
  have hst : ∀ (d i : Nat) (x y : ByteArray), xs[i]? = some x → xs[i + 1 + d]? = some y → x.data.toList < y.data.toList := by
    intro d
    induction d with
    | zero =>
      intro i x y hx hy
      exact (less_iff x y).1 ((hR (i + 1) y hy (List.getElem?_eq_some_iff.1 hy).1).2 i x rfl hx)
    | succ d ih =>
      intro i x y hx hy
      have hl := (List.getElem?_eq_some_iff.1 hy).1
      have hz : xs[i + 1 + d]? = some (xs[i + 1 + d]'(by omega)) := List.getElem?_eq_getElem _
      have h1 := ih i x _ hx hz
      have h2 := (less_iff _ y).1 ((hR (i + 1 + (d + 1)) y hy hl).2 (i + 1 + d) _ rfl hz)
      exact List.lt_trans h1 h2
  unfold Rise
  rw [List.pairwise_iff_getElem]
  intro i j hi hj hij
  refine hst (j - i - 1) i _ _ (List.getElem?_eq_getElem hi) ?_
  rw [show i + 1 + (j - i - 1) = j by omega]
  exact List.getElem?_eq_getElem hj
theorem rL_few {n : Nat} : ∀ {ds : List Ex}, (∀ e ∈ ds, tN n e ≤ 200) → (rL n ds).length ≤ 200 * ds.length
  | [], _ => by simp
  | e :: ds, h => by
    have h1 := rL_few (n := n) (ds := ds) fun x hx => h x (by simp [hx])
    have h2 := refsL_len (allN n e)
    have h3 := allN_le n e
    have h4 := h e (by simp)
    simp only [rL, List.flatMap_cons, List.length_append, List.length_cons] at h1 ⊢
    omega
theorem lnL_few {n : Nat} : ∀ {xs : List Nd}, (∀ x ∈ xs, OkN n x) → (lnL n xs).length ≤ 2000 * xs.length
  | [], _ => by simp [lnL]
  | x :: xs, h => by
    have h1 := lnL_few (n := n) (xs := xs) fun y hy => h y (by simp [hy])
    obtain ⟨-, h2, h3⟩ := h x (by simp)
    have h4 := ofL_len n x.defs
    have h5 := rL_few (n := n) h3
    have h6 : (ln1 x.name (ofL n x.defs)).length = (ofL n x.defs).length := by unfold ln1; rw [List.length_map]
    simp only [lnL, List.flatMap_cons, List.length_append, List.length_cons] at h1 ⊢
    omega
/-- All that the laws ask of nodes that are few and right. -/
structure Fine (n : Nat) (xs : List Nd) : Prop where
  len : xs.length ≤ 40
  few : FewN n xs
  nodup : (xs.map Nd.name).Nodup
  names : ∀ s ∈ xs.map Nd.name, okS s
  lines : ∀ y ∈ lnL n xs, okS y.1 ∧ okS y.2
  tN : ∀ x ∈ xs, ∀ e ∈ x.defs, tN n e ≤ 1000000
theorem fine_of {w : World} {n : Nat} {a : Option Addr} {len : Nat} {xs : List Nd} (hX : NodeRow w n a len xs) (h1 : xs.length ≤ 40 ∧ ∀ x ∈ xs, OkN n x) (h2 : Nm.risB (xs.map Nd.name) = true) : Fine n xs := by
  obtain ⟨hl, ho⟩ := h1
  have hn := node_names hX
  refine ⟨hl, ⟨by have := lnL_few ho; omega, fun x hx => ?_, fun x hx e he => ?_⟩, (ris_rise h2).nodup, hn, fun y hy => ?_, fun x hx e he => by have := (ho x hx).2.2 e he; omega⟩
  · have h3 := rL_few (n := n) (ho x hx).2.2
    have h4 := (ho x hx).2.1
    omega
  · have h3 := allN_le n e
    have h4 := (ho x hx).2.2 e he
    omega
  · refine ⟨hn _ (lnL_from y hy), ?_⟩
    obtain ⟨x, hx, hy2⟩ := List.mem_flatMap.1 hy
    obtain ⟨t, ht, rfl⟩ := List.mem_map.1 hy2
    obtain ⟨i, hi, e⟩ := List.getElem_of_mem hx
    have hc := hX.count
    obtain ⟨b, off, -, -, hc⟩ := hX.at_ (by omega)
    obtain ⟨a', dl, dc, hN⟩ := hc i x (by rw [← e]; exact List.getElem?_eq_getElem hi)
    exact ofL_small hN.ds t ht
theorem npL_fine {n : Nat} {xs : List Nd} (h : Fine n xs) : SetL (PG (xs.map Nd.name) (lnL n xs)) (npL n xs) := npL_set h.names h.lines
theorem nmL_things {n : Nat} {xs : List Nd} (h : Fine n xs) : SetL (fun s => inB s (resL xs)) (nmL true xs) := by
  have hr := fun t => nm_set true t xs [] List.Pairwise.nil
  refine ⟨(hr ByteArray.empty).1, fun s => ?_⟩
  rw [show nmL true xs = xs.foldl (nm1 true) [] from rfl, (hr s).2, inB_iff]
  unfold resL
  simp only [List.not_mem_nil, false_or, Bool.true_eq_false, List.mem_map, List.mem_filter]
  constructor
  · rintro ⟨x, hx, hres, rfl⟩
    exact ⟨h.names _ (List.mem_map.2 ⟨x, hx, rfl⟩), x, ⟨hx, hres⟩, rfl⟩
  · rintro ⟨-, x, ⟨hx, hres⟩, rfl⟩
    exact ⟨x, hx, hres, rfl⟩
theorem missing_set {n : Nat} {xs : List Nd} (h : Fine n xs) : SetL (fun s => PG (xs.map Nd.name) (lnL n xs) s && !inB s (xs.map Nd.name)) (onlyL true xs (npL n xs)) := by
  have := set_only (Q := fun s => !inB s (xs.map Nd.name)) (npL_fine h)
  have e : onlyL true xs (npL n xs) = (npL n xs).filter fun s => !inB s (xs.map Nd.name) := by
    unfold onlyL
    congr 1
    funext s
    cases inB s (xs.map Nd.name) <;> rfl
  rw [e]
  exact this
theorem npL_small {n : Nat} {xs : List Nd} (h : Fine n xs) : ∀ s ∈ npL n xs, okS s := fun s hs => (((npL_fine h).2 s).1 hs).1
end Go.Proofs.Ytngnegnofmpgkaa.Gr
