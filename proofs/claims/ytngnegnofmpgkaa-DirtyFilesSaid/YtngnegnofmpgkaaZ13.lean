/- Hd, He, Hf, Hg, Hh -/
import Derived.Test.YtngnegnofmpgkaaZ11
/- NODES IN MEMORY; WALKS of refs' names, Things. -/
namespace Go.Proofs.Ytngnegnofmpgkaa.Gr
open Go.RowKit Go.Maps Go.Sort
open Go.Proofs.Ytngnegnofmpgkaa.Nm (StrRow)
structure Nd where
  name : ByteArray
  res : Bool
  defs : List Ex
/-- A node's three fields at a place. -/
structure NdAt (w : World) (n : Nat) (b off : Nat) (a : Option Addr) (dl dc : Nat) (x : Nd) : Prop where
  c0 : w.cell? ⟨b, off, none⟩ = some (.string x.name)
  c1 : w.cell? ⟨b, off + 1, none⟩ = some (.bool x.res)
  c2 : w.cell? ⟨b, off + 2, none⟩ = some (.slice a dl dc)
  ok : okS x.name
  ds : InKs (InX w n) w a dl x.defs
/-- A slice of nodes. -/
structure NodeRow (w : World) (n : Nat) (a : Option Addr) (len : Nat) (xs : List Nd) : Prop where
  count : xs.length = len
  max : len ≤ 140737488355328
  at_ : 0 < len → ∃ b off, a = some ⟨b, off, none⟩ ∧ b < w.heap.size ∧ ∀ (i : Nat) (x : Nd), xs[i]? = some x → ∃ a' dl dc, NdAt w n b (off + i * 3) a' dl dc x
theorem NdAt.below {w w' : World} {n b off : Nat} {a : Option Addr} {dl dc : Nat} {x : Nd} (h : NdAt w n b off a dl dc x) (hb : Below w.heap.size w w') (lt : b < w.heap.size) : NdAt w' n b off a dl dc x := by
  have e : ∀ i, w'.cell? ⟨b, i, none⟩ = w.cell? ⟨b, i, none⟩ := fun i => hb.cell (p := ⟨b, i, none⟩) lt
  exact ⟨(e _).trans h.c0, (e _).trans h.c1, (e _).trans h.c2, h.ok, h.ds.below (fun _ _ h => h.below hb) hb⟩
theorem NodeRow.below {w w' : World} {n : Nat} {a : Option Addr} {len : Nat} {xs : List Nd} (h : NodeRow w n a len xs) (hb : Below w.heap.size w w') : NodeRow w' n a len xs := by
  obtain ⟨h1, h2, h4⟩ := h
  refine ⟨h1, h2, fun h0 => ?_⟩
  obtain ⟨b, off, e, hlt, hc⟩ := h4 h0
  exact ⟨b, off, e, Nat.lt_of_lt_of_le hlt hb.size, fun i x hx => by
    obtain ⟨a', dl, dc, h⟩ := hc i x hx
    exact ⟨a', dl, dc, h.below hb hlt⟩⟩
theorem map_at {α β : Type} (f : α → β) {l : List α} {k : Nat} {x : α} (h : l[k]? = some x) : (l.take (k + 1)).map f = (l.take k).map f ++ [f x] := by
  obtain ⟨hk, e⟩ := List.getElem?_eq_some_iff.1 h
  rw [List.take_succ_eq_append_getElem hk, List.map_append, e]
  rfl
set_option maxRecDepth 100000 in
set_option maxHeartbeats 16000000 in
theorem names_any (a : Option Addr) (len cap n : Nat) (xs : List Nd) (w : World) (hX : NodeRow w n a len xs) (hl : len ≤ 1000000) : Calls Try.prog 65 #[.slice a len cap] w (TxtsP (xs.map Nd.name) w) := by
  have HX := Lib.hid hX
  have hcx := hX.count
  obtain ⟨i0, hi, hz0, hz1, hz2⟩ := info_parts info9
  clear hX
  go_enter Try.func65, Try.ntmps65
  go_upto_region 3 with fail
  go_loopw [3, 8] (fun v i wr => ∃ (k : Nat), k ≤ len ∧ i = .int .i64 k ∧ Hid (wr.ownsRow w.heap.size 9 1 v ((xs.take k).map Nd.name).length (((xs.take k).map Nd.name).map Value.string)) ∧ Hid (Below w.heap.size w wr)) (fun _ i _ => len - (intOf i).toNat)
  case atStart => exact ⟨0, by omega, rfl, Lib.hid (World.ownsRow_nil _ _ _ _), Lib.hid (Below.refl _ _)⟩
  case round =>
    obtain ⟨k, hk, rfl, hR, hB⟩ := hrel
    rename World => wr
    have HR := Lib.hid hR.out
    have HB := Lib.hid hB.out
    clear hR hB
    by_cases hlt : k < len
    · obtain ⟨b0, off, rfl, hb, hc⟩ := HX.out.at_ (by omega)
      obtain ⟨x, hx⟩ : ∃ x, xs[k]? = some x := ⟨xs[k]'(by rw [hcx]; exact hlt), List.getElem?_eq_getElem _⟩
      obtain ⟨a', dl, dc, hN⟩ := hc k x hx
      obtain ⟨c0, c1, c2, -, -⟩ := hN.below HB.out hb
      have HE := Lib.hid (map_at Nd.name hx)
      have HAL := Lib.hid (show ((xs.take k).map Nd.name).length ≤ k by rw [List.length_map, List.length_take]; omega)
      obtain ⟨acc, hacc⟩ : ∃ acc, (xs.take k).map Nd.name = acc := ⟨_, rfl⟩
      rw [hacc] at HR HE HAL
      have hal := HAL.out
      obtain ⟨nm, rs, dsx⟩ := x
      dsimp only at c0 c1 c2 HE
      have hzw := HB.out.size
      have HZW := Lib.hid hzw
      clear hx hc hb hN hacc hzw
      go_wp2_with (at_builtin; refine wpList_append_own_at _ rfl _ _ 26 rfl w.heap.size 9 i0 (.string ByteArray.empty) 1 16 Try.underlying26 hi hz0 hz1 hz2 rfl (by decide) _ acc.length (acc.map Value.string) rfl ((HR.out.alloc _).alloc _) ⟨wr.heap.size + 1, 0, none⟩ 1 1 [.string nm] rfl (by simp) (by have := cell_one_new (wr.alloc (.cells #[.string nm, .bool rs, .slice a' dl dc] 40)) (.string nm) 9; simpa using this) (by intro v hv; simp at hv; subst hv; rfl) (by unfold maxLen; omega) (by omega) (by have := HZW.out; simp; omega) ?_; intro v' w6 hown' hgrow6 hnil6 hat6; have HO6 := Lib.hid hown'; have HG6 := Lib.hid hgrow6; clear hown' hgrow6 hnil6 hat6)
      have hrb := own_base HR.out
      have HB6 := Lib.hid (((HB.out.alloc HB.out.size (.cells #[.string nm, .bool rs, .slice a' dl dc] 40)).alloc (by have := HZW.out; simp; omega) (.cells #[.string nm] 9)).grown HG6.out (by have := HZW.out; simp; omega) (fun r e => hrb r e))
      clear hrb HG6
      go_wp2
      go_roundw
      case rel => exact ⟨k + 1, by omega, by go_num, by rw [HE.out, List.length_append, List.map_append]; exact HO6, HB6⟩
      case measure => simp [intOf]; omega
    · have hki : ¬ (k : Int) < (len : Int) := by omega
      obtain rfl : k = len := by omega
      have HE := Lib.hid (show xs.take k = xs from List.take_of_length_le (by omega))
      go_wp2
      go_ret
      rw [HE.out] at HR
      exact ⟨_, rfl, HR.out, HB.out⟩
/-- The resources' names. -/
def resL (xs : List Nd) : List ByteArray := (xs.filter Nd.res).map Nd.name
theorem resL_at {l : List Nd} {k : Nat} {x : Nd} (h : l[k]? = some x) : resL (l.take (k + 1)) = if x.res = true then resL (l.take k) ++ [x.name] else resL (l.take k) := by
  obtain ⟨hk, e⟩ := List.getElem?_eq_some_iff.1 h
  unfold resL
  rw [List.take_succ_eq_append_getElem hk, List.filter_append, List.map_append, e]
  cases hr : x.res <;> simp [hr]
theorem set_sorted {l : List ByteArray} {ss : List (List UInt8)} (hss : ss = l.map fun s => s.data.toList) (hnd : l.Nodup) (hok : ∀ s ∈ l, okS s) : SetL (fun s => inB s l) ((ss.mergeSort leB).map mk) := by
  subst hss
  refine ⟨?_, fun s => ?_⟩
  · unfold Rise
    rw [List.pairwise_map]
    have hn2 : (l.map fun s => s.data.toList).Nodup := List.pairwise_map.2 (hnd.imp fun {a b} h e => h (ByteArray.ext (Array.toList_inj.1 e)))
    have hn3 : ((l.map fun s => s.data.toList).mergeSort leB).Pairwise (· ≠ ·) := (List.mergeSort_perm _ leB).symm.nodup_iff.1 hn2
    refine List.Pairwise.imp₂ (fun a b (h1 : a ≤ b) (h2 : a ≠ b) => ?_) (sorted_le _) hn3
    rw [of_mk, of_mk]
    exact Classical.byContradiction fun h => h2 (List.le_antisymm h1 (List.not_lt.1 h))
  · rw [List.mem_map, inB_iff]
    constructor
    · rintro ⟨x, hx, rfl⟩
      obtain ⟨y, hy, rfl⟩ := List.mem_map.1 ((List.mergeSort_perm _ leB).mem_iff.1 hx)
      exact ⟨hok y hy, hy⟩
    · rintro ⟨h1, h2⟩
      exact ⟨s.data.toList, (List.mergeSort_perm _ leB).mem_iff.2 (List.mem_map.2 ⟨s, h2, rfl⟩), rfl⟩
theorem row_enc (l : List ByteArray) : l.map Value.string = (l.map fun s => s.data.toList).map encStr := by rw [List.map_map]; rfl
def SetT (l : List ByteArray) (w : World) (e : Ending) (w' : World) : Prop := ∃ r, TxtsP r w e w' ∧ SetL (fun s => inB s l) r ∧ r.length = l.length
end Go.Proofs.Ytngnegnofmpgkaa.Gr
/- WALK of refs' Graph. -/
namespace Go.Proofs.Ytngnegnofmpgkaa.Gr
open Go.RowKit Go.Maps Go.Sort
open Go.Proofs.Ytngnegnofmpgkaa.Nm (StrRow)
/-- The lines from a node, of all nodes. -/
def ln1 (s : ByteArray) (ts : List ByteArray) : List Ln2 := ts.map fun t => (s, t)
def lnL (n : Nat) (xs : List Nd) : List Ln2 := xs.flatMap fun x => ln1 x.name (ofL n x.defs)
/-- The points of names and lines. -/
def PG (ns : List ByteArray) (ls : List Ln2) : ByteArray → Bool := fun s => inB s ns || ls.any fun l => decide (s = l.2)
theorem lnL_at {n : Nat} {xs : List Nd} {k : Nat} {x : Nd} (hx : xs[k]? = some x) : lnL n (xs.take (k + 1)) = lnL n (xs.take k) ++ ln1 x.name (ofL n x.defs) := by
  obtain ⟨hk, e⟩ := List.getElem?_eq_some_iff.1 hx
  unfold lnL
  rw [List.take_succ_eq_append_getElem hk, List.flatMap_append, e]
  simp
theorem lnL_len {n : Nat} (xs : List Nd) (k : Nat) : (lnL n (xs.take k)).length ≤ (lnL n xs).length := by
  have : lnL n xs = lnL n (xs.take k) ++ lnL n (xs.drop k) := by
    unfold lnL
    rw [← List.flatMap_append, List.take_append_drop]
  rw [this, List.length_append]
  omega
theorem ln1_at {s t : ByteArray} {ts : List ByteArray} {j : Nat} (ht : ts[j]? = some t) : ln1 s (ts.take (j + 1)) = ln1 s (ts.take j) ++ [(s, t)] := map_at _ ht
theorem PG_name (ns : List ByteArray) (ls : List Ln2) (s : ByteArray) : (fun x => PG ns ls x || decide (x = s)) = PG (ns ++ [s]) ls := by
  funext x
  unfold PG
  rw [← (congrFun (inB_snoc ns s) x)]
  cases inB x ns <;> cases decide (x = s) <;> simp
theorem PG_link (ns : List ByteArray) (ls : List Ln2) (s t : ByteArray) (hs : s ∈ ns) : (fun x => (PG ns ls x || decide (x = s)) || decide (x = t)) = PG ns (ls ++ [(s, t)]) := by
  funext x
  unfold PG
  rw [List.any_append]
  simp only [List.any_cons, List.any_nil, Bool.or_false]
  by_cases e : x = s
  · subst e
    simp [inB_iff.2 hs]
  · simp [e, Bool.or_assoc]
theorem inL_link (ls : List Ln2) (s t : ByteArray) : (fun x y => inL ls x y || (decide (x = s) && decide (y = t))) = inL (ls ++ [(s, t)]) := by
  funext x y
  unfold inL
  rw [List.any_append]
  simp only [List.any_cons, List.any_nil, Bool.or_false]
  congr 2
  · exact decide_eq_decide.2 ⟨fun h => h.symm, fun h => h.symm⟩
  · exact decide_eq_decide.2 ⟨fun h => h.symm, fun h => h.symm⟩
theorem ofL_len (n : Nat) (ds : List Ex) : (ofL n ds).length ≤ (rL n ds).length := by
  have := un_len (rL n ds) []
  simpa [ofL] using this
theorem ofL_small {w : World} {n : Nat} {a : Option Addr} {dl : Nat} {ds : List Ex} (h : InKs (InX w n) w a dl ds) : ∀ y ∈ ofL n ds, y.size ≤ 140737488355328 := by
  intro y hy
  rcases (un_mem y _ _).1 hy with h1 | h1
  · exact absurd h1 (by simp)
  · obtain ⟨x, hx, hy2⟩ := List.mem_flatMap.1 h1
    obtain ⟨i, hi, e⟩ := List.getElem_of_mem hx
    obtain ⟨b, off, yh, -, -, -, hI⟩ := h.at_ i hi
    rw [e] at hI
    exact refs_small hI y hy2
/-- Few enough, each node's expressions. -/
structure FewN (n : Nat) (xs : List Nd) : Prop where
  lines : (lnL n xs).length ≤ 300000
  refs : ∀ x ∈ xs, (rL n x.defs).length ≤ 1000000
  all : ∀ x ∈ xs, ∀ e ∈ x.defs, (allN n e).length ≤ 1000000
theorem GRa.more {w : World} {base G m m' : Nat} {S : Nat → Prop} {P : ByteArray → Bool} {L : ByteArray → ByteArray → Bool} (h : GRa w base G m P L S) (hm : m ≤ m') : GRa w base G m' P L S := by
  obtain ⟨b, D, F, E, h, h1⟩ := h
  exact ⟨b, D, F, E, h.more hm, h1⟩
theorem GRa.later {w w' : World} {base G m : Nat} {S T : Nat → Prop} {P : ByteArray → Bool} {L : ByteArray → ByteArray → Bool} (h : GRa w base G m P L S) (hb : Below w.heap.size w w') (hr : ∀ r, T r → w.heap.size ≤ r ∧ r < w'.heap.size) : GRa w' base G m P L (fun r => S r ∨ T r) := by
  obtain ⟨b, D, F, E, h, h0⟩ := h
  have h1 := h.ltG
  have h2 := h.own.lt
  refine ⟨b, D, F, E, h.below hb, fun r hS => ?_⟩
  rcases hS with hS | hS
  · exact ⟨(h0 r hS).1, (h0 r hS).2.1, (h0 r hS).2.2.1, Nat.lt_of_lt_of_le (h0 r hS).2.2.2 hb.size⟩
  · obtain ⟨h3, h4⟩ := hr r hS
    exact ⟨by omega, by omega, fun s c hs hc => by have := (h.inn s c hs hc).lt; omega, h4⟩
theorem box3 {w : World} {b : Nat} {u v x : Value} {ty : Nat} (h : w.heap[b]? = some (.cells #[u, v, x] ty)) : w.cell? ⟨b, 0, none⟩ = some u ∧ w.cell? ⟨b, 1, none⟩ = some v ∧ w.cell? ⟨b, 2, none⟩ = some x := by
  simp [World.cell?, h]
def GraphR (n : Nat) (xs : List Nd) (w : World) (e : Ending) (w' : World) : Prop := ∃ G, e = .returned (.pointer (some ⟨G, 0, none⟩)) ∧ GR w' w.heap.size G (xs.length + 3 * (lnL n xs).length) (PG (xs.map Nd.name) (lnL n xs)) (inL (lnL n xs)) ∧ Below w.heap.size w w'
set_option maxRecDepth 100000 in
set_option maxHeartbeats 16000000 in
theorem graph_any (a : Option Addr) (len cap n : Nat) (xs : List Nd) (w : World) (hX : NodeRow w n a len xs) (hl : len ≤ 100000) (hF : FewN n xs) : Calls Try.prog 47 #[.slice a len cap] w (GraphR n xs w) := by
  have HX := Lib.hid hX
  have hcx := hX.count
  have HF := Lib.hid hF
  have HN := Lib.hid (new_any none 0 0 [] w ⟨rfl, by omega, fun i x h => by simp at h, fun h => absurd h (by omega)⟩ (by omega))
  clear hX hF
  go_enter Try.func47, Try.ntmps47
  go_wp2_with fail
  go_at_call 68; refine HN.out.mono ?_; rintro e w1 ⟨G, rfl, hG1, hB1⟩
  have HG1 := Lib.hid (show GR w1 w.heap.size G (0 + 3 * (lnL n (xs.take 0)).length) (PG ((xs.take 0).map Nd.name) (lnL n (xs.take 0))) (inL (lnL n (xs.take 0))) from hG1)
  have HB1 := Lib.hid hB1
  clear hG1 hB1 HN
  go_upto_region 3 with fail
  go_loopw [11] (fun i wr => ∃ (k : Nat), k ≤ len ∧ i = .int .i64 k ∧ Hid (GR wr w.heap.size G (k + 3 * (lnL n (xs.take k)).length) (PG ((xs.take k).map Nd.name) (lnL n (xs.take k))) (inL (lnL n (xs.take k)))) ∧ Hid (Below w.heap.size w wr)) (fun i _ => len - (intOf i).toNat)
  case atStart => exact ⟨0, by omega, rfl, HG1, HB1⟩
  case round =>
    clear HG1 HB1
    obtain ⟨k, hk, rfl, hG, hB⟩ := hrel
    rename World => wr
    have HG := Lib.hid hG.out
    have HB := Lib.hid hB.out
    clear hG hB
    by_cases hlt : k < len
    · obtain ⟨b0, off, rfl, hb, hc⟩ := HX.out.at_ (by omega)
      obtain ⟨x, hx⟩ : ∃ x, xs[k]? = some x := ⟨xs[k]'(by rw [hcx]; exact hlt), List.getElem?_eq_getElem _⟩
      obtain ⟨a', dl, dc, hN⟩ := hc k x hx
      have hN2 := hN.below HB.out hb
      have HNX := Lib.hid hN2
      obtain ⟨c0, c1, c2, hok, hds⟩ := hN2
      have HE := Lib.hid (lnL_at (n := n) hx)
      have HEN := Lib.hid (map_at Nd.name hx)
      have hxm := List.mem_of_getElem? hx
      have HLL := Lib.hid (show (lnL n (xs.take k)).length + (ofL n x.defs).length ≤ 300000 by
        have h1 := lnL_len (n := n) xs (k + 1)
        rw [HE.out, List.length_append] at h1
        have h2 := HF.out.lines
        have : (ln1 x.name (ofL n x.defs)).length = (ofL n x.defs).length := by unfold ln1; rw [List.length_map]
        omega)
      have hds0 := hN.ds
      have HOF := fun (r0 : Bool) W (hW : Below w.heap.size w W) => Lib.hid (of_any W n x.name r0 a' dl dc x.defs ((hds0.below (fun _ _ h => h.below hW) hW)) (HF.out.refs x hxm) (HF.out.all x hxm))
      have HSM := Lib.hid (ofL_small hds)
      obtain ⟨ns, hns⟩ : ∃ ns, (xs.take k).map Nd.name = ns := ⟨_, rfl⟩
      obtain ⟨ls, hls⟩ : ∃ ls, lnL n (xs.take k) = ls := ⟨_, rfl⟩
      rw [hns, hls] at HG
      rw [hns] at HEN
      rw [hls] at HE HLL
      obtain ⟨nm, rs, dsx⟩ := x
      dsimp only at c0 c1 c2 hok HE HEN HLL HOF HSM
      have HLT := HLL.out
      have HA1 := Lib.hid (show GRa (wr.alloc (.cells #[.string nm, .bool rs, .slice a' dl dc] 40)) w.heap.size G (k + 3 * ls.length) (PG ns ls) (inL ls) (fun r => r = wr.heap.size) from HG.out.later ((Below.refl _ _).alloc (Nat.le_refl _) _) (fun r hr => by subst hr; simp))
      have HADD := Lib.hid (add_r HA1.out hok (by omega))
      have HK0 := Lib.hid (show (wr.alloc (.cells #[.string nm, .bool rs, .slice a' dl dc] 40)).heap[wr.heap.size]? = some (.cells #[.string nm, .bool rs, .slice a' dl dc] 40) from World.alloc_heap_new wr _)
      have HB4 := Lib.hid (HB.out.alloc HB.out.size (.cells #[.string nm, .bool rs, .slice a' dl dc] 40))
      clear hx hc hb hN hds hds0 hns hls HG HNX HA1
      go_wp2_with fail
      go_at_call 69; refine HADD.out.mono ?_; rintro e w2 ⟨rfl, hA2, hB2, hK2⟩
      have HK2 := Lib.hid ((hK2 _ rfl).trans HK0.out)
      have HA2 := Lib.hid hA2
      rw [PG_name] at HA2
      have HB2 := Lib.hid (HB4.out.trans hB2)
      obtain ⟨d0, d1, d2⟩ := box3 HK2.out
      have HQ := HOF rs w2 HB2.out
      clear hA2 hB2 hK2 HK0 HB4 HB HADD HOF
      go_wp2_with fail
      go_at_call 70
      generalize ofL n dsx = ts at *
      refine HQ.out.mono ?_; rintro e w3 hT3
      obtain ⟨a3, cap3, rfl, hR3, hB3, hN3⟩ := row_new hT3 (by omega) HSM.out
      obtain ⟨g, hg⟩ : ∃ g, 0 < ts.length → a3 = some ⟨g, 0, none⟩ ∧ w2.heap.size ≤ g ∧ g < w3.heap.size := by
        by_cases h0 : 0 < ts.length
        · obtain ⟨g, h1⟩ := hN3 h0
          exact ⟨g, fun _ => h1⟩
        · exact ⟨0, fun h => absurd h h0⟩
      have HGa := Lib.hid (show 0 < ts.length → a3 = some ⟨g, 0, none⟩ from fun h0 => (hg h0).1)
      have HA3 := Lib.hid (show GRa w3 w.heap.size G (k + 1 + 3 * (ls ++ ln1 nm (ts.take 0)).length) (PG (ns ++ [nm]) (ls ++ ln1 nm (ts.take 0))) (inL (ls ++ ln1 nm (ts.take 0))) (fun r => r = wr.heap.size ∨ (0 < ts.length ∧ r = g)) by
        have h1 : ls ++ ln1 nm (ts.take 0) = ls := by simp [ln1]
        rw [h1]
        exact (HA2.out.more (by omega)).later hB3 (fun r hr => by obtain ⟨h0, rfl⟩ := hr; exact (hg h0).2))
      have hbl := HA2.out.lt rfl
      have HK3 := Lib.hid (show w3.heap[wr.heap.size]? = some (.cells #[.string nm, .bool rs, .slice a' dl dc] 40) from (hB3.block _ hbl).trans HK2.out)
      have HX3 := Lib.hid hR3
      have HB3 := Lib.hid (HB2.out.trans (hB3.mono HB2.out.size))
      clear HA2 HK2 HB2 HQ hT3 hR3 hB3 hN3 hg hbl d0 d1 d2
      go_upto_region 7 with fail
      go_loopw [22] (fun i w4 => ∃ (j : Nat), j ≤ ts.length ∧ i = .int .i64 j ∧ Hid (GRa w4 w.heap.size G (k + 1 + 3 * (ls ++ ln1 nm (ts.take j)).length) (PG (ns ++ [nm]) (ls ++ ln1 nm (ts.take j))) (inL (ls ++ ln1 nm (ts.take j))) (fun r => r = wr.heap.size ∨ (0 < ts.length ∧ r = g))) ∧ Hid (StrRow w4 a3 ts.length ts) ∧ Hid (w4.heap[wr.heap.size]? = some (.cells #[.string nm, .bool rs, .slice a' dl dc] 40)) ∧ Hid (Below w.heap.size w w4)) (fun i _ => ts.length - (intOf i).toNat)
      case atStart => exact ⟨0, by omega, rfl, HA3, HX3, HK3, HB3⟩
      case round =>
        clear HA3 HX3 HK3 HB3
        obtain ⟨j, hj, rfl, hA, hX, hK, hB⟩ := hrel
        rename World => w4
        have HA := Lib.hid hA.out
        have HX4 := Lib.hid hX.out
        have HK := Lib.hid hK.out
        have HB := Lib.hid hB.out
        clear hA hX hK hB
        have htl : ts.length ≤ 300000 := by omega
        by_cases hlt2 : j < ts.length
        · have ha3 := HGa.out (by omega)
          subst ha3
          obtain ⟨b4, off4, e4, hb4, hc4⟩ := HX4.out.at_ (by omega)
          injection e4 with e4
          injection e4 with e5 e6
          subst e5
          obtain rfl : off4 = 0 := e6.symm
          obtain ⟨t, ht⟩ : ∃ x, ts[j]? = some x := ⟨ts[j], List.getElem?_eq_getElem _⟩
          have hc2 : w4.cell? ⟨g, 0 + j, none⟩ = some (.string t) := hc4 j _ ht
          rw [Nat.zero_add] at hc2
          have htk : okS t := HX4.out.each j _ ht
          have HE3 := Lib.hid (show ls ++ ln1 nm (ts.take (j + 1)) = (ls ++ ln1 nm (ts.take j)) ++ [(nm, t)] by rw [ln1_at ht, List.append_assoc])
          have HLJ := Lib.hid (show (ls ++ ln1 nm (ts.take j)).length ≤ 300000 by
            have : (ln1 nm (ts.take j)).length ≤ j := by unfold ln1; rw [List.length_map, List.length_take]; omega
            rw [List.length_append]; omega)
          obtain ⟨lj, hlj⟩ : ∃ lj, ls ++ ln1 nm (ts.take j) = lj := ⟨_, rfl⟩
          rw [hlj] at HA HE3 HLJ
          have hlm := HLJ.out
          have HLK := Lib.hid (link_r HA.out hok htk (by omega))
          obtain ⟨d0, d1, d2⟩ := box3 HK.out
          clear ht hc4 e6 hb4 hlj d1 d2
          go_wp2_with (go_at_call 71; refine HLK.out.mono ?_; rintro e w5 ⟨rfl, hA5, hB5, hK5⟩; have HA5 := Lib.hid hA5; have HB5 := Lib.hid hB5; have HK5 := Lib.hid hK5; clear hA5 hB5 hK5)
          have HA6 := Lib.hid (show GRa w5 w.heap.size G (k + 1 + 3 * (lj ++ [(nm, t)]).length) (PG (ns ++ [nm]) (lj ++ [(nm, t)])) (inL (lj ++ [(nm, t)])) (fun r => r = wr.heap.size ∨ (0 < ts.length ∧ r = g)) by
            have := HA5.out
            rw [PG_link _ _ _ _ (by simp), inL_link] at this
            exact this.more (by rw [List.length_append]; simp; omega))
          have HR5 := Lib.hid (keep_row HX4.out (fun _ => rfl) (HK5.out g (.inr ⟨by omega, rfl⟩)) HB5.out.size)
          have HK6 := Lib.hid ((HK5.out wr.heap.size (.inl rfl)).trans HK.out)
          go_roundw
          case rel => exact ⟨j + 1, by omega, by go_num, by rw [HE3.out]; exact HA6, HR5, HK6, Lib.hid (HB.out.trans HB5.out)⟩
          case measure => simp [intOf]; omega
        · have hki : ¬ (j : Int) < (ts.length : Int) := by omega
          obtain rfl : j = ts.length := by omega
          rw [List.take_length, ← HE.out, ← HEN.out] at HA
          have HG5 := Lib.hid (HA.out.gr.more (Nat.le_refl _))
          go_wp2
          go_roundw
          case rel => exact ⟨k + 1, by omega, by go_num, HG5, HB⟩
          case measure => simp [intOf]; omega
    · have hki : ¬ (k : Int) < (len : Int) := by omega
      obtain rfl : k = len := by omega
      have HE := Lib.hid (show xs.take k = xs from List.take_of_length_le (by omega))
      go_wp2
      go_ret
      rw [HE.out] at HG
      exact ⟨G, rfl, by rw [hcx]; exact HG.out, HB.out⟩
end Go.Proofs.Ytngnegnofmpgkaa.Gr
/- WALKS of the reference's Find, Names. -/
namespace Go.Proofs.Ytngnegnofmpgkaa.Gr
open Go.RowKit Go.Maps Go.Sort
open Go.Proofs.Ytngnegnofmpgkaa.Nm (StrRow)
/-- Where the first node of a name stands, or -1. -/
def Fnd (xs : List Nd) (s : ByteArray) (i : Int) : Prop := (i = -1 ∧ s ∉ xs.map Nd.name) ∨ ∃ (k : Nat) (x : Nd), i = (k : Int) ∧ xs[k]? = some x ∧ x.name = s
theorem Fnd.pos {xs : List Nd} {s : ByteArray} {i : Int} (h : Fnd xs s i) : 0 ≤ i ↔ s ∈ xs.map Nd.name := by
  rcases h with ⟨rfl, h⟩ | ⟨k, x, rfl, hx, rfl⟩
  · exact ⟨fun h => by omega, fun h2 => absurd h2 h⟩
  · exact ⟨fun _ => List.mem_map.2 ⟨x, List.mem_of_getElem? hx, rfl⟩, fun _ => by omega⟩
set_option maxRecDepth 100000 in
set_option maxHeartbeats 4000000 in
theorem rfind_any (a : Option Addr) (len cap n : Nat) (xs : List Nd) (s : ByteArray) (w : World) (hS : NodeRow w n a len xs) : Calls Try.prog 30 #[.slice a len cap, .string s] w fun e w' => (∃ i : Int, e = .returned (.int .i64 i) ∧ Fnd xs s i) ∧ w = w' := by
  have hmax := hS.max
  have HS := Lib.hid hS
  have HN0 := Lib.hid (show Nin s (xs.map Nd.name) 0 from fun _ _ _ h => absurd h (by omega))
  clear hS
  by_cases h0 : 0 < len
  · obtain ⟨b, off, rfl, hb, hc⟩ := HS.out.at_ h0
    have HC := Lib.hid hc
    clear hc hb
    go_enter Try.func30, Try.ntmps30
    go_wp2
    go_loop [5] (fun i => ∃ k : Nat, k ≤ len ∧ i = .int .i64 k ∧ Hid (Nin s (xs.map Nd.name) k)) (fun i => len - (intOf i).toNat)
    case atStart => exact ⟨0, by omega, rfl, HN0⟩
    case round =>
      obtain ⟨k, hk, rfl, hU⟩ := hrel
      by_cases hlt : k < len
      · obtain ⟨x, hx⟩ : ∃ x, xs[k]? = some x := ⟨xs[k]'(by rw [HS.out.count]; exact hlt), List.getElem?_eq_getElem _⟩
        obtain ⟨a', dl, dc, hN⟩ := HC.out k x hx
        have hcell := hN.c0
        have HX := Lib.hid hx
        have HX2 := Lib.hid (show (xs.map Nd.name)[k]? = some x.name by rw [List.getElem?_map, hx]; rfl)
        obtain ⟨nm, hnm⟩ : ∃ nm, x.name = nm := ⟨_, rfl⟩
        have HNM := Lib.hid hnm
        rw [hnm] at hcell HX2
        clear hx hN hnm
        cases hr : (nm.toList == s.toList)
        · have HR := Lib.hid hr
          go_wp2
          go_round
          case rel => exact ⟨k + 1, by omega, by go_num, Lib.hid (hU.out.succ HX2.out HR.out)⟩
          case measure => simp [intOf]; omega
        · have HR := Lib.hid hr
          go_wp2
          go_ret
          have e := eq_list.1 HR.out
          subst e
          exact ⟨⟨k, rfl, .inr ⟨k, x, rfl, HX.out, HNM.out⟩⟩, rfl⟩
      · have hki : ¬ (k : Int) < (len : Int) := by omega
        obtain rfl : k = len := by omega
        go_wp2
        go_ret
        refine ⟨⟨-1, rfl, .inl ⟨rfl, fun hm => ?_⟩⟩, rfl⟩
        have := nin_end (s := s) (xs := xs.map Nd.name) (by rw [List.length_map, HS.out.count]; exact hU.out)
        rw [inB_iff.2 hm] at this
        exact absurd this (by decide)
  · obtain rfl : len = 0 := by omega
    have hx : xs = [] := List.eq_nil_of_length_eq_zero HS.out.count
    subst hx
    go_enter Try.func30, Try.ntmps30
    go_wp2
    refine wp_loop_rounds 1 ?_
    rw [rounds_succ]
    go_wp2
    go_ret
    exact ⟨⟨-1, rfl, .inl ⟨rfl, by simp⟩⟩, rfl⟩
/-- The names of all, or of the resources, rising. -/
def nm1 (res : Bool) (acc : List ByteArray) (x : Nd) : List ByteArray := if res = true ∧ x.res = false then acc else putL x.name acc
def nmL (res : Bool) (xs : List Nd) : List ByteArray := xs.foldl (nm1 res) []
theorem nm_len (res : Bool) (xs : List Nd) : ∀ acc : List ByteArray, (xs.foldl (nm1 res) acc).length ≤ acc.length + xs.length := by
  induction xs with
  | nil => intro acc; simp
  | cons l ls ih =>
    intro acc
    rw [List.foldl_cons]
    have h1 := ih (nm1 res acc l)
    have h2 : (nm1 res acc l).length ≤ acc.length + 1 := by
      unfold nm1
      split
      · omega
      · exact putL_len _ _
    rw [List.length_cons]
    omega
theorem nm_set (res : Bool) (t : ByteArray) (xs : List Nd) : ∀ acc : List ByteArray, Rise acc → Rise (xs.foldl (nm1 res) acc) ∧ (t ∈ xs.foldl (nm1 res) acc ↔ t ∈ acc ∨ ∃ x ∈ xs, (res = false ∨ x.res = true) ∧ t = x.name) := by
  induction xs with
  | nil => intro acc h; exact ⟨h, by simp⟩
  | cons l ls ih =>
    intro acc h
    rw [List.foldl_cons]
    unfold nm1 at ih ⊢
    by_cases hc : res = true ∧ l.res = false
    · rw [if_pos hc]
      obtain ⟨h1, h2⟩ := ih acc h
      refine ⟨h1, ?_⟩
      rw [h2]
      constructor
      · rintro (h | ⟨x, hx, h⟩)
        · exact .inl h
        · exact .inr ⟨x, List.mem_cons_of_mem _ hx, h⟩
      · rintro (h | ⟨x, hx, h3, h⟩)
        · exact .inl h
        · rcases List.mem_cons.1 hx with rfl | hx
          · rw [hc.1, hc.2] at h3; simp at h3
          · exact .inr ⟨x, hx, h3, h⟩
    · rw [if_neg hc]
      obtain ⟨h1, h2⟩ := ih _ (putL_rise l.name acc h)
      refine ⟨h1, ?_⟩
      have hl : res = false ∨ l.res = true := by cases res <;> cases hr : l.res <;> simp_all
      rw [h2, putL_mem]
      constructor
      · rintro ((h | h) | ⟨x, hx, h⟩)
        · exact .inr ⟨l, List.mem_cons_self, hl, h⟩
        · exact .inl h
        · exact .inr ⟨x, List.mem_cons_of_mem _ hx, h⟩
      · rintro (h | ⟨x, hx, h3, h⟩)
        · exact .inl (.inr h)
        · rcases List.mem_cons.1 hx with rfl | hx
          · exact .inl (.inl h)
          · exact .inr ⟨x, hx, h3, h⟩
set_option maxRecDepth 100000 in
set_option maxHeartbeats 16000000 in
theorem rnames_any (a : Option Addr) (len cap n : Nat) (xs : List Nd) (res : Bool) (w : World) (hX : NodeRow w n a len xs) (hl : len ≤ 300000) : Calls Try.prog 77 #[.slice a len cap, .bool res] w (RowR (nmL res xs) w) := by
  have HX := Lib.hid hX
  have hcx := hX.count
  have HN := Lib.hid (show StrRow w none 0 [] from ⟨rfl, by omega, fun i x h => by simp at h, fun h => absurd h (by omega)⟩)
  clear hX
  cases res
  · go_enter Try.func77, Try.ntmps77
    go_upto_region 3 with fail
    go_loopw [5, 6] (fun v i wr => ∃ (k : Nat) (b : Option Addr) (cp : Nat), k ≤ len ∧ i = .int .i64 k ∧ v = .slice b (((xs.take k).foldl (nm1 false) []).length) cp ∧ Hid (StrRow wr b ((xs.take k).foldl (nm1 false) []).length ((xs.take k).foldl (nm1 false) [])) ∧ Hid (Below w.heap.size w wr)) (fun _ i _ => len - (intOf i).toNat)
    case atStart => exact ⟨0, none, 0, by omega, rfl, rfl, HN, Lib.hid (Below.refl _ _)⟩
    case round =>
      obtain ⟨k, b, cp, hk, rfl, rfl, hO, hB⟩ := hrel
      rename World => wr
      have HO := Lib.hid hO.out
      have HB := Lib.hid hB.out
      clear hO hB
      by_cases hlt : k < len
      · obtain ⟨b0, off, rfl, hb, hc⟩ := HX.out.at_ (by omega)
        obtain ⟨x, hx⟩ : ∃ x, xs[k]? = some x := ⟨xs[k]'(by rw [hcx]; exact hlt), List.getElem?_eq_getElem _⟩
        obtain ⟨a', dl, dc, hN⟩ := hc k x hx
        obtain ⟨c0, c1, c2, hok, -⟩ := hN.below HB.out hb
        have HE := Lib.hid (fold_at (nm1 false) [] hx)
        have hll := nm_len false (xs.take k) []
        rw [List.length_take, List.length_nil] at hll
        obtain ⟨acc, hacc⟩ : ∃ acc, (xs.take k).foldl (nm1 false) [] = acc := ⟨_, rfl⟩
        rw [hacc] at HO HE hll ⊢
        obtain ⟨nm, rs, dsx⟩ := x
        dsimp only at c0 c1 c2 hok
        have HP := Lib.hid (rput_any b acc.length cp acc nm wr HO.out hok (by omega))
        clear hx hc hb hN hacc c2
        cases rs
        · have HE2 := Lib.hid (HE.out.trans (show nm1 false acc ⟨nm, false, dsx⟩ = putL nm acc from if_neg (by simp)))
          clear HE
          go_wp2_with (go_at_call 21; refine HP.out.mono ?_; rintro e w2 ⟨b2, cp2, rfl, hS2, hB2⟩; have HS2 := Lib.hid hS2; have HB2 := Lib.hid (HB.out.trans (hB2.mono HB.out.size)); clear hS2 hB2)
          go_roundw
          case rel => exact ⟨k + 1, b2, cp2, by omega, by go_num, by rw [HE2.out], by rw [HE2.out]; exact HS2, HB2⟩
          case measure => simp [intOf]; omega
        · have HE2 := Lib.hid (HE.out.trans (show nm1 false acc ⟨nm, true, dsx⟩ = putL nm acc from if_neg (by simp)))
          clear HE
          go_wp2_with (go_at_call 21; refine HP.out.mono ?_; rintro e w2 ⟨b2, cp2, rfl, hS2, hB2⟩; have HS2 := Lib.hid hS2; have HB2 := Lib.hid (HB.out.trans (hB2.mono HB.out.size)); clear hS2 hB2)
          go_roundw
          case rel => exact ⟨k + 1, b2, cp2, by omega, by go_num, by rw [HE2.out], by rw [HE2.out]; exact HS2, HB2⟩
          case measure => simp [intOf]; omega
      · have hki : ¬ (k : Int) < (len : Int) := by omega
        obtain rfl : k = len := by omega
        have HE := Lib.hid (show xs.take k = xs from List.take_of_length_le (by omega))
        rw [HE.out] at HO ⊢
        go_wp2
        go_ret
        exact ⟨b, cp, rfl, HO.out, HB.out⟩
  · go_enter Try.func77, Try.ntmps77
    go_upto_region 3 with fail
    go_loopw [5, 6] (fun v i wr => ∃ (k : Nat) (b : Option Addr) (cp : Nat), k ≤ len ∧ i = .int .i64 k ∧ v = .slice b (((xs.take k).foldl (nm1 true) []).length) cp ∧ Hid (StrRow wr b ((xs.take k).foldl (nm1 true) []).length ((xs.take k).foldl (nm1 true) [])) ∧ Hid (Below w.heap.size w wr)) (fun _ i _ => len - (intOf i).toNat)
    case atStart => exact ⟨0, none, 0, by omega, rfl, rfl, HN, Lib.hid (Below.refl _ _)⟩
    case round =>
      obtain ⟨k, b, cp, hk, rfl, rfl, hO, hB⟩ := hrel
      rename World => wr
      have HO := Lib.hid hO.out
      have HB := Lib.hid hB.out
      clear hO hB
      by_cases hlt : k < len
      · obtain ⟨b0, off, rfl, hb, hc⟩ := HX.out.at_ (by omega)
        obtain ⟨x, hx⟩ : ∃ x, xs[k]? = some x := ⟨xs[k]'(by rw [hcx]; exact hlt), List.getElem?_eq_getElem _⟩
        obtain ⟨a', dl, dc, hN⟩ := hc k x hx
        obtain ⟨c0, c1, c2, hok, -⟩ := hN.below HB.out hb
        have HE := Lib.hid (fold_at (nm1 true) [] hx)
        have hll := nm_len true (xs.take k) []
        rw [List.length_take, List.length_nil] at hll
        obtain ⟨acc, hacc⟩ : ∃ acc, (xs.take k).foldl (nm1 true) [] = acc := ⟨_, rfl⟩
        rw [hacc] at HO HE hll ⊢
        obtain ⟨nm, rs, dsx⟩ := x
        dsimp only at c0 c1 c2 hok
        have HP := Lib.hid (rput_any b acc.length cp acc nm wr HO.out hok (by omega))
        clear hx hc hb hN hacc c2
        cases rs
        · have HE2 := Lib.hid (HE.out.trans (show nm1 true acc ⟨nm, false, dsx⟩ = acc from if_pos (by simp)))
          clear HE HP
          go_wp2
          go_roundw
          case rel => exact ⟨k + 1, b, cp, by omega, by go_num, by rw [HE2.out], by rw [HE2.out]; exact HO, HB⟩
          case measure => simp [intOf]; omega
        · have HE2 := Lib.hid (HE.out.trans (show nm1 true acc ⟨nm, true, dsx⟩ = putL nm acc from if_neg (by simp)))
          clear HE
          go_wp2_with (go_at_call 21; refine HP.out.mono ?_; rintro e w2 ⟨b2, cp2, rfl, hS2, hB2⟩; have HS2 := Lib.hid hS2; have HB2 := Lib.hid (HB.out.trans (hB2.mono HB.out.size)); clear hS2 hB2)
          go_roundw
          case rel => exact ⟨k + 1, b2, cp2, by omega, by go_num, by rw [HE2.out], by rw [HE2.out]; exact HS2, HB2⟩
          case measure => simp [intOf]; omega
      · have hki : ¬ (k : Int) < (len : Int) := by omega
        obtain rfl : k = len := by omega
        have HE := Lib.hid (show xs.take k = xs from List.take_of_length_le (by omega))
        rw [HE.out] at HO ⊢
        go_wp2
        go_ret
        exact ⟨b, cp, rfl, HO.out, HB.out⟩
end Go.Proofs.Ytngnegnofmpgkaa.Gr
/- WALKS of the reference's Only, Of. -/
namespace Go.Proofs.Ytngnegnofmpgkaa.Gr
open Go.RowKit Go.Maps Go.Sort
open Go.Proofs.Ytngnegnofmpgkaa.Nm (StrRow)
def onlyL (turned : Bool) (xs : List Nd) (l : List ByteArray) : List ByteArray := l.filter fun s => inB s (xs.map Nd.name) != turned
theorem only_at {turned : Bool} {xs : List Nd} {l : List ByteArray} {k : Nat} {s : ByteArray} (h : l[k]? = some s) : onlyL turned xs (l.take (k + 1)) = if (inB s (xs.map Nd.name) != turned) = true then onlyL turned xs (l.take k) ++ [s] else onlyL turned xs (l.take k) := by
  obtain ⟨hk, e⟩ := List.getElem?_eq_some_iff.1 h
  unfold onlyL
  rw [List.take_succ_eq_append_getElem hk, List.filter_append, e]
  cases hr : (inB s (xs.map Nd.name) != turned) <;> simp [hr]
set_option maxRecDepth 100000 in
set_option maxHeartbeats 16000000 in
theorem ronly_any (a a2 : Option Addr) (len cap len2 cap2 n : Nat) (xs : List Nd) (l : List ByteArray) (turned : Bool) (w : World) (hX : NodeRow w n a len xs) (hS : StrRow w a2 len2 l) (hl2 : len2 ≤ 1000000) : Calls Try.prog 50 #[.slice a len cap, .slice a2 len2 cap2, .bool turned] w (TxtsP (onlyL turned xs l) w) := by
  have HX := Lib.hid hX
  have HS := Lib.hid hS
  have hcx := hX.count
  have hcl := hS.count
  have hm2 := hS.max
  obtain ⟨i0, hi, hz0, hz1, hz2⟩ := info_parts info9
  clear hX hS
  go_enter Try.func50, Try.ntmps50
  go_upto_region 3 with fail
  go_loopw [7, 8] (fun v i wr => ∃ (k : Nat), k ≤ len2 ∧ i = .int .i64 k ∧ Hid (wr.ownsRow w.heap.size 9 1 v (onlyL turned xs (l.take k)).length ((onlyL turned xs (l.take k)).map Value.string)) ∧ Hid (Below w.heap.size w wr)) (fun _ i _ => len2 - (intOf i).toNat)
  case atStart => exact ⟨0, by omega, rfl, Lib.hid (World.ownsRow_nil _ _ _ _), Lib.hid (Below.refl _ _)⟩
  case round =>
    obtain ⟨k, hk, rfl, hR, hB⟩ := hrel
    rename World => wr
    have HR := Lib.hid hR.out
    have HB := Lib.hid hB.out
    clear hR hB
    by_cases hlt : k < len2
    · obtain ⟨b0, off, rfl, hb, hc⟩ := HS.out.at_ (by omega)
      obtain ⟨s, hx⟩ : ∃ s, l[k]? = some s := ⟨l[k]'(by rw [hcl]; exact hlt), List.getElem?_eq_getElem _⟩
      have hc1 : wr.cell? ⟨b0, off + k, none⟩ = some (.string s) := (HB.out.cell (p := ⟨b0, off + k, none⟩) hb).trans (hc k _ hx)
      have HE := Lib.hid (only_at (turned := turned) (xs := xs) hx)
      have HAL := Lib.hid (show (onlyL turned xs (l.take k)).length ≤ k by
        unfold onlyL
        refine Nat.le_trans (List.length_filter_le _ _) ?_
        rw [List.length_take]; omega)
      have HF := Lib.hid (rfind_any a len cap n xs s wr (HX.out.below HB.out))
      obtain ⟨acc, hacc⟩ : ∃ acc, onlyL turned xs (l.take k) = acc := ⟨_, rfl⟩
      rw [hacc] at HR HE HAL
      have hal := HAL.out
      have HZW := Lib.hid HB.out.size
      clear hx hc hb hacc
      cases hin : inB s (xs.map Nd.name)
      · cases turned
        · have HE2 := Lib.hid (HE.out.trans (if_neg (by rw [hin]; decide)))
          have HIN := Lib.hid hin
          clear HE hin
          go_wp2_with (go_at_call 30; refine HF.out.mono ?_; rintro e w2 ⟨⟨i, rfl, hi2⟩, rfl⟩; have HI := Lib.hid hi2.pos; have hgeq : (decide ((0 : Int) ≤ i)) = false := (by rw [Bool.eq_iff_iff, decide_eq_true_eq, HI.out, ← inB_iff, HIN.out]); clear hi2)
          go_roundw
          case rel => exact ⟨k + 1, by omega, by go_num, by rw [HE2.out]; exact HR, HB⟩
          case measure => simp [intOf]; omega
        · have HE2 := Lib.hid (HE.out.trans (if_pos (by rw [hin]; rfl)))
          have HIN := Lib.hid hin
          clear HE hin
          go_wp2_with (first
            | (go_at_call 30; refine HF.out.mono ?_; rintro e w2 ⟨⟨i, rfl, hi2⟩, rfl⟩; have HI := Lib.hid hi2.pos; have hgeq : (decide ((0 : Int) ≤ i)) = false := (by rw [Bool.eq_iff_iff, decide_eq_true_eq, HI.out, ← inB_iff, HIN.out]); clear hi2)
            | (at_builtin; refine wpList_append_own_at _ rfl _ _ 26 rfl w.heap.size 9 i0 (.string ByteArray.empty) 1 16 Try.underlying26 hi hz0 hz1 hz2 rfl (by decide) _ acc.length (acc.map Value.string) rfl (HR.out.alloc _) ⟨wr.heap.size, 0, none⟩ 1 1 [.string s] rfl rfl (cell_one_new _ _ _) (by intro v hv; simp at hv; subst hv; rfl) (by unfold maxLen; omega) (by omega) (by have := HZW.out; simp; omega) ?_; intro v' w6 hown' hgrow6 hnil6 hat6; have HO6 := Lib.hid hown'; have HG6 := Lib.hid hgrow6; clear hown' hgrow6 hnil6 hat6))
          have hrb := own_base HR.out
          have HB6 := Lib.hid ((HB.out.alloc HB.out.size (.cells #[.string s] 9)).grown HG6.out (by have := HZW.out; simp; omega) (fun r e => hrb r e))
          clear hrb HG6
          go_wp2
          go_roundw
          case rel => exact ⟨k + 1, by omega, by go_num, by rw [HE2.out, List.length_append, List.map_append]; exact HO6, HB6⟩
          case measure => simp [intOf]; omega
      · cases turned
        · have HE2 := Lib.hid (HE.out.trans (if_pos (by rw [hin]; rfl)))
          have HIN := Lib.hid hin
          clear HE hin
          go_wp2_with (first
            | (go_at_call 30; refine HF.out.mono ?_; rintro e w2 ⟨⟨i, rfl, hi2⟩, rfl⟩; have HI := Lib.hid hi2.pos; have hgeq : (decide ((0 : Int) ≤ i)) = true := (by rw [Bool.eq_iff_iff, decide_eq_true_eq, HI.out, ← inB_iff, HIN.out]); clear hi2)
            | (at_builtin; refine wpList_append_own_at _ rfl _ _ 26 rfl w.heap.size 9 i0 (.string ByteArray.empty) 1 16 Try.underlying26 hi hz0 hz1 hz2 rfl (by decide) _ acc.length (acc.map Value.string) rfl (HR.out.alloc _) ⟨wr.heap.size, 0, none⟩ 1 1 [.string s] rfl rfl (cell_one_new _ _ _) (by intro v hv; simp at hv; subst hv; rfl) (by unfold maxLen; omega) (by omega) (by have := HZW.out; simp; omega) ?_; intro v' w6 hown' hgrow6 hnil6 hat6; have HO6 := Lib.hid hown'; have HG6 := Lib.hid hgrow6; clear hown' hgrow6 hnil6 hat6))
          have hrb := own_base HR.out
          have HB6 := Lib.hid ((HB.out.alloc HB.out.size (.cells #[.string s] 9)).grown HG6.out (by have := HZW.out; simp; omega) (fun r e => hrb r e))
          clear hrb HG6
          go_wp2
          go_roundw
          case rel => exact ⟨k + 1, by omega, by go_num, by rw [HE2.out, List.length_append, List.map_append]; exact HO6, HB6⟩
          case measure => simp [intOf]; omega
        · have HE2 := Lib.hid (HE.out.trans (if_neg (by rw [hin]; decide)))
          have HIN := Lib.hid hin
          clear HE hin
          go_wp2_with (go_at_call 30; refine HF.out.mono ?_; rintro e w2 ⟨⟨i, rfl, hi2⟩, rfl⟩; have HI := Lib.hid hi2.pos; have hgeq : (decide ((0 : Int) ≤ i)) = true := (by rw [Bool.eq_iff_iff, decide_eq_true_eq, HI.out, ← inB_iff, HIN.out]); clear hi2)
          go_roundw
          case rel => exact ⟨k + 1, by omega, by go_num, by rw [HE2.out]; exact HR, HB⟩
          case measure => simp [intOf]; omega
    · have hki : ¬ (k : Int) < (len2 : Int) := by omega
      obtain rfl : k = len2 := by omega
      have HE := Lib.hid (show l.take k = l from List.take_of_length_le (by omega))
      rw [HE.out] at HR
      go_wp2
      go_ret
      exact ⟨_, rfl, HR.out, HB.out⟩
end Go.Proofs.Ytngnegnofmpgkaa.Gr
/- WALK of the reference's Of. -/
namespace Go.Proofs.Ytngnegnofmpgkaa.Gr
open Go.RowKit Go.Maps Go.Sort
open Go.Proofs.Ytngnegnofmpgkaa.Nm (StrRow)
set_option maxRecDepth 100000 in
set_option maxHeartbeats 16000000 in
theorem rof_any (w : World) (n : Nat) (s0 : ByteArray) (r0 : Bool) (a : Option Addr) (dl dc : Nat) (ds : List Ex) (hD : InKs (InX w n) w a dl ds) (hN : (rL n ds).length ≤ 1000000) (hA : ∀ x ∈ ds, tN n x ≤ 1000000) : Calls Try.prog 78 #[.agg #[.string s0, .bool r0, .slice a dl dc]] w (TxtsP (ofL n ds) w) := by
  have HD := Lib.hid hD
  have hcx := hD.count
  have hdm := hD.max
  have HN := Lib.hid hN
  have HA := Lib.hid hA
  obtain ⟨i0, hi, hz0, hz1, hz2⟩ := info_parts info9
  have HB0 := Lib.hid (show Below w.heap.size w (w.alloc (.cells #[.string s0, .bool r0, .slice a dl dc] 40)) from (Below.refl _ _).alloc (Nat.le_refl _) _)
  have HK0 := Lib.hid (show (w.alloc (.cells #[.string s0, .bool r0, .slice a dl dc] 40)).heap[w.heap.size]? = some (.cells #[.string s0, .bool r0, .slice a dl dc] 40) from World.alloc_heap_new w _)
  have hs1 : (w.alloc (.cells #[.string s0, .bool r0, .slice a dl dc] 40)).heap.size = w.heap.size + 1 := by simp
  clear hD hN hA
  go_enter Try.func78, Try.ntmps78
  go_upto_region 3 with fail
  go_loopw [3, 4] (fun v i wr => ∃ (k : Nat), k ≤ dl ∧ i = .int .i64 k ∧ Hid (wr.ownsRow (w.heap.size + 1) 9 1 v ((rL n (ds.take k)).foldl un1 []).length (((rL n (ds.take k)).foldl un1 []).map Value.string)) ∧ Hid (Below w.heap.size w wr) ∧ Hid (w.heap.size + 1 ≤ wr.heap.size) ∧ Hid (wr.heap[w.heap.size]? = some (.cells #[.string s0, .bool r0, .slice a dl dc] 40))) (fun _ i _ => dl - (intOf i).toNat)
  case atStart => exact ⟨0, by omega, rfl, Lib.hid (World.ownsRow_nil _ _ _ _), HB0, Lib.hid (by rw [hs1]; exact Nat.le_refl _), HK0⟩
  case round =>
    clear HB0 hs1 HK0
    obtain ⟨k, hk, rfl, hR, hB, hz, hK⟩ := hrel
    rename World => wr
    have HR := Lib.hid hR.out
    have HB := Lib.hid hB.out
    have HZ := Lib.hid hz.out
    have HK := Lib.hid hK.out
    clear hR hB hz hK
    obtain ⟨d0, d1, d2⟩ := box3 HK.out
    clear d0 d1
    by_cases hlt : k < dl
    · have hlt' : k < ds.length := by rw [hcx]; exact hlt
      obtain ⟨b, off, y, rfl, lt, hy2, hI⟩ := HD.out.at_ k hlt'
      obtain ⟨x, hx⟩ : ∃ x, ds[k]? = some x := ⟨ds[k], List.getElem?_eq_getElem _⟩
      rw [(List.getElem?_eq_some_iff.1 hx).2] at hI
      have HX := Lib.hid (HA.out x (List.mem_of_getElem? hx))
      have HE := Lib.hid (rL_at (n := n) hx [])
      have HLN := Lib.hid (show (rL n (ds.take k)).length + (refsL (allN n x)).length ≤ 1000000 by
        rw [rL_next hx]
        exact Nat.le_trans (rL_len ds (k + 1)) HN.out)
      obtain ⟨acc, hacc⟩ : ∃ acc, (rL n (ds.take k)).foldl un1 [] = acc := ⟨_, rfl⟩
      have HAL := Lib.hid (show acc.length ≤ (rL n (ds.take k)).length by
        rw [← hacc]
        have := un_len (rL n (ds.take k)) []
        simpa using this)
      have HSA := Lib.hid (show ∀ s ∈ acc, okS s from fun s hs => by
        rw [← hacc] at hs
        rcases (un_mem s _ _).1 hs with h | h
        · exact absurd h (by simp)
        · obtain ⟨x2, hx2, hs2⟩ := List.mem_flatMap.1 h
          obtain ⟨i, hi, e⟩ := List.getElem_of_mem (List.mem_of_mem_take hx2)
          obtain ⟨b9, off9, y9, -, -, -, hI9⟩ := HD.out.at_ i hi
          rw [e] at hI9
          exact refs_small hI9 s hs2)
      rw [hacc] at HR HE
      clear hacc hx
      have HRS := Lib.hid (rrefs_any w wr n y x hI HB.out HX.out)
      have HSM := Lib.hid (refs_small hI)
      obtain ⟨op2, nn2, s2, p2, pl2, pc2, q2, ql2, qc2, o2, k2, kl2, kc2⟩ := y
      obtain ⟨c0, c1, c2, c3, c4, c5, c6⟩ := hy2.below HB.out lt
      dsimp only at c0 c1 c2 c3 c4 c5 c6
      unfold Hd.agg at HRS
      dsimp only at HRS
      have hk0 : (0 : Int) ≤ (k : Int) := by omega
      have hki : (k : Int) < (dl : Int) := by omega
      clear hI hy2 lt
      go_wp2_with fail
      go_at_call 93
      generalize refsL (allN n x) = xs at *
      refine HRS.out.mono ?_; rintro e w3 hT3
      obtain ⟨a3, cap3, rfl, hR3, hB3, hN3⟩ := row_new hT3 (by have := HLN.out; omega) HSM.out
      obtain ⟨g, hg⟩ : ∃ g, 0 < xs.length → a3 = some ⟨g, 0, none⟩ ∧ wr.heap.size ≤ g ∧ g < w3.heap.size := by
        by_cases h0 : 0 < xs.length
        · obtain ⟨g, h1⟩ := hN3 h0
          exact ⟨g, fun _ => h1⟩
        · exact ⟨0, fun h => absurd h h0⟩
      have HGa := Lib.hid (show 0 < xs.length → a3 = some ⟨g, 0, none⟩ ∧ w.heap.size + 1 ≤ g from fun h0 => ⟨(hg h0).1, Nat.le_trans HZ.out (hg h0).2.1⟩)
      have HGv := Lib.hid (show 0 < xs.length → some g ≠ u3.ownBlock ∧ g < w3.heap.size from fun h0 => ⟨fun e => by have := own_lt HR.out g e.symm; have := (hg h0).2.1; omega, (hg h0).2.2⟩)
      have HX3 := Lib.hid hR3
      have HR3 := Lib.hid (show w3.ownsRow (w.heap.size + 1) 9 1 u3 ((xs.take 0).foldl un1 acc).length (((xs.take 0).foldl un1 acc).map Value.string) from HR.out.kept (grow_of hB3) (by cases u3.ownBlock <;> simp))
      have HB3 := Lib.hid (HB.out.trans (hB3.mono HB.out.size))
      have HZ3 := Lib.hid (Nat.le_trans HZ.out hB3.size)
      have HK3 := Lib.hid ((hB3.block _ (by have := HZ.out; omega)).trans HK.out)
      clear HR HB HZ HK HRS hT3 hR3 hB3 hN3 hg c0 c1 c2 c3 c4 c5 c6 d2
      go_upto_region 7 with fail
      go_loopw [3, 6] (fun v i wr => ∃ (j : Nat), j ≤ xs.length ∧ i = .int .i64 j ∧ Hid (wr.ownsRow (w.heap.size + 1) 9 1 v ((xs.take j).foldl un1 acc).length (((xs.take j).foldl un1 acc).map Value.string)) ∧ Hid (Below w.heap.size w wr) ∧ Hid (w.heap.size + 1 ≤ wr.heap.size) ∧ Hid (0 < xs.length → some g ≠ v.ownBlock ∧ g < wr.heap.size) ∧ Hid (StrRow wr a3 xs.length xs) ∧ Hid (wr.heap[w.heap.size]? = some (Obj.cells #[.string s0, .bool r0, .slice (some ⟨b, off, none⟩) dl dc] 40))) (fun _ i _ => xs.length - (intOf i).toNat)
      case atStart => exact ⟨0, by omega, rfl, HR3, HB3, HZ3, HGv, HX3, HK3⟩
      case round =>
        clear HR3 HB3 HZ3 HGv HX3 HK3
        obtain ⟨j, hj, rfl, hR, hB, hz, hG, hX, hK⟩ := hrel
        rename World => wr
        have HR := Lib.hid hR.out
        have HB := Lib.hid hB.out
        have HZ := Lib.hid hz.out
        have HGv := Lib.hid hG.out
        have HX4 := Lib.hid hX.out
        have HK := Lib.hid hK.out
        clear hR hB hz hG hX hK
        have hxl : xs.length ≤ 1000000 := by have := HLN.out; omega
        by_cases hlt2 : j < xs.length
        · obtain ⟨rfl, hg2⟩ := HGa.out (by omega)
          obtain ⟨hgv, hgw⟩ := HGv.out (by omega)
          obtain ⟨b4, off4, e4, hb4, hc4⟩ := HX4.out.at_ (by omega)
          injection e4 with e4
          injection e4 with e5 e6
          subst e5
          obtain rfl : off4 = 0 := e6.symm
          obtain ⟨t, ht⟩ : ∃ x, xs[j]? = some x := ⟨xs[j], List.getElem?_eq_getElem _⟩
          have hc2 : wr.cell? ⟨g, 0 + j, none⟩ = some (.string t) := hc4 j _ ht
          rw [Nat.zero_add] at hc2
          have HE2 := Lib.hid (fold_at un1 acc ht)
          have HAL2 := Lib.hid (show ((xs.take j).foldl un1 acc).length ≤ acc.length + j by
            have := un_len (xs.take j) acc
            rw [List.length_take] at this
            omega)
          have HSC := Lib.hid (show ∀ s ∈ (xs.take j).foldl un1 acc, okS s from fun s hs => by
            rcases (un_mem s _ _).1 hs with h | h
            · exact HSA.out s h
            · exact HSM.out s (List.mem_of_mem_take h))
          obtain ⟨ac, hac⟩ : ∃ ac, (xs.take j).foldl un1 acc = ac := ⟨_, rfl⟩
          rw [hac] at HR HE2 HAL2 HSC
          have hal : ac.length ≤ 1000000 := by have := HAL2.out; have := HAL.out; have := HLN.out; omega
          obtain ⟨av, cv, rfl, hSR⟩ := str_row HR.out (by omega) HSC.out
          have HHAS := Lib.hid (rhas_any av ac.length cv ac t wr hSR)
          clear ht hc4 e6 hb4 hac HGv hSR
          by_cases hin : inB t ac = true
          · rw [hin] at HHAS
            have HF := Lib.hid (show un1 ac t = ac from if_pos hin)
            have HGv := Lib.hid (show 0 < xs.length → some g ≠ (Value.slice av ac.length cv).ownBlock ∧ g < wr.heap.size from fun _ => ⟨hgv, hgw⟩)
            clear hgv hgw hg2 hin
            go_wp2_with (go_at_call 36; refine HHAS.out.mono ?_; rintro e w9 ⟨rfl, rfl⟩)
            go_roundw
            case rel => exact ⟨j + 1, by omega, by go_num, by rw [HE2.out, HF.out]; exact HR, HB, HZ, HGv, HX4, HK⟩
            case measure => simp [intOf]; omega
          · have hin2 : inB t ac = false := by simpa using hin
            rw [hin2] at HHAS
            have HF := Lib.hid (show un1 ac t = ac ++ [t] from if_neg hin)
            have HGw := Lib.hid hgw
            have HGv := Lib.hid hgv
            have HGb := Lib.hid hg2
            clear hgv hgw hg2 hin hin2
            go_wp2_with (first
              | (go_at_call 36; refine HHAS.out.mono ?_; rintro e w9 ⟨rfl, rfl⟩)
              | (at_builtin; refine wpList_append_own_at _ rfl _ _ 26 rfl (w.heap.size + 1) 9 i0 (.string ByteArray.empty) 1 16 Try.underlying26 hi hz0 hz1 hz2 rfl (by decide) _ ac.length (ac.map Value.string) rfl (HR.out.alloc _) ⟨wr.heap.size, 0, none⟩ 1 1 [.string t] rfl rfl (cell_one_new _ _ _) (by intro v hv; simp at hv; subst hv; rfl) (by unfold maxLen; omega) (by omega) (by have := HZ.out; simp; omega) ?_; intro v' w6 hown' hgrow6 hnil6 hat6; have HO6 := Lib.hid hown'; have HG6 := Lib.hid hgrow6; have HA6 := Lib.hid hat6; clear hown' hgrow6 hnil6 hat6))
            have hal5 := World.grownBy_alloc wr (.cells #[.string t] 9) none
            have hrb := own_base HR.out
            have hB6 : Below w.heap.size w w6 := (HB.out.alloc HB.out.size _).grown HG6.out (by have := HB.out.size; simp; omega) (fun r e => by have := hrb r e; omega)
            have hk6 : w6.heap[g]? = wr.heap[g]? := (HG6.out.block g (by have := HGw.out; simp; omega) (fun e => HGv.out e)).trans (hal5.block g HGw.out (by simp))
            have hkb6 : w6.heap[w.heap.size]? = wr.heap[w.heap.size]? := (HG6.out.block _ (by have := HZ.out; simp; omega) (fun e => by have := hrb _ e.symm; omega)).trans (hal5.block _ (by have := HZ.out; omega) (by simp))
            have hz6 : wr.heap.size + 1 ≤ w6.heap.size := by have := HG6.out.size; simp at this; omega
            have hX6 := keep_row HX4.out (fun _ => rfl) hk6 (by omega)
            have hg6 : 0 < xs.length → some g ≠ v'.ownBlock ∧ g < w6.heap.size := fun _ => ⟨fun e => by
              rcases HA6.out with h5 | h5
              · rw [h5] at e; exact HGv.out e
              · rw [h5] at e; injection e with e; have := HGw.out; simp at e; omega, by have := HGw.out; omega⟩
            have HB6 := Lib.hid hB6
            have HX6 := Lib.hid hX6
            have HGv6 := Lib.hid hg6
            have HK6 := Lib.hid (hkb6.trans HK.out)
            have HZ6 := Lib.hid (show w.heap.size + 1 ≤ w6.heap.size by have := HZ.out; omega)
            clear hal5 hrb hB6 hk6 hX6 hg6 HG6 HA6 hkb6
            go_wp2
            go_roundw
            case rel => exact ⟨j + 1, by omega, by go_num, by rw [HE2.out, HF.out, List.length_append, List.map_append]; exact HO6, HB6, HZ6, HGv6, HX6, HK6⟩
            case measure => simp [intOf]; omega
        · have hki : ¬ (j : Int) < (xs.length : Int) := by omega
          obtain rfl : j = xs.length := by omega
          rw [List.take_length, ← HE.out] at HR
          go_wp2
          go_roundw
          case rel => exact ⟨k + 1, by omega, by go_num, HR, HB, HZ, HK⟩
          case measure => simp [intOf]; omega
    · have hki : ¬ (k : Int) < (dl : Int) := by omega
      obtain rfl : k = dl := by omega
      have HE := Lib.hid (show ds.take k = ds from List.take_of_length_le (by omega))
      go_wp2
      go_ret
      rw [HE.out] at HR
      exact ⟨_, rfl, owns_up HR.out (by omega), HB.out⟩
end Go.Proofs.Ytngnegnofmpgkaa.Gr
