/- Gi, Gj, Gk, Gl, Gm, Ha, Hb, Hc -/
import Derived.Test.YtngnegnofmpgkaaZ9
/- WALKS of graph's New, Len. -/
namespace Go.Proofs.Ytngnegnofmpgkaa.Gr
open Go.RowKit Go.Maps Go.Sort
open Go.Proofs.Ytngnegnofmpgkaa.Nm (StrRow)
/-- A graph without points. -/
theorem gr_new (w : World) : GR ((w.alloc (.map #[] 0)).alloc (.cells #[.map (some w.heap.size)] 120)) w.heap.size (w.heap.size + 1) 0 (fun _ => false) (fun _ _ => false) := by
  have hmade := World.ownsMap_made w Try.prog 9 (Rm : Value → Option (DataW Value × List MemPlace))
  have hal := World.grownBy_alloc (w.alloc (.map #[] 0)) (.cells #[.map (some w.heap.size)] 120) none
  refine ⟨w.heap.size, .map [], fun _ => none, fun _ => .map [], ?_⟩
  refine { box := ?_, own := ownsMap_tight (hmade.kept hal (by simp)), lowG := by omega, lowb := Nat.le_refl _, ne := by omega, bas := by simp; omega, atK := ?_, has := ?_, fp := ?_, inn := ?_, low := ?_, lin := ?_, szi := ?_, non := ?_, cl := ?_, apart := ?_, siz := Nat.zero_le _, kok := ?_, kin := ?_ }
  · show ((w.heap.push _).push _)[w.heap.size + 1]? = _
    rw [Array.getElem?_push, if_pos (by simp)]
  · intro s hs; rfl
  · intro s hs; rfl
  · intro s hs; rfl
  · intro s c hs hc; exact absurd hc (by simp)
  · intro s c hs hc; exact absurd hc (by simp)
  · intro s c hs hc; exact absurd hc (by simp)
  · intro s c hs hc; exact absurd hc (by simp)
  · intro s t hs hp; rfl
  · intro s t hs ht hl; exact absurd hl (by simp)
  · intro s t c hs ht hc; exact absurd hc (by simp)
  · intro s hh; exact absurd hh (by simp [Maps.has_eq])
  · intro s c hs hc; exact absurd hc (by simp)
def NewR (xs : List ByteArray) (w : World) (e : Ending) (w' : World) : Prop := ∃ G, e = .returned (.pointer (some ⟨G, 0, none⟩)) ∧ GR w' w.heap.size G xs.length (fun s => inB s xs) (fun _ _ => false) ∧ Below w.heap.size w w'
theorem inB_take {xs : List ByteArray} {k : Nat} {x : ByteArray} (hx : xs[k]? = some x) : (fun s => inB s (xs.take k) || decide (s = x)) = fun s => inB s (xs.take (k + 1)) := by
  funext s
  obtain ⟨hk, e⟩ := List.getElem?_eq_some_iff.1 hx
  rw [List.take_succ_eq_append_getElem hk, e]
  unfold inB
  rw [List.any_append]
  congr 1
  simp only [List.any_cons, List.any_nil, Bool.or_false]
  exact decide_eq_decide.2 ⟨fun h => h.symm, fun h => h.symm⟩
set_option maxRecDepth 100000 in
set_option maxHeartbeats 8000000 in
theorem new_any (a : Option Addr) (len cap : Nat) (xs : List ByteArray) (w : World) (hX : StrRow w a len xs) (hl : len ≤ 1000000) : Calls Try.prog 68 #[.slice a len cap] w (NewR xs w) := by
  have HX := Lib.hid hX
  have hcx := hX.count
  have HN := Lib.hid (gr_new w)
  have HB0 := Lib.hid (show Below w.heap.size w ((w.alloc (.map #[] 0)).alloc (.cells #[.map (some w.heap.size)] 120)) from ((Below.refl _ _).alloc (Nat.le_refl _) _).alloc (by simp) _)
  have hmm := @run_makeMap Try.prog
  clear hX
  go_enter Try.func68, Try.ntmps68
  go_upto_region 3 with fail
  go_loopw [11] (fun i wr => ∃ (k : Nat), k ≤ len ∧ i = .int .i64 k ∧ Hid (GR wr w.heap.size (w.heap.size + 1) k (fun s => inB s (xs.take k)) (fun _ _ => false)) ∧ Hid (Below w.heap.size w wr)) (fun i _ => len - (intOf i).toNat)
  case atStart => exact ⟨0, by omega, rfl, HN, HB0⟩
  case round =>
    obtain ⟨k, hk, rfl, hO, hB⟩ := hrel
    rename World => wr
    have HO := Lib.hid hO.out
    have HB := Lib.hid hB.out
    clear hO hB
    by_cases hlt : k < len
    · obtain ⟨b0, off, rfl, hb, hc⟩ := HX.out.at_ (by omega)
      obtain ⟨x, hx⟩ : ∃ x, xs[k]? = some x := ⟨xs[k]'(by rw [hcx]; exact hlt), List.getElem?_eq_getElem _⟩
      have hc1 : wr.cell? ⟨b0, off + k, none⟩ = some (.string x) := (HB.out.cell (p := ⟨b0, off + k, none⟩) hb).trans (hc k _ hx)
      have HE := Lib.hid (inB_take hx)
      have hxk : okS x := HX.out.each k _ hx
      clear hx hc hb
      have HP := Lib.hid (add_any HO.out hxk (by omega))
      go_wp2_with (go_at_call 69; refine HP.out.mono ?_; rintro e w2 ⟨rfl, hS2, hB2⟩; have HS2 := Lib.hid hS2; have HB2 := Lib.hid (HB.out.trans hB2); clear hS2 hB2)
      go_roundw
      case rel => exact ⟨k + 1, by omega, by go_num, by rw [← HE.out]; exact HS2, HB2⟩
      case measure => simp [intOf]; omega
    · have hki : ¬ (k : Int) < (len : Int) := by omega
      obtain rfl : k = len := by omega
      have HE := Lib.hid (show xs.take k = xs from List.take_of_length_le (by omega))
      go_wp2
      go_ret
      refine ⟨_, rfl, ?_, HB.out⟩
      have := HO.out
      rw [HE.out] at this
      rw [hcx]
      exact this
end Go.Proofs.Ytngnegnofmpgkaa.Gr
/- How many points a graph has. -/
namespace Go.Proofs.Ytngnegnofmpgkaa.Gr
open Go.RowKit Go.Maps Go.Sort
open Go.Proofs.Ytngnegnofmpgkaa.Nm (StrRow)
theorem size_of {R : Value → Option (DataW Value × List MemPlace)} {w : World} {b n : Nat} {D : DataW Value} {P : ByteArray → Bool} {l : List ByteArray} (own : w.ownsMap Try.prog 9 R b n D) (hh : ∀ s, okS s → Maps.has D (kS s) = P s) (hk : ∀ s, Maps.has D (kS s) = true → okS s) (hS : SetL P l) : Maps.size D = l.length := by
  obtain ⟨es, hD, hpw, -⟩ := own.entries law9
  obtain ⟨es', hD', hko⟩ := own.keysOf
  obtain rfl : es = es' := by rw [hD] at hD'; simpa using hD'
  subst hD
  have hp := perm_strKeys (ss := l.map fun s => s.data.toList) hpw (fun p hp => by obtain ⟨v, hv⟩ := hko p hp; obtain ⟨x, _, hx, _⟩ := Maps.keyOf_str Try.underlying9 hv; exact ⟨x, hx⟩)
    (by
      refine List.pairwise_map.2 (hS.1.imp fun {a b} h e => ?_)
      rw [e] at h
      exact List.lt_irrefl _ h)
    (fun x => by
      rw [List.mem_map]
      constructor
      · rintro ⟨s, hs, rfl⟩
        obtain ⟨h1, h2⟩ := (hS.2 s).1 hs
        rw [← hh s h1] at h2
        exact h2
      · intro hx
        have h1 := hk (mk x) hx
        exact ⟨mk x, (hS.2 _).2 ⟨h1, by rw [← hh _ h1]; exact hx⟩, rfl⟩)
  have := hp.length_eq
  rw [List.length_map] at this
  rw [this]
  show es.length = (es.map fun p => strOf p.1).length
  rw [List.length_map]
theorem set_filter {P Q : ByteArray → Bool} {l : List ByteArray} (hS : SetL P l) (hq : ∀ t, okS t → Q t = true → P t = true) : SetL Q (l.filter Q) := by
  refine ⟨hS.1.filter _, fun s => ?_⟩
  rw [List.mem_filter, hS.2]
  exact ⟨fun h => ⟨h.1.1, h.2⟩, fun h => ⟨⟨h.1, hq s h.1 h.2⟩, h.2⟩⟩
theorem GR.tight {w : World} {base G m : Nat} {P : ByteArray → Bool} {L : ByteArray → ByteArray → Bool} {l : List ByteArray} (h : GR w base G m P L) (hS : SetL P l) : GR w base G l.length P L := by
  obtain ⟨b, D, F, E, h⟩ := h
  refine ⟨b, D, F, E, { h with siz := ?_, szi := ?_ }⟩
  · intro s c hs hc
    rw [size_of (h.inn s c hs hc) (h.lin s c hs hc) (h.kin s c hs hc) (set_filter hS fun t ht hl => h.cl s t hs ht hl)]
    exact List.length_filter_le _ _
  · rw [size_of h.own h.has h.kok hS]; exact Nat.le_refl _
theorem GR.more {w : World} {base G m m' : Nat} {P : ByteArray → Bool} {L : ByteArray → ByteArray → Bool} (h : GR w base G m P L) (hm : m ≤ m') : GR w base G m' P L := by
  obtain ⟨b, D, F, E, h⟩ := h
  exact ⟨b, D, F, E, h.more hm⟩
theorem GR.cl {w : World} {base G m : Nat} {P : ByteArray → Bool} {L : ByteArray → ByteArray → Bool} (h : GR w base G m P L) {s t : ByteArray} (hs : okS s) (ht : okS t) (hl : L s t = true) : P t = true := by
  obtain ⟨b, D, F, E, h⟩ := h
  exact h.cl s t hs ht hl
theorem GR.non {w : World} {base G m : Nat} {P : ByteArray → Bool} {L : ByteArray → ByteArray → Bool} (h : GR w base G m P L) {s t : ByteArray} (hs : okS s) (hl : P s = false) : L s t = false := by
  obtain ⟨b, D, F, E, h⟩ := h
  exact h.non s t hs hl
end Go.Proofs.Ytngnegnofmpgkaa.Gr
/- A graph and a block that is none of its own: Add and Link leave that block. -/
namespace Go.Proofs.Ytngnegnofmpgkaa.Gr
open Go.RowKit Go.Maps Go.Sort
theorem ok_det {α : Type} {z : Go.Result α} {x y : α} {a b : World} (h1 : z = .ok x a) (h2 : z = .ok y b) : b = a := by
  subst h1
  injection h2 with _ h
  exact h.symm
section
variable {w w' : World} {base G b m : Nat} {D : DataW Value} {F : ByteArray → Option Nat} {E : ByteArray → DataW Value} {P : ByteArray → Bool} {L : ByteArray → ByteArray → Bool}
theorem Gr.add_keep (h : Gr w base G b D F E m P L) {k : ByteArray} (hk : okS k) (hm : m < 1000000000) {w2 : World} (hrun : (Instr.mapUpdate 118 (.map (some b)) (.string k) (.map (some w.heap.size))).run Try.prog (w.alloc (.map #[] 0)) = .ok () w2) {r : Nat} (hr : r < w.heap.size) (hb : r ≠ b) : w2.heap[r]? = w.heap[r]? := by
  have hal := World.grownBy_alloc w (.map #[] 0) none
  obtain ⟨w3, hrun3, -, hg⟩ := (h.own.kept hal (by simp)).update law9 Try.underlying118 (by have := h.siz; unfold maxLen; omega) (key9 hk) (val := .map (some w.heap.size)) (d := .held (.map (some w.heap.size))) (ps := []) rfl
  obtain rfl := ok_det hrun hrun3
  rw [hg.block r (by simp; omega) (by intro e; injection e with e; exact hb e)]
  exact hal.block r hr (by simp)
theorem Gr.line_keep (h : Gr w base G b D F E m P L) {s t : ByteArray} {c : Nat} (hs : okS s) (ht : okS t) (hF : F s = some c) (hm : m < 1000000000) {w2 : World} (hrun : (Instr.mapUpdate 90 (.map (some c)) (.string t) (.bool true)).run Try.prog w = .ok () w2) {r : Nat} (hr : r < w.heap.size) (hb : r ≠ c) : w2.heap[r]? = w.heap[r]? := by
  obtain ⟨w3, hrun3, -, hg⟩ := (h.inn s c hs hF).update law9 Try.underlying90 (by have := h.szi s c hs hF; unfold maxLen; omega) (key9 ht) (plainElem_bool Try.underlying4 true)
  obtain rfl := ok_det hrun hrun3
  exact hg.block r hr (by intro e; injection e with e; exact hb e)
end
/-- A graph, and blocks that are none of its own. -/
def GRa (w : World) (base G m : Nat) (P : ByteArray → Bool) (L : ByteArray → ByteArray → Bool) (S : Nat → Prop) : Prop := ∃ b D F E, Gr w base G b D F E m P L ∧ ∀ r, S r → r ≠ b ∧ r ≠ G ∧ (∀ s c, okS s → F s = some c → r ≠ c) ∧ r < w.heap.size
theorem GRa.gr {w : World} {base G m : Nat} {S : Nat → Prop} {P : ByteArray → Bool} {L : ByteArray → ByteArray → Bool} (h : GRa w base G m P L S) : GR w base G m P L := by
  obtain ⟨b, D, F, E, h, -⟩ := h
  exact ⟨b, D, F, E, h⟩
theorem GRa.lt {w : World} {base G m : Nat} {S : Nat → Prop} {P : ByteArray → Bool} {L : ByteArray → ByteArray → Bool} (h : GRa w base G m P L S) {r : Nat} (hr : S r) : r < w.heap.size := by
  obtain ⟨b, D, F, E, -, h⟩ := h
  exact (h r hr).2.2.2
theorem GRa.less {w : World} {base G m : Nat} {S S' : Nat → Prop} {P : ByteArray → Bool} {L : ByteArray → ByteArray → Bool} (h : GRa w base G m P L S) (hS : ∀ r, S' r → S r) : GRa w base G m P L S' := by
  obtain ⟨b, D, F, E, h, h1⟩ := h
  exact ⟨b, D, F, E, h, fun r hr => h1 r (hS r hr)⟩
/-- What was made later is none of its own. -/
theorem GR.later {w w' : World} {base G m : Nat} {S : Nat → Prop} {P : ByteArray → Bool} {L : ByteArray → ByteArray → Bool} (h : GR w base G m P L) (hb : Below w.heap.size w w') (hr : ∀ r, S r → w.heap.size ≤ r ∧ r < w'.heap.size) : GRa w' base G m P L S := by
  obtain ⟨b, D, F, E, h⟩ := h
  have h1 := h.ltG
  have h2 := h.own.lt
  exact ⟨b, D, F, E, h.below hb, fun r hS => by
    obtain ⟨h3, h4⟩ := hr r hS
    exact ⟨by omega, by omega, fun s c hs hc => by have := (h.inn s c hs hc).lt; omega, h4⟩⟩
theorem GRa.below {w w' : World} {base G m : Nat} {S : Nat → Prop} {P : ByteArray → Bool} {L : ByteArray → ByteArray → Bool} (h : GRa w base G m P L S) (hb : Below w.heap.size w w') : GRa w' base G m P L S := by
  obtain ⟨b, D, F, E, h, h1⟩ := h
  exact ⟨b, D, F, E, h.below hb, fun r hS => ⟨(h1 r hS).1, (h1 r hS).2.1, (h1 r hS).2.2.1, Nat.lt_of_lt_of_le (h1 r hS).2.2.2 hb.size⟩⟩
theorem GRa.tight {w : World} {base G m : Nat} {S : Nat → Prop} {P : ByteArray → Bool} {L : ByteArray → ByteArray → Bool} {l : List ByteArray} (h : GRa w base G m P L S) (hS : SetL P l) : GRa w base G l.length P L S := by
  obtain ⟨b, D, F, E, h, h1⟩ := h
  refine ⟨b, D, F, E, { h with szi := ?_, siz := ?_ }, h1⟩
  · intro s c hs hc
    rw [size_of (h.inn s c hs hc) (h.lin s c hs hc) (h.kin s c hs hc) (set_filter hS fun t ht hl => h.cl s t hs ht hl)]
    exact List.length_filter_le _ _
  · rw [size_of h.own h.has h.kok hS]; exact Nat.le_refl _
set_option maxRecDepth 100000 in
set_option maxHeartbeats 4000000 in
theorem add_r {w : World} {base G m : Nat} {S : Nat → Prop} {P : ByteArray → Bool} {L : ByteArray → ByteArray → Bool} (h : GRa w base G m P L S) {k : ByteArray} (hk : okS k) (hm : m < 1000000000) :
    Calls Try.prog 69 #[.pointer (some ⟨G, 0, none⟩), .string k] w fun e w' => e = .returned (.tuple #[]) ∧ GRa w' base G (m + 1) (fun s => P s || decide (s = k)) L S ∧ Below base w w' ∧ (∀ r, S r → w'.heap[r]? = w.heap[r]?) := by
  have HA := fun W (hg : GR W base G m P L) => Lib.hid (has_any hg hk)
  obtain ⟨b, D, F, E, h, hv⟩ := h
  have HH := fun W hc => Lib.hid (held_some G (.map (some b)) W hc)
  have c0 := h.cell
  have hq := fun W => neq_nil74 W (some b)
  have HG := Lib.hid h
  have HV := Lib.hid hv
  by_cases hP : P k = true
  · rw [hP] at HA
    have he : (fun s => P s || decide (s = k)) = P := by
      funext s
      by_cases e : s = k
      · subst e; simp [hP]
      · simp [e]
    rw [he]
    clear h he hP hv
    go_enter Try.func69, Try.ntmps69
    go_wp2_with (first
      | (go_at_call 91; refine (HH _ c0).out.mono ?_; rintro e w1 ⟨rfl, rfl⟩)
      | (go_at_call 75; refine (HA _ ⟨b, D, F, E, HG.out⟩).out.mono ?_; rintro e w1 ⟨rfl, rfl⟩))
    go_end0
    exact ⟨rfl, ⟨b, D, F, E, HG.out.more (Nat.le_succ _), HV.out⟩, Below.refl _ _, fun _ _ => rfl⟩
  · have hPf : P k = false := by simpa using hP
    rw [hPf] at HA
    obtain ⟨w2, D', hrun, hg2, hb2⟩ := h.add hk hPf hm
    have HK := Lib.hid (fun r (hS : S r) => h.add_keep hk hm hrun (hv r hS).2.2.2 (hv r hS).1)
    have HG2 := Lib.hid hg2; have HB2 := Lib.hid hb2; have HR := Lib.hid hrun
    have HV2 := Lib.hid (show ∀ r, S r → r ≠ b ∧ r ≠ G ∧ (∀ s c, okS s → (if s = k then some w.heap.size else F s) = some c → r ≠ c) ∧ r < w2.heap.size from fun r hS => ⟨(hv r hS).1, (hv r hS).2.1, fun s c hs hc => by
      by_cases e : s = k
      · rw [if_pos e] at hc
        injection hc with hc
        have := (hv r hS).2.2.2
        omega
      · rw [if_neg e] at hc
        exact (hv r hS).2.2.1 s c hs hc, Nat.lt_of_lt_of_le (hv r hS).2.2.2 hb2.size⟩)
    have hmm := @run_makeMap Try.prog
    clear h hP hPf hrun hg2 hb2 hv
    go_enter Try.func69, Try.ntmps69
    go_wp2_with (first
      | (go_at_call 91; refine (HH _ c0).out.mono ?_; rintro e w1 ⟨rfl, rfl⟩)
      | (go_at_call 75; refine (HA _ ⟨b, D, F, E, HG.out⟩).out.mono ?_; rintro e w1 ⟨rfl, rfl⟩; have hrun := HR.out))
    go_end0
    exact ⟨rfl, ⟨b, D', _, _, HG2.out, HV2.out⟩, HB2.out, HK.out⟩
theorem link_ptr {w : World} {base G m : Nat} {S : Nat → Prop} {P : ByteArray → Bool} {L : ByteArray → ByteArray → Bool} (h : GRa w base G m P L S) {s t : ByteArray} (hs : okS s) (ht : okS t) (hPs : P s = true) (hPt : P t = true) (hm : m < 1000000000) :
    ∃ b c w2, w.cell? ⟨G, 0, none⟩ = some (.map (some b)) ∧ (Instr.lookup 118 (.map (some b)) (.string s) false).run Try.prog w = .ok (.map (some c)) w ∧ (Instr.mapUpdate 90 (.map (some c)) (.string t) (.bool true)).run Try.prog w = .ok () w2 ∧
      GRa w2 base G (m + 1) P (fun x y => L x y || (decide (x = s) && decide (y = t))) S ∧ Below base w w2 ∧ (∀ r, S r → w2.heap[r]? = w.heap[r]?) := by
  obtain ⟨b, D, F, E, h, hv⟩ := h
  obtain ⟨c, hc⟩ : ∃ c, F s = some c := Option.isSome_iff_exists.1 (by rw [h.fp s hs, hPs])
  obtain ⟨w2, E', hrun, hg, hb⟩ := h.line hs ht hc hPt hm
  have hl := h.look hs
  rw [hc] at hl
  exact ⟨b, c, w2, h.cell, hl, hrun, ⟨b, D, F, E', hg, fun r hS => ⟨(hv r hS).1, (hv r hS).2.1, (hv r hS).2.2.1, Nat.lt_of_lt_of_le (hv r hS).2.2.2 hb.size⟩⟩, hb, fun r hS => h.line_keep hs ht hc hm hrun (hv r hS).2.2.2 ((hv r hS).2.2.1 s c hs hc)⟩
set_option maxRecDepth 100000 in
set_option maxHeartbeats 4000000 in
theorem link_r {w : World} {base G m : Nat} {S : Nat → Prop} {P : ByteArray → Bool} {L : ByteArray → ByteArray → Bool} (h : GRa w base G m P L S) {s t : ByteArray} (hs : okS s) (ht : okS t) (hm : m + 3 < 1000000000) :
    Calls Try.prog 71 #[.pointer (some ⟨G, 0, none⟩), .string s, .string t] w fun e w' => e = .returned (.tuple #[]) ∧ GRa w' base G (m + 3) (fun x => (P x || decide (x = s)) || decide (x = t)) (fun x y => L x y || (decide (x = s) && decide (y = t))) S ∧ Below base w w' ∧ (∀ r, S r → w'.heap[r]? = w.heap[r]?) := by
  have H1 := Lib.hid (add_r h hs (by omega))
  have H2 := fun W (hg : GRa W base G (m + 1) (fun x => P x || decide (x = s)) L S) => Lib.hid (add_r hg ht (by omega))
  clear h
  go_enter Try.func71, Try.ntmps71
  go_wp2_with fail
  go_at_call 69; refine H1.out.mono ?_; rintro e w1 ⟨rfl, hg1, hb1, hk1⟩
  have HB1 := Lib.hid hb1
  have HK1 := Lib.hid hk1
  have H2 := Lib.hid ((H2 _ hg1).out)
  clear hg1 hb1 hk1
  go_wp2_with fail
  go_at_call 69; refine H2.out.mono ?_; rintro e w2 ⟨rfl, hg2, hb2, hk2⟩
  have HB2 := Lib.hid (HB1.out.trans hb2)
  have HK2 := Lib.hid (fun r (hS : S r) => (hk2 r hS).trans (HK1.out r hS))
  obtain ⟨b, c, w3, c0, hl, hrun, hg3, hb3, hk3⟩ := link_ptr hg2 hs ht (by simp) (by simp) (by omega)
  have HG3 := Lib.hid hg3
  have HB3 := Lib.hid (HB2.out.trans hb3)
  have HK3 := Lib.hid (fun r (hS : S r) => (hk3 r hS).trans (HK2.out r hS))
  have HH := fun W hc => Lib.hid (held_some G (.map (some b)) W hc)
  have hq := fun W => neq_nil77 W (some c)
  clear hg2 hb2 hg3 hb3 hk2 hk3
  go_wp2_with (go_at_call 91; refine (HH _ c0).out.mono ?_; rintro e w1 ⟨rfl, rfl⟩)
  go_end0
  exact ⟨rfl, HG3.out, HB3.out, HK3.out⟩
end Go.Proofs.Ytngnegnofmpgkaa.Gr
/- WALK of graph's Turned. -/
namespace Go.Proofs.Ytngnegnofmpgkaa.Gr
open Go.RowKit Go.Maps Go.Sort
open Go.Proofs.Ytngnegnofmpgkaa.Nm (StrRow)
instance (s : ByteArray) : Decidable (okS s) := inferInstanceAs (Decidable (s.size ≤ 140737488355328))
theorem Gr.congr {w : World} {base G b m : Nat} {D : DataW Value} {F : ByteArray → Option Nat} {E : ByteArray → DataW Value} {P P' : ByteArray → Bool} {L L' : ByteArray → ByteArray → Bool} (h : Gr w base G b D F E m P L) (hP : ∀ s, okS s → P s = P' s) (hL : ∀ s t, okS s → okS t → L s t = L' s t) (hn : ∀ s t, okS s → P s = false → L' s t = false) : Gr w base G b D F E m P' L' :=
  { h with
    has := fun s hs => (h.has s hs).trans (hP s hs)
    fp := fun s hs => (h.fp s hs).trans (hP s hs)
    lin := fun s c hs hc t ht => (h.lin s c hs hc t ht).trans (hL s t hs ht)
    non := fun s t hs hp => hn s t hs ((hP s hs).trans hp)
    cl := fun s t hs ht hl => (hP t ht).symm.trans (h.cl s t hs ht ((hL s t hs ht).trans hl)) }
theorem GR.congr {w : World} {base G m : Nat} {P P' : ByteArray → Bool} {L L' : ByteArray → ByteArray → Bool} (h : GR w base G m P L) (hP : ∀ s, okS s → P s = P' s) (hL : ∀ s t, okS s → okS t → L s t = L' s t) (hn : ∀ s t, okS s → P s = false → L' s t = false) : GR w base G m P' L' := by
  obtain ⟨b, D, F, E, h⟩ := h
  exact ⟨b, D, F, E, h.congr hP hL hn⟩
theorem GR.down {w : World} {base base' G m : Nat} {P : ByteArray → Bool} {L : ByteArray → ByteArray → Bool} (h : GR w base G m P L) (hb : base' ≤ base) : GR w base' G m P L := by
  obtain ⟨b, D, F, E, h⟩ := h
  exact ⟨b, D, F, E, { h with lowG := Nat.le_trans hb h.lowG, lowb := Nat.le_trans hb h.lowb, bas := Nat.le_trans hb h.bas, low := fun s c hs hc => ⟨Nat.le_trans hb (h.low s c hs hc).1, (h.low s c hs hc).2⟩ }⟩
/-- A list of texts in a block made since. -/
def RowN (l : List ByteArray) (w : World) (e : Ending) (w' : World) : Prop := ∃ (a : Option Addr) (cap : Nat), e = .returned (.slice a l.length cap) ∧ StrRow w' a l.length l ∧ Below w.heap.size w w' ∧ (0 < l.length → ∃ g, a = some ⟨g, 0, none⟩ ∧ w.heap.size ≤ g ∧ g < w'.heap.size)
theorem row_new {l : List ByteArray} {w w' : World} {e : Ending} (h : TxtsP l w e w') (hl : l.length ≤ 140737488355328) (hs : ∀ y ∈ l, y.size ≤ 140737488355328) : RowN l w e w' := by
  obtain ⟨v, rfl, hr, hb⟩ := h
  obtain ⟨a, c, rfl, hS⟩ := str_row hr hl hs
  refine ⟨a, c, rfl, hS, hb, fun h0 => ?_⟩
  rcases hr.2 with ⟨e, h1⟩ | ⟨g, cap, cur, e, hbase, hb1, h1, h2, h3, h4⟩
  · omega
  · injection e with e1 e2 e3
    exact ⟨g, e1, hbase, (Array.getElem?_eq_some_iff.1 hb1).1⟩
/-- The lines laid when k points are done and j lines of the next one, f. -/
def lk (L : ByteArray → ByteArray → Bool) (ps : List ByteArray) (f : ByteArray) (ts : List ByteArray) : ByteArray → ByteArray → Bool := fun x y => (inB y ps && (decide (okS x) && L y x)) || (decide (y = f) && inB x ts)
def l0 (L : ByteArray → ByteArray → Bool) (ps : List ByteArray) : ByteArray → ByteArray → Bool := fun x y => inB y ps && (decide (okS x) && L y x)
theorem lk_nil (L : ByteArray → ByteArray → Bool) (ps : List ByteArray) (f : ByteArray) : lk L ps f [] = l0 L ps := by
  funext x y
  simp [lk, l0, inB]
theorem inB_at {xs : List ByteArray} {k : Nat} {x : ByteArray} (hx : xs[k]? = some x) (s : ByteArray) : inB s (xs.take (k + 1)) = (inB s (xs.take k) || decide (s = x)) := (congrFun (inB_take hx) s).symm
theorem lk_at {L : ByteArray → ByteArray → Bool} {ps ts : List ByteArray} {f t : ByteArray} {j : Nat} (ht : ts[j]? = some t) : (fun x y => lk L ps f (ts.take j) x y || (decide (x = t) && decide (y = f))) = lk L ps f (ts.take (j + 1)) := by
  funext x y
  unfold lk
  rw [inB_at ht x]
  cases decide (x = t) <;> cases decide (y = f) <;> cases inB x (ts.take j) <;> simp
theorem lk_done {L : ByteArray → ByteArray → Bool} {ps ts : List ByteArray} {f : ByteArray} {k : Nat} (hf : ps[k]? = some f) (hS : SetL (fun t => L f t) ts) : lk L (ps.take k) f ts = l0 L (ps.take (k + 1)) := by
  funext x y
  unfold lk l0
  rw [inB_at hf y]
  have hx : inB x ts = (decide (okS x) && L f x) := by
    rw [Bool.eq_iff_iff, inB_iff, hS.2 x, Bool.and_eq_true, decide_eq_true_eq]
  rw [hx]
  by_cases e : y = f
  · subst e
    cases inB y (ps.take k) <;> simp
  · simp [e]
theorem keep_row {w w' : World} {a : Option Addr} {len g : Nat} {xs : List ByteArray} (h : StrRow w a len xs) (ha : 0 < len → a = some ⟨g, 0, none⟩) (hk : w'.heap[g]? = w.heap[g]?) (hg : w.heap.size ≤ w'.heap.size) : StrRow w' a len xs := by
  obtain ⟨h1, h2, h3, h4⟩ := h
  refine ⟨h1, h2, h3, fun h0 => ?_⟩
  obtain ⟨b, off, e, hlt, hc⟩ := h4 h0
  have e2 := ha h0
  rw [e] at e2
  injection e2 with e2
  injection e2 with e3 e4
  subst e3
  exact ⟨b, off, e, Nat.lt_of_lt_of_le hlt hg, fun i x hx => by have := hc i x hx; rw [← this]; simp only [World.cell?, hk]⟩
/-- All lines the other way. -/
def lt (L : ByteArray → ByteArray → Bool) : ByteArray → ByteArray → Bool := fun x y => decide (okS y) && (decide (okS x) && L y x)
theorem turned_gr {w : World} {base base' G G2 m n : Nat} {P : ByteArray → Bool} {L : ByteArray → ByteArray → Bool} {w' : World} {ps : List ByteArray} (h : GR w base G m P L) (hS : SetL P ps) (h2 : GR w' base' G2 n P (l0 L ps)) : GR w' base' G2 n P (lt L) := by
  refine h2.congr (fun _ _ => rfl) (fun x y hx hy => ?_) fun x y hx hp => ?_
  · unfold l0 lt
    rw [decide_eq_true hx, decide_eq_true hy]
    simp only [Bool.true_and]
    cases hl : L y x
    · simp
    · have hp : P y = true := by
        cases e : P y
        · rw [h.non hy e] at hl; exact absurd hl (by decide)
        · rfl
      simp [inB_iff.2 ((hS.2 y).2 ⟨hy, hp⟩)]
  · unfold lt
    by_cases hy : okS y
    · have hl : L y x = false := by
        cases e : L y x
        · rfl
        · rw [h.cl hy hx e] at hp; exact absurd hp (by decide)
      rw [hl]; simp
    · simp [hy]
end Go.Proofs.Ytngnegnofmpgkaa.Gr
/- WALK of graph's Turned. -/
namespace Go.Proofs.Ytngnegnofmpgkaa.Gr
open Go.RowKit Go.Maps Go.Sort
open Go.Proofs.Ytngnegnofmpgkaa.Nm (StrRow)
def TurnR (P : ByteArray → Bool) (L : ByteArray → ByteArray → Bool) (m : Nat) (w : World) (e : Ending) (w' : World) : Prop := ∃ G, e = .returned (.pointer (some ⟨G, 0, none⟩)) ∧ GR w' w.heap.size G m P (lt L) ∧ Below w.heap.size w w'
set_option maxRecDepth 100000 in
set_option maxHeartbeats 16000000 in
theorem turned_any {w : World} {base G m : Nat} {P : ByteArray → Bool} {L : ByteArray → ByteArray → Bool} (h : GR w base G m P L) (hm : m ≤ 1000000) : Calls Try.prog 48 #[.pointer (some ⟨G, 0, none⟩)] w (TurnR P L m w) := by
  have HG := Lib.hid h
  have HP := Lib.hid (points_any h hm)
  clear h
  go_enter Try.func48, Try.ntmps48
  go_wp2_with fail
  go_at_call 72; refine HP.out.mono ?_; rintro e w1 ⟨pts, hT, hS, hlen⟩
  obtain ⟨a, cap, rfl, hR, hB1, -⟩ := row_new hT (by omega) (fun y hy => ((hS.2 y).1 hy).1)
  have HS := Lib.hid hS
  have HR := Lib.hid hR
  have HB1 := Lib.hid hB1
  have HW := Lib.hid (new_any a pts.length cap pts w1 hR (by omega))
  clear hT hS hR hB1 HP
  go_wp2_with fail
  go_at_call 68; refine HW.out.mono ?_; rintro e w2 ⟨G2, rfl, hG2, hB2⟩
  have hG3 : GR w2 w1.heap.size G2 pts.length P (l0 L (pts.take 0)) := hG2.congr (fun s hs => by
      cases e : P s
      · rw [← Bool.not_eq_true, inB_iff, HS.out.2 s, e]; simp
      · rw [inB_iff]; exact (HS.out.2 s).2 ⟨hs, e⟩) (fun s t _ _ => by simp [l0, inB]) (fun s t _ _ => by simp [l0, inB])
  have HG2 := Lib.hid hG3
  have HB2 := Lib.hid hB2
  clear hG2 hG3 hB2 HW
  go_upto_region 4 with fail
  go_loopw [15] (fun i wr => ∃ (k : Nat), k ≤ pts.length ∧ i = .int .i64 k ∧ Hid (GR wr w1.heap.size G2 pts.length P (l0 L (pts.take k))) ∧ Hid (Below w1.heap.size w1 wr)) (fun i _ => pts.length - (intOf i).toNat)
  case atStart => exact ⟨0, by omega, rfl, HG2, HB2⟩
  case round =>
    clear HG2 HB2
    obtain ⟨k, hk, rfl, hO, hB⟩ := hrel
    rename World => wr
    have HO := Lib.hid hO.out
    have HB := Lib.hid hB.out
    clear hO hB
    by_cases hlt : k < pts.length
    · obtain ⟨b0, off, rfl, hb, hc⟩ := HR.out.at_ (by omega)
      obtain ⟨f, hx⟩ : ∃ x, pts[k]? = some x := ⟨pts[k], List.getElem?_eq_getElem _⟩
      have hc1 : wr.cell? ⟨b0, off + k, none⟩ = some (.string f) := (HB.out.cell (p := ⟨b0, off + k, none⟩) hb).trans (hc k _ hx)
      have hfk : okS f := HR.out.each k _ hx
      have hfP : P f = true := ((HS.out.2 f).1 (List.mem_of_getElem? hx)).2
      have HX := Lib.hid hx
      have HFP := Lib.hid hfP
      have HGw := Lib.hid (HG.out.below (HB1.out.trans (HB.out.mono HB1.out.size)))
      have HT := Lib.hid (to_any HGw.out hm hfk)
      clear hx hc hb hfP
      go_wp2_with fail
      go_at_call 73; refine HT.out.mono ?_; rintro e w3 ⟨tos, hT3, hS3, hlen3⟩
      obtain ⟨a3, cap3, rfl, hR3, hB3, hN3⟩ := row_new hT3 (by omega) (fun y hy => ((hS3.2 y).1 hy).1)
      obtain ⟨g, hg⟩ : ∃ g, 0 < tos.length → a3 = some ⟨g, 0, none⟩ ∧ wr.heap.size ≤ g ∧ g < w3.heap.size := by
        by_cases h0 : 0 < tos.length
        · obtain ⟨g, h1⟩ := hN3 h0
          exact ⟨g, fun _ => h1⟩
        · exact ⟨0, fun h => absurd h h0⟩
      have HGg := Lib.hid hg
      have HS3 := Lib.hid hS3
      have HR3 := Lib.hid hR3
      have HB3 := Lib.hid (HB.out.trans (hB3.mono HB.out.size))
      have HO3 := Lib.hid (show GR w3 w1.heap.size G2 pts.length P (lk L (pts.take k) f (tos.take 0)) by rw [List.take_zero, lk_nil]; exact HO.out.below hB3)
      have HA3 := Lib.hid (show 0 < tos.length → GRa w3 w1.heap.size G2 pts.length P (lk L (pts.take k) f (tos.take 0)) (fun r => r = g) from fun h0 => by rw [List.take_zero, lk_nil]; exact HO.out.later hB3 (fun r hr => by subst hr; exact (hg h0).2))
      clear hT3 hS3 hR3 hB3 hN3 hg HT HO HB HGw hc1
      go_upto_region 7 with fail
      go_loopw [23] (fun i wr => ∃ (j : Nat), j ≤ tos.length ∧ i = .int .i64 j ∧ Hid (GR wr w1.heap.size G2 pts.length P (lk L (pts.take k) f (tos.take j))) ∧ Hid (0 < tos.length → GRa wr w1.heap.size G2 pts.length P (lk L (pts.take k) f (tos.take j)) (fun r => r = g)) ∧ Hid (StrRow wr a3 tos.length tos) ∧ Hid (Below w1.heap.size w1 wr)) (fun i _ => tos.length - (intOf i).toNat)
      case atStart => exact ⟨0, by omega, rfl, HO3, HA3, HR3, HB3⟩
      case round =>
        clear HO3 HA3 HR3 HB3
        obtain ⟨j, hj, rfl, hO, hA, hR, hB⟩ := hrel
        rename World => w4
        have HO := Lib.hid hO.out
        have HA := Lib.hid hA.out
        have HR4 := Lib.hid hR.out
        have HB := Lib.hid hB.out
        clear hO hA hR hB
        by_cases hlt2 : j < tos.length
        · have ha3 := HGg.out (by omega)
          obtain ⟨rfl, -, -⟩ := ha3
          obtain ⟨b4, off4, e4, hb4, hc4⟩ := HR4.out.at_ (by omega)
          injection e4 with e4
          injection e4 with e5 e6
          subst e5
          obtain rfl : off4 = 0 := e6.symm
          obtain ⟨t, ht⟩ : ∃ x, tos[j]? = some x := ⟨tos[j], List.getElem?_eq_getElem _⟩
          have hc2 : w4.cell? ⟨g, 0 + j, none⟩ = some (.string t) := hc4 j _ ht
          rw [Nat.zero_add] at hc2
          have htk : okS t := HR4.out.each j _ ht
          have htL := ((HS3.out.2 t).1 (List.mem_of_getElem? ht)).2
          have htP : P t = true := HG.out.cl hfk htk htL
          have HLK := Lib.hid (link_r (HA.out (by omega)) htk hfk (by omega))
          have HT4 := Lib.hid ht
          have HPP := Lib.hid (show (fun x => (P x || decide (x = t)) || decide (x = f)) = P by
            funext x
            by_cases e : x = t
            · subst e; simp [htP]
            · by_cases e2 : x = f
              · subst e2; simp [HFP.out]
              · simp [e, e2])
          clear ht hc4 htL htP e6 hb4
          go_wp2_with (go_at_call 71; refine HLK.out.mono ?_; rintro e w5 ⟨rfl, hA5, hB5, hK5⟩; have HA5 := Lib.hid hA5; have HB5 := Lib.hid hB5; have HK5 := Lib.hid hK5; clear hA5 hB5 hK5)
          have HA6 := Lib.hid (show GRa w5 w1.heap.size G2 pts.length P (lk L (pts.take k) f (tos.take (j + 1))) (fun r => r = g) by
            have := HA5.out
            rw [HPP.out, lk_at HT4.out] at this
            exact this.tight HS.out)
          have HR5 := Lib.hid (keep_row HR4.out (fun _ => rfl) (HK5.out g rfl) HB5.out.size)
          go_roundw
          case rel => exact ⟨j + 1, by omega, by go_num, Lib.hid HA6.out.gr, Lib.hid (fun _ => HA6.out), HR5, Lib.hid (HB.out.trans HB5.out)⟩
          case measure => simp [intOf]; omega
        · have hki : ¬ (j : Int) < (tos.length : Int) := by omega
          obtain rfl : j = tos.length := by omega
          have HO2 := Lib.hid (show GR w4 w1.heap.size G2 pts.length P (l0 L (pts.take (k + 1))) by
            have := HO.out
            rw [List.take_length, lk_done HX.out HS3.out] at this
            exact this)
          go_wp2
          go_roundw
          case rel => exact ⟨k + 1, by omega, by go_num, HO2, HB⟩
          case measure => simp [intOf]; omega
    · have hki : ¬ (k : Int) < (pts.length : Int) := by omega
      obtain rfl : k = pts.length := by omega
      go_wp2
      go_ret
      refine ⟨G2, rfl, ?_, HB1.out.trans (HB.out.mono HB1.out.size)⟩
      have := HO.out
      rw [List.take_length] at this
      exact ((turned_gr HG.out HS.out this).down HB1.out.size).more hlen
end Go.Proofs.Ytngnegnofmpgkaa.Gr
/- A MAP THAT TELLS OF NAMES ('seen', 'there'): in memory, asked, one more. -/
namespace Go.Proofs.Ytngnegnofmpgkaa.Gr
open Go.RowKit Go.Maps Go.Sort
open Go.Proofs.Ytngnegnofmpgkaa.Nm (StrRow)
/-- Block b is a map that tells Q, with n entries at most. -/
def SM (w : World) (b n : Nat) (Q : ByteArray → Bool) : Prop := ∃ D, w.ownsMap Try.prog 9 Re b n D ∧ ∀ s, okS s → D.atKey (kS s) (.lit (.bool false)) = .lit (.bool (Q s))
theorem SM.lt {w : World} {b n : Nat} {Q : ByteArray → Bool} (h : SM w b n Q) : b < w.heap.size := by
  obtain ⟨D, h, -⟩ := h
  exact h.lt
theorem SM.more {w : World} {b n m : Nat} {Q : ByteArray → Bool} (h : SM w b n Q) (hm : n ≤ m) : SM w b m Q := by
  obtain ⟨D, h, h2⟩ := h
  exact ⟨D, h.mono hm, h2⟩
theorem SM.kept {w w' : World} {b n : Nat} {Q : ByteArray → Bool} (h : SM w b n Q) {r : Option Nat} (hg : w.grownBy w' r) (hr : r ≠ some b) : SM w' b n Q := by
  obtain ⟨D, h, h2⟩ := h
  exact ⟨D, h.kept hg hr.symm, h2⟩
theorem SM.below {w w' : World} {b n : Nat} {Q : ByteArray → Bool} (h : SM w b n Q) (hb : Below w.heap.size w w') : SM w' b n Q := h.kept (grow_of hb) (by simp)
theorem SM.made (w : World) : SM (w.alloc (.map #[] 0)) w.heap.size 0 (fun _ => false) := ⟨.map [], World.ownsMap_made w Try.prog 9 Re, fun _ _ => rfl⟩
theorem bool_inv {v : Value} {c : Bool} {ps : List MemPlace} (h : (Re v : Option (DataW Value × List MemPlace)) = some (.lit (.bool c), ps)) : v = .bool c := by
  simp only [Re, plainElem, Try.underlying4] at h
  cases v <;> simp at h
  rw [h.1]
theorem SM.look {w : World} {b n : Nat} {Q : ByteArray → Bool} (h : SM w b n Q) {k : ByteArray} (hk : okS k) : (Instr.lookup 90 (.map (some b)) (.string k) false).run Try.prog w = .ok (.bool (Q k)) w := by
  obtain ⟨D, h, h2⟩ := h
  obtain ⟨v, ps, hrun, hR⟩ := h.lookup law9 Try.underlying90 (z := .bool false) (Try.zeroValue4 w) (plainElem_bool Try.underlying4 false) (key9 hk)
  rw [h2 k hk] at hR
  rw [hrun, bool_inv hR]
theorem SM.put {w : World} {b n : Nat} {Q : ByteArray → Bool} (h : SM w b n Q) {k : ByteArray} (hk : okS k) (hn : n < 1000000000) : ∃ w2, (Instr.mapUpdate 90 (.map (some b)) (.string k) (.bool true)).run Try.prog w = .ok () w2 ∧ SM w2 b (n + 1) (fun s => Q s || decide (s = k)) ∧ w.grownBy w2 (some b) := by
  obtain ⟨D, h, h2⟩ := h
  obtain ⟨es, hDe, hti, -⟩ := h.entries law9
  have hty : Maps.Tidy D := ⟨es, hDe, hti⟩
  obtain ⟨w2, hrun, hmap, hg⟩ := h.update law9 Try.underlying90 (by unfold maxLen; omega) (key9 hk) (plainElem_bool Try.underlying4 true)
  refine ⟨w2, hrun, ⟨_, hmap, fun s hs => ?_⟩, hg⟩
  by_cases e : s = k
  · subst e
    rw [Maps.atKey_put_same hty.isMap (kS_key _)]
    simp
  · rw [Maps.atKey_put_other (kS_ne e), h2 s hs]
    simp [e]
end Go.Proofs.Ytngnegnofmpgkaa.Gr
/- WALKS of refs' set, names, Of. -/
namespace Go.Proofs.Ytngnegnofmpgkaa.Gr
open Go.RowKit Go.Maps Go.Sort
open Go.Proofs.Ytngnegnofmpgkaa.Nm (StrRow)
def un1 (acc : List ByteArray) (s : ByteArray) : List ByteArray := if inB s acc = true then acc else acc ++ [s]
/-- The names that expressions read, each once, as they come. -/
def ofL (n : Nat) (ds : List Ex) : List ByteArray := (ds.flatMap fun x => refsL (allN n x)).foldl un1 []
theorem un_len (xs : List ByteArray) : ∀ acc : List ByteArray, (xs.foldl un1 acc).length ≤ acc.length + xs.length := by
  induction xs with
  | nil => intro acc; simp
  | cons l ls ih =>
    intro acc
    rw [List.foldl_cons]
    have h1 := ih (un1 acc l)
    have h2 : (un1 acc l).length ≤ acc.length + 1 := by
      unfold un1
      split <;> simp
    rw [List.length_cons]
    omega
theorem un_mem (t : ByteArray) (xs : List ByteArray) : ∀ acc : List ByteArray, t ∈ xs.foldl un1 acc ↔ t ∈ acc ∨ t ∈ xs := by
  induction xs with
  | nil => intro acc; simp
  | cons l ls ih =>
    intro acc
    rw [List.foldl_cons, ih, List.mem_cons]
    unfold un1
    by_cases h : inB l acc = true
    · rw [if_pos h]
      have := inB_iff.1 h
      constructor
      · rintro (h | h)
        · exact .inl h
        · exact .inr (.inr h)
      · rintro (h | rfl | h)
        · exact .inl h
        · exact .inl this
        · exact .inr h
    · rw [if_neg h, List.mem_append, List.mem_singleton]
      constructor
      · rintro ((h | h) | h)
        · exact .inl h
        · exact .inr (.inl h)
        · exact .inr (.inr h)
      · rintro (h | h | h)
        · exact .inl (.inl h)
        · exact .inl (.inr h)
        · exact .inr h
theorem inB_snoc (acc : List ByteArray) (x : ByteArray) : (fun s => inB s acc || decide (s = x)) = fun s => inB s (acc ++ [x]) := by
  funext s
  unfold inB
  rw [List.any_append]
  congr 1
  simp only [List.any_cons, List.any_nil, Bool.or_false]
  exact decide_eq_decide.2 ⟨fun h => h.symm, fun h => h.symm⟩
/-- A map that tells which are on a list is handed back. -/
def SetM (xs : List ByteArray) (w : World) (e : Ending) (w' : World) : Prop := ∃ b, e = .returned (.map (some b)) ∧ w.heap.size ≤ b ∧ SM w' b xs.length (fun s => inB s xs) ∧ Below w.heap.size w w'
set_option maxRecDepth 100000 in
set_option maxHeartbeats 8000000 in
theorem set_any (a : Option Addr) (len cap : Nat) (xs : List ByteArray) (w : World) (hX : StrRow w a len xs) (hl : len ≤ 1000000) : Calls Try.prog 64 #[.slice a len cap] w (SetM xs w) := by
  have HX := Lib.hid hX
  have hcx := hX.count
  have hmm := @run_makeMap Try.prog
  have HS0 := Lib.hid (show SM (w.alloc (.map #[] 0)) w.heap.size 0 (fun s => inB s (xs.take 0)) from SM.made w)
  have HB0 := Lib.hid (show Below w.heap.size w (w.alloc (.map #[] 0)) from (Below.refl _ _).alloc (Nat.le_refl _) _)
  clear hX
  go_enter Try.func64, Try.ntmps64
  go_upto_region 3 with fail
  go_loopw [9] (fun i wr => ∃ (k : Nat), k ≤ len ∧ i = .int .i64 k ∧ Hid (SM wr w.heap.size k (fun s => inB s (xs.take k))) ∧ Hid (Below w.heap.size w wr)) (fun i _ => len - (intOf i).toNat)
  case atStart => exact ⟨0, by omega, rfl, HS0, HB0⟩
  case round =>
    obtain ⟨k, hk, rfl, hO, hB⟩ := hrel
    rename World => wr
    have HO := Lib.hid hO.out
    have HB := Lib.hid hB.out
    clear hO hB
    by_cases hlt : k < len
    · obtain ⟨b0, off, rfl, hb, hc⟩ := HX.out.at_ (by omega)
      obtain ⟨x, hx⟩ : ∃ x, xs[k]? = some x := ⟨xs[k]'(by rw [hcx]; exact hlt), List.getElem?_eq_getElem _⟩
      have hc1 : wr.cell? ⟨b0, off + k, none⟩ = some (.string x) := (HB.out.cell (p := ⟨b0, off + k, none⟩) hb).trans (hc k _ hx)
      have HE := Lib.hid (inB_take hx)
      have hxk : okS x := HX.out.each k _ hx
      obtain ⟨w2, hrun, hS2, hg⟩ := HO.out.put hxk (by omega)
      have HS2 := Lib.hid hS2
      have HB2 := Lib.hid (HB.out.trans (below_of hg HB.out.size (Nat.le_refl _)))
      clear hx hc hb hS2 hg
      go_wp2
      go_roundw
      case rel => exact ⟨k + 1, by omega, by go_num, by rw [← HE.out]; exact HS2, HB2⟩
      case measure => simp [intOf]; omega
    · have hki : ¬ (k : Int) < (len : Int) := by omega
      obtain rfl : k = len := by omega
      have HE := Lib.hid (show xs.take k = xs from List.take_of_length_le (by omega))
      go_wp2
      go_ret
      refine ⟨_, rfl, Nat.le_refl _, ?_, HB.out⟩
      have := HO.out
      rw [HE.out] at this
      rw [hcx]
      exact this
end Go.Proofs.Ytngnegnofmpgkaa.Gr
/- WALK of refs' Of. -/
namespace Go.Proofs.Ytngnegnofmpgkaa.Gr
open Go.RowKit Go.Maps Go.Sort
open Go.Proofs.Ytngnegnofmpgkaa.Nm (StrRow)
abbrev rL (n : Nat) (ds : List Ex) : List ByteArray := ds.flatMap fun x => refsL (allN n x)
theorem rL_at {n : Nat} {ds : List Ex} {k : Nat} {x : Ex} (hx : ds[k]? = some x) (acc : List ByteArray) : (rL n (ds.take (k + 1))).foldl un1 acc = (refsL (allN n x)).foldl un1 ((rL n (ds.take k)).foldl un1 acc) := by
  obtain ⟨hk, e⟩ := List.getElem?_eq_some_iff.1 hx
  unfold rL
  rw [List.take_succ_eq_append_getElem hk, List.flatMap_append, List.foldl_append, e]
  simp
theorem rL_len {n : Nat} (ds : List Ex) (k : Nat) : (rL n (ds.take k)).length ≤ (rL n ds).length := by
  have : rL n ds = rL n (ds.take k) ++ rL n (ds.drop k) := by
    unfold rL
    rw [← List.flatMap_append, List.take_append_drop]
  rw [this, List.length_append]
  omega
theorem rL_next {n : Nat} {ds : List Ex} {k : Nat} {x : Ex} (hx : ds[k]? = some x) : (rL n (ds.take k)).length + (refsL (allN n x)).length = (rL n (ds.take (k + 1))).length := by
  obtain ⟨hk, e⟩ := List.getElem?_eq_some_iff.1 hx
  unfold rL
  rw [List.take_succ_eq_append_getElem hk, List.flatMap_append, List.length_append, e]
  simp
set_option maxRecDepth 100000 in
set_option maxHeartbeats 16000000 in
theorem of_any (w : World) (n : Nat) (s0 : ByteArray) (r0 : Bool) (a : Option Addr) (dl dc : Nat) (ds : List Ex) (hD : InKs (InX w n) w a dl ds) (hN : (rL n ds).length ≤ 1000000) (hA : ∀ x ∈ ds, (allN n x).length ≤ 1000000) : Calls Try.prog 70 #[.agg #[.string s0, .bool r0, .slice a dl dc]] w (TxtsP (ofL n ds) w) := by
  have HD := Lib.hid hD
  have hcx := hD.count
  have hdm := hD.max
  have HN := Lib.hid hN
  have HA := Lib.hid hA
  have hmm := @run_makeMap Try.prog
  obtain ⟨i0, hi, hz0, hz1, hz2⟩ := info_parts info9
  have hs1 : ((w.alloc (.cells #[.string s0, .bool r0, .slice a dl dc] 40)).alloc (.map #[] 0)).heap.size = w.heap.size + 2 := by simp
  have HS0 := Lib.hid (show SM ((w.alloc (.cells #[.string s0, .bool r0, .slice a dl dc] 40)).alloc (.map #[] 0)) (w.heap.size + 1) 0 (fun s => inB s ((rL n (ds.take 0)).foldl un1 [])) from by
    have := SM.made (w.alloc (.cells #[.string s0, .bool r0, .slice a dl dc] 40))
    rw [show (w.alloc (.cells #[.string s0, .bool r0, .slice a dl dc] 40)).heap.size = w.heap.size + 1 from by simp] at this
    exact this)
  have HB0 := Lib.hid (show Below w.heap.size w ((w.alloc (.cells #[.string s0, .bool r0, .slice a dl dc] 40)).alloc (.map #[] 0)) from ((Below.refl _ _).alloc (Nat.le_refl _) _).alloc (by simp) _)
  clear hD hN hA
  go_enter Try.func70, Try.ntmps70
  go_upto_region 4 with fail
  go_loopw [3, 13] (fun v i wr => ∃ (k : Nat), k ≤ dl ∧ i = .int .i64 k ∧ Hid (SM wr (w.heap.size + 1) ((rL n (ds.take k)).foldl un1 []).length (fun s => inB s ((rL n (ds.take k)).foldl un1 []))) ∧ Hid (wr.ownsRow (w.heap.size + 2) 9 1 v ((rL n (ds.take k)).foldl un1 []).length (((rL n (ds.take k)).foldl un1 []).map Value.string)) ∧ Hid (Below w.heap.size w wr) ∧ Hid (w.heap.size + 2 ≤ wr.heap.size)) (fun _ i _ => dl - (intOf i).toNat)
  case atStart => exact ⟨0, by omega, rfl, HS0, Lib.hid (World.ownsRow_nil _ _ _ _), HB0, Lib.hid (by rw [hs1]; exact Nat.le_refl _)⟩
  case round =>
    clear HS0 HB0 hs1
    obtain ⟨k, hk, rfl, hM, hR, hB, hz⟩ := hrel
    rename World => wr
    have HM := Lib.hid hM.out
    have HR := Lib.hid hR.out
    have HB := Lib.hid hB.out
    have HZ := Lib.hid hz.out
    clear hM hR hB hz
    by_cases hlt : k < dl
    · have hlt' : k < ds.length := by rw [hcx]; exact hlt
      obtain ⟨b, off, y, rfl, lt, hy2, hI⟩ := HD.out.at_ k hlt'
      obtain ⟨x, hx⟩ : ∃ x, ds[k]? = some x := ⟨ds[k], List.getElem?_eq_getElem _⟩
      rw [(List.getElem?_eq_some_iff.1 hx).2] at hI
      have HX := Lib.hid (HA.out x (List.mem_of_getElem? hx))
      have HE := Lib.hid (rL_at (n := n) hx [])
      have HLN := Lib.hid (show (rL n (ds.take k)).length + (refsL (allN n x)).length ≤ 1000000 by
        rw [rL_next hx]
        exact Nat.le_trans (rL_len ds (k + 1)) HN.out)
      obtain ⟨acc, hacc⟩ : ∃ acc, (rL n (ds.take k)).foldl un1 [] = acc := ⟨_, rfl⟩
      have HAL := Lib.hid (show acc.length ≤ (rL n (ds.take k)).length by
        rw [← hacc]
        have := un_len (rL n (ds.take k)) []
        simpa using this)
      rw [hacc] at HM HR HE
      clear hacc hx
      have HI := Lib.hid hI
      have HRS := fun W (hW : Below wr.heap.size wr W) => Lib.hid (refs_any W n y x ((hI.below HB.out).below hW) HX.out)
      have HSM := Lib.hid (refs_small hI)
      obtain ⟨op2, nn2, s2, p2, pl2, pc2, q2, ql2, qc2, o2, k2, kl2, kc2⟩ := y
      obtain ⟨c0, c1, c2, c3, c4, c5, c6⟩ := hy2.below HB.out lt
      dsimp only at c0 c1 c2 c3 c4 c5 c6
      unfold Hd.agg at HRS
      dsimp only at HRS
      clear hI hy2 lt
      go_wp2_with fail
      have HQ := HRS _ ((Below.refl _ _).alloc (Nat.le_refl _) (.cells #[.int .i64 op2, .int .i64 nn2, .string s2, .slice p2 pl2 pc2, .slice q2 ql2 qc2, .bool o2, .slice k2 kl2 kc2] 38))
      have HM1 := Lib.hid (HM.out.below ((Below.refl _ _).alloc (Nat.le_refl _) (.cells #[.int .i64 op2, .int .i64 nn2, .string s2, .slice p2 pl2 pc2, .slice q2 ql2 qc2, .bool o2, .slice k2 kl2 kc2] 38)))
      have HR1 := Lib.hid (HR.out.alloc (.cells #[.int .i64 op2, .int .i64 nn2, .string s2, .slice p2 pl2 pc2, .slice q2 ql2 qc2, .bool o2, .slice k2 kl2 kc2] 38))
      have HB1 := Lib.hid (HB.out.alloc HB.out.size (.cells #[.int .i64 op2, .int .i64 nn2, .string s2, .slice p2 pl2 pc2, .slice q2 ql2 qc2, .bool o2, .slice k2 kl2 kc2] 38))
      have HZ1 := Lib.hid (show w.heap.size + 2 ≤ (wr.alloc (.cells #[.int .i64 op2, .int .i64 nn2, .string s2, .slice p2 pl2 pc2, .slice q2 ql2 qc2, .bool o2, .slice k2 kl2 kc2] 38)).heap.size by have := HZ.out; simp; omega)
      clear HM HR HB HZ HRS HI c0 c1 c2 c3 c4 c5 c6
      go_at_call 92
      generalize wr.alloc (.cells #[.int .i64 op2, .int .i64 nn2, .string s2, .slice p2 pl2 pc2, .slice q2 ql2 qc2, .bool o2, .slice k2 kl2 kc2] 38) = wa at *
      generalize refsL (allN n x) = xs at *
      refine HQ.out.mono ?_; rintro e w3 hT3
      obtain ⟨a3, cap3, rfl, hR3, hB3, hN3⟩ := row_new hT3 (by have := HLN.out; omega) HSM.out
      obtain ⟨g, hg⟩ : ∃ g, 0 < xs.length → a3 = some ⟨g, 0, none⟩ ∧ wa.heap.size ≤ g ∧ g < w3.heap.size := by
        by_cases h0 : 0 < xs.length
        · obtain ⟨g, h1⟩ := hN3 h0
          exact ⟨g, fun _ => h1⟩
        · exact ⟨0, fun h => absurd h h0⟩
      have HGa := Lib.hid (show 0 < xs.length → a3 = some ⟨g, 0, none⟩ ∧ w.heap.size + 2 ≤ g from fun h0 => ⟨(hg h0).1, Nat.le_trans HZ1.out (hg h0).2.1⟩)
      have HGv := Lib.hid (show 0 < xs.length → some g ≠ u3.ownBlock ∧ g < w3.heap.size from fun h0 => ⟨fun e => by have := own_lt HR1.out g e.symm; have := (hg h0).2.1; omega, (hg h0).2.2⟩)
      have HX3 := Lib.hid hR3
      have HM3 := Lib.hid (show SM w3 (w.heap.size + 1) ((xs.take 0).foldl un1 acc).length (fun s => inB s ((xs.take 0).foldl un1 acc)) from HM1.out.below hB3)
      have HR3 := Lib.hid (show w3.ownsRow (w.heap.size + 2) 9 1 u3 ((xs.take 0).foldl un1 acc).length (((xs.take 0).foldl un1 acc).map Value.string) from HR1.out.kept (grow_of hB3) (by cases u3.ownBlock <;> simp))
      have HB3 := Lib.hid (HB1.out.trans (hB3.mono HB1.out.size))
      have HZ3 := Lib.hid (Nat.le_trans HZ1.out hB3.size)
      clear HM1 HR1 HB1 HZ1 HQ hT3 hR3 hB3 hN3 hg
      go_upto_region 7 with fail
      go_loopw [3, 20] (fun v i wr => ∃ (j : Nat), j ≤ xs.length ∧ i = .int .i64 j ∧ Hid (SM wr (w.heap.size + 1) ((xs.take j).foldl un1 acc).length (fun s => inB s ((xs.take j).foldl un1 acc))) ∧ Hid (wr.ownsRow (w.heap.size + 2) 9 1 v ((xs.take j).foldl un1 acc).length (((xs.take j).foldl un1 acc).map Value.string)) ∧ Hid (Below w.heap.size w wr) ∧ Hid (w.heap.size + 2 ≤ wr.heap.size) ∧ Hid (0 < xs.length → some g ≠ v.ownBlock ∧ g < wr.heap.size) ∧ Hid (StrRow wr a3 xs.length xs)) (fun _ i _ => xs.length - (intOf i).toNat)
      case atStart => exact ⟨0, by omega, rfl, HM3, HR3, HB3, HZ3, HGv, HX3⟩
      case round =>
        clear HM3 HR3 HB3 HZ3 HGv HX3
        obtain ⟨j, hj, rfl, hM, hR, hB, hz, hG, hX⟩ := hrel
        rename World => wr
        have HM := Lib.hid hM.out
        have HR := Lib.hid hR.out
        have HB := Lib.hid hB.out
        have HZ := Lib.hid hz.out
        have HGv := Lib.hid hG.out
        have HX4 := Lib.hid hX.out
        clear hM hR hB hz hG hX
        have hxl : xs.length ≤ 1000000 := by have := HLN.out; omega
        by_cases hlt2 : j < xs.length
        · obtain ⟨rfl, hg2⟩ := HGa.out (by omega)
          obtain ⟨hgv, hgw⟩ := HGv.out (by omega)
          obtain ⟨b4, off4, e4, hb4, hc4⟩ := HX4.out.at_ (by omega)
          injection e4 with e4
          injection e4 with e5 e6
          subst e5
          obtain rfl : off4 = 0 := e6.symm
          obtain ⟨t, ht⟩ : ∃ x, xs[j]? = some x := ⟨xs[j], List.getElem?_eq_getElem _⟩
          have hc2 : wr.cell? ⟨g, 0 + j, none⟩ = some (.string t) := hc4 j _ ht
          rw [Nat.zero_add] at hc2
          have htk : okS t := HX4.out.each j _ ht
          have HE2 := Lib.hid (fold_at un1 acc ht)
          have HAL2 := Lib.hid (show ((xs.take j).foldl un1 acc).length ≤ acc.length + j by
            have := un_len (xs.take j) acc
            rw [List.length_take] at this
            omega)
          obtain ⟨ac, hac⟩ : ∃ ac, (xs.take j).foldl un1 acc = ac := ⟨_, rfl⟩
          rw [hac] at HM HR HE2 HAL2
          have hal : ac.length ≤ 1000000 := by have := HAL2.out; have := HAL.out; have := HLN.out; omega
          clear ht hc4 e6 hb4 hac HGv
          by_cases hin : inB t ac = true
          · have hl := HM.out.look htk
            rw [hin] at hl
            have HF := Lib.hid (show un1 ac t = ac from if_pos hin)
            have HGv := Lib.hid (show 0 < xs.length → some g ≠ u3.ownBlock ∧ g < wr.heap.size from fun _ => ⟨hgv, hgw⟩)
            clear hgv hgw hg2 hin
            go_wp2
            go_roundw
            case rel => exact ⟨j + 1, by omega, by go_num, by rw [HE2.out, HF.out]; exact HM, by rw [HE2.out, HF.out]; exact HR, HB, HZ, HGv, HX4⟩
            case measure => simp [intOf]; omega
          · have hin2 : inB t ac = false := by simpa using hin
            have hl := HM.out.look htk
            rw [hin2] at hl
            have HF := Lib.hid (show un1 ac t = ac ++ [t] from if_neg hin)
            obtain ⟨w5, hrun, hM5, hg5⟩ := HM.out.put htk (by omega)
            have hrb := own_base HR.out
            have HR5 := Lib.hid (HR.out.kept hg5 (.inr fun e => by have := hrb _ e; omega))
            have HB5 := Lib.hid (HB.out.trans (below_of hg5 HB.out.size (by omega)))
            have HZ5 := Lib.hid (Nat.le_trans HZ.out hg5.size)
            have HX5 := Lib.hid (keep_row HX4.out (fun _ => rfl) (hg5.block g hgw (by intro e; injection e with e; omega)) hg5.size)
            have HM5 := Lib.hid hM5
            have HGw := Lib.hid (show g < w5.heap.size from Nat.lt_of_lt_of_le hgw hg5.size)
            have HGv := Lib.hid hgv
            clear hM5 hg5 hrb HM HR HB HZ HX4 hgv hgw hg2 hin hin2
            go_wp2_with (at_builtin; refine wpList_append_own_at _ rfl _ _ 26 rfl (w.heap.size + 2) 9 i0 (.string ByteArray.empty) 1 16 Try.underlying26 hi hz0 hz1 hz2 rfl (by decide) _ ac.length (ac.map Value.string) rfl (HR5.out.alloc _) ⟨w5.heap.size, 0, none⟩ 1 1 [.string t] rfl rfl (cell_one_new _ _ _) (by intro v hv; simp at hv; subst hv; rfl) (by unfold maxLen; omega) (by omega) (by have := HZ5.out; simp; omega) ?_; intro v' w6 hown' hgrow6 hnil6 hat6; have HO6 := Lib.hid hown'; have HG6 := Lib.hid hgrow6; have HA6 := Lib.hid hat6; clear hown' hgrow6 hnil6 hat6)
            have hal5 := World.grownBy_alloc w5 (.cells #[.string t] 9) none
            have hrb := own_base HR5.out
            have hB6 : Below w.heap.size w w6 := (HB5.out.alloc HB5.out.size _).grown HG6.out (by have := HB5.out.size; simp; omega) (fun r e => by have := hrb r e; omega)
            have hM6 := (HM5.out.below ((Below.refl _ _).alloc (Nat.le_refl _) (.cells #[.string t] 9))).kept HG6.out (fun e => by have := hrb _ e; omega)
            have hk6 : w6.heap[g]? = w5.heap[g]? := (HG6.out.block g (by have := HGw.out; simp; omega) (fun e => HGv.out e)).trans (hal5.block g HGw.out (by simp))
            have hz6 : w5.heap.size + 1 ≤ w6.heap.size := by have := HG6.out.size; simp at this; omega
            have hX6 := keep_row HX5.out (fun _ => rfl) hk6 (by omega)
            have hg6 : 0 < xs.length → some g ≠ v'.ownBlock ∧ g < w6.heap.size := fun _ => ⟨fun e => by
              rcases HA6.out with h5 | h5
              · rw [h5] at e; exact HGv.out e
              · rw [h5] at e; injection e with e; have := HGw.out; simp at e; omega, by have := HGw.out; omega⟩
            have HM6 := Lib.hid hM6
            have HB6 := Lib.hid hB6
            have HX6 := Lib.hid hX6
            have HGv6 := Lib.hid hg6
            have HZ6 := Lib.hid (show w.heap.size + 2 ≤ w6.heap.size by have := HZ5.out; omega)
            clear hal5 hrb hB6 hM6 hk6 hX6 hg6 HG6 HA6
            go_wp2
            go_roundw
            case rel => exact ⟨j + 1, by omega, by go_num, by rw [HE2.out, HF.out, List.length_append, ← inB_snoc]; exact HM6, by rw [HE2.out, HF.out, List.length_append, List.map_append]; exact HO6, HB6, HZ6, HGv6, HX6⟩
            case measure => simp [intOf]; omega
        · have hki : ¬ (j : Int) < (xs.length : Int) := by omega
          obtain rfl : j = xs.length := by omega
          rw [List.take_length, ← HE.out] at HM HR
          go_wp2
          go_roundw
          case rel => exact ⟨k + 1, by omega, by go_num, HM, HR, HB, HZ⟩
          case measure => simp [intOf]; omega
    · have hki : ¬ (k : Int) < (dl : Int) := by omega
      obtain rfl : k = dl := by omega
      have HE := Lib.hid (show ds.take k = ds from List.take_of_length_le (by omega))
      go_wp2
      go_ret
      rw [HE.out] at HR
      exact ⟨_, rfl, owns_up HR.out (by omega), HB.out⟩
end Go.Proofs.Ytngnegnofmpgkaa.Gr
