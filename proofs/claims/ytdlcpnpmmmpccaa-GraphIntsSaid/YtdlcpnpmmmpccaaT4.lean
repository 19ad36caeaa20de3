/- Pk, Mb, Mc -/
import Derived.Test.YtdlcpnpmmmpccaaX3
import Derived.OpenShut
import Derived.Test.YtdlcpnpmmmpccaaT0
import Derived.Test.YtdlcpnpmmmpccaaT3
/- A graph and a block that is none of its own: Add and Link leave that block. (at int) -/
namespace Go.Proofs.Ytdlcpnpmmmpccaa.Gn
open Go.RowKit Go.Maps Go.Sort
theorem ok_det {α : Type} {z : Go.Result α} {x y : α} {a b : World} (h1 : z = .ok x a) (h2 : z = .ok y b) : b = a := by
  subst h1
  injection h2 with _ h
  exact h.symm
section
variable {w w' : World} {base G b m : Nat} {D : DataW Value} {F : Int → Option Nat} {E : Int → DataW Value} {P : Int → Bool} {L : Int → Int → Bool}
theorem Gr.add_keep (h : Gr w base G b D F E m P L) {k : Int} (hk : okS k) (hm : m < 1000000000) {w2 : World} (hrun : (Instr.mapUpdate 87 (.map (some b)) (.int .i64 k) (.map (some w.heap.size))).run Try.prog (w.alloc (.map #[] 0)) = .ok () w2) {r : Nat} (hr : r < w.heap.size) (hb : r ≠ b) : w2.heap[r]? = w.heap[r]? := by
  have hal := World.grownBy_alloc w (.map #[] 0) none
  obtain ⟨w3, hrun3, -, hg⟩ := (h.own.kept hal (by simp)).update law3 Try.underlying87 (by have := h.siz; unfold maxLen; omega) (key3 hk) (val := .map (some w.heap.size)) (d := .held (.map (some w.heap.size))) (ps := []) rfl
  obtain rfl := ok_det hrun hrun3
  rw [hg.block r (by simp; omega) (by intro e; injection e with e; exact hb e)]
  exact hal.block r hr (by simp)
theorem Gr.line_keep (h : Gr w base G b D F E m P L) {s t : Int} {c : Nat} (hs : okS s) (ht : okS t) (hF : F s = some c) (hm : m < 1000000000) {w2 : World} (hrun : (Instr.mapUpdate 91 (.map (some c)) (.int .i64 t) (.bool true)).run Try.prog w = .ok () w2) {r : Nat} (hr : r < w.heap.size) (hb : r ≠ c) : w2.heap[r]? = w.heap[r]? := by
  obtain ⟨w3, hrun3, -, hg⟩ := (h.inn s c hs hF).update law3 Try.underlying91 (by have := h.szi s c hs hF; unfold maxLen; omega) (key3 ht) (plainElem_bool Try.underlying4 true)
  obtain rfl := ok_det hrun hrun3
  exact hg.block r hr (by intro e; injection e with e; exact hb e)
end
/-- A graph, and blocks that are none of its own. -/
def GRa (w : World) (base G m : Nat) (P : Int → Bool) (L : Int → Int → Bool) (S : Nat → Prop) : Prop := ∃ b D F E, Gr w base G b D F E m P L ∧ ∀ r, S r → r ≠ b ∧ r ≠ G ∧ (∀ s c, okS s → F s = some c → r ≠ c) ∧ r < w.heap.size
theorem GRa.gr {w : World} {base G m : Nat} {S : Nat → Prop} {P : Int → Bool} {L : Int → Int → Bool} (h : GRa w base G m P L S) : GR w base G m P L := by
  obtain ⟨b, D, F, E, h, -⟩ := h
  exact ⟨b, D, F, E, h⟩
theorem GRa.lt {w : World} {base G m : Nat} {S : Nat → Prop} {P : Int → Bool} {L : Int → Int → Bool} (h : GRa w base G m P L S) {r : Nat} (hr : S r) : r < w.heap.size := by
  obtain ⟨b, D, F, E, -, h⟩ := h
  exact (h r hr).2.2.2
theorem GRa.less {w : World} {base G m : Nat} {S S' : Nat → Prop} {P : Int → Bool} {L : Int → Int → Bool} (h : GRa w base G m P L S) (hS : ∀ r, S' r → S r) : GRa w base G m P L S' := by
  obtain ⟨b, D, F, E, h, h1⟩ := h
  exact ⟨b, D, F, E, h, fun r hr => h1 r (hS r hr)⟩
/-- What was made later is none of its own. -/
theorem GR.later {w w' : World} {base G m : Nat} {S : Nat → Prop} {P : Int → Bool} {L : Int → Int → Bool} (h : GR w base G m P L) (hb : Below w.heap.size w w') (hr : ∀ r, S r → w.heap.size ≤ r ∧ r < w'.heap.size) : GRa w' base G m P L S := by
  obtain ⟨b, D, F, E, h⟩ := h
  have h1 := h.ltG
  have h2 := h.own.lt
  exact ⟨b, D, F, E, h.below hb, fun r hS => by
    obtain ⟨h3, h4⟩ := hr r hS
    exact ⟨by omega, by omega, fun s c hs hc => by have := (h.inn s c hs hc).lt; omega, h4⟩⟩
theorem GRa.below {w w' : World} {base G m : Nat} {S : Nat → Prop} {P : Int → Bool} {L : Int → Int → Bool} (h : GRa w base G m P L S) (hb : Below w.heap.size w w') : GRa w' base G m P L S := by
  obtain ⟨b, D, F, E, h, h1⟩ := h
  exact ⟨b, D, F, E, h.below hb, fun r hS => ⟨(h1 r hS).1, (h1 r hS).2.1, (h1 r hS).2.2.1, Nat.lt_of_lt_of_le (h1 r hS).2.2.2 hb.size⟩⟩
theorem GRa.tight {w : World} {base G m : Nat} {S : Nat → Prop} {P : Int → Bool} {L : Int → Int → Bool} {l : List Int} (h : GRa w base G m P L S) (hS : SetL P l) : GRa w base G l.length P L S := by
  obtain ⟨b, D, F, E, h, h1⟩ := h
  refine ⟨b, D, F, E, { h with szi := ?_, siz := ?_ }, h1⟩
  · intro s c hs hc
    rw [size_of (h.inn s c hs hc) (h.lin s c hs hc) (h.kin s c hs hc) (set_filter hS fun t ht hl => h.cl s t hs ht hl)]
    exact List.length_filter_le _ _
  · rw [size_of h.own h.has h.kok hS]; exact Nat.le_refl _
set_option maxRecDepth 100000 in
set_option maxHeartbeats 4000000 in
theorem add_r {w : World} {base G m : Nat} {S : Nat → Prop} {P : Int → Bool} {L : Int → Int → Bool} (h : GRa w base G m P L S) {k : Int} (hk : okS k) (hm : m < 1000000000) :
    Calls Try.prog 60 #[.pointer (some ⟨G, 0, none⟩), .int .i64 k] w fun e w' => e = .returned (.tuple #[]) ∧ GRa w' base G (m + 1) (fun s => P s || decide (s = k)) L S ∧ Below base w w' ∧ (∀ r, S r → w'.heap[r]? = w.heap[r]?) := by
  have HA := fun W (hg : GR W base G m P L) => Lib.hid (has_any hg hk)
  obtain ⟨b, D, F, E, h, hv⟩ := h
  have HH := fun W hc => Lib.hid (held_some G (.map (some b)) W hc)
  have c0 := h.cell
  have hq := fun W => neq_nil74 W (some b)
  have HG := Lib.hid h
  have HV := Lib.hid hv
  by_cases hP : P k = true
  · rw [hP] at HA
    have he : (fun s => P s || decide (s = k)) = P := by
      funext s
      by_cases e : s = k
      · subst e; simp [hP]
      · simp [e]
    rw [he]
    clear h he hP hv
    go_enter Try.func60, Try.ntmps60
    go_wp2_with (first
      | (go_at_call 61; refine (HH _ c0).out.mono ?_; rintro e w1 ⟨rfl, rfl⟩)
      | (go_at_call 84; refine (HA _ ⟨b, D, F, E, HG.out⟩).out.mono ?_; rintro e w1 ⟨rfl, rfl⟩))
    go_end0
    exact ⟨rfl, ⟨b, D, F, E, HG.out.more (Nat.le_succ _), HV.out⟩, Below.refl _ _, fun _ _ => rfl⟩
  · have hPf : P k = false := by simpa using hP
    rw [hPf] at HA
    obtain ⟨w2, D', hrun, hg2, hb2⟩ := h.add hk hPf hm
    have HK := Lib.hid (fun r (hS : S r) => h.add_keep hk hm hrun (hv r hS).2.2.2 (hv r hS).1)
    have HG2 := Lib.hid hg2; have HB2 := Lib.hid hb2; have HR := Lib.hid hrun
    have HV2 := Lib.hid (show ∀ r, S r → r ≠ b ∧ r ≠ G ∧ (∀ s c, okS s → (if s = k then some w.heap.size else F s) = some c → r ≠ c) ∧ r < w2.heap.size from fun r hS => ⟨(hv r hS).1, (hv r hS).2.1, fun s c hs hc => by
      by_cases e : s = k
      · rw [if_pos e] at hc
        injection hc with hc
        have := (hv r hS).2.2.2
        omega
      · rw [if_neg e] at hc
        exact (hv r hS).2.2.1 s c hs hc, Nat.lt_of_lt_of_le (hv r hS).2.2.2 hb2.size⟩)
    have hmm := @run_makeMap Try.prog
    clear h hP hPf hrun hg2 hb2 hv
    go_enter Try.func60, Try.ntmps60
    go_wp2_with (first
      | (go_at_call 61; refine (HH _ c0).out.mono ?_; rintro e w1 ⟨rfl, rfl⟩)
      | (go_at_call 84; refine (HA _ ⟨b, D, F, E, HG.out⟩).out.mono ?_; rintro e w1 ⟨rfl, rfl⟩; have hrun := HR.out))
    go_end0
    exact ⟨rfl, ⟨b, D', _, _, HG2.out, HV2.out⟩, HB2.out, HK.out⟩
theorem link_ptr {w : World} {base G m : Nat} {S : Nat → Prop} {P : Int → Bool} {L : Int → Int → Bool} (h : GRa w base G m P L S) {s t : Int} (hs : okS s) (ht : okS t) (hPs : P s = true) (hPt : P t = true) (hm : m < 1000000000) :
    ∃ b c w2, w.cell? ⟨G, 0, none⟩ = some (.map (some b)) ∧ (Instr.lookup 87 (.map (some b)) (.int .i64 s) false).run Try.prog w = .ok (.map (some c)) w ∧ (Instr.mapUpdate 91 (.map (some c)) (.int .i64 t) (.bool true)).run Try.prog w = .ok () w2 ∧
      GRa w2 base G (m + 1) P (fun x y => L x y || (decide (x = s) && decide (y = t))) S ∧ Below base w w2 ∧ (∀ r, S r → w2.heap[r]? = w.heap[r]?) := by
  obtain ⟨b, D, F, E, h, hv⟩ := h
  obtain ⟨c, hc⟩ : ∃ c, F s = some c := Option.isSome_iff_exists.1 (by rw [h.fp s hs, hPs])
  obtain ⟨w2, E', hrun, hg, hb⟩ := h.line hs ht hc hPt hm
  have hl := h.look hs
  rw [hc] at hl
  exact ⟨b, c, w2, h.cell, hl, hrun, ⟨b, D, F, E', hg, fun r hS => ⟨(hv r hS).1, (hv r hS).2.1, (hv r hS).2.2.1, Nat.lt_of_lt_of_le (hv r hS).2.2.2 hb.size⟩⟩, hb, fun r hS => h.line_keep hs ht hc hm hrun (hv r hS).2.2.2 ((hv r hS).2.2.1 s c hs hc)⟩
set_option maxRecDepth 100000 in
set_option maxHeartbeats 4000000 in
theorem link_r {w : World} {base G m : Nat} {S : Nat → Prop} {P : Int → Bool} {L : Int → Int → Bool} (h : GRa w base G m P L S) {s t : Int} (hs : okS s) (ht : okS t) (hm : m + 3 < 1000000000) :
    Calls Try.prog 30 #[.pointer (some ⟨G, 0, none⟩), .int .i64 s, .int .i64 t] w fun e w' => e = .returned (.tuple #[]) ∧ GRa w' base G (m + 3) (fun x => (P x || decide (x = s)) || decide (x = t)) (fun x y => L x y || (decide (x = s) && decide (y = t))) S ∧ Below base w w' ∧ (∀ r, S r → w'.heap[r]? = w.heap[r]?) := by
  have H1 := Lib.hid (add_r h hs (by omega))
  have H2 := fun W (hg : GRa W base G (m + 1) (fun x => P x || decide (x = s)) L S) => Lib.hid (add_r hg ht (by omega))
  clear h
  go_enter Try.func30, Try.ntmps30
  go_wp2_with fail
  go_at_call 60; refine H1.out.mono ?_; rintro e w1 ⟨rfl, hg1, hb1, hk1⟩
  have HB1 := Lib.hid hb1
  have HK1 := Lib.hid hk1
  have H2 := Lib.hid ((H2 _ hg1).out)
  clear hg1 hb1 hk1
  go_wp2_with fail
  go_at_call 60; refine H2.out.mono ?_; rintro e w2 ⟨rfl, hg2, hb2, hk2⟩
  have HB2 := Lib.hid (HB1.out.trans hb2)
  have HK2 := Lib.hid (fun r (hS : S r) => (hk2 r hS).trans (HK1.out r hS))
  obtain ⟨b, c, w3, c0, hl, hrun, hg3, hb3, hk3⟩ := link_ptr hg2 hs ht (by simp) (by simp) (by omega)
  have HG3 := Lib.hid hg3
  have HB3 := Lib.hid (HB2.out.trans hb3)
  have HK3 := Lib.hid (fun r (hS : S r) => (hk3 r hS).trans (HK2.out r hS))
  have HH := fun W hc => Lib.hid (held_some G (.map (some b)) W hc)
  have hq := fun W => neq_nil77 W (some c)
  clear hg2 hb2 hg3 hb3 hk2 hk3
  go_wp2_with (go_at_call 61; refine (HH _ c0).out.mono ?_; rintro e w1 ⟨rfl, rfl⟩)
  go_end0
  exact ⟨rfl, HG3.out, HB3.out, HK3.out⟩
theorem GRa.more {w : World} {base G m m' : Nat} {S : Nat → Prop} {P : Int → Bool} {L : Int → Int → Bool} (h : GRa w base G m P L S) (hm : m ≤ m') : GRa w base G m' P L S := by
  obtain ⟨b, D, F, E, h, h1⟩ := h
  exact ⟨b, D, F, E, h.more hm, h1⟩
theorem GRa.later {w w' : World} {base G m : Nat} {S T : Nat → Prop} {P : Int → Bool} {L : Int → Int → Bool} (h : GRa w base G m P L S) (hb : Below w.heap.size w w') (hr : ∀ r, T r → w.heap.size ≤ r ∧ r < w'.heap.size) : GRa w' base G m P L (fun r => S r ∨ T r) := by
  obtain ⟨b, D, F, E, h, h0⟩ := h
  have h1 := h.ltG
  have h2 := h.own.lt
  refine ⟨b, D, F, E, h.below hb, fun r hS => ?_⟩
  rcases hS with hS | hS
  · exact ⟨(h0 r hS).1, (h0 r hS).2.1, (h0 r hS).2.2.1, Nat.lt_of_lt_of_le (h0 r hS).2.2.2 hb.size⟩
  · obtain ⟨h3, h4⟩ := hr r hS
    exact ⟨by omega, by omega, fun s c hs hc => by have := (h.inn s c hs hc).lt; omega, h4⟩
/-- A row of one's own grows beside the graph. -/
theorem GRa.swap {w w' : World} {base G m : Nat} {P : Int → Bool} {L : Int → Int → Bool} {v v' : Value} (h : GRa w base G m P L (fun r => v.ownBlock = some r)) (hg : w.grownBy w' v.ownBlock) (hat : v'.ownBlock = v.ownBlock ∨ ∃ g, v'.ownBlock = some g ∧ w.heap.size ≤ g ∧ g < w'.heap.size) : GRa w' base G m P L (fun r => v'.ownBlock = some r) := by
  obtain ⟨b, D, F, E, h, h1⟩ := h
  have hG := h.ltG
  have hb := h.own.lt
  refine ⟨b, D, F, E, { h with box := ?_, own := h.own.kept hg ?_, bas := Nat.le_trans h.bas hg.size, inn := fun s c hs hc => (h.inn s c hs hc).kept hg ?_ }, fun r hr => ?_⟩
  · exact (hg.block G hG (fun e => (h1 G e.symm).2.1 rfl)).trans h.box
  · exact fun e => (h1 b e.symm).1 rfl
  · exact fun e => (h1 c e.symm).2.2.1 s c hs hc rfl
  · have hr : v'.ownBlock = some r := hr
    rcases hat with h2 | ⟨g, h2, h3, h4⟩
    · obtain ⟨a1, a2, a3, a4⟩ := h1 r (by rw [← h2]; exact hr)
      exact ⟨a1, a2, a3, Nat.lt_of_lt_of_le a4 hg.size⟩
    · rw [h2] at hr
      injection hr with hr
      subst hr
      exact ⟨by omega, by omega, fun s c hs hc e => by have := (h.inn s c hs hc).lt; omega, h4⟩
theorem own_same {w w' : World} {base n sz : Nat} {e : TypeId} {v : Value} {xs : List Value} (h : w.ownsRow base e sz v n xs) (hk : ∀ r, v.ownBlock = some r → w'.heap[r]? = w.heap[r]?) : w'.ownsRow base e sz v n xs := by
  refine ⟨h.1, ?_⟩
  rcases h.2 with h2 | ⟨g, cap, cur, rfl, hb, hg, hr⟩
  · exact .inl h2
  · exact .inr ⟨g, cap, cur, rfl, hb, by rw [hk g rfl]; exact hg, hr⟩
end Go.Proofs.Ytdlcpnpmmmpccaa.Gn
/- WALK of GraphInts. -/
namespace Go.Proofs.Ytdlcpnpmmmpccaa.Gn
open Go.RowKit Go.Maps Go.Sort
open Go.Proofs.Ytdlcpnpmmmpccaa
open Go.Proofs.Ytdlcpnpmmmpccaa.Gr (LineRow lnV line_grow line_row line0 step_append_run)
set_option maxRecDepth 100000
theorem gr_new (w : World) : GR ((w.alloc (.map #[] 0)).alloc (.cells #[.map (some w.heap.size)] 89)) w.heap.size (w.heap.size + 1) 0 (fun _ => false) (fun _ _ => false) := by
  have hmade := World.ownsMap_made w Try.prog 3 (Rm : Value → Option (DataW Value × List MemPlace))
  have hal := World.grownBy_alloc (w.alloc (.map #[] 0)) (.cells #[.map (some w.heap.size)] 89) none
  refine ⟨w.heap.size, .map [], fun _ => none, fun _ => .map [], ?_⟩
  refine { box := ?_, own := ownsMap_tight (hmade.kept hal (by simp)), lowG := by omega, lowb := Nat.le_refl _, ne := by omega, bas := by simp; omega, atK := ?_, has := ?_, fp := ?_, inn := ?_, low := ?_, lin := ?_, szi := ?_, non := ?_, cl := ?_, apart := ?_, siz := Nat.zero_le _, kok := ?_, kin := ?_ }
  · show ((w.heap.push _).push _)[w.heap.size + 1]? = _
    rw [Array.getElem?_push, if_pos (by simp)]
  · intro s hs; rfl
  · intro s hs; rfl
  · intro s hs; rfl
  · intro s c hs hc; exact absurd hc (by simp)
  · intro s c hs hc; exact absurd hc (by simp)
  · intro s c hs hc; exact absurd hc (by simp)
  · intro s c hs hc; exact absurd hc (by simp)
  · intro s t hs hp; rfl
  · intro s t hs ht hl; exact absurd hl (by simp)
  · intro s t c hs ht hc; exact absurd hc (by simp)
  · intro s hh; exact absurd hh (by simp [Maps.has_eq])
  · intro s c hs hc; exact absurd hc (by simp)
def NewI (w : World) (e : Ending) (w' : World) : Prop := ∃ G, e = .returned (.pointer (some ⟨G, 0, none⟩)) ∧ GR w' w.heap.size G 0 (fun _ => false) (fun _ _ => false) ∧ Below w.heap.size w w'
set_option maxHeartbeats 2000000 in
theorem new_nil (w : World) : Calls Try.prog 29 #[.slice none 0 0] w (NewI w) := by
  have HN := Lib.hid (gr_new w)
  have HB0 := Lib.hid (show Below w.heap.size w ((w.alloc (.map #[] 0)).alloc (.cells #[.map (some w.heap.size)] 89)) from ((Below.refl _ _).alloc (Nat.le_refl _) _).alloc (by simp) _)
  have hmm := @run_makeMap Try.prog
  go_enter Try.func29, Try.ntmps29
  go_wp2_with fail
  go_loopg [11] 1 (fun _ i wr => i = .int .i64 0 ∧ wr = (w.alloc (.map #[] 0)).alloc (.cells #[.map (some w.heap.size)] 89))
  case atStart => exact ⟨rfl, rfl⟩
  case round =>
    obtain ⟨rfl, rfl⟩ := hrel
    go_wp2_with fail
    go_ret
    exact ⟨_, rfl, HN.out, HB0.out⟩
/-- Pairs of bytes, as they came in. -/
structure ByRow (w : World) (a : Option Addr) (len : Nat) (xs : List Ln2) : Prop where
  count : xs.length = len
  max : len ≤ 140737488355328
  each : ∀ (i : Nat) (x : Ln2), xs[i]? = some x → (0 ≤ x.1 ∧ x.1 < 256) ∧ (0 ≤ x.2 ∧ x.2 < 256)
  at_ : 0 < len → ∃ b off, a = some ⟨b, off, none⟩ ∧ b < w.heap.size ∧ ∀ (i : Nat) (x : Ln2), xs[i]? = some x → w.cell? ⟨b, off + i * 2, none⟩ = some (.int .u8 x.1) ∧ w.cell? ⟨b, off + i * 2 + 1, none⟩ = some (.int .u8 x.2)
def mod10 (x : Ln2) : Ln2 := (x.1 % 10, x.2 % 10)
theorem cut_dig {n : Int} (h : Dg n) (w : World) : (Instr.slice 9 (.string ⟨#[48, 49, 50, 51, 52, 53, 54, 55, 56, 57]⟩) (some (.int .i64 n)) (some (.int .i64 (n + 1))) none).run Try.prog w = .ok (.string (dig n)) w := by
  have : n = 0 ∨ n = 1 ∨ n = 2 ∨ n = 3 ∨ n = 4 ∨ n = 5 ∨ n = 6 ∨ n = 7 ∨ n = 8 ∨ n = 9 := by unfold Dg at h; omega
  rcases this with rfl | rfl | rfl | rfl | rfl | rfl | rfl | rfl | rfl | rfl <;> rfl
theorem QI_snoc (ls : List Ln2) (x y s : Int) : QI (ls ++ [(x, y)]) s = ((QI ls s || decide (s = x)) || decide (s = y)) := by
  unfold QI
  simp [Bool.or_assoc]
theorem dec_comm (a b : Int) : decide (a = b) = decide (b = a) := decide_eq_decide.2 ⟨Eq.symm, Eq.symm⟩
theorem inL_snoc (ls : List Ln2) (x y s t : Int) : inL (ls ++ [(x, y)]) s t = (inL ls s t || (decide (s = x) && decide (t = y))) := by
  unfold inL
  simp [dec_comm x s, dec_comm y t]
theorem GR.iff {w : World} {base G m : Nat} {P P' : Int → Bool} {L L' : Int → Int → Bool} (h : GR w base G m P L) (hP : ∀ s, P s = P' s) (hL : ∀ s t, L s t = L' s t) : GR w base G m P' L' := by
  obtain rfl : P = P' := funext hP
  obtain rfl : L = L' := funext fun s => funext fun t => hL s t
  exact h
theorem QI_ends {ls : List Ln2} : ∀ y ∈ ls, QI ls y.1 = true ∧ QI ls y.2 = true := by
  intro y hy
  unfold QI
  constructor <;> rw [List.any_eq_true]
  · exact ⟨y, hy, by simp⟩
  · exact ⟨y, hy, by simp⟩
theorem mod_dg {x : Int} (_h : 0 ≤ x) : Dg (x % 10) := by unfold Dg; omega
theorem ext_dig {n : Int} (h : Dg n) : (⟨#[48, 49, 50, 51, 52, 53, 54, 55, 56, 57]⟩ : ByteArray).extract n.toNat (n + 1).toNat = dig n := by
  have : n = 0 ∨ n = 1 ∨ n = 2 ∨ n = 3 ∨ n = 4 ∨ n = 5 ∨ n = 6 ∨ n = 7 ∨ n = 8 ∨ n = 9 := by unfold Dg at h; omega
  rcases this with rfl | rfl | rfl | rfl | rfl | rfl | rfl | rfl | rfl | rfl <;> decide
theorem ByRow.below {w w' : World} {a : Option Addr} {len : Nat} {xs : List Ln2} (h : ByRow w a len xs) (hb : Below w.heap.size w w') : ByRow w' a len xs := by
  obtain ⟨h1, h2, h3, h4⟩ := h
  refine ⟨h1, h2, h3, fun h0 => ?_⟩
  obtain ⟨b, off, e, hlt, hc⟩ := h4 h0
  exact ⟨b, off, e, Nat.lt_of_lt_of_le hlt hb.size, fun i x hx => ⟨by rw [hb.cell (p := ⟨b, off + i * 2, none⟩) hlt]; exact (hc i x hx).1, by rw [hb.cell (p := ⟨b, off + i * 2 + 1, none⟩) hlt]; exact (hc i x hx).2⟩⟩
theorem GRa.iff {w : World} {base G m m' : Nat} {S : Nat → Prop} {P P' : Int → Bool} {L L' : Int → Int → Bool} (h : GRa w base G m P L S) (hP : ∀ s, P s = P' s) (hL : ∀ s t, L s t = L' s t) (hm : m = m') : GRa w base G m' P' L' S := by
  obtain rfl : P = P' := funext hP
  obtain rfl : L = L' := funext fun s => funext fun t => hL s t
  subst hm
  exact h
/-- The lines that the first k pairs make. -/
abbrev lk10 (xs : List Ln2) (k : Nat) : List Ln2 := (xs.take k).map mod10
theorem lk10_more {xs : List Ln2} {k : Nat} {x y : Int} (hx : xs[k]? = some (x, y)) : lk10 xs (k + 1) = lk10 xs k ++ [(x % 10, y % 10)] := by
  obtain ⟨hk, e⟩ := List.getElem?_eq_some_iff.1 hx
  unfold lk10
  rw [List.take_succ_eq_append_getElem hk, List.map_append, e]
  rfl
/-- What the law holds while it makes the graph. -/
structure IL (xs : List Ln2) (G : Nat) (w : World) (k : Nat) (v : Value) (wr : World) : Prop where
  below : Below w.heap.size w wr
  graph : GRa wr w.heap.size G (3 * k) (QI (lk10 xs k)) (inL (lk10 xs k)) (fun r => v.ownBlock = some r)
  row : wr.ownsRow w.heap.size 53 2 v ((lk10 xs k).map digL).length (lnV ((lk10 xs k).map digL))
set_option maxHeartbeats 16000000 in
theorem ints_walk (a : Option Addr) (len cap : Nat) (xs : List Ln2) (w : World) (hX : ByRow w a len xs) : Calls Try.prog 6 #[.slice a len cap] w (BoolP true w) := by
  have hcx := hX.count
  subst hcx
  have HX := Lib.hid hX
  have HN := Lib.hid (new_nil w)
  have HAW := fun W => Lib.hid (Gr.gawake_any W)
  clear hX
  go_enter Try.func6, Try.ntmps6
  by_cases hl : xs.length ≤ 60
  · have k1 : ¬ (60 : Int) < (xs.length : Int) := by omega
    go_wp2_with fail
    go_at_call 29; refine HN.out.mono ?_; rintro e w1 ⟨G, rfl, hG, hB⟩
    have HI := Lib.hid (show IL xs G w 0 (.slice none 0 0) w1 from ⟨hB, by
      obtain ⟨b, D, F, E, h⟩ := hG
      exact ⟨b, D, F, E, h, fun r hr => by simp [Value.ownBlock] at hr⟩, World.ownsRow_nil _ _ _ _⟩)
    clear hG hB HN
    go_wp2_with fail
    go_loopw [4, 5] (fun v i wr => ∃ k : Nat, k ≤ xs.length ∧ i = .int .i64 k ∧ Hid (IL xs G w k v wr)) (fun _ i _ => xs.length - (intOf i).toNat)
    case atStart => exact ⟨0, by omega, rfl, HI⟩
    case round =>
      clear HI
      obtain ⟨k, hk, rfl, hI⟩ := hrel
      rename World => wr
      have HI := Lib.hid hI.out
      clear hI
      by_cases hlt : k < xs.length
      · obtain ⟨b0, off, rfl, hb, hc⟩ := HX.out.at_ (by omega)
        obtain ⟨⟨x, y⟩, hx⟩ : ∃ x, xs[k]? = some x := ⟨xs[k], List.getElem?_eq_getElem _⟩
        have hbd := (Below.refl wr.heap.size wr).drew
        have hB7 := HI.out.below.drew
        have hc1 : (World.drew wr).cell? ⟨b0, off + k * 2, none⟩ = some (.int .u8 x) := (hB7.cell (p := ⟨b0, off + k * 2, none⟩) hb).trans (hc k _ hx).1
        have hc2 : (World.drew wr).cell? ⟨b0, off + k * 2 + 1, none⟩ = some (.int .u8 y) := (hB7.cell (p := ⟨b0, off + k * 2 + 1, none⟩) hb).trans (hc k _ hx).2
        obtain ⟨⟨hx1, hx2⟩, ⟨hy1, hy2⟩⟩ := HX.out.each k _ hx
        have HLK := Lib.hid (link_r (HI.out.graph.below hbd) (mod_dg hx1).ok (mod_dg hy1).ok (by omega))
        have HTK := Lib.hid (lk10_more hx)
        have HDX := Lib.hid (And.intro (mod_dg hx1) (mod_dg hy1))
        have hrd : (World.drew wr).ownsRow w.heap.size 53 2 u4 ((lk10 xs k).map digL).length (lnV ((lk10 xs k).map digL)) := own_same HI.out.row fun _ _ => rfl
        have HRD := Lib.hid hrd
        have HB7 := Lib.hid hB7
        have hlen : ((lk10 xs k).map digL).length ≤ 60 := by rw [List.length_map, List.length_map, List.length_take]; omega
        clear hb hc hx hbd hB7 hrd
        go_upto_region 8 with fail
        go_region
        all_goals
          clear hc1 hc2
          go_wp2_with fail
          go_at_call 30; refine HLK.out.mono ?_; rintro e w4 ⟨rfl, hG4, hB4, hK4⟩
          generalize hxx : x % 10 = X at *
          generalize hyy : y % 10 = Y at *
          have hd1 := ext_dig HDX.out.1
          have hd2 := ext_dig HDX.out.2
          have hr5 : (World.drew w4).ownsRow w.heap.size 53 2 u4 ((lk10 xs k).map digL).length (lnV ((lk10 xs k).map digL)) := own_same (own_same HRD.out hK4) fun _ _ => rfl
          have hsz5 : w.heap.size ≤ (World.drew w4).heap.size := (HB7.out.trans hB4).drew.size
          obtain ⟨v', w6, hrun, hown6, hg6, hat6⟩ := line_grow hr5 (by omega) hsz5 (dig X) (dig Y)
          have hB6 := ((HB7.out.trans hB4).drew.alloc hsz5 (.cells #[.string (dig X), .string (dig Y)] 53)).grown hg6 (Nat.le_trans hsz5 (by simp)) (fun r e => Gr.own_base53 hr5 r e)
          have hGa : GRa ((World.drew w4).alloc (.cells #[.string (dig X), .string (dig Y)] 53)) w.heap.size G (3 * k + 3) _ _ (fun r => u4.ownBlock = some r) := hG4.below (((Below.refl w4.heap.size w4).drew).alloc (by exact Nat.le_refl _) _)
          have hGs := hGa.swap hg6 (hat6.imp id fun e => ⟨_, e, by simp, by have := (hown6.lt _ e).2; exact this⟩)
          have HIN := Lib.hid (show IL xs G w (k + 1) v' w6 from ⟨hB6, by rw [HTK.out]; exact hGs.iff (fun s => (QI_snoc _ _ _ _).symm) (fun s t => (inL_snoc _ _ _ _ _).symm) (by omega), by rw [HTK.out, List.map_append]; exact hown6⟩)
          have HRUN := Lib.hid hrun
          have hw1 : 0 ≤ X ∧ X < 10 := HDX.out.1
          have hw2 : 0 ≤ Y ∧ Y < 10 := HDX.out.2
          have hv1 := Go.IntWalk.i64_in (X + 1) (by omega)
          have hv2 := Go.IntWalk.i64_in (Y + 1) (by omega)
          have hz1 : 0 ≤ X + 1 ∧ X + 1 ≤ 10 := by omega
          have hz2 : 0 ≤ Y + 1 ∧ Y + 1 ≤ 10 := by omega
          have hy1' : X ≤ X + 1 := by omega
          have hy2' : Y ≤ Y + 1 := by omega
          clear hG4 hB4 hK4 hr5 hsz5 hrun hown6 hg6 hat6 hB6 hGa hGs
          go_upto_region 10 with fail
          go_region_law (refine step_append_run (by rfl) _ _ _ _ (by rfl) _ _ (by rfl) (by rfl) _ _ HRUN.out ?_)
          all_goals
            go_wp2_with fail
            go_roundw
            case rel => exact ⟨k + 1, by omega, by go_num, HIN⟩
            case measure => simp [intOf]; omega
      · have hki : ¬ (k : Int) < (xs.length : Int) := by omega
        obtain rfl : k = xs.length := by omega
        have hDl : ∀ y ∈ lk10 xs xs.length, Dg y.1 ∧ Dg y.2 := fun y hy => by
          obtain ⟨x, hx, rfl⟩ := List.mem_map.1 hy
          obtain ⟨i, hi, e⟩ := List.getElem_of_mem (List.mem_of_mem_take hx)
          obtain ⟨h1, h2⟩ := HX.out.each i x (by rw [← e]; exact List.getElem?_eq_getElem hi)
          exact ⟨mod_dg h1.1, mod_dg h2.1⟩
        have hlk : (lk10 xs xs.length).length ≤ 60 := by rw [List.length_map, List.length_take]; omega
        have H31 := Lib.hid (order_any HI.out.graph.gr (by omega) QI_ends (fun y hy => ⟨(hDl y hy).1.ok, (hDl y hy).2.ok⟩))
        obtain ⟨a4, c4, rfl, hL4⟩ := line_row HI.out.row (by rw [List.length_map]; omega) (fun y hy => by
          obtain ⟨x, -, rfl⟩ := List.mem_map.1 hy
          exact ⟨dig_ok _, dig_ok _⟩)
        have HL4 := Lib.hid hL4
        have HB0 := Lib.hid HI.out.below
        clear HI hL4
        generalize lk10 xs xs.length = ls at *
        obtain ⟨nl, hnl⟩ : ∃ n, (ls.map digL).length = n := ⟨_, rfl⟩
        rw [hnl] at HL4 ⊢
        have HNL := Lib.hid (show nl ≤ 60 by rw [← hnl, List.length_map]; exact hlk)
        have HDL := Lib.hid hDl
        clear hDl hlk
        go_wp2_with fail
        go_at_call 31; refine H31.out.mono ?_; rintro e w5 ⟨pts, v1, v2, hS, rfl, h1, h2, hB⟩
        obtain ⟨hpt, hDp⟩ := pts_dig hS HDL.out
        have hpl := Gr.ptsL_len [] (ls.map digL)
        rw [hpt, List.length_map, hnl] at hpl
        have hpl2 : pts.length ≤ 120 := by have := HNL.out; simp at hpl; omega
        have hos := ordL_sub hDp HDL.out
        have hol : (ordL pts ls).length ≤ pts.length := by
          have := (Gr.ordS_sub (pts := pts.map dig) (ls := ls.map digL) (pts.map dig).length).2
          rw [show Gr.it (Gr.ordS (pts.map dig) (ls.map digL)) (pts.map dig).length [] = Gr.ordL (pts.map dig) (ls.map digL) from rfl, ordL_dig hDp HDL.out, List.length_map, List.length_map] at this
          exact this
        have hfl := List.length_filter_le (fun p => !inB p (ordL pts ls)) pts
        obtain ⟨a8, c8, rfl, r8⟩ := str_row h1 (by omega) (fun y hy => (hDp y (hos y hy)).ok)
        obtain ⟨a9, c9, rfl, r9⟩ := str_row h2 (by omega) (fun y hy => (hDp y (List.mem_filter.1 hy).1).ok)
        have HL5 := Lib.hid (HL4.out.below hB)
        have HB5 := Lib.hid (below_step HB0.out hB)
        have HR8 := Lib.hid r8
        have HR9 := Lib.hid r9
        have H13 := Lib.hid (Gr.rpoints_any none 0 0 [] a4 nl c4 (ls.map digL) w5 (str0 _) HL5.out (by omega) (by have := HNL.out; omega))
        rw [hpt] at H13
        unfold Gr.RowR at H13
        rw [List.length_map] at H13
        have HPD := Lib.hid (show (pts.map dig).length = pts.length from List.length_map _)
        have H28 := fun (b c : Option Addr) (cb : Nat) (W : World) (h1 : Nm.StrRow W b pts.length (pts.map dig)) (h2 : LineRow W a4 nl (ls.map digL)) => Lib.hid (show Calls Try.prog 28 #[.slice b pts.length cb, .slice a4 nl c4] W (Gr.ROrderP (pts.map dig) (ls.map digL) W) from by
          have h3 := Gr.rorder_any b a4 cb c4 (pts.map dig) (ls.map digL) W (by rw [HPD.out]; exact h1) (by rw [hnl]; exact h2) (by rw [HPD.out]; omega) (by rw [hnl]; have := HNL.out; omega)
          rw [HPD.out, hnl] at h3
          exact h3)
        have HDD := Lib.hid (show ∀ z, (z ∈ ordL pts ls ∨ z ∈ pts.filter fun p => !inB p (ordL pts ls)) → Dg z from fun z hz => by
          rcases hz with hz | hz
          · exact hDp z (hos z hz)
          · exact hDp z (List.mem_filter.1 hz).1)
        have HOD : ∀ W e W', Gr.ROrderP (pts.map dig) (ls.map digL) W e W' → ∃ a1 c1 a2 c2, e = .returned (.tuple #[.slice a1 (ordL pts ls).length c1, .slice a2 (pts.filter fun p => !inB p (ordL pts ls)).length c2]) ∧ Nm.StrRow W' a1 (ordL pts ls).length ((ordL pts ls).map dig) ∧ Nm.StrRow W' a2 (pts.filter fun p => !inB p (ordL pts ls)).length ((pts.filter fun p => !inB p (ordL pts ls)).map dig) ∧ Below W.heap.size W W' := fun W e W' h => by
          unfold Gr.ROrderP at h
          rw [rest_dig hDp HDL.out, ordL_dig hDp HDL.out, List.length_map, List.length_map] at h
          exact h
        clear hS h1 h2 hB hpt hDp hpl hos r8 r9 H31 HL4 HB0
        generalize hodg : ordL pts ls = od at *
        generalize hbdg : (pts.filter fun p => !inB p od) = bd at *
        clear hodg hbdg
        go_wp2_with fail
        go_at_call 13; refine H13.out.mono ?_; rintro e w6 ⟨a10, c10, rfl, hR, hB⟩
        have H28 := H28 a10 none c10 w6 hR (HL5.out.below hB)
        have HB6 := Lib.hid (below_step HB5.out hB)
        have HR8 := Lib.hid (HR8.out.below hB)
        have HR9 := Lib.hid (HR9.out.below hB)
        clear hR hB H13 HL5 HB5
        go_wp2_with fail
        go_at_call 28; refine H28.out.mono ?_; rintro e w7 hRO
        obtain ⟨b1, d1, b2, d2, rfl, s1, s2, hB⟩ := HOD _ _ _ hRO
        have HB := Lib.hid (below_step HB6.out hB)
        have HR8 := Lib.hid (HR8.out.below hB)
        have HR9 := Lib.hid (HR9.out.below hB)
        have HS1 := Lib.hid s1
        have HS2 := Lib.hid s2
        clear hRO s1 s2 hB H28 HB6 HOD
        go_wp2_with fail
        go_loopw [12] (fun i wr => ∃ k : Nat, k ≤ od.length ∧ i = .int .i64 k ∧ Hid (Below w.heap.size w wr) ∧ Hid (StrRow wr a8 od.length od) ∧ Hid (StrRow wr a9 bd.length bd) ∧ Hid (Nm.StrRow wr b1 od.length (od.map dig)) ∧ Hid (Nm.StrRow wr b2 bd.length (bd.map dig))) (fun i _ => od.length - (intOf i).toNat)
        case atStart => exact ⟨0, by omega, rfl, HB, HR8, HR9, HS1, HS2⟩
        case round =>
          clear HB HR8 HR9 HS1 HS2
          obtain ⟨k, hk, rfl, hB, hR8, hR9, hS1, hS2⟩ := hrel
          rename World => wr
          have HB := Lib.hid hB.out
          have HR8 := Lib.hid hR8.out
          have HR9 := Lib.hid hR9.out
          have HS1 := Lib.hid hS1.out
          have HS2 := Lib.hid hS2.out
          clear hB hR8 hR9 hS1 hS2
          by_cases hlt : k < od.length
          · obtain ⟨g1, o1, rfl, hg1, hc1⟩ := HR8.out.at_ (by omega)
            obtain ⟨g2, o2, rfl, hg2, hc2⟩ := HS1.out.at_ (by omega)
            obtain ⟨z, hz⟩ : ∃ z, od[k]? = some z := ⟨od[k], List.getElem?_eq_getElem _⟩
            have hbd := (Below.refl wr.heap.size wr).drew
            have hz1 : (World.drew wr).cell? ⟨g1, o1 + k, none⟩ = some (.int .i64 z) := (hbd.cell (p := ⟨g1, o1 + k, none⟩) hg1).trans (hc1 k z hz)
            have hz2 : (World.drew wr).cell? ⟨g2, o2 + k, none⟩ = some (.string (dig z)) := (hbd.cell (p := ⟨g2, o2 + k, none⟩) hg2).trans (hc2 k _ (by rw [List.getElem?_map, hz]; rfl))
            have hdz := HDD.out z (.inl (List.mem_of_getElem? hz))
            have hten : z = 0 ∨ z = 1 ∨ z = 2 ∨ z = 3 ∨ z = 4 ∨ z = 5 ∨ z = 6 ∨ z = 7 ∨ z = 8 ∨ z = 9 := by unfold Dg at hdz; omega
            have HBD := Lib.hid hbd
            clear hg1 hc1 hg2 hc2 hz hbd hdz
            rcases hten with rfl | rfl | rfl | rfl | rfl | rfl | rfl | rfl | rfl | rfl
            all_goals
              simp only [dig, show UInt8.ofNat (48 + Int.toNat 0) = 48 from rfl, show UInt8.ofNat (48 + Int.toNat 1) = 49 from rfl, show UInt8.ofNat (48 + Int.toNat 2) = 50 from rfl, show UInt8.ofNat (48 + Int.toNat 3) = 51 from rfl, show UInt8.ofNat (48 + Int.toNat 4) = 52 from rfl, show UInt8.ofNat (48 + Int.toNat 5) = 53 from rfl, show UInt8.ofNat (48 + Int.toNat 6) = 54 from rfl, show UInt8.ofNat (48 + Int.toNat 7) = 55 from rfl, show UInt8.ofNat (48 + Int.toNat 8) = 56 from rfl, show UInt8.ofNat (48 + Int.toNat 9) = 57 from rfl] at hz2
              go_upto_region 18 with fail
              go_region
              all_goals
                go_wp2_with fail
                · exact absurd (by assumption : (_ != _) = true) (by decide +kernel)
                go_roundw
                case rel => exact ⟨k + 1, by omega, by go_num, Lib.hid (below_step HB.out HBD.out), Lib.hid (HR8.out.below HBD.out), Lib.hid (HR9.out.below HBD.out), Lib.hid (HS1.out.below HBD.out), Lib.hid (HS2.out.below HBD.out)⟩
                case measure => simp [intOf]; omega
          · have hki : ¬ (k : Int) < (od.length : Int) := by omega
            obtain rfl : k = od.length := by omega
            go_wp2_with fail
            go_loopw [13] (fun i wr => ∃ k : Nat, k ≤ bd.length ∧ i = .int .i64 k ∧ Hid (Below w.heap.size w wr) ∧ Hid (StrRow wr a8 od.length od) ∧ Hid (StrRow wr a9 bd.length bd) ∧ Hid (Nm.StrRow wr b1 od.length (od.map dig)) ∧ Hid (Nm.StrRow wr b2 bd.length (bd.map dig))) (fun i _ => bd.length - (intOf i).toNat)
            case atStart => exact ⟨0, by omega, rfl, HB, HR8, HR9, HS1, HS2⟩
            case round =>
              clear HB HR8 HR9 HS1 HS2
              obtain ⟨k, hk, rfl, hB, hR8, hR9, hS1, hS2⟩ := hrel
              rename World => wr
              have HB := Lib.hid hB.out
              have HR8 := Lib.hid hR8.out
              have HR9 := Lib.hid hR9.out
              have HS1 := Lib.hid hS1.out
              have HS2 := Lib.hid hS2.out
              clear hB hR8 hR9 hS1 hS2
              by_cases hlt : k < bd.length
              · obtain ⟨g1, o1, rfl, hg1, hc1⟩ := HR9.out.at_ (by omega)
                obtain ⟨g2, o2, rfl, hg2, hc2⟩ := HS2.out.at_ (by omega)
                obtain ⟨z, hz⟩ : ∃ z, bd[k]? = some z := ⟨bd[k], List.getElem?_eq_getElem _⟩
                have hbd := (Below.refl wr.heap.size wr).drew
                have hz1 : (World.drew wr).cell? ⟨g1, o1 + k, none⟩ = some (.int .i64 z) := (hbd.cell (p := ⟨g1, o1 + k, none⟩) hg1).trans (hc1 k z hz)
                have hz2 : (World.drew wr).cell? ⟨g2, o2 + k, none⟩ = some (.string (dig z)) := (hbd.cell (p := ⟨g2, o2 + k, none⟩) hg2).trans (hc2 k _ (by rw [List.getElem?_map, hz]; rfl))
                have hdz := HDD.out z (.inr (List.mem_of_getElem? hz))
                have hten : z = 0 ∨ z = 1 ∨ z = 2 ∨ z = 3 ∨ z = 4 ∨ z = 5 ∨ z = 6 ∨ z = 7 ∨ z = 8 ∨ z = 9 := by unfold Dg at hdz; omega
                have HBD := Lib.hid hbd
                clear hg1 hc1 hg2 hc2 hz hbd hdz
                rcases hten with rfl | rfl | rfl | rfl | rfl | rfl | rfl | rfl | rfl | rfl
                all_goals
                  simp only [dig, show UInt8.ofNat (48 + Int.toNat 0) = 48 from rfl, show UInt8.ofNat (48 + Int.toNat 1) = 49 from rfl, show UInt8.ofNat (48 + Int.toNat 2) = 50 from rfl, show UInt8.ofNat (48 + Int.toNat 3) = 51 from rfl, show UInt8.ofNat (48 + Int.toNat 4) = 52 from rfl, show UInt8.ofNat (48 + Int.toNat 5) = 53 from rfl, show UInt8.ofNat (48 + Int.toNat 6) = 54 from rfl, show UInt8.ofNat (48 + Int.toNat 7) = 55 from rfl, show UInt8.ofNat (48 + Int.toNat 8) = 56 from rfl, show UInt8.ofNat (48 + Int.toNat 9) = 57 from rfl] at hz2
                  go_upto_region 23 with fail
                  go_region
                  all_goals
                    go_wp2_with fail
                    · exact absurd (by assumption : (_ != _) = true) (by decide +kernel)
                    go_roundw
                    case rel => exact ⟨k + 1, by omega, by go_num, Lib.hid (below_step HB.out HBD.out), Lib.hid (HR8.out.below HBD.out), Lib.hid (HR9.out.below HBD.out), Lib.hid (HS1.out.below HBD.out), Lib.hid (HS2.out.below HBD.out)⟩
                    case measure => simp [intOf]; omega
              · have hki : ¬ (k : Int) < (bd.length : Int) := by omega
                obtain rfl : k = bd.length := by omega
                go_wp2_with fail
                have HAW := HAW wr
                go_at_call 11; refine HAW.out.mono ?_; rintro e w9 ⟨rfl, hB⟩
                have HB2 := Lib.hid (below_step HB.out hB)
                clear hB
                go_wp2_with fail
                go_ret
                exact ⟨rfl, HB2.out⟩
  · have k1 : (60 : Int) < (xs.length : Int) := by omega
    have HAW := HAW w
    have hmx := HX.out.max
    go_wp2_with fail
    go_at_call 11; refine HAW.out.mono ?_; rintro e w2 ⟨rfl, hB⟩
    go_wp2_with fail
    go_ret
    exact ⟨rfl, hB⟩
end Go.Proofs.Ytdlcpnpmmmpccaa.Gn
/- THE FRAME: pairs of bytes that came in. -/
namespace Go.Proofs.Ytdlcpnpmmmpccaa
open Go.Joins Go.ChangeShapes Go.WideShapes Go.ChangeAt Go.RowKit Go.Deep
theorem cells50 : Try.prog.cellsOf 50 = 2 := by kernel_rfl
theorem cells5 : Try.prog.cellsOf 5 = 1 := by kernel_rfl
theorem bytes50 : Try.prog.bytesOf 50 = 2 := by kernel_rfl
section
variable {H : Type} {enc : TypeId × Value → H} {w : World} {base : Nat} {spare : Nat → Bool} {held : Bool}
open Gn in
set_option maxRecDepth 100000 in
theorem open_bytes {r : Reach} {b0 : Nat} {v : Value} {d : DataW H} {p : List MemPlace} (hv : Value.okWide Try.prog w r b0 47 v) (h : DataW.Trod enc Try.prog w base spare held 47 v d p) (hw : Wt 47 d) :
    ∃ (a : Option Addr) (l c : Nat) (xs : List Gn.Ln2), v = .slice a l c ∧ ByRow w a l xs := by
  obtain ⟨fuel, hf⟩ := h
  obtain ⟨a, l, c, hcs, hm, hby, hel⟩ := slice_cells_w Try.underlying47 cells50 (by decide) hf hw
  rw [bytes50] at hby
  have one : ∀ i, i < l → ∃ z : Gn.Ln2, ∃ b off, a = some ⟨b, off, none⟩ ∧ b < w.heap.size ∧ w.cell? ⟨b, off + i * 2, none⟩ = some (.int .u8 z.1) ∧ w.cell? ⟨b, off + i * 2 + 1, none⟩ = some (.int .u8 z.2) ∧ (0 ≤ z.1 ∧ z.1 < 256) ∧ (0 ≤ z.2 ∧ z.2 < 256) := fun i hi => by
    obtain ⟨b, off, n2, cs', y, hn, e, hb, hl, hc, ht, hwy⟩ := hel i hi
    obtain ⟨ys, n4, hn4, hy2, hcl, hyl, hg⟩ := DataW.trod_array Try.underlying50 ht
    match cs', hl with
    | [u0, u1], _ =>
      match ys, hyl with
      | [z0, z1], _ =>
        have g0 : DataW.trod enc Try.prog w base spare held n4 5 [u0] = some z0 := by have := hg 0 (by decide); simpa [cells5] using this
        have g1 : DataW.trod enc Try.prog w base spare held n4 5 [u1] = some z1 := by have := hg 1 (by decide); simpa [cells5] using this
        obtain ⟨m0, e0, _, w0⟩ := DataW.trod_int Try.underlying5 g0
        obtain ⟨m1, e1, _, w1⟩ := DataW.trod_int Try.underlying5 g1
        simp only [List.cons.injEq, and_true] at e0 e1
        subst e0 e1
        have h0 := bounds_u8 w0
        have h1 := bounds_u8 w1
        exact ⟨(m0, m1), b, off, e, hb, hc 0 (by omega), hc 1 (by omega), ⟨h0.1, by have := h0.2; show m0 < 256; omega⟩, ⟨h1.1, by have := h1.2; show m1 < 256; omega⟩⟩
  obtain ⟨f, hfn⟩ := pick_lt one
  have hcs' : v = .slice a l c := by
    obtain ⟨a', l', c', rfl⟩ := okWide_slice Try.underlying47 hv
    simpa [Value.cells] using hcs
  refine ⟨a, l, c, (List.range l).map f, hcs', by simp, by unfold reachBytes at hby; omega, fun i x hx => ?_, fun h0 => ?_⟩
  · obtain ⟨hi, rfl⟩ := List.getElem?_eq_some_iff.1 hx
    have hi' : i < l := by simpa using hi
    obtain ⟨b2, off2, e2, _, _, _, h1, h2⟩ := hfn i hi'
    exact ⟨by simpa using h1, by simpa using h2⟩
  · obtain ⟨b, off, e, hb, _⟩ := hfn 0 h0
    refine ⟨b, off, e, hb, fun i x hx => ?_⟩
    obtain ⟨hi, rfl⟩ := List.getElem?_eq_some_iff.1 hx
    have hi' : i < l := by simpa using hi
    obtain ⟨b2, off2, e2, _, h1, h2, _, _⟩ := hfn i hi'
    rw [e] at e2
    injection e2 with e3
    injection e3 with e4 e5
    subst e4 e5
    exact ⟨by simpa using h1, by simpa using h2⟩
end
end Go.Proofs.Ytdlcpnpmmmpccaa
