/- Ve, Vf, Vg -/
import Derived.Test.YtlpilbghblbpbaaDoorY9
/- WHAT A WRITER HOLDS, and what writing leaves alone; WriteString, put. -/
namespace Go.Proofs.YtlpilbghblbpbaaDoor.Sw
open Go.RowKit
/-- A writer in block b holds these bytes; its row lies from B on. -/
def WB (B b : Nat) (T : List UInt8) (w : World) : Prop := Lib.IsBuilder 57 5 B b (Lib.byteCells T) w
/-- All blocks below B stand, and all others but a writer's and rows of bytes. -/
structure Wr (B : Nat) (w w' : World) : Prop where
  bl : Below B w w'
  oth : ∀ (k : Nat) (cs : Array Value) (t : TypeId) (fz : Nat × Nat), w.heap[k]? = some (Obj.cells cs t fz) → t ≠ 57 → t ≠ 5 → w'.heap[k]? = w.heap[k]?
theorem Wr.refl (B : Nat) (w : World) : Wr B w w := ⟨Below.refl _ _, fun _ _ _ _ _ _ _ => rfl⟩
theorem Wr.trans {B : Nat} {w w1 w2 : World} (h : Wr B w w1) (k : Wr B w1 w2) : Wr B w w2 := ⟨h.bl.trans k.bl, fun i cs t fz hi h1 h2 => by
  have e := h.oth i cs t fz hi h1 h2
  exact (k.oth i cs t fz (e.trans hi) h1 h2).trans e⟩
theorem Wr.of {B : Nat} {w w' : World} (h : Below w.heap.size w w') (hB : B ≤ w.heap.size) : Wr B w w' := ⟨h.mono hB, fun k _ _ _ hk _ _ => h.block k (Array.getElem?_eq_some_iff.1 hk).1⟩
theorem IsB.at_ {T e : TypeId} {B b : Nat} {bs : List Value} {w : World} (h : Lib.IsBuilder T e B b bs w) : ∃ p, Lib.BuilderAt T e B b p bs w := by
  rcases h with h | h
  · exact ⟨_, h⟩
  · exact ⟨_, h⟩
theorem WB.lt {B b : Nat} {T : List UInt8} {w : World} (h : WB B b T w) : b < w.heap.size ∧ B ≤ b := by
  obtain ⟨p, h⟩ := IsB.at_ h
  exact ⟨h.lt, h.1⟩
theorem BAt.below {T e : TypeId} {B b : Nat} {p : Value} {bs : List Value} {w w' : World} (h : Lib.BuilderAt T e B b p bs w) (hb : Below w.heap.size w w') : Lib.BuilderAt T e B b p bs w' := by
  have hlt := h.lt
  obtain ⟨hB, v, hbk, hown, hne⟩ := h
  exact ⟨hB, v, (hb.block b hlt).trans hbk, hown.kept (row := none) ⟨hb.os, hb.tape, hb.output, hb.size, fun k hk _ => hb.block k hk⟩ (by cases v.ownBlock <;> simp), hne⟩
theorem WB.below {B b : Nat} {T : List UInt8} {w w' : World} (h : WB B b T w) (hb : Below w.heap.size w w') : WB B b T w' := by
  rcases h with h | h
  · exact .inl (BAt.below h hb)
  · exact .inr (BAt.below h hb)
theorem new_wb (w : World) (B : Nat) (hB : B ≤ w.heap.size) : WB B w.heap.size [] (w.alloc (.cells #[.pointer none, .slice none 0 0] 57)) :=
  .inl ⟨hB, .slice none 0 0, World.alloc_heap_new w _, World.ownsRow_nil _ _ _ _, by simp [Value.ownBlock]⟩
theorem bytes_app (T : List UInt8) (s : ByteArray) : Lib.byteCells T ++ Lib.strCells s = Lib.byteCells (T ++ s.toList) := by
  unfold Lib.byteCells Lib.strCells
  rw [List.map_append, Lib.toList_data]
theorem info5 : (Tryd.prog.info? 5).map (fun i => (i.zero, i.size, i.bytes)) = some (some (.int .u8 0), 1, 1) := by kernel_rfl
theorem copy_any (B b : Nat) (bs : List Value) (w : World) (h : Lib.IsBuilder 57 5 B b bs w) :
    Calls Tryd.prog 38 #[.pointer (some ⟨b, 0, none⟩)] w fun e w' => e = .returned (.tuple #[]) ∧ Lib.BuilderAt 57 5 B b (.pointer (some ⟨b, 0, none⟩)) bs w' ∧ Wr B w w' := by
  rcases h with h | h
  · refine (copy_fresh b w h.cell0 h.shape h.frozen0).mono ?_
    rintro e w' ⟨rfl, rfl⟩
    refine ⟨rfl, h.used _, (Below.refl B w).setCell (p := ⟨b, 0, none⟩) h.1 _, fun k cs t fz hk h1 _ => Below.heap_setCell w ⟨b, 0, none⟩ _ k fun e => ?_⟩
    obtain ⟨-, v, hbk, -⟩ := h
    subst e
    rw [hbk] at hk
    injection hk with hk
    injection hk with _ h2
    exact h1 h2.symm
  · refine (copy_used b w h.cell0).mono ?_
    rintro e w' ⟨rfl, rfl⟩
    exact ⟨rfl, h, Wr.refl _ _⟩
set_option maxHeartbeats 2000000 in
set_option maxRecDepth 100000 in
theorem wstr_any (B b : Nat) (T : List UInt8) (s : ByteArray) (w : World) (h : WB B b T w) (hlen : T.length + s.size ≤ 140737488355328) (hBw : B ≤ w.heap.size) :
    Calls Tryd.prog 25 #[.pointer (some ⟨b, 0, none⟩), .string s] w fun e w' => e = .returned (.tuple #[.int .i64 s.size, .nilIface]) ∧ WB B b (T ++ s.toList) w' ∧ Wr B w w' := by
  obtain ⟨i0, hi, hz0, hz1, hz2⟩ := info_parts info5
  have hT : (Lib.byteCells T).length = T.length := Lib.byteCells_length T
  go_enter Tryd.func25, Tryd.ntmps25
  go_wp2_with (go_at_call 38; refine (copy_any B b (Lib.byteCells T) _ h).mono ?_)
  rintro e w1 ⟨rfl, h1, hb1⟩
  have hlt : b < w1.heap.size := h1.lt
  obtain ⟨hB, v, hbk, hown, hne⟩ := h1
  have c0 : w1.cell? ⟨b, 0, none⟩ = some (.pointer (some ⟨b, 0, none⟩)) := by rw [Lib.cell_of_heap hbk]; rfl
  have c1 : w1.cell? ⟨b, 1, none⟩ = some v := by rw [Lib.cell_of_heap hbk]; rfl
  rw [hT] at hown
  have HB1 := Lib.hid hb1
  have hb1s := hb1.bl.size
  clear hb1
  go_wp2_with (at_builtin; refine Lib.wpList_append_own_string _ rfl _ _ 50 9 rfl B 5 i0 Tryd.underlying50 Tryd.underlying9 hi hz0 hz1 hz2 _ _ _ rfl hown s rfl ?c3 ?c4 ?c5 ?_)
  case c3 => unfold maxLen; omega
  case c4 => omega
  case c5 => omega
  intro v' w2 hown' hgrow _
  have hb2 : w2.heap[b]? = some (.cells #[.pointer (some ⟨b, 0, none⟩), v] 57 (0, 0)) := by
    rw [hgrow.block b hlt (fun e => hne e.symm)]
    exact hbk
  have d0 : w2.cell? ⟨b, 0, none⟩ = some (.pointer (some ⟨b, 0, none⟩)) := by rw [Lib.cell_of_heap hb2]; rfl
  have d1 : w2.cell? ⟨b, 1, none⟩ = some v := by rw [Lib.cell_of_heap hb2]; rfl
  have f1 : w2.frozen? ⟨b, 1, none⟩ = false := Lib.frozen_of_heap hb2 1
  obtain ⟨ao, n', cap, rfl⟩ : ∃ ao n' cap, v' = .slice ao n' cap := by
    rcases hown'.2 with ⟨hv, _⟩ | ⟨g, cap, cur, hv, _⟩
    · exact ⟨_, _, _, hv⟩
    · exact ⟨_, _, _, hv⟩
  go_wp2
  go_ret2
  have hrow : ∀ g, v.ownBlock = some g → ∃ cur, w1.heap[g]? = some (.cells cur 5 (0, 0)) := fun g hg => by
    rcases hown.2 with ⟨hv, _⟩ | ⟨g', cap', cur, hv, _, hh, _⟩
    · rw [hv] at hg; cases hg
    · rw [hv] at hg
      have e : g' = g := by simpa [Value.ownBlock] using hg
      subst e
      exact ⟨cur, hh⟩
  refine ⟨rfl, .inr ?_, ?_⟩
  · rw [← bytes_app]
    refine Lib.BuilderAt.put (T := 57) (e := 5) hB hb2 (bs' := Lib.byteCells T ++ Lib.strCells s) ?_ (by decide)
    rw [List.length_append, hT, Lib.strCells_length]
    exact hown'
  · refine HB1.out.trans ⟨((Below.refl B w1).grown hgrow (by omega) (fun k hk => (hown.lt k hk).1)).setCell (p := ⟨b, 1, none⟩) hB _, fun k cs t fz hk h118 h5 => ?_⟩
    have hkb : k ≠ b := fun e => by
      subst e
      rw [hbk] at hk
      injection hk with hk
      injection hk with _ h2
      exact h118 h2.symm
    rw [Below.heap_setCell w2 ⟨b, 1, none⟩ _ k hkb]
    refine hgrow.block k (Array.getElem?_eq_some_iff.1 hk).1 fun e => ?_
    obtain ⟨cur, hh⟩ := hrow k e.symm
    rw [hh] at hk
    injection hk with hk
    injection hk with _ h2
    exact h5 h2.symm
end Go.Proofs.YtlpilbghblbpbaaDoor.Sw
/- WALK of show's put. -/
namespace Go.Proofs.YtlpilbghblbpbaaDoor.Sw
open Go.RowKit
def WP (B b : Nat) (T : List UInt8) (w : World) (e : Ending) (w' : World) : Prop := e = .returned (.tuple #[]) ∧ WB B b T w' ∧ Wr B w w'
/-- The bytes of texts. -/
def cat (xs : List ByteArray) : List UInt8 := (xs.map ByteArray.toList).flatten
theorem cat_take {xs : List ByteArray} {j : Nat} (h : j < xs.length) : cat (xs.take (j + 1)) = cat (xs.take j) ++ xs[j].toList := by
  rw [show xs.take (j + 1) = xs.take j ++ [xs[j]] by rw [List.take_add_one, List.getElem?_eq_getElem h]; rfl]
  unfold cat
  rw [List.map_append, List.flatten_append, List.map_singleton, List.flatten_singleton]
theorem cat_le {xs : List ByteArray} {j : Nat} (h : j < xs.length) : (cat (xs.take j)).length + xs[j].size ≤ (cat xs).length := by
  have e : xs = xs.take j ++ xs[j] :: xs.drop (j + 1) := by rw [← List.drop_eq_getElem_cons h, List.take_append_drop]
  conv => rhs; rw [e]
  unfold cat
  simp only [List.map_append, List.map_cons, List.flatten_append, List.flatten_cons, List.length_append]
  have := Nm.size_list xs[j]
  omega
set_option maxRecDepth 100000 in
set_option maxHeartbeats 4000000 in
theorem put_any (B b g : Nat) (T : List UInt8) (xs : List ByteArray) (w : World) (h : WB B b T w) (hg : w.heap[g]? = some (.cells (xs.map Value.string).toArray 9 (0, 0))) (hl : T.length + (cat xs).length ≤ 140737488355328) (hn : xs.length ≤ 1000) :
    Calls Tryd.prog 35 #[.pointer (some ⟨b, 0, none⟩), .slice (some ⟨g, 0, none⟩) xs.length xs.length] w (WP B b (T ++ cat xs) w) := by
  obtain ⟨n, hN⟩ : ∃ n, xs.length = n := ⟨_, rfl⟩
  have H := Lib.hid h
  have HG := Lib.hid hg
  have HN := Lib.hid hN
  rw [hN] at hn ⊢
  clear h hg hN
  go_enter Tryd.func35, Tryd.ntmps35
  go_wp2_with fail
  go_loopw [8] (fun i wr => ∃ j : Nat, j ≤ n ∧ i = .int .i64 j ∧ Hid (WB B b (T ++ cat (xs.take j)) wr) ∧ Hid (Wr B w wr)) (fun i _ => n - (intOf i).toNat)
  case atStart => exact ⟨0, Nat.zero_le _, rfl, Lib.hid (by rw [List.take_zero]; show WB B b (T ++ []) w; rw [List.append_nil]; exact H.out), Lib.hid (Wr.refl _ _)⟩
  case round =>
    obtain ⟨j, hj, rfl, hW, hR⟩ := hrel
    rename World => wr
    by_cases hlt : j < n
    · have hki : (j : Int) < (n : Int) := by omega
      have hk0 : (0 : Int) ≤ (j : Int) := by omega
      have hjx : j < xs.length := by rw [HN.out]; exact hlt
      obtain ⟨s, hs⟩ : ∃ s, xs[j] = s := ⟨_, rfl⟩
      have hgr := (hR.out.oth g _ _ _ HG.out (by decide) (by decide)).trans HG.out
      have hc : wr.cell? ⟨g, j, none⟩ = some (.string s) := by
        simp [World.cell?, hgr, List.getElem?_eq_getElem hjx, hs]
      have hsz := cat_le hjx
      have hct := cat_take hjx
      rw [hs] at hsz hct
      have HCT := Lib.hid hct
      have HSW : Hid (Calls Tryd.prog 25 #[.pointer (some ⟨b, 0, none⟩), .string s] wr fun e w' => e = .returned (.tuple #[.int .i64 s.size, .nilIface]) ∧ WB B b (T ++ cat (xs.take j) ++ s.toList) w' ∧ Wr B wr w') :=
        Lib.hid (wstr_any B b _ s wr hW.out (by rw [List.length_append]; omega) (by have := hW.out.lt; omega))
      clear hgr hsz hct hs
      go_wp2_with (go_at_call 25; refine HSW.out.mono ?_; rintro e w3 ⟨rfl, hw3, hr3⟩; have HW3 := Lib.hid hw3; have HR3 := Lib.hid hr3; clear hw3 hr3)
      go_roundw
      case rel => exact ⟨j + 1, by omega, by go_num, Lib.hid (by rw [HCT.out, ← List.append_assoc]; exact HW3.out), Lib.hid (hR.out.trans HR3.out)⟩
      case measure => simp [intOf]; omega
    · obtain rfl : j = n := by omega
      have hki : ¬ ((j : Int) < (j : Int)) := by omega
      go_wp2_with fail
      go_end0
      refine ⟨rfl, ?_, hR.out⟩
      have h2 := hW.out
      rw [← HN.out, List.take_length] at h2
      exact h2
end Go.Proofs.YtlpilbghblbpbaaDoor.Sw
/- WALK of the builder's String at a writer. -/
namespace Go.Proofs.YtlpilbghblbpbaaDoor.Sw
open Go.RowKit
set_option maxHeartbeats 1000000 in
set_option maxRecDepth 100000 in
theorem str_some (B b : Nat) (l : List UInt8) (w : World) (h : WB B b l w) (h0 : l ≠ []) :
    Calls Tryd.prog 23 #[.pointer (some ⟨b, 0, none⟩)] w fun e w' => e = .returned (.string ⟨l.toArray⟩) ∧ Below B w w' := by
  obtain ⟨p, hB, v, hbk, hown, hne⟩ := IsB.at_ h
  have hl0 : l.length ≠ 0 := by simpa using h0
  rw [Lib.byteCells_length] at hown
  obtain ⟨g, cap, cur, rfl, hbg, hg, hnc, hcm, hcs, htake⟩ : ∃ g cap cur, v = .slice (some ⟨g, 0, none⟩) l.length cap ∧ B ≤ g ∧ w.heap[g]? = some (.cells cur 5 (0, 0)) ∧ l.length ≤ cap ∧ cap ≤ maxLen ∧ cur.size = cap * 1 ∧ cur.toList.take (l.length * 1) = Lib.byteCells l := by
    rcases hown.2 with ⟨_, hz⟩ | ⟨g, cap, cur, hv, r⟩
    · exact absurd hz hl0
    · exact ⟨g, cap, cur, hv, r⟩
  have c1 : w.drew.cell? ⟨b, 1, none⟩ = some (.slice (some ⟨g, 0, none⟩) l.length cap) := by
    have : w.drew.heap[b]? = some (.cells #[p, .slice (some ⟨g, 0, none⟩) l.length cap] 57 (0, 0)) := hbk
    rw [Lib.cell_of_heap this]; rfl
  have hSD : (Builtin.unsafeSliceData_ #[50] 75 #[.slice (some ⟨g, 0, none⟩) l.length cap]).run Tryd.prog w.drew = .ok (.pointer (some ⟨g, 0, none⟩)) w.drew :=
    Lib.run_unsafeSliceData_row _ _ _ _ _ _ (by omega)
  have hUS : (Builtin.unsafeString_ #[75, 3] 9 #[.pointer (some ⟨g, 0, none⟩), .int .i64 l.length]).run Tryd.prog w.drew = .ok (.string ⟨l.toArray⟩) (w.drew.freeze ⟨g, 0, none⟩ l.length) := by
    refine Lib.run_unsafeString_row w.drew 75 3 9 5 (by kernel_rfl) (by kernel_rfl) g cur.size (by have hg' : w.drew.heap[g]? = some (.cells cur 5 (0, 0)) := hg; simp [World.shape?, hg']) l h0 (by omega) (by unfold maxLen at hcm; omega) ?_
    intro j x hx
    have := hown.cells (g := g) rfl j (.int .u8 x.toNat) (by simp [Lib.byteCells, hx])
    exact this
  have mixed : Tryd.prog.follows .mixedOrders = true := by kernel_rfl
  go_enter Tryd.func23, Tryd.ntmps23
  go_wp2
  go_region_o
  all_goals (go_wp2; go_ret; exact ⟨rfl, Lib.below_freeze (Below.drew (Below.refl B w)) (p := ⟨g, 0, none⟩) hbg _⟩)
set_option maxHeartbeats 1000000 in
set_option maxRecDepth 100000 in
theorem str_none (B b : Nat) (w : World) (hbk : w.heap[b]? = some (.cells #[.pointer none, .slice none 0 0] 57 (0, 0))) :
    Calls Tryd.prog 23 #[.pointer (some ⟨b, 0, none⟩)] w fun e w' => e = .returned (.string ⟨#[]⟩) ∧ Below B w w' := by
  have hUS : ∀ (W : World) (q : Option Addr), (Builtin.unsafeString_ #[75, 3] 9 #[.pointer q, .int .i64 0]).run Tryd.prog W = .ok (.string .empty) W := fun W q => Lib.run_unsafeString_none W _ _ _ q
  have c1 : w.drew.cell? ⟨b, 1, none⟩ = some (.slice none 0 0) := by
    have : w.drew.heap[b]? = some (.cells #[.pointer none, .slice none 0 0] 57 (0, 0)) := hbk
    rw [Lib.cell_of_heap this]; rfl
  have hSD : (Builtin.unsafeSliceData_ #[50] 75 #[.slice none 0 0]).run Tryd.prog w.drew = .ok (.pointer none) w.drew := rfl
  have mixed : Tryd.prog.follows .mixedOrders = true := by kernel_rfl
  go_enter Tryd.func23, Tryd.ntmps23
  go_wp2
  go_region_o
  all_goals (go_wp2; go_ret; exact ⟨rfl, Below.drew (Below.refl B w)⟩)
end Go.Proofs.YtlpilbghblbpbaaDoor.Sw
