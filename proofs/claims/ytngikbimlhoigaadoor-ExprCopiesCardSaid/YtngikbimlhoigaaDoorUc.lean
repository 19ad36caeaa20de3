/- WALK of the reference's All. -/
import Derived.Test.YtngikbimlhoigaaDoorUb
import Derived.Maps.AppendAt
namespace Go.Proofs.YtngikbimlhoigaaDoor
open Go.RowKit
theorem InKs.grown {I : Hd → Ex → Prop} {w w' : World} {row : Option Nat} {a : Option Addr} {l : Nat} {ks : List Ex} (h : InKs I w a l ks) (hg : w.grownBy w' row) (hne : ∀ b off, a = some ⟨b, off, none⟩ → row ≠ some b) : InKs I w' a l ks :=
  ⟨h.count, h.max, fun i hi => by
    obtain ⟨b, off, x, e, lt, hx, hI⟩ := h.at_ i hi
    have hb : w'.heap[b]? = w.heap[b]? := hg.block b lt (fun e2 => hne b off e e2.symm)
    have e : ∀ i, w'.cell? ⟨b, i, none⟩ = w.cell? ⟨b, i, none⟩ := fun i => by simp only [World.cell?, hb]
    exact ⟨b, off, x, by assumption, Nat.lt_of_lt_of_le lt hg.size, ⟨(e _).trans hx.c0, (e _).trans hx.c1, (e _).trans hx.c2, (e _).trans hx.c3, (e _).trans hx.c4, (e _).trans hx.c5, (e _).trans hx.c6⟩, hI⟩⟩
/-- All expressions in order, in a row of the call's own. -/
def AllP (w0 : World) (l : List Ex) (w : World) (e : Ending) (w' : World) : Prop := ∃ (v : Value) (L : List HX), e = .returned v ∧ w'.ownsRow w.heap.size 26 7 v L.length (hcells L) ∧ L.map (·.2) = l ∧ (∀ y ∈ L, ∃ m, InX w0 m y.1 y.2) ∧ Below w.heap.size w w'
set_option maxRecDepth 100000 in
set_option maxHeartbeats 4000000 in
theorem all_step (w0 : World) (n : Nat) (ih : ∀ (h : Hd) (x : Ex) (w : World), InX w0 n h x → Below w0.heap.size w0 w → tN n x ≤ 1000000 → Calls Tryd.prog 13 #[h.agg] w (AllP w0 (allN n x) w))
    (h : Hd) (x : Ex) (w : World) (hx : InX w0 (n + 1) h x) (hb0 : Below w0.heap.size w0 w) (hsm : tN (n + 1) x ≤ 1000000) : Calls Tryd.prog 13 #[h.agg] w (AllP w0 (allN (n + 1) x) w) := by
  have hpl := ps_len hx
  have hal := allN_le (n + 1) x
  have KP := fun (W : World) (hW : Below w.heap.size w W) => Lib.hid (rparts_any w0 W n h x hx (below_step hb0 hW) (by omega))
  have HP := Lib.hid (fun y (hy : y ∈ x.parts) => part_le (n := n) hy)
  have HSM := Lib.hid hsm
  have IH := Lib.hid ih
  have HB0 := Lib.hid hb0
  have HXX := Lib.hid hx
  obtain ⟨i0, hi, hz0, hz1, hz2⟩ := info_parts info26
  obtain ⟨op, nn, s, p, pl, pc, q, ql, qc, o, k, kl, kc⟩ := h
  unfold Hd.agg at KP
  unfold Hd.agg
  dsimp only at KP ⊢
  have HB1 : Hid (Below w.heap.size w ((w.alloc (.cells #[.int .i64 op, .int .i64 nn, .string s, .slice p pl pc, .slice q ql qc, .bool o, .slice k kl kc] 26)).alloc (.cells #[.int .i64 op, .int .i64 nn, .string s, .slice p pl pc, .slice q ql qc, .bool o, .slice k kl kc] 26))) := below_alloc (below_alloc (Below.refl _ _) _) _
  have HO1 : Hid (World.ownsRow ((w.alloc (.cells #[.int .i64 op, .int .i64 nn, .string s, .slice p pl pc, .slice q ql qc, .bool o, .slice k kl kc] 26)).alloc (.cells #[.int .i64 op, .int .i64 nn, .string s, .slice p pl pc, .slice q ql qc, .bool o, .slice k kl kc] 26)) w.heap.size 26 7 (.slice (some ⟨w.heap.size + 1, 0, none⟩) 1 1) 1 (hcells [(⟨op, nn, s, p, pl, pc, q, ql, qc, o, k, kl, kc⟩, x)])) :=
    ⟨by rw [hcells_len]; rfl, .inr ⟨w.heap.size + 1, 1, _, rfl, by omega, heap_new1 w _ _, Nat.le_refl _, by unfold maxLen; omega, rfl, rfl⟩⟩
  obtain ⟨P, hP⟩ : ∃ P, x.parts = P := ⟨_, rfl⟩
  have HA := Lib.hid (show allN (n + 1) x = x :: P.flatMap (allN n) by rw [← hP]; rfl)
  have hal2 : (P.flatMap (allN n)).length + 1 ≤ 1000000 := by rw [HA.out, List.length_cons] at hal; omega
  rw [hP] at HP KP
  clear hx hb0 hsm ih hpl hP hal
  go_enter Tryd.func13, Tryd.ntmps13
  go_wp2_with (go_at_call 34; refine (KP _ HB1.out).out.mono ?_; rintro e w2 ⟨a, kk, cc, rfl, hk, hb2, hd2⟩; have HK := Lib.hid hk; have HD2 := Lib.hid hd2; have HB2 := Lib.hid hb2; clear hk hb2 hd2)
  have HO2 := Lib.hid (HO1.out.kept (grown_below HB2.out) (.inr (by simp [Value.ownBlock])))
  have HBW := Lib.hid (below_step HB1.out HB2.out)
  clear KP HB1 HO1 HB2
  obtain rfl := HK.out.count
  have hkm := HK.out.max
  go_loopw [3, 5] (fun v i wr => ∃ (j : Nat) (L : List HX), j ≤ P.length ∧ i = .int .i64 j ∧ Hid (L.map (·.2) = x :: (P.take j).flatMap (allN n) ∧ ∀ y ∈ L, ∃ m, InX w0 m y.1 y.2) ∧ Hid (wr.ownsRow w.heap.size 26 7 v L.length (hcells L)) ∧ Hid (Below w.heap.size w wr) ∧ Hid (InKs (InX w0 n) wr a P.length P ∧ ∀ b off, a = some ⟨b, off, none⟩ → 0 < P.length → v.ownBlock ≠ some b)) (fun _ i _ => P.length - (intOf i).toNat)
  case atStart => exact ⟨0, [(⟨op, nn, s, p, pl, pc, q, ql, qc, o, k, kl, kc⟩, x)], Nat.zero_le _, rfl, ⟨rfl, fun y hy => by rw [List.mem_singleton.1 hy]; exact ⟨n + 1, HXX.out⟩⟩, HO2.out, HBW.out, HK.out, fun b off e h0 => by
    have h1 := HD2.out b off e h0
    have h2 := HB0.out.size
    simp only [World.size_alloc] at h1
    simp [Value.ownBlock]; omega⟩
  case round =>
    obtain ⟨j, L, hj, rfl, hL, hO, hB, hKK⟩ := hrel
    rename World => wr
    by_cases hlt : j < P.length
    · have hki : (j : Int) < (P.length : Int) := by omega
      have hk0 : (0 : Int) ≤ (j : Int) := by omega
      obtain ⟨b, off, y, rfl, lt, hy2, hI⟩ := hKK.out.1.at_ j hlt
      have hnb := Lib.hid (hKK.out.2 b off rfl (by omega))
      have KD := Lib.hid (IH.out y P[j] wr hI (below_step HB0.out hB.out) (Nat.le_trans (HP.out _ (List.getElem_mem hlt)) HSM.out))
      have hLl : L.length = 1 + ((P.take j).flatMap (allN n)).length := by have := congrArg List.length hL.out.1; simp at this; simp; omega
      have hsum : ((P.take j).flatMap (allN n)).length + (allN n P[j]).length ≤ (P.flatMap (allN n)).length := by
        have h1 : P.take (j + 1) ++ P.drop (j + 1) = P := List.take_append_drop _ _
        have h2 := congrArg (fun l => (l.flatMap (allN n)).length) h1
        simp only [List.flatMap_append, List.length_append] at h2
        rw [List.take_succ_eq_append_getElem hlt, List.flatMap_append, List.length_append] at h2
        simp at h2 ⊢; omega
      have hpos : 1 ≤ (allN n P[j]).length := by
        obtain ⟨m, rfl⟩ := InX.pos hI
        simp [allN]
      obtain ⟨op2, nn2, s2, p2, pl2, pc2, q2, ql2, qc2, o2, k2, kl2, kc2⟩ := y
      obtain ⟨c0, c1, c2, c3, c4, c5, c6⟩ := hy2
      dsimp only at c0 c1 c2 c3 c4 c5 c6
      unfold Hd.agg at KD
      dsimp only at KD
      have LT := Lib.hid lt
      clear hI
      go_wp2_with (first
        | (go_at_call 13; refine KD.out.mono ?_; rintro e w5 ⟨v5, L5, rfl, hO5, hL5, hI5, hb5⟩
           have hl5 : L5.length = (allN n P[j]).length := by rw [← hL5, List.length_map]
           obtain ⟨m5, hm5⟩ : ∃ m5, L5.length = m5 + 1 := ⟨L5.length - 1, by omega⟩
           have hO6 := hO5
           rw [hm5] at hO6
           obtain ⟨g5, cap5, rfl⟩ := ownsRow_succ hO6
           have HO5 := Lib.hid hO5
           have HL5 := Lib.hid (And.intro hL5 hI5)
           have HB5 := Lib.hid hb5
           have HM5 := Lib.hid hm5
           have hs5 := hb5.size
           have hsz5 : w.heap.size ≤ w5.heap.size := Nat.le_trans hB.out.size hs5
           clear hO5 hL5 hI5 hb5 hO6)
        | (at_builtin; refine wpList_append_own_at _ rfl _ _ 24 rfl w.heap.size 26 i0 _ 7 112 Tryd.underlying24 hi hz0 hz1 hz2 rfl (by decide) _ L.length (hcells L) rfl (hO.out.kept (grown_below HB5.out) (by cases Value.ownBlock _ <;> simp)) ⟨g5, 0, none⟩ (m5 + 1) cap5 (hcells L5) rfl (by rw [hcells_len, HM5.out]) (HO5.out.cells (g := g5) rfl) (hcells_one L5) (by unfold maxLen; omega) (by omega) (by omega) ?_; intro v' w6 hown' hgrow6 hnil6 hat6; have HAT := Lib.hid hat6; have OW6 := Lib.hid hown'; have G6 := Lib.hid hgrow6; clear hown' hgrow6 hnil6 hat6))
      go_roundw
      case rel =>
        refine ⟨j + 1, L ++ L5, by omega, by go_num, ⟨?_, ?_⟩, ?_, ?_, ?_, ?_⟩
        · rw [List.map_append, hL.out.1, HL5.out.1, List.take_succ_eq_append_getElem hlt, List.flatMap_append]; simp
        · intro y hy
          rcases List.mem_append.1 hy with h | h
          · exact hL.out.2 y h
          · exact HL5.out.2 y h
        · rw [hcells_append, List.length_append, HM5.out]; exact OW6.out
        · exact (below_step hB.out HB5.out).grown G6.out hsz5 (own_base hO.out)
        · exact InKs.grown (hKK.out.1.below (fun _ _ h => h) HB5.out) G6.out (fun b2 off2 e => by injection e with e3; injection e3 with e4; subst e4; exact hnb.out)
        · intro b2 off2 e _ h2
          injection e with e3; injection e3 with e4; subst e4
          rcases HAT.out with h3 | h3
          · exact hnb.out (h3.symm.trans h2)
          · rw [h3] at h2; injection h2 with h4; have := LT.out; have := HB5.out.size; omega
      case measure => simp [intOf]; omega
    · obtain rfl : j = P.length := by omega
      have HL := Lib.hid hL.out
      rw [List.take_length] at HL
      clear hL
      go_wp2_with fail
      go_ret
      exact ⟨_, L, rfl, hO.out, by rw [HL.out.1, HA.out], HL.out.2, hB.out⟩
theorem all_any (w0 : World) : ∀ (n : Nat) (h : Hd) (x : Ex) (w : World), InX w0 n h x → Below w0.heap.size w0 w → tN n x ≤ 1000000 → Calls Tryd.prog 13 #[h.agg] w (AllP w0 (allN n x) w)
  | 0, _, _, _, h, _, _ => h.elim
  | n + 1, h, x, w, hx, hb, hs => all_step w0 n (all_any w0 n) h x w hx hb hs
end Go.Proofs.YtngikbimlhoigaaDoor
