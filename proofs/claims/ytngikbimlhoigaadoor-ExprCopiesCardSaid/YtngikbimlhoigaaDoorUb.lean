/- WALKS of the reference's Depth and All. -/
import Derived.Test.YtngikbimlhoigaaDoorUa
namespace Go.Proofs.YtngikbimlhoigaaDoor
open Go.RowKit
/-- How many expressions there are in all, those of all lists. -/
def tN : Nat → Ex → Nat
  | 0, _ => 0
  | n + 1, x => 1 + (x.ps.map fun p => tN n p.2).sum + (x.ks.map (tN n)).sum
theorem sum_mem {l : List Nat} {a : Nat} (h : a ∈ l) : a ≤ l.sum := by
  induction l with
  | nil => cases h
  | cons b l ih =>
    rw [List.sum_cons]
    rcases List.mem_cons.1 h with rfl | h
    · omega
    · have := ih h; omega
theorem sum_len {l : List Nat} (h : ∀ a ∈ l, 1 ≤ a) : l.length ≤ l.sum := by
  induction l with
  | nil => simp
  | cons b l ih =>
    rw [List.sum_cons, List.length_cons]
    have h1 := h b (by simp)
    have h2 := ih fun a ha => h a (by simp [ha])
    omega
theorem tN_pos {w : World} {n : Nat} {h : Hd} {x : Ex} (hx : InX w n h x) : 1 ≤ tN n x := by
  obtain ⟨m, rfl⟩ := hx.pos
  show 1 ≤ 1 + _ + _
  omega
theorem ps_each {w : World} {n : Nat} {h : Hd} {x : Ex} (hx : InX w (n + 1) h x) : ∀ p ∈ x.ps, ∃ h', InX w n h' p.2 := fun p hp => by
  obtain ⟨op, m, s, pa, ps, o, ks⟩ := x
  obtain ⟨i, hi, rfl⟩ := List.mem_iff_getElem.1 hp
  obtain ⟨b, off, y, _, _, _, _, _, hI⟩ := hx.2.2.2.2.2.2.1.at_ i hi
  exact ⟨y, hI⟩
theorem ks_each {w : World} {n : Nat} {h : Hd} {x : Ex} (hx : InX w (n + 1) h x) : ∀ k ∈ x.ks, ∃ h', InX w n h' k := fun k hk => by
  obtain ⟨op, m, s, pa, ps, o, ks⟩ := x
  obtain ⟨i, hi, rfl⟩ := List.mem_iff_getElem.1 hk
  obtain ⟨b, off, y, _, _, _, hI⟩ := hx.2.2.2.2.2.2.2.at_ i hi
  exact ⟨y, hI⟩
theorem ps_len {w : World} {n : Nat} {h : Hd} {x : Ex} (hx : InX w (n + 1) h x) : x.ps.length + x.ks.length + 1 ≤ tN (n + 1) x := by
  have h1 := sum_len (l := x.ps.map fun p => tN n p.2) (fun a ha => by obtain ⟨p, hp, rfl⟩ := List.mem_map.1 ha; obtain ⟨h', hh⟩ := ps_each hx p hp; exact tN_pos hh)
  have h2 := sum_len (l := x.ks.map (tN n)) (fun a ha => by obtain ⟨p, hp, rfl⟩ := List.mem_map.1 ha; obtain ⟨h', hh⟩ := ks_each hx p hp; exact tN_pos hh)
  rw [List.length_map] at h1 h2
  show _ ≤ 1 + _ + _
  omega
theorem part_le {n : Nat} {x y : Ex} (hy : y ∈ x.parts) : tN n y ≤ tN (n + 1) x := by
  unfold Ex.parts at hy
  show _ ≤ 1 + _ + _
  split at hy
  · obtain ⟨p, hp, rfl⟩ := List.mem_map.1 hy
    have := sum_mem (l := x.ps.map fun p => tN n p.2) (List.mem_map.2 ⟨p, hp, rfl⟩)
    omega
  · have := sum_mem (l := x.ks.map (tN n)) (List.mem_map.2 ⟨y, hy, rfl⟩)
    omega
theorem parts_sum {n : Nat} {x : Ex} : 1 + (x.parts.map (tN n)).sum ≤ tN (n + 1) x := by
  unfold Ex.parts
  show _ ≤ 1 + _ + _
  split
  · rw [List.map_map]; show 1 + (x.ps.map fun p => tN n p.2).sum ≤ _; omega
  · omega
theorem allN_le : ∀ (n : Nat) (x : Ex), (allN n x).length ≤ tN n x
  | 0, _ => Nat.le_refl _
  | n + 1, x => by
    have h := parts_sum (n := n) (x := x)
    have h2 : ∀ l : List Ex, (l.flatMap (allN n)).length ≤ (l.map (tN n)).sum := fun l => by
      induction l with
      | nil => simp
      | cons y l ih =>
        rw [List.flatMap_cons, List.length_append, List.map_cons, List.sum_cons]
        have := allN_le n y; omega
    have h3 := h2 x.parts
    show (x :: x.parts.flatMap (allN n)).length ≤ _
    rw [List.length_cons]; omega
theorem mxL_max (l : List Int) (x : Int) : mxL (l ++ [x]) = if mxL l < x then x else mxL l := by
  rw [mxL_snoc]; omega
set_option maxRecDepth 100000 in
set_option maxHeartbeats 4000000 in
theorem rdepth_step (w0 : World) (n : Nat) (ih : ∀ (h : Hd) (x : Ex) (w : World), InX w0 n h x → Below w0.heap.size w0 w → tN n x ≤ 1000000 → Calls Tryd.prog 15 #[h.agg] w (IntP (depW n x) w))
    (h : Hd) (x : Ex) (w : World) (hx : InX w0 (n + 1) h x) (hb0 : Below w0.heap.size w0 w) (hsm : tN (n + 1) x ≤ 1000000) : Calls Tryd.prog 15 #[h.agg] w (IntP (depW (n + 1) x) w) := by
  have hpl := ps_len hx
  have KP := fun (W : World) (hW : Below w.heap.size w W) => Lib.hid (rparts_any w0 W n h x hx (below_step hb0 hW) (by omega))
  have HP := Lib.hid (fun y (hy : y ∈ x.parts) => part_le (n := n) hy)
  have HSM := Lib.hid hsm
  have IH := Lib.hid ih
  have HB0 := Lib.hid hb0
  obtain ⟨op, nn, s, p, pl, pc, q, ql, qc, o, k, kl, kc⟩ := h
  unfold Hd.agg at KP
  unfold Hd.agg
  dsimp only at KP ⊢
  have HB1 : Hid (Below w.heap.size w (w.alloc (.cells #[.int .i64 op, .int .i64 nn, .string s, .slice p pl pc, .slice q ql qc, .bool o, .slice k kl kc] 26))) := below_alloc (Below.refl _ _) _
  obtain ⟨L, hL⟩ : ∃ L, x.parts = L := ⟨_, rfl⟩
  have HD := Lib.hid (show depW (n + 1) x = wrap64 (1 + mxL (L.map (depW n))) by rw [← hL]; rfl)
  rw [hL] at HP KP
  clear hx hb0 hsm ih hpl hL
  go_enter Tryd.func15, Tryd.ntmps15
  go_wp2_with (go_at_call 34; refine (KP _ HB1.out).out.mono ?_; rintro e w2 ⟨a, kk, cc, rfl, hk, hb2, -⟩; have HK := Lib.hid hk; have HB2 := Lib.hid (below_step HB1.out hb2); clear hk hb2)
  clear KP HB1
  obtain rfl := HK.out.count
  have hkm := HK.out.max
  go_loopw [3, 5, 6] (fun v i _ wr => ∃ (j : Nat), j ≤ L.length ∧ i = .int .i64 j ∧ v = .int .i64 (mxL ((L.take j).map (depW n))) ∧ Hid (Below w2.heap.size w2 wr)) (fun _ i _ _ => L.length - (intOf i).toNat)
  case atStart => exact ⟨0, Nat.zero_le _, rfl, rfl, Below.refl _ _⟩
  case round =>
    obtain ⟨j, hj, rfl, rfl, hB⟩ := hrel
    rename World => wr
    obtain ⟨v, hv⟩ : ∃ v, mxL ((L.take j).map (depW n)) = v := ⟨_, rfl⟩
    rw [hv]
    by_cases hlt : j < L.length
    · have hki : (j : Int) < (L.length : Int) := by omega
      have hk0 : (0 : Int) ≤ (j : Int) := by omega
      obtain ⟨b, off, y, rfl, lt, hy, hI⟩ := HK.out.at_ j hlt
      have hy2 := HdAt.below hy hB.out lt
      have hlz := Nat.lt_of_lt_of_le lt hB.out.size
      have KD := Lib.hid (IH.out y L[j] wr hI (below_step HB0.out (below_step HB2.out hB.out)) (Nat.le_trans (HP.out _ (List.getElem_mem hlt)) HSM.out))
      obtain ⟨d, hd⟩ : ∃ d, depW n L[j] = d := ⟨_, rfl⟩
      rw [hd] at KD
      have HM := Lib.hid (show mxL ((L.take (j + 1)).map (depW n)) = if v < d then d else v by
        rw [List.take_succ_eq_append_getElem hlt, List.map_append, List.map_cons, List.map_nil, mxL_max, hv, hd])
      obtain ⟨op2, nn2, s2, p2, pl2, pc2, q2, ql2, qc2, o2, k2, kl2, kc2⟩ := y
      obtain ⟨c0, c1, c2, c3, c4, c5, c6⟩ := hy2
      dsimp only at c0 c1 c2 c3 c4 c5 c6
      unfold Hd.agg at KD
      dsimp only at KD
      clear hy hI lt hv hd
      by_cases hvd : v < d
      · go_wp2_with (go_at_call 15; refine KD.out.mono ?_; rintro e w5 ⟨rfl, hb5⟩; have HB5 := Lib.hid hb5; clear hb5)
        go_roundw
        case rel => exact ⟨j + 1, by omega, by go_num, by rw [HM.out, if_pos hvd], below_step hB.out HB5.out⟩
        case measure => simp [intOf]; omega
      · go_wp2_with (go_at_call 15; refine KD.out.mono ?_; rintro e w5 ⟨rfl, hb5⟩; have HB5 := Lib.hid hb5; clear hb5)
        go_roundw
        case rel => exact ⟨j + 1, by omega, by go_num, by rw [HM.out, if_neg (by omega)], below_step hB.out HB5.out⟩
        case measure => simp [intOf]; omega
    · obtain rfl : j = L.length := by omega
      have HM := Lib.hid (show depW (n + 1) x = wrap64 (1 + v) by rw [HD.out, ← hv, List.take_length])
      clear hv
      go_wp2_with fail
      go_ret
      exact ⟨ret_int (by rw [HM.out]), below_step HB2.out hB.out⟩
theorem rdepth_any (w0 : World) : ∀ (n : Nat) (h : Hd) (x : Ex) (w : World), InX w0 n h x → Below w0.heap.size w0 w → tN n x ≤ 1000000 → Calls Tryd.prog 15 #[h.agg] w (IntP (depW n x) w)
  | 0, _, _, _, h, _, _ => h.elim
  | n + 1, h, x, w, hx, hb, hs => rdepth_step w0 n (rdepth_any w0 n) h x w hx hb hs
end Go.Proofs.YtngikbimlhoigaaDoor
