/- WALK of text. -/
import Derived.Test.YtfhknnldkfngdaaDoorWf
namespace Go.Proofs.YtfhknnldkfngdaaDoor
open Go.RowKit
theorem owns_below {w w' : World} {base E size n : Nat} {v : Value} {xs : List Value} (h : w.ownsRow base E size v n xs) (hb : Below w.heap.size w w') : w'.ownsRow base E size v n xs := by
  obtain ⟨h1, h2⟩ := h
  refine ⟨h1, ?_⟩
  rcases h2 with h2 | ⟨g, cap, cur, hv, hg, hh, r⟩
  · exact Or.inl h2
  · exact Or.inr ⟨g, cap, cur, hv, hg, by rw [hb.block g (Array.getElem?_eq_some_iff.1 hh).1]; exact hh, r⟩
theorem bl_drewN (w : World) (q : Nat) : Below w.heap.size w (w.drewN q) := ⟨rfl, rfl, rfl, Nat.le_refl _, fun _ _ => rfl⟩
theorem part_bl (s : ByteArray) (k : Nat) (c : Int) (n : Nat) (w : World) (hs : s.size ≤ 140737488355328) (hr : Hid (partL (s.toList.drop k) = (c, n))) : Calls Tryd.prog 41 #[.string (s.extract k s.size)] w fun e w' => e = .returned (.tuple #[.int .u8 c, .int .i64 (n : Int)]) ∧ Below w.heap.size w w' :=
  (part_at s k (c, n) w hs hr).mono fun e w' ⟨he, q, hw⟩ => ⟨he, by subst hw; exact bl_drewN _ _⟩
theorem textL_none {s : ByteArray} {R : Option (List UInt8 × Nat)} (h : txF (s.toList.length + 1) (s.toList.drop 1) [] 1 = R) (hR : R = none) : textL s.toList = (20, ⟨0, 0, []⟩, 0) := by
  unfold textL; rw [h, hR]
theorem textL_long {s : ByteArray} {R : Option (List UInt8 × Nat)} {acc : List UInt8} {k : Nat} (h : txF (s.toList.length + 1) (s.toList.drop 1) [] 1 = R) (hR : R = some (acc, k)) (hl : 256 < acc.length) : textL s.toList = (4, ⟨0, 0, []⟩, 0) := by
  unfold textL; rw [h, hR]; exact if_pos hl
theorem textL_yes {s : ByteArray} {R : Option (List UInt8 × Nat)} {acc : List UInt8} {k : Nat} (h : txF (s.toList.length + 1) (s.toList.drop 1) [] 1 = R) (hR : R = some (acc, k)) (hl : ¬ 256 < acc.length) : textL s.toList = (0, ⟨3, 0, acc⟩, k + 1) := by
  unfold textL; rw [h, hR]; exact if_neg hl
/-- A block of the call's own that holds a token. -/
def Tz (w : World) (g : Nat) : Prop := g < w.heap.size ∧ (∀ o, w.frozen? ⟨g, o, none⟩ = false) ∧ w.cell? ⟨g, 0, none⟩ = some (.int .i64 0) ∧ w.cell? ⟨g, 1, none⟩ = some (.int .i64 0) ∧ w.cell? ⟨g, 2, none⟩ = some (.string ⟨#[]⟩) ∧ w.cell? ⟨g, 3, none⟩ = some (.int .i64 0)
theorem Tz.low {w w' : World} {g N : Nat} (h : Tz w g) (hb : Below N w w') (hg : g < N) : Tz w' g :=
  ⟨Nat.lt_of_lt_of_le h.1 hb.size, fun o => (hb.frozen (p := ⟨g, o, none⟩) hg).trans (h.2.1 o), (hb.cell (p := ⟨g, 0, none⟩) hg).trans h.2.2.1, (hb.cell (p := ⟨g, 1, none⟩) hg).trans h.2.2.2.1, (hb.cell (p := ⟨g, 2, none⟩) hg).trans h.2.2.2.2.1, (hb.cell (p := ⟨g, 3, none⟩) hg).trans h.2.2.2.2.2⟩
theorem Tz.later {w w' : World} {g : Nat} (h : Tz w g) (hb : Below w.heap.size w w') : Tz w' g := h.low hb h.1
theorem set_size {w : World} {a : Addr} {v : Value} : (w.setCell a v).heap.size = w.heap.size := by simp [World.setCell]
theorem set_far {w : World} {g o b q : Nat} {v : Value} (h : b ≠ g ∨ q ≠ o) : (w.setCell ⟨g, o, none⟩ v).cell? ⟨b, q, none⟩ = w.cell? ⟨b, q, none⟩ :=
  World.cell?_setCell_other _ _ _ _ (by intro e; cases e; rcases h with h | h <;> exact h rfl)
theorem set_here {w : World} {g o : Nat} {u v : Value} (h : w.cell? ⟨g, o, none⟩ = some u) : (w.setCell ⟨g, o, none⟩ v).cell? ⟨g, o, none⟩ = some v := World.cell?_setCell_same _ _ _ h
theorem set4 {W : World} {g : Nat} {u0 u1 u2 u3 : Value} (v0 v1 v2 v3 : Value) (c0 : W.cell? ⟨g, 0, none⟩ = some u0) (c1 : W.cell? ⟨g, 1, none⟩ = some u1) (c2 : W.cell? ⟨g, 2, none⟩ = some u2) (c3 : W.cell? ⟨g, 3, none⟩ = some u3) :
    ((((W.setCell ⟨g, 0, none⟩ v0).setCell ⟨g, 1, none⟩ v1).setCell ⟨g, 2, none⟩ v2).setCell ⟨g, 3, none⟩ v3).cell? ⟨g, 0, none⟩ = some v0 ∧ ((((W.setCell ⟨g, 0, none⟩ v0).setCell ⟨g, 1, none⟩ v1).setCell ⟨g, 2, none⟩ v2).setCell ⟨g, 3, none⟩ v3).cell? ⟨g, 1, none⟩ = some v1 ∧
    ((((W.setCell ⟨g, 0, none⟩ v0).setCell ⟨g, 1, none⟩ v1).setCell ⟨g, 2, none⟩ v2).setCell ⟨g, 3, none⟩ v3).cell? ⟨g, 2, none⟩ = some v2 ∧ ((((W.setCell ⟨g, 0, none⟩ v0).setCell ⟨g, 1, none⟩ v1).setCell ⟨g, 2, none⟩ v2).setCell ⟨g, 3, none⟩ v3).cell? ⟨g, 3, none⟩ = some v3 := by
  refine ⟨?_, ?_, ?_, ?_⟩
  · rw [set_far (.inr (by decide)), set_far (.inr (by decide)), set_far (.inr (by decide)), set_here c0]
  · rw [set_far (.inr (by decide)), set_far (.inr (by decide)), set_here (u := u1) (by rw [set_far (.inr (by decide)), c1])]
  · rw [set_far (.inr (by decide)), set_here (u := u2) (by rw [set_far (.inr (by decide)), set_far (.inr (by decide)), c2])]
  · rw [set_here (u := u3) (by rw [set_far (.inr (by decide)), set_far (.inr (by decide)), set_far (.inr (by decide)), c3])]
theorem bl_set4 {w W : World} {g : Nat} {v0 v1 v2 v3 : Value} (h : Below w.heap.size w W) (hg : w.heap.size ≤ g) : Below w.heap.size w ((((W.setCell ⟨g, 0, none⟩ v0).setCell ⟨g, 1, none⟩ v1).setCell ⟨g, 2, none⟩ v2).setCell ⟨g, 3, none⟩ v3) :=
  bl_set (bl_set (bl_set (bl_set h hg) hg) hg) hg
set_option maxRecDepth 100000 in
set_option maxHeartbeats 4000000 in
theorem text_any (s : ByteArray) (w : World) (hs : s.size ≤ 140737488355328) (h0 : 0 < s.size) : Calls Tryd.prog 31 #[.string s] w (TkP (textL s.toList) w) := by
  obtain ⟨R, hR⟩ : ∃ R, txF (s.toList.length + 1) (s.toList.drop 1) [] 1 = R := ⟨_, rfl⟩
  have HT : Hid (TxAt s R 1 []) := ⟨_, by rw [← Nm.size_list]; omega, hR⟩
  have HR := Lib.hid hR
  clear hR
  obtain ⟨i0, hi, hz0, hz1, hz2⟩ := info_parts Tryd.info5
  have HI := Lib.hid hi
  have HZ0 := Lib.hid hz0
  have HZ1 := Lib.hid hz1
  have HZ2 := Lib.hid hz2
  clear hi hz0 hz1 hz2
  go_enter Tryd.func31, Tryd.ntmps31
  go_wp2_with fail
  go_loopw [5, 6] (fun v i wr => ∃ (k : Nat) (acc : List UInt8) (a : Option Addr) (cp : Nat), k ≤ s.size ∧ i = .int .i64 k ∧ acc.length ≤ k ∧ v = .slice a acc.length cp ∧ Hid (wr.ownsRow (w.heap.size + 1) 5 1 (.slice a acc.length cp) acc.length (u8s acc)) ∧ Hid (TxAt s R k acc) ∧ Hid (Tz wr w.heap.size) ∧ Hid (Below (w.heap.size) w wr)) (fun _ i _ => s.size - (intOf i).toNat)
  case atStart => exact ⟨1, [], none, 0, by omega, rfl, by decide, rfl, World.ownsRow_nil _ _ _ _, HT, ⟨by simp, fun _ => World.frozen?_alloc_new .., by simp, by simp, by simp, by simp⟩, bl_alloc (Below.refl _ _)⟩
  case round =>
    obtain ⟨k, acc, a, cp, hk, rfl, hak, rfl, hO, hX, hZ, hB⟩ := hrel
    rename World => wr
    by_cases hlt : k < s.size
    · by_cases hq : (s[k].toNat : Int) = 34
      · have HQ : Hid ((decide (k < s.size) && decide ((s.toList.drop k).head? = some 34)) = true) := by
          rw [drop_at s k hlt]; simp [hlt]; exact UInt8.toNat.inj (by simp; omega)
        have HRR := Lib.hid (hX.out.quote hlt hq)
        obtain ⟨a', c', e1, hS⟩ := row_own hO.out
        cases e1
        have hcv := conv_row cp hS
        obtain ⟨hz, hf, c0, c1, c2, c3⟩ := hZ.out
        clear hS hq
        by_cases hl : 256 < acc.length
        · have HV := Lib.hid (textL_long HR.out HRR.out hl)
          go_wp2_with (go_at_call 40; ((with_reducible refine (hasq_at s k true _ HQ).mono ?_); rintro e w' ⟨rfl, rfl⟩))
          obtain ⟨k0, k1, k2, k3⟩ := set4 (.int .i64 0) (.int .i64 0) (.string ⟨#[]⟩) (.int .i64 0) c0 c1 c2 c3
          refine bodyPost_ret (v := .tuple #[.agg #[.int .i64 0, .int .i64 0, .string ⟨#[]⟩, .int .i64 0], .int .i64 0, .int .i64 4]) (by simp [results, Tryd.results31, go_sem, k0, k1, k2, k3]) rfl ⟨by rw [HV.out]; rfl, bl_set4 hB.out (Nat.le_refl _)⟩
        · have HV := Lib.hid (textL_yes HR.out HRR.out hl)
          go_wp2_with (go_at_call 40; ((with_reducible refine (hasq_at s k true _ HQ).mono ?_); rintro e w' ⟨rfl, rfl⟩))
          obtain ⟨k0, k1, k2, k3⟩ := set4 (.int .i64 3) (.int .i64 0) (.string ⟨acc.toArray⟩) (.int .i64 0) c0 c1 c2 c3
          refine bodyPost_ret (v := .tuple #[.agg #[.int .i64 3, .int .i64 0, .string ⟨acc.toArray⟩, .int .i64 0], .int .i64 ((k : Int) + 1), .int .i64 0]) (by simp [results, Tryd.results31, go_sem, k0, k1, k2, k3]) rfl ⟨by rw [HV.out]; rfl, bl_set4 hB.out (Nat.le_refl _)⟩
      · have HQ : Hid ((decide (k < s.size) && decide ((s.toList.drop k).head? = some 34)) = false) := by
          rw [drop_at s k hlt]; simp [hlt]; intro e; exact hq (by rw [e]; rfl)
        obtain ⟨⟨c, n⟩, hp⟩ : ∃ r, partL (s.toList.drop k) = r := ⟨_, rfl⟩
        have HP := Lib.hid hp
        obtain ⟨hn1, hc0, hc1⟩ := part_bd hp
        rw [drop_len] at hn1
        by_cases hn : n = 0
        · subst hn
          have HRR := Lib.hid (hX.out.bad hlt hq (by rw [hp]))
          have HV := Lib.hid (textL_none HR.out HRR.out)
          clear hp hq
          go_wp2_with (first | (go_at_call 40; ((with_reducible refine (hasq_at s k false _ HQ).mono ?_); rintro e w' ⟨rfl, rfl⟩)) | (go_at_call 41; ((with_reducible refine (part_bl s k c 0 _ hs HP).mono ?_); rintro e w1 ⟨rfl, hb⟩; obtain ⟨hz, hf, c0, c1, c2, c3⟩ := hZ.out.later hb; have HB := Lib.hid (bl_step hB.out hb); clear hb)))
          obtain ⟨k0, k1, k2, k3⟩ := set4 (.int .i64 0) (.int .i64 0) (.string ⟨#[]⟩) (.int .i64 0) c0 c1 c2 c3
          refine bodyPost_ret (v := .tuple #[.agg #[.int .i64 0, .int .i64 0, .string ⟨#[]⟩, .int .i64 0], .int .i64 0, .int .i64 20]) (by simp [results, Tryd.results31, go_sem, k0, k1, k2, k3]) rfl ⟨by rw [HV.out]; rfl, bl_set4 HB.out (Nat.le_refl _)⟩
        · have HXS := Lib.hid (hX.out.step hlt hq hp hn)
          have HU : Hid (u8s (acc ++ [UInt8.ofNat c.toNat]) = u8s acc ++ [.int .u8 c]) := Lib.hid (by simp only [u8s, List.map_append, List.map_cons, List.map_nil, u8_of c hc0 hc1])
          have hkn : k + n ≤ s.size := by omega
          clear hp hq
          have hacc : acc.length ≤ 140737488355328 := by omega
          generalize hL : acc.length = m at *
          have HL := Lib.hid hL
          clear hL
          go_wp2_with (first | (go_at_call 40; ((with_reducible refine (hasq_at s k false _ HQ).mono ?_); rintro e w' ⟨rfl, rfl⟩)) | (go_at_call 41; ((with_reducible refine (part_bl s k c n _ hs HP).mono ?_); rintro e w1 ⟨rfl, hb⟩; have HZ := Lib.hid (hZ.out.later hb); have HO := Lib.hid (owns_below hO.out hb); have HB := Lib.hid (bl_step hB.out hb); clear hb)) | (at_builtin; refine wpList_append_own _ rfl _ _ 49 rfl (w.heap.size + 1) 5 i0 (.int .u8 0) 1 1 Tryd.underlying49 HI.out HZ0.out HZ1.out HZ2.out rfl (by decide) _ _ _ rfl (HO.out.alloc _) ⟨w1.heap.size, 0, none⟩ 1 1 [.int .u8 c] rfl rfl (cell_one_new _ _ _) (fun x hx => by simp at hx; subst hx; rfl) (by unfold maxLen; omega) (by omega) (by have := HZ.out.1; simp; omega) ?_; intro v' w4 hown' hgrow4 hnil4; have OW4 := Lib.hid hown'; have G4 := Lib.hid hgrow4; clear hown' hgrow4 hnil4))
          have HLL : Hid ((acc ++ [UInt8.ofNat c.toNat]).length = m + 1) := Lib.hid (by rw [List.length_append, HL.out]; rfl)
          have hOW := OW4.out
          rw [← HU.out, ← HLL.out] at hOW
          have HOW := Lib.hid hOW
          clear hOW
          obtain ⟨a', c', e1, hS⟩ := row_own HOW.out
          subst e1
          clear hS
          have hz1 := HZ.out.1
          have B4 := Lib.hid (((Below.refl (w.heap.size + 1) w1).alloc (by omega) _).grown G4.out (by simp; omega) (own_base HO.out))
          have B0 := Lib.hid ((bl_alloc HB.out).grown G4.out (by simp; omega) (fun k hk => by have := own_base HO.out k hk; omega))
          go_roundw
          case rel => exact ⟨k + n, acc ++ [UInt8.ofNat c.toNat], a', c', hkn, by go_num, by rw [HLL.out]; omega, rfl, HOW, HXS, Lib.hid (HZ.out.low B4.out (by omega)), B0⟩
          case measure => simp [intOf]; omega
    · have HQ := Lib.hid (show (decide (k < s.size) && decide ((s.toList.drop k).head? = some 34)) = false by simp [hlt])
      have HP : Hid (partL (s.toList.drop k) = (0, 0)) := Lib.hid (by rw [drop_end s k hlt]; rfl)
      have HRR := Lib.hid (hX.out.end_ hlt)
      have HV := Lib.hid (textL_none HR.out HRR.out)
      go_wp2_with (first | (go_at_call 40; ((with_reducible refine (hasq_at s k false _ HQ).mono ?_); rintro e w' ⟨rfl, rfl⟩)) | (go_at_call 41; ((with_reducible refine (part_bl s k 0 0 _ hs HP).mono ?_); rintro e w1 ⟨rfl, hb⟩; obtain ⟨hz, hf, c0, c1, c2, c3⟩ := hZ.out.later hb; have HB := Lib.hid (bl_step hB.out hb); clear hb)))
      obtain ⟨k0, k1, k2, k3⟩ := set4 (.int .i64 0) (.int .i64 0) (.string ⟨#[]⟩) (.int .i64 0) c0 c1 c2 c3
      refine bodyPost_ret (v := .tuple #[.agg #[.int .i64 0, .int .i64 0, .string ⟨#[]⟩, .int .i64 0], .int .i64 0, .int .i64 20]) (by simp [results, Tryd.results31, go_sem, k0, k1, k2, k3]) rfl ⟨by rw [HV.out]; rfl, bl_set4 HB.out (Nat.le_refl _)⟩
end Go.Proofs.YtfhknnldkfngdaaDoor
