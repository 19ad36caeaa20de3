/- Lc, Lg, Lv -/
import Derived.Test.YtddleeenlpigfaaGreatDoorZ5
import Derived.Laws.BitsAllLaws
import Derived.Deep.RegionLaw
/- WALK of the reader's term. -/
namespace Go.Proofs.YtddleeenlpigfaaGreatDoor.Ec
open Go.RowKit
/-- A box of eight cells. -/
def Bx8 (w : World) (g : Nat) (h : Hr) : Prop := w.heap[g]? = some (.cells h.enc.toArray 31)
/-MARK-/
theorem heap_set {W : World} {b i : Nat} {vs : Array Value} {t : TypeId} {v : Value} (h : W.heap[b]? = some (.cells vs t)) : (W.setCell ⟨b, i, none⟩ v).heap[b]? = some (.cells (vs.setIfInBounds i v) t) := by
  obtain ⟨hlt, hk⟩ := Array.getElem?_eq_some_iff.1 h
  show (W.heap.modify b _)[b]? = _
  rw [Array.getElem?_eq_getElem (by rw [Array.size_modify]; exact hlt), Array.getElem_modify_self, hk]
  rfl
section
variable {B R g : Nat} {w w' : World} {h : Hr}
theorem Bx8.lt (k : Bx8 w g h) : g < w.heap.size := (Array.getElem?_eq_some_iff.1 k).1
theorem Bx8.keep (k : Bx8 w g h) (hk : Vn.Keep B w w') (hg : g ≠ B) : Bx8 w' g h := (hk.block g k.lt hg).trans k
theorem Bx8.kp2 (k : Bx8 w g h) (hk : Kp2 B R w w') (hB : g ≠ B) (hR : g ≠ R) : Bx8 w' g h := (hk.block g k.lt hB hR).trans k
theorem Bx8.below (k : Bx8 w g h) (hb : Below w.heap.size w w') : Bx8 w' g h := (hb.block g k.lt).trans k
theorem Bx8.other {b o : Nat} {v : Value} (k : Bx8 w g h) (hb : b ≠ g) : Bx8 (w.setCell ⟨b, o, none⟩ v) g h := (Below.heap_setCell w ⟨b, o, none⟩ v g (fun e => hb e.symm)).trans k
theorem Bx8.cells (k : Bx8 w g h) : T8 w g 0 h := by
  unfold Bx8 Hr.enc at k
  refine ⟨?_, ?_, ?_, ?_, ?_, ?_, ?_, ?_⟩ <;> simp [World.cell?, k]
theorem Bx8.fz (k : Bx8 w g h) (i : Nat) : w.frozen? ⟨g, i, none⟩ = false := by
  unfold Bx8 at k
  simp [World.frozen?, k]
end
theorem Bx8.set1 {w : World} {g : Nat} {k lo hi : Int} {s : ByteArray} {y m o : Bool} {fs : List (ByteArray × List Tm)} {f : Option Addr} {fl fc : Nat} (h : Bx8 w g ⟨.mk k lo hi s y m o fs, f, fl, fc⟩) (v : Int) : Bx8 (w.setCell ⟨g, 1, none⟩ (.int .i64 v)) g ⟨.mk k v hi s y m o fs, f, fl, fc⟩ := heap_set h
theorem Bx8.set2 {w : World} {g : Nat} {k lo hi : Int} {s : ByteArray} {y m o : Bool} {fs : List (ByteArray × List Tm)} {f : Option Addr} {fl fc : Nat} (h : Bx8 w g ⟨.mk k lo hi s y m o fs, f, fl, fc⟩) (v : Int) : Bx8 (w.setCell ⟨g, 2, none⟩ (.int .i64 v)) g ⟨.mk k lo v s y m o fs, f, fl, fc⟩ := heap_set h
theorem Bx8.set3 {w : World} {g : Nat} {k lo hi : Int} {s : ByteArray} {y m o : Bool} {fs : List (ByteArray × List Tm)} {f : Option Addr} {fl fc : Nat} (h : Bx8 w g ⟨.mk k lo hi s y m o fs, f, fl, fc⟩) (v : ByteArray) : Bx8 (w.setCell ⟨g, 3, none⟩ (.string v)) g ⟨.mk k lo hi v y m o fs, f, fl, fc⟩ := heap_set h
theorem Bx8.set7 {w : World} {g : Nat} {k lo hi : Int} {s : ByteArray} {y m o : Bool} {fs : List (ByteArray × List Tm)} {f : Option Addr} {fl fc : Nat} (h : Bx8 w g ⟨.mk k lo hi s y m o fs, f, fl, fc⟩) (gs : List (ByteArray × List Tm)) (f' : Option Addr) (fl' fc' : Nat) : Bx8 (w.setCell ⟨g, 7, none⟩ (.slice f' fl' fc')) g ⟨.mk k lo hi s y m o gs, f', fl', fc'⟩ := heap_set h
def put8 (w : World) (g : Nat) (h : Hr) : World := (((((((w.setCell ⟨g, 0, none⟩ (.int .i64 h.x.k)).setCell ⟨g, 1, none⟩ (.int .i64 h.x.lo)).setCell ⟨g, 2, none⟩ (.int .i64 h.x.hi)).setCell ⟨g, 3, none⟩ (.string h.x.s)).setCell ⟨g, 4, none⟩ (.bool h.x.y)).setCell ⟨g, 5, none⟩ (.bool h.x.m)).setCell ⟨g, 6, none⟩ (.bool h.x.o)).setCell ⟨g, 7, none⟩ (.slice h.f h.fl h.fc)
theorem Bx8.put {w : World} {g : Nat} {h0 : Hr} (k : Bx8 w g h0) (h : Hr) : Bx8 (put8 w g h) g h := by
  have h1 := heap_set (i := 0) (v := .int .i64 h.x.k) k
  have h2 := heap_set (i := 1) (v := .int .i64 h.x.lo) h1
  have h3 := heap_set (i := 2) (v := .int .i64 h.x.hi) h2
  have h4 := heap_set (i := 3) (v := .string h.x.s) h3
  have h5 := heap_set (i := 4) (v := .bool h.x.y) h4
  have h6 := heap_set (i := 5) (v := .bool h.x.m) h5
  have h7 := heap_set (i := 6) (v := .bool h.x.o) h6
  have h8 := heap_set (i := 7) (v := .slice h.f h.fl h.fc) h7
  unfold Bx8 put8
  rw [h8]
  simp [Hr.enc]
theorem put8_kp {B R g : Nat} {w w' : World} {h : Hr} (k : Kp2 B R w w') (hg : w.heap.size ≤ g) : Kp2 B R w (put8 w' g h) :=
  (((((((k.set (.inl hg)).set (.inl hg)).set (.inl hg)).set (.inl hg)).set (.inl hg)).set (.inl hg)).set (.inl hg)).set (.inl hg)
theorem put8_st {B R g p e room : Nat} {s : ByteArray} {w : World} {h : Hr} (k : St w B R s p e room) (hB : g ≠ B) (hR : g ≠ R) : St (put8 w g h) B R s p e room :=
  (((((((k.set hB hR).set hB hR).set hB hR).set hB hR).set hB hR).set hB hR).set hB hR).set hB hR
theorem okP_nil (P : Nat → Prop) (l : Nat) (w : World) {k lo hi : Int} {s : ByteArray} {y m o : Bool} {fc : Nat} {f : Option Addr} : Hr.okP P l w ⟨.mk k lo hi s y m o [], f, 0, fc⟩ := ⟨rfl, (by decide : ((0 : Nat) : Int) ≤ 9223372036854775807), fun i h => absurd h (Nat.not_lt_zero _)⟩
theorem put8_block (w : World) (g : Nat) (h : Hr) (k : Nat) (hk : k ≠ g) : (put8 w g h).heap[k]? = w.heap[k]? := by
  unfold put8
  repeat rw [Below.heap_setCell _ _ _ _ hk]
theorem put8_size (w : World) (g : Nat) (h : Hr) : (put8 w g h).heap.size = w.heap.size := by
  unfold put8
  simp [World.setCell]
theorem okP_fields {l N T o fl fc : Nat} {X w2 : World} {f : Option Addr} {fs : List (ByteArray × List Tm)} {v : Value} (k lo hi : Int) (t : ByteArray) (y m op : Bool) (h : InFP (fun b => X.heap.size ≤ b) (fun t tl tc V => InVP (fun b => X.heap.size ≤ b) w2 l t tl tc V) w2 f fl fs) (hT : T < X.heap.size) (hN : N < T) : Hr.okP (fun b => N < b) l (w2.setCell ⟨T, o, none⟩ v) ⟨.mk k lo hi t y m op fs, f, fl, fc⟩ :=
  Hr.okP.to (P := fun b => X.heap.size ≤ b) (w := w2) (h := ⟨.mk k lo hi t y m op fs, f, fl, fc⟩) (by simp [World.setCell]) (fun b hb _ => ⟨by omega, Below.heap_setCell w2 ⟨T, o, none⟩ v b (by intro e; simp at e; omega)⟩) h
/-- The end of term. -/
theorem term_done {B R l p e room p' e' room' N : Nat} {s : ByteArray} {w X : World} {h : Hr} (hS : St X B R s p' e' room') (hr : room' ≤ room) (hK : Kp2 B R w X) (hNw : w.heap.size ≤ N) (hB : N ≠ B) (hR : N ≠ R) (hok : h.okP (fun b => N < b) l X)
    (hnm : NmF l h.x.fs) (hst : Step s.data.toList p e p' e' (bT (bV l) h.x)) (he : e' = 0 → room = room' + wF l h.x.fs) (hw : ∀ x0 Q, Wants s.data.toList p e (bT (bV l) x0 ++ Q) → RdT (RdV l) x0 → wF l x0.fs ≤ room → h.x = x0 ∧ e' = 0) : TermP l B R s p e room w (.returned h.v) (put8 X N h) :=
  ⟨h, p', e', room', rfl, put8_st hS hB hR, hr, put8_kp hK hNw, hok.to (by rw [put8_size]; exact Nat.le_refl _) fun b hb _ => ⟨by omega, put8_block X N h b (by omega)⟩, hst, he, hnm, hw⟩
theorem and_small {n m k : Nat} (hk : n &&& k = n % 8) (h : k &&& m = m) : n &&& m = (n % 8) &&& m := by rw [← hk, Nat.and_assoc, h]
theorem and_7 (n : Nat) : n &&& 7 = n % 8 := Nat.and_two_pow_sub_one_eq_mod n 3
theorem and_tab : ∀ r : Nat, r < 8 → (r &&& 1 = r % 2) ∧ (r &&& 2 = if r / 2 % 2 = 1 then 2 else 0) ∧ (r &&& 4 = if r / 4 % 2 = 1 then 4 else 0) := by decide
/-- What the three masks tell. -/
theorem and_bits (n : Nat) (hn : n < 18446744073709551616) : ∃ x1 x2 x4 : Nat, x1 ≤ 4 ∧ x2 ≤ 4 ∧ x4 ≤ 4 ∧ bits .and .u64 (n : Int) 1 = (x1 : Int) ∧ bits .and .u64 (n : Int) 2 = (x2 : Int) ∧ bits .and .u64 (n : Int) 4 = (x4 : Int) ∧ ((x1 : Int) != 0) = (hdT n).2.2.1 ∧ ((x2 : Int) != 0) = (hdT n).2.1 ∧ ((x4 : Int) != 0) = (hdT n).2.2.2 := by
  obtain ⟨t1, t2, t4⟩ := and_tab (n % 8) (Nat.mod_lt _ (by decide))
  have e1 := and_small (and_7 n) (m := 1) (by decide)
  have e2 := and_small (and_7 n) (m := 2) (by decide)
  have e4 := and_small (and_7 n) (m := 4) (by decide)
  refine ⟨n &&& 1, n &&& 2, n &&& 4, ?_, ?_, ?_, u64_and_nat n 1 hn (by decide), u64_and_nat n 2 hn (by decide), u64_and_nat n 4 hn (by decide), ?_, ?_, ?_⟩
  · rw [e1, t1]; omega
  · rw [e2, t2]; split <;> omega
  · rw [e4, t4]; split <;> omega
  · rw [e1, t1, show n % 8 % 2 = n % 2 by omega]
    show _ = decide (n % 2 = 1)
    obtain h | h : n % 2 = 0 ∨ n % 2 = 1 := by omega
    · rw [h]; decide
    · rw [h]; decide
  · rw [e2, t2, show n % 8 / 2 % 2 = n / 2 % 2 by omega]
    show _ = decide (n / 2 % 2 = 1)
    obtain h | h : n / 2 % 2 = 0 ∨ n / 2 % 2 = 1 := by omega
    · rw [h]; decide
    · rw [h]; decide
  · rw [e4, t4, show n % 8 / 4 % 2 = n / 4 % 2 by omega]
    show _ = decide (n / 4 % 2 = 1)
    obtain h | h : n / 4 % 2 = 0 ∨ n / 4 % 2 = 1 := by omega
    · rw [h]; decide
    · rw [h]; decide
set_option maxRecDepth 100000 in
set_option maxHeartbeats 8000000 in
theorem term_step (l : Nat) (hl : l ≤ 16) (FH : FieldsH l) : TermH l := by
  intro w B R s p e room h hs hroom
  have HFH := Lib.hid FH
  have HST := Lib.hid (h.below (bl_alloc (Below.refl _ w) (o := .cells (Hr.enc ⟨.mk 0 0 0 ⟨#[]⟩ false false false [], none, 0, 0⟩).toArray 31)))
  obtain ⟨c0, -, -⟩ := h.bx.cells
  have HG0 := (Vn.get_any B s p e (s.data.toList.drop p) (w.alloc (.cells (Hr.enc ⟨.mk 0 0 0 ⟨#[]⟩ false false false [], none, 0, 0⟩).toArray 31)) HST.out.rd rfl h.pl (by omega))
  rw [← Vn.mostR_top] at HG0
  have hst := num_step (M := 18446744073709551615) (e := e) (S := s.data.toList) (p := p) h.pl
  have hwn := fun n Q => num_want (M := 18446744073709551615) (n := n) (R := Q) (e := e) (S := s.data.toList) (p := p) h.pl
  have hn64 := (num_le (M := 18446744073709551615) (e := e) (S := s.data.toList) (p := p)).2
  unfold nR at hst hwn hn64
  obtain ⟨⟨n, p1, e1⟩, hr⟩ : ∃ r, Vn.nxt p e (Vn.mostR 18446744073709551615 (s.data.toList.drop p)) = r := ⟨_, rfl⟩
  rw [hr] at HG0 hst hwn hn64
  dsimp only at HG0 hst hwn hn64
  have HG := Lib.hid HG0
  have HSN := Lib.hid hst
  have HWN := Lib.hid (fun (n0 : Nat) (Q : List UInt8) (h : Wants s.data.toList p e (Vn.nb n0 ++ Q)) (h47 : n0 ≤ 47) => hwn n0 Q h (by omega) (by omega))
  have HN64 := Lib.hid hn64
  obtain ⟨x1, x2, x4, hx1, hx2, hx4, a1, a2, a4, b1, b2, b4⟩ := and_bits n hn64
  have hlB := h.lt.1
  have hlR := h.lt.2
  have HSP := Lib.hid h.pl
  clear h FH HG0 hst hwn hr
  go_enter Tryz.func103, Tryz.ntmps103
  go_wp2_with fail
  go_at_call 132; refine HG.out.mono ?_; rintro en w1 ⟨rfl, hR1, hK1⟩
  have HS1 := Lib.hid (HST.out.next hR1 hK1 HSN.out.place)
  have HK1 := Lib.hid ((Kp2.of_below (B := B) (R := R) (bl_alloc (Below.refl _ w) (o := .cells (Hr.enc ⟨.mk 0 0 0 ⟨#[]⟩ false false false [], none, 0, 0⟩).toArray 31))).trans (Kp2.of_keep hK1))
  have HN1 := Lib.hid (Bx8.keep (show Bx8 _ w.heap.size ⟨.mk 0 0 0 ⟨#[]⟩ false false false [], none, 0, 0⟩ from w_new w _) hK1 (by omega))
  obtain ⟨kk, hkk⟩ : ∃ kk : Int, ((n / 8 : Nat) : Int) = kk := ⟨_, rfl⟩
  have hkk' : (n : Int) / 8 = kk := by rw [← hkk]; omega
  obtain ⟨y, hy⟩ : ∃ y, (hdT n).2.1 = y := ⟨_, rfl⟩
  obtain ⟨m, hm⟩ : ∃ m, (hdT n).2.2.1 = m := ⟨_, rfl⟩
  obtain ⟨o, ho⟩ : ∃ o, (hdT n).2.2.2 = o := ⟨_, rfl⟩
  rw [hy] at b2
  rw [hm] at b1
  rw [ho] at b4
  have HHD := Lib.hid (show hdT n = (kk, y, m, o) by rw [← hkk, ← hy, ← hm, ← ho]; rfl)
  have hkz : 0 ≤ kk := by omega
  have HKK := Lib.hid hkk'
  clear hkk hy hm ho hR1 hK1 HG HST hkk'
  go_upto_region 3 with fail
  rw [HKK.out]
  clear a1 a2 a4 b1 b2 b4 hx1 hx2 hx4
  obtain ⟨X, hX⟩ : ∃ X, w1.alloc (.cells #[.int .i64 kk, .int .i64 0, .int .i64 0, .string ⟨#[]⟩, .bool y, .bool m, .bool o, .slice none 0 0] 31) = X := ⟨_, rfl⟩
  have hbX : Below w1.heap.size w1 X := by rw [← hX]; exact bl_alloc (Below.refl _ _)
  have HT0 : Hid (Bx8 X w1.heap.size ⟨.mk kk 0 0 ⟨#[]⟩ y m o [], none, 0, 0⟩) := by rw [← hX]; exact w_new w1 _
  have HS0 := Lib.hid (HS1.out.below hbX)
  have HK0 := Lib.hid (HK1.out.trans (Kp2.of_below hbX))
  have HN0 := Lib.hid (HN1.out.below hbX)
  have hlT : w.heap.size < w1.heap.size := by have := HN1.out.lt; exact this
  rw [hX]
  obtain ⟨T, hT⟩ : ∃ T, w1.heap.size = T := ⟨_, rfl⟩
  rw [hT] at HT0 hlT ⊢
  clear hX hbX HS1 HK1 HN1 hT c0
  obtain ⟨t0, t1, t2, t3, t4, t5, t6, t7⟩ := HT0.out.cells
  dsimp only [Tm.k, Tm.lo, Tm.hi, Tm.s, Tm.y, Tm.m, Tm.o] at t0 t1 t2 t3 t4 t5 t6 t7
  simp only [Nat.zero_add] at t1 t2 t3 t4 t5 t6 t7
  have fT := HT0.out.fz
  obtain ⟨c0, -, -⟩ := HS0.out.bx.cells
  obtain hk1 | hk1 | hk1 | hk1 | hk1 : kk = 1 ∨ kk = 2 ∨ kk = 3 ∨ kk = 4 ∨ (kk ≠ 1 ∧ kk ≠ 2 ∧ kk ≠ 3 ∧ kk ≠ 4) := by omega
  · subst hk1
    obtain ⟨a, p2, e2, hc2, st2, wn2⟩ := int_call HS0.out hs
    have HC2 := Lib.hid hc2; have ST2 := Lib.hid st2; have WN2 := Lib.hid wn2; clear hc2 st2 wn2
    go_wp2_with fail
    go_at_call 133; refine HC2.out.mono ?_; rintro en w2 ⟨rfl, hS2, hK2⟩
    clear t0 t1 t2 t3 t4 t5 t6 t7 fT c0
    have HT2 := Lib.hid ((HT0.out.keep hK2 (by omega)).set1 (Vn.usg a))
    have HN2 := Lib.hid ((HN0.out.keep hK2 (by omega)).other (b := T) (o := 1) (v := .int .i64 (Vn.usg a)) (by omega))
    have HK2 := Lib.hid ((HK0.out.trans (Kp2.of_keep hK2)).set (b := T) (o := 1) (v := .int .i64 (Vn.usg a)) (.inl (by omega)))
    have HS2 := Lib.hid (hS2.set (b := T) (o := 1) (v := .int .i64 (Vn.usg a)) (by omega) (by omega))
    have fT : ∀ i, w2.frozen? ⟨T, i, none⟩ = false := (HT0.out.keep hK2 (by omega)).fz
    obtain ⟨-, t1, -⟩ := (HT0.out.keep hK2 (by omega)).cells
    obtain ⟨c0, -, -⟩ := HS2.out.bx.cells
    clear hS2 hK2 HS0 HT0 HN0 HK0 HC2
    obtain ⟨b, p3, e3, hc3, st3, wn3⟩ := int_call HS2.out hs
    have HC3 := Lib.hid hc3; have ST3 := Lib.hid st3; have WN3 := Lib.hid wn3; clear hc3 st3 wn3
    go_wp2_with fail
    go_at_call 133; refine HC3.out.mono ?_; rintro en w3 ⟨rfl, hS3, hK3⟩
    clear t1 fT c0
    have HT3 := Lib.hid ((HT2.out.keep hK3 (by omega)).set2 (Vn.usg b))
    have HN3 := Lib.hid ((HN2.out.keep hK3 (by omega)).other (b := T) (o := 2) (v := .int .i64 (Vn.usg b)) (by omega))
    have HK3 := Lib.hid ((HK2.out.trans (Kp2.of_keep hK3)).set (b := T) (o := 2) (v := .int .i64 (Vn.usg b)) (.inl (by omega)))
    have HS3 := Lib.hid (hS3.set (b := T) (o := 2) (v := .int .i64 (Vn.usg b)) (by omega) (by omega))
    have fT : ∀ i, w3.frozen? ⟨T, i, none⟩ = false := (HT2.out.keep hK3 (by omega)).fz
    obtain ⟨-, -, t2, -⟩ := (HT2.out.keep hK3 (by omega)).cells
    clear hS3 hK3 HS2 HT2 HN2 HK2 HC3
    go_upto_region 12 with fail
    obtain ⟨Z, hZ⟩ : ∃ Z, w3.setCell ⟨T, 2, none⟩ (.int .i64 (Vn.usg b)) = Z := ⟨_, rfl⟩
    rw [hZ] at HT3 HN3 HK3 HS3 ⊢
    obtain ⟨N, hN⟩ : ∃ N, w.heap.size = N := ⟨_, rfl⟩
    rw [hN] at HN3 hlB hlR hlT ⊢
    clear hZ t2 fT
    obtain ⟨t0, t1, t2, t3, t4, t5, t6, t7⟩ := HT3.out.cells
    dsimp only [Tm.k, Tm.lo, Tm.hi, Tm.s, Tm.y, Tm.m, Tm.o] at t0 t1 t2 t3 t4 t5 t6 t7
    simp only [Nat.zero_add] at t1 t2 t3 t4 t5 t6 t7
    have fN := HN3.out.fz
    obtain ⟨m0, m1, m2, m3, m4, m5, m6, m7⟩ := HN3.out.cells
    dsimp only [Tm.k, Tm.lo, Tm.hi, Tm.s, Tm.y, Tm.m, Tm.o] at m0 m1 m2 m3 m4 m5 m6 m7
    simp only [Nat.zero_add] at m1 m2 m3 m4 m5 m6 m7
    go_wp2_with fail
    obtain ⟨n0, n1, n2, n3, n4, n5, n6, n7⟩ := (Bx8.put HN3.out ⟨.mk 1 (Vn.usg a) (Vn.usg b) ⟨#[]⟩ y m o [], none, 0, 0⟩).cells
    unfold put8 at n0 n1 n2 n3 n4 n5 n6 n7
    dsimp only [Tm.k, Tm.lo, Tm.hi, Tm.s, Tm.y, Tm.m, Tm.o] at n0 n1 n2 n3 n4 n5 n6 n7
    simp only [Nat.zero_add] at n1 n2 n3 n4 n5 n6 n7
    refine bodyPost_ret (v := Hr.v ⟨.mk 1 (Vn.usg a) (Vn.usg b) ⟨#[]⟩ y m o [], none, 0, 0⟩) (by simp [results, Tryz.results103, go_sem, n0, n1, n2, n3, n4, n5, n6, n7, Tm.k, Tm.lo, Tm.hi, Tm.s, Tm.y, Tm.m, Tm.o]) rfl ?_
    refine term_done (h := ⟨.mk 1 (Vn.usg a) (Vn.usg b) ⟨#[]⟩ y m o [], none, 0, 0⟩) HS3.out (Nat.le_refl _) HK3.out (Nat.le_of_eq hN) (by omega) (by omega) (okP_nil _ _ _) (nmF_nil _) ?_ ?_ ?_
    · exact int_step (by decide) HSN.out HHD.out ST2.out ST3.out
    · exact fun _ => rfl
    · exact fun x0 Q hw hr _ => int_want (by decide) HWN.out HHD.out WN2.out WN3.out hw hr
  · subst hk1
    obtain ⟨a, p2, e2, hc2, st2, wn2⟩ := int_call HS0.out hs
    have HC2 := Lib.hid hc2; have ST2 := Lib.hid st2; have WN2 := Lib.hid wn2; clear hc2 st2 wn2
    go_wp2_with fail
    go_at_call 133; refine HC2.out.mono ?_; rintro en w2 ⟨rfl, hS2, hK2⟩
    clear t0 t1 t2 t3 t4 t5 t6 t7 fT c0
    have HT2 := Lib.hid ((HT0.out.keep hK2 (by omega)).set1 (Vn.usg a))
    have HN2 := Lib.hid ((HN0.out.keep hK2 (by omega)).other (b := T) (o := 1) (v := .int .i64 (Vn.usg a)) (by omega))
    have HK2 := Lib.hid ((HK0.out.trans (Kp2.of_keep hK2)).set (b := T) (o := 1) (v := .int .i64 (Vn.usg a)) (.inl (by omega)))
    have HS2 := Lib.hid (hS2.set (b := T) (o := 1) (v := .int .i64 (Vn.usg a)) (by omega) (by omega))
    have fT : ∀ i, w2.frozen? ⟨T, i, none⟩ = false := (HT0.out.keep hK2 (by omega)).fz
    obtain ⟨-, t1, -⟩ := (HT0.out.keep hK2 (by omega)).cells
    obtain ⟨c0, -, -⟩ := HS2.out.bx.cells
    clear hS2 hK2 HS0 HT0 HN0 HK0 HC2
    obtain ⟨b, p3, e3, hc3, st3, wn3⟩ := int_call HS2.out hs
    have HC3 := Lib.hid hc3; have ST3 := Lib.hid st3; have WN3 := Lib.hid wn3; clear hc3 st3 wn3
    go_wp2_with fail
    go_at_call 133; refine HC3.out.mono ?_; rintro en w3 ⟨rfl, hS3, hK3⟩
    clear t1 fT c0
    have HT3 := Lib.hid ((HT2.out.keep hK3 (by omega)).set2 (Vn.usg b))
    have HN3 := Lib.hid ((HN2.out.keep hK3 (by omega)).other (b := T) (o := 2) (v := .int .i64 (Vn.usg b)) (by omega))
    have HK3 := Lib.hid ((HK2.out.trans (Kp2.of_keep hK3)).set (b := T) (o := 2) (v := .int .i64 (Vn.usg b)) (.inl (by omega)))
    have HS3 := Lib.hid (hS3.set (b := T) (o := 2) (v := .int .i64 (Vn.usg b)) (by omega) (by omega))
    have fT : ∀ i, w3.frozen? ⟨T, i, none⟩ = false := (HT2.out.keep hK3 (by omega)).fz
    obtain ⟨-, -, t2, -⟩ := (HT2.out.keep hK3 (by omega)).cells
    clear hS3 hK3 HS2 HT2 HN2 HK2 HC3
    go_upto_region 12 with fail
    obtain ⟨Z, hZ⟩ : ∃ Z, w3.setCell ⟨T, 2, none⟩ (.int .i64 (Vn.usg b)) = Z := ⟨_, rfl⟩
    rw [hZ] at HT3 HN3 HK3 HS3 ⊢
    obtain ⟨N, hN⟩ : ∃ N, w.heap.size = N := ⟨_, rfl⟩
    rw [hN] at HN3 hlB hlR hlT ⊢
    clear hZ t2 fT
    obtain ⟨t0, t1, t2, t3, t4, t5, t6, t7⟩ := HT3.out.cells
    dsimp only [Tm.k, Tm.lo, Tm.hi, Tm.s, Tm.y, Tm.m, Tm.o] at t0 t1 t2 t3 t4 t5 t6 t7
    simp only [Nat.zero_add] at t1 t2 t3 t4 t5 t6 t7
    have fN := HN3.out.fz
    obtain ⟨m0, m1, m2, m3, m4, m5, m6, m7⟩ := HN3.out.cells
    dsimp only [Tm.k, Tm.lo, Tm.hi, Tm.s, Tm.y, Tm.m, Tm.o] at m0 m1 m2 m3 m4 m5 m6 m7
    simp only [Nat.zero_add] at m1 m2 m3 m4 m5 m6 m7
    go_wp2_with fail
    obtain ⟨n0, n1, n2, n3, n4, n5, n6, n7⟩ := (Bx8.put HN3.out ⟨.mk 2 (Vn.usg a) (Vn.usg b) ⟨#[]⟩ y m o [], none, 0, 0⟩).cells
    unfold put8 at n0 n1 n2 n3 n4 n5 n6 n7
    dsimp only [Tm.k, Tm.lo, Tm.hi, Tm.s, Tm.y, Tm.m, Tm.o] at n0 n1 n2 n3 n4 n5 n6 n7
    simp only [Nat.zero_add] at n1 n2 n3 n4 n5 n6 n7
    refine bodyPost_ret (v := Hr.v ⟨.mk 2 (Vn.usg a) (Vn.usg b) ⟨#[]⟩ y m o [], none, 0, 0⟩) (by simp [results, Tryz.results103, go_sem, n0, n1, n2, n3, n4, n5, n6, n7, Tm.k, Tm.lo, Tm.hi, Tm.s, Tm.y, Tm.m, Tm.o]) rfl ?_
    refine term_done (h := ⟨.mk 2 (Vn.usg a) (Vn.usg b) ⟨#[]⟩ y m o [], none, 0, 0⟩) HS3.out (Nat.le_refl _) HK3.out (Nat.le_of_eq hN) (by omega) (by omega) (okP_nil _ _ _) (nmF_nil _) ?_ ?_ ?_
    · exact int_step (by decide) HSN.out HHD.out ST2.out ST3.out
    · exact fun _ => rfl
    · exact fun x0 Q hw hr _ => int_want (by decide) HWN.out HHD.out WN2.out WN3.out hw hr
  · subst hk1
    obtain ⟨a, p2, e2, hc2, -, st2, wn2⟩ := text_call 256 (by decide) HS0.out hs
    have HC2 := Lib.hid hc2; have ST2 := Lib.hid st2; have WN2 := Lib.hid wn2; clear hc2 st2 wn2
    go_wp2_with fail
    go_at_call 134; refine HC2.out.mono ?_; rintro en w2 ⟨rfl, hS2, hK2⟩
    clear t0 t1 t2 t3 t4 t5 t6 t7 fT c0
    have HT2 := Lib.hid ((HT0.out.keep hK2 (by omega)).set3 a)
    have HN2 := Lib.hid ((HN0.out.keep hK2 (by omega)).other (b := T) (o := 3) (v := .string a) (by omega))
    have HK2 := Lib.hid ((HK0.out.trans (Kp2.of_keep hK2)).set (b := T) (o := 3) (v := .string a) (.inl (by omega)))
    have HS2 := Lib.hid (hS2.set (b := T) (o := 3) (v := .string a) (by omega) (by omega))
    have fT : ∀ i, w2.frozen? ⟨T, i, none⟩ = false := (HT0.out.keep hK2 (by omega)).fz
    obtain ⟨-, -, -, t3, -⟩ := (HT0.out.keep hK2 (by omega)).cells
    clear hS2 hK2 HS0 HT0 HN0 HK0 HC2
    go_upto_region 12 with fail
    obtain ⟨Z, hZ⟩ : ∃ Z, w2.setCell ⟨T, 3, none⟩ (.string a) = Z := ⟨_, rfl⟩
    rw [hZ] at HT2 HN2 HK2 HS2 ⊢
    obtain ⟨N, hN⟩ : ∃ N, w.heap.size = N := ⟨_, rfl⟩
    rw [hN] at HN2 hlB hlR hlT ⊢
    clear hZ t3 fT
    obtain ⟨t0, t1, t2, t3, t4, t5, t6, t7⟩ := HT2.out.cells
    dsimp only [Tm.k, Tm.lo, Tm.hi, Tm.s, Tm.y, Tm.m, Tm.o] at t0 t1 t2 t3 t4 t5 t6 t7
    simp only [Nat.zero_add] at t1 t2 t3 t4 t5 t6 t7
    have fN := HN2.out.fz
    obtain ⟨m0, m1, m2, m3, m4, m5, m6, m7⟩ := HN2.out.cells
    dsimp only [Tm.k, Tm.lo, Tm.hi, Tm.s, Tm.y, Tm.m, Tm.o] at m0 m1 m2 m3 m4 m5 m6 m7
    simp only [Nat.zero_add] at m1 m2 m3 m4 m5 m6 m7
    go_wp2_with fail
    obtain ⟨n0, n1, n2, n3, n4, n5, n6, n7⟩ := (Bx8.put HN2.out ⟨.mk 3 0 0 a y m o [], none, 0, 0⟩).cells
    unfold put8 at n0 n1 n2 n3 n4 n5 n6 n7
    dsimp only [Tm.k, Tm.lo, Tm.hi, Tm.s, Tm.y, Tm.m, Tm.o] at n0 n1 n2 n3 n4 n5 n6 n7
    simp only [Nat.zero_add] at n1 n2 n3 n4 n5 n6 n7
    refine bodyPost_ret (v := Hr.v ⟨.mk 3 0 0 a y m o [], none, 0, 0⟩) (by simp [results, Tryz.results103, go_sem, n0, n1, n2, n3, n4, n5, n6, n7, Tm.k, Tm.lo, Tm.hi, Tm.s, Tm.y, Tm.m, Tm.o]) rfl ?_
    refine term_done (h := ⟨.mk 3 0 0 a y m o [], none, 0, 0⟩) HS2.out (Nat.le_refl _) HK2.out (Nat.le_of_eq hN) (by omega) (by omega) (okP_nil _ _ _) (nmF_nil _) ?_ ?_ ?_
    · exact hd_step HSN.out HHD.out (by rw [bB_text]; exact ST2.out)
    · exact fun _ => rfl
    · exact fun x0 Q hw hr _ => text_want' HWN.out HHD.out WN2.out hw hr
  · subst hk1
    have HC2 := Lib.hid (HFH.out X B R s p1 e1 room HS0.out hs hroom)
    go_wp2_with fail
    go_at_call 135; refine HC2.out.mono ?_; rintro en w2 ⟨f, fl, fc, fs, p2, e2, room2, rfl, hS2, hr2, hK2, hF2, st2, he2, nm2, wn2⟩
    have NM2 := Lib.hid nm2; clear nm2
    have ST2 := Lib.hid st2; have WN2 := Lib.hid wn2; clear st2 wn2
    clear t0 t1 t2 t3 t4 t5 t6 t7 fT c0
    have HT2 := Lib.hid ((HT0.out.kp2 hK2 (by omega) (by omega)).set7 fs f fl fc)
    have HN2 := Lib.hid ((HN0.out.kp2 hK2 (by omega) (by omega)).other (b := T) (o := 7) (v := .slice f fl fc) (by omega))
    have HK2 := Lib.hid ((HK0.out.trans hK2).set (b := T) (o := 7) (v := .slice f fl fc) (.inl (by omega)))
    have HS2 := Lib.hid (hS2.set (b := T) (o := 7) (v := .slice f fl fc) (by omega) (by omega))
    have HO := Lib.hid (okP_fields (fc := fc) (o := 7) (v := .slice f fl fc) 4 0 0 ⟨#[]⟩ y m o hF2 HT0.out.lt hlT)
    have fT : ∀ i, w2.frozen? ⟨T, i, none⟩ = false := (HT0.out.kp2 hK2 (by omega) (by omega)).fz
    obtain ⟨-, -, -, -, -, -, -, t7⟩ := (HT0.out.kp2 hK2 (by omega) (by omega)).cells
    clear hS2 hK2 HS0 HT0 HN0 HK0 HC2 hF2
    go_upto_region 12 with fail
    obtain ⟨Z, hZ⟩ : ∃ Z, w2.setCell ⟨T, 7, none⟩ (.slice f fl fc) = Z := ⟨_, rfl⟩
    rw [hZ] at HT2 HN2 HK2 HS2 HO ⊢
    obtain ⟨N, hN⟩ : ∃ N, w.heap.size = N := ⟨_, rfl⟩
    rw [hN] at HN2 hlB hlR hlT HO ⊢
    clear hZ t7 fT
    obtain ⟨t0, t1, t2, t3, t4, t5, t6, t7⟩ := HT2.out.cells
    dsimp only [Tm.k, Tm.lo, Tm.hi, Tm.s, Tm.y, Tm.m, Tm.o] at t0 t1 t2 t3 t4 t5 t6 t7
    simp only [Nat.zero_add] at t1 t2 t3 t4 t5 t6 t7
    have fN := HN2.out.fz
    obtain ⟨m0, m1, m2, m3, m4, m5, m6, m7⟩ := HN2.out.cells
    dsimp only [Tm.k, Tm.lo, Tm.hi, Tm.s, Tm.y, Tm.m, Tm.o] at m0 m1 m2 m3 m4 m5 m6 m7
    simp only [Nat.zero_add] at m1 m2 m3 m4 m5 m6 m7
    go_wp2_with fail
    obtain ⟨n0, n1, n2, n3, n4, n5, n6, n7⟩ := (Bx8.put HN2.out ⟨.mk 4 0 0 ⟨#[]⟩ y m o fs, f, fl, fc⟩).cells
    unfold put8 at n0 n1 n2 n3 n4 n5 n6 n7
    dsimp only [Tm.k, Tm.lo, Tm.hi, Tm.s, Tm.y, Tm.m, Tm.o] at n0 n1 n2 n3 n4 n5 n6 n7
    simp only [Nat.zero_add] at n1 n2 n3 n4 n5 n6 n7
    refine bodyPost_ret (v := Hr.v ⟨.mk 4 0 0 ⟨#[]⟩ y m o fs, f, fl, fc⟩) (by simp [results, Tryz.results103, go_sem, n0, n1, n2, n3, n4, n5, n6, n7, Tm.k, Tm.lo, Tm.hi, Tm.s, Tm.y, Tm.m, Tm.o]) rfl ?_
    refine term_done (h := ⟨.mk 4 0 0 ⟨#[]⟩ y m o fs, f, fl, fc⟩) HS2.out hr2 HK2.out (Nat.le_of_eq hN) (by omega) (by omega) HO.out NM2.out ?_ ?_ ?_
    · exact hd_step HSN.out HHD.out (by rw [bB_struct]; exact ST2.out)
    · exact he2
    · exact fun x0 Q hw hr hz => struct_want HWN.out HHD.out WN2.out hw hr hz
  · skip
    obtain ⟨h1, h2, h3, h4⟩ := hk1
    have d1 : (kk == (1 : Int)) = false := by rw [beq_eq_false_iff_ne]; exact h1
    have d2 : (kk == (2 : Int)) = false := by rw [beq_eq_false_iff_ne]; exact h2
    have d3 : (kk == (3 : Int)) = false := by rw [beq_eq_false_iff_ne]; exact h3
    have d4 : (kk == (4 : Int)) = false := by rw [beq_eq_false_iff_ne]; exact h4
    go_upto_region 12 with fail
    obtain ⟨Z, hZ⟩ : ∃ Z, X = Z := ⟨_, rfl⟩
    rw [hZ] at HT0 HN0 HK0 HS0 ⊢
    obtain ⟨N, hN⟩ : ∃ N, w.heap.size = N := ⟨_, rfl⟩
    rw [hN] at HN0 hlB hlR hlT ⊢
    clear hZ c0 t0 t1 t2 t3 t4 t5 t6 t7 fT
    obtain ⟨t0, t1, t2, t3, t4, t5, t6, t7⟩ := HT0.out.cells
    dsimp only [Tm.k, Tm.lo, Tm.hi, Tm.s, Tm.y, Tm.m, Tm.o] at t0 t1 t2 t3 t4 t5 t6 t7
    simp only [Nat.zero_add] at t1 t2 t3 t4 t5 t6 t7
    have fN := HN0.out.fz
    obtain ⟨m0, m1, m2, m3, m4, m5, m6, m7⟩ := HN0.out.cells
    dsimp only [Tm.k, Tm.lo, Tm.hi, Tm.s, Tm.y, Tm.m, Tm.o] at m0 m1 m2 m3 m4 m5 m6 m7
    simp only [Nat.zero_add] at m1 m2 m3 m4 m5 m6 m7
    go_wp2_with fail
    obtain ⟨n0, n1, n2, n3, n4, n5, n6, n7⟩ := (Bx8.put HN0.out ⟨.mk kk 0 0 ⟨#[]⟩ y m o [], none, 0, 0⟩).cells
    unfold put8 at n0 n1 n2 n3 n4 n5 n6 n7
    dsimp only [Tm.k, Tm.lo, Tm.hi, Tm.s, Tm.y, Tm.m, Tm.o] at n0 n1 n2 n3 n4 n5 n6 n7
    simp only [Nat.zero_add] at n1 n2 n3 n4 n5 n6 n7
    refine bodyPost_ret (v := Hr.v ⟨.mk kk 0 0 ⟨#[]⟩ y m o [], none, 0, 0⟩) (by simp [results, Tryz.results103, go_sem, n0, n1, n2, n3, n4, n5, n6, n7, Tm.k, Tm.lo, Tm.hi, Tm.s, Tm.y, Tm.m, Tm.o]) rfl ?_
    refine term_done (h := ⟨.mk kk 0 0 ⟨#[]⟩ y m o [], none, 0, 0⟩) HS0.out (Nat.le_refl _) HK0.out (Nat.le_of_eq hN) (by omega) (by omega) (okP_nil _ _ _) (nmF_nil _) ?_ ?_ ?_
    · exact hd_step HSN.out HHD.out (by rw [bB_else h1 h2 h3 h4]; exact Step.refl _ HS0.out.pl)
    · exact fun _ => rfl
    · exact fun x0 Q hw hr _ => else_want h1 h2 h3 h4 HWN.out HHD.out hw hr
end Go.Proofs.YtddleeenlpigfaaGreatDoor.Ec
/- WALK of the reader's fields. -/
namespace Go.Proofs.YtddleeenlpigfaaGreatDoor.Ec
open Go.RowKit
theorem encF_one (h : Fh) : ∀ v ∈ h.enc, v.oneCell' = true := fun v hv => by
  simp only [Fh.enc, List.mem_cons, List.not_mem_nil, or_false] at hv
  rcases hv with rfl | rfl <;> rfl
/-- One field's header more. -/
theorem ownFh_grow {w : World} {B : Nat} {u : Value} {L : List Fh} (ho : OwnFh w B u L) (hby : (L.length + 1) * 40 ≤ 140737488355328) (hB : B ≤ w.heap.size) (h : Fh) :
    ∃ (g cap : Nat) (w4 : World), (Builtin.append_ #[29, 29] 29 #[u, .slice (some ⟨w.heap.size, 0, none⟩) 1 1]).run Tryz.prog (w.alloc (.cells h.enc.toArray 59)) = .ok (.slice (some ⟨g, 0, none⟩) (L.length + 1) cap) w4 ∧ Below B w w4 ∧ OwnFh w4 B (.slice (some ⟨g, 0, none⟩) (L.length + 1) cap) (L ++ [h]) ∧
      (∀ b, b < w.heap.size → u.ownBlock ≠ some b → w4.heap[b]? = w.heap[b]?) ∧ (u.ownBlock = some g ∨ w.heap.size ≤ g) ∧ w.heap.size ≤ w4.heap.size := by
  obtain ⟨i0, hi, hx⟩ := Option.map_eq_some_iff.1 info59'
  simp only [Prod.mk.injEq] at hx
  obtain ⟨hz0, hz1, hz2⟩ := hx
  have ha := bl_alloc (o := .cells h.enc.toArray 59) (Below.refl w.heap.size w)
  obtain ⟨g, cap, w4, hap, hown, hgrow, hloc, hlt⟩ := run_append_lies (P := Tryz.prog) (w.alloc (.cells h.enc.toArray 59)) 29 29 B 59 i0 _ 2 40 Tryz.underlying29 hi hz0 hz1 hz2 rfl (by omega) u L.length (L.map Fh.enc).flatten (owns_below ho ha)
    ⟨w.heap.size, 0, none⟩ 1 1 h.enc (encF_len h) (World.news_of_block (cs := h.enc.toArray) (t := 59) (fr := (0, 0)) (heap_new w _)) (encF_one h) (by omega) (by unfold maxLen; omega) hby (by simp; omega) (w.heap.size + 1) (by simp)
  refine ⟨g, cap, w4, hap, (ha.mono hB).trans ((Below.refl B _).grown hgrow (by simp; omega) (fun k hk => (ho.lt k hk).1)), ?_, fun b hb hne => ?_, ?_, ?_⟩
  · unfold OwnFh
    rw [List.map_append, List.flatten_append, List.length_append]
    simpa using hown
  · rw [hgrow.block b (by simp; omega) (fun e => hne e.symm)]
    exact ha.block b hb
  · rcases hloc with h | h
    · exact .inl h
    · exact .inr (by omega)
  · have := hgrow.size; simp at this; omega
theorem owns_kp {B R : Nat} {w w' : World} {base E size n : Nat} {v : Value} {xs : List Value} (h : w.ownsRow base E size v n xs) (hk : Kp2 B R w w') (hB : B < base) (hR : R < base) : w'.ownsRow base E size v n xs := by
  obtain ⟨h1, h2⟩ := h
  refine ⟨h1, ?_⟩
  rcases h2 with h2 | ⟨g, cap, cur, hv, hg, hh, r⟩
  · exact Or.inl h2
  · exact Or.inr ⟨g, cap, cur, hv, hg, by rw [hk.block g (Array.getElem?_eq_some_iff.1 hh).1 (by omega) (by omega)]; exact hh, r⟩
theorem st_in {B R p e room base : Nat} {s : ByteArray} {w w' : World} (h : St w B R s p e room) (hb : Below base w w') (hB : B < base) (hR : R < base) : St w' B R s p e room := ⟨(hb.block _ hB).trans h.rd, (hb.block _ hR).trans h.bx, h.pl, h.ne⟩
theorem kp_in {B R : Nat} {w0 w w' : World} (h : Kp2 B R w0 w) (hb : Below w0.heap.size w w') : Kp2 B R w0 w' := ⟨hb.os.trans h.os, hb.tape.trans h.tape, hb.output.trans h.output, Nat.le_trans h.size hb.size, fun k hk hB hR => (hb.block k hk).trans (h.block k hk hB hR)⟩
section
variable {B R l g base : Nat} {wr W4 w5 : World} {u u' : Value} {t : Option Addr} {tl tc : Nat} {V : List Tm}
theorem ok_old (hk : Kp2 B R wr W4) (hB : B < base) (hR : R < base) (hs5 : W4.heap.size ≤ w5.heap.size) (h5 : ∀ b, b < W4.heap.size → u.ownBlock ≠ some b → w5.heap[b]? = W4.heap[b]?) (hg : u'.ownBlock = some g) (hg' : u.ownBlock = some g ∨ W4.heap.size ≤ g) (h : InVP (fun b => base ≤ b ∧ u.ownBlock ≠ some b) wr l t tl tc V) : InVP (fun b => base ≤ b ∧ u'.ownBlock ≠ some b) w5 l t tl tc V :=
  h.to (Nat.le_trans hk.size hs5) fun b hb lt => by
    have l4 := Nat.lt_of_lt_of_le lt hk.size
    refine ⟨⟨hb.1, fun e => ?_⟩, (h5 b l4 hb.2).trans (hk.block b lt (by omega) (by omega))⟩
    rw [hg] at e
    have e := Option.some.inj e
    rcases hg' with h | h
    · exact hb.2 (by rw [h, e])
    · omega
theorem ok_new {G x o : Nat} {w3 : World} {v : Value} (hx : base ≤ x) (hG : G < x) (hu : ∀ k, u.ownBlock = some k → k < x) (hs5 : w3.heap.size ≤ w5.heap.size) (h5 : ∀ b, b < w3.heap.size → u.ownBlock ≠ some b → w5.heap[b]? = (w3.setCell ⟨G, o, none⟩ v).heap[b]?) (hg : u'.ownBlock = some g) (hg' : u.ownBlock = some g ∨ w3.heap.size ≤ g) (h : InVP (fun b => x ≤ b) w3 l t tl tc V) : InVP (fun b => base ≤ b ∧ u'.ownBlock ≠ some b) w5 l t tl tc V :=
  h.to hs5 fun b hb lt => by
    have hn : u.ownBlock ≠ some b := fun e => by have := hu b e; omega
    refine ⟨⟨by omega, fun e => ?_⟩, (h5 b lt hn).trans (Below.heap_setCell w3 ⟨G, o, none⟩ v b (by intro e; simp at e; omega))⟩
    rw [hg] at e
    have e := Option.some.inj e
    rcases hg' with h | h
    · exact hn (by rw [h, e])
    · omega
end
set_option maxRecDepth 100000 in
set_option maxHeartbeats 8000000 in
theorem fields_step (l : Nat) (hl : l ≤ 16) (VH : 0 < l → ValH l) : FieldsH l := by
  intro w B R s p e room h hs hroom
  have HVH := Lib.hid VH
  have HST := Lib.hid h
  obtain ⟨c0, -, -⟩ := h.bx.cells
  have hlB := h.lt.1
  have hlR := h.lt.2
  clear VH
  by_cases hl0 : l = 0
  · subst hl0
    obtain ⟨n, p1, e1, hc1, hnM, st1, wn1⟩ := most_call 0 (by decide) h hs
    have HC1 := Lib.hid hc1; have ST1 := Lib.hid st1; have WN1 := Lib.hid wn1; clear h hc1 st1 wn1
    go_enter Tryz.func135, Tryz.ntmps135
    go_wp2_with fail
    go_at_call 101; refine HC1.out.mono ?_; rintro en w1 ⟨rfl, hS1, hK1⟩
    have HI0 := Lib.hid (FI.start (l := 0) (M := 0) hS1 (Kp2.of_keep hK1) ST1.out (by simp) WN1.out)
    clear hS1 hK1 HC1 ST1 WN1 c0 HST
    go_wp2_with fail
    go_loopw [6, 16] (fun u i wr => ∃ (L : List Fh) (p' e' room' : Nat), L.length ≤ n ∧ i = .int .u64 (L.length : Int) ∧ Hid (FI 0 B R s p e room w n L u wr p' e' room')) (fun _ i _ => n - (intOf i).toNat)
    case atStart => exact ⟨[], p1, e1, room, Nat.zero_le _, rfl, HI0⟩
    case round =>
      clear HI0
      obtain ⟨L, p', e', room', hLn, rfl, hI⟩ := hrel
      rename World => wr
      rename Value => u
      have HI := Lib.hid hI.out
      clear hI
      obtain ⟨q0, -, -⟩ := HI.out.st.bx.cells
      by_cases hlt : L.length < n
      · omega
      · have hki : ¬ (L.length : Int) < (n : Int) := by omega
        obtain ⟨a, cap, hu, -⟩ := HI.out.own.row
        subst hu
        go_wp2_with fail
        go_ret
        exact HI.out.done (by omega) (.inl (by omega))
  · have dl : ((l : Int) == (0 : Int)) = false := by rw [beq_eq_false_iff_ne]; omega
    obtain ⟨n, p1, e1, hc1, hnM, st1, wn1⟩ := most_call 32 (by decide) h hs
    have HC1 := Lib.hid hc1; have ST1 := Lib.hid st1; have WN1 := Lib.hid wn1; clear h hc1 st1 wn1
    go_enter Tryz.func135, Tryz.ntmps135
    go_wp2_with fail
    go_at_call 101; refine HC1.out.mono ?_; rintro en w1 ⟨rfl, hS1, hK1⟩
    have HI0 := Lib.hid (FI.start (l := l) (M := 32) hS1 (Kp2.of_keep hK1) ST1.out (by simp [hl0]) WN1.out)
    clear hS1 hK1 HC1 ST1 WN1 c0 HST
    go_wp2_with fail
    go_loopw [6, 16] (fun u i wr => ∃ (L : List Fh) (p' e' room' : Nat), L.length ≤ n ∧ i = .int .u64 (L.length : Int) ∧ Hid (FI l B R s p e room w n L u wr p' e' room')) (fun _ i _ => n - (intOf i).toNat)
    case atStart => exact ⟨[], p1, e1, room, Nat.zero_le _, rfl, HI0⟩
    case round =>
      clear HI0
      obtain ⟨L, p', e', room', hLn, rfl, hI⟩ := hrel
      rename World => wr
      rename Value => u
      have HI := Lib.hid hI.out
      clear hI
      obtain ⟨q0, -, -⟩ := HI.out.st.bx.cells
      by_cases hlt : L.length < n
      · have hki : (L.length : Int) < (n : Int) := by omega
        have HE := Lib.hid (Vn.err_any B s p' e' wr HI.out.st.rd)
        go_wp2_with fail
        go_at_call 102; refine HE.out.mono ?_; rintro en W ⟨rfl, rfl⟩
        clear HE
        by_cases he : e' = 0
        · subst he
          obtain ⟨t, p2, e2, hc2, hts, st2, wn2⟩ := text_call 16 (by decide) HI.out.st hs
          have HC2 := Lib.hid hc2; have ST2 := Lib.hid st2; have WN2 := Lib.hid wn2; clear hc2 st2 wn2
          go_wp2_with fail
          go_at_call 134; refine HC2.out.mono ?_; rintro en w2 ⟨rfl, hS2, hK2⟩
          have HS2 := Lib.hid hS2; have HK2 := Lib.hid hK2
          clear hS2 hK2 HC2 q0
          go_upto_region 9 with fail
          obtain ⟨X, hX⟩ : ∃ X, w2.alloc (.cells #[.string t, .slice none 0 0] 59) = X := ⟨_, rfl⟩
          have hbX : Below w2.heap.size w2 X := by rw [← hX]; exact bl_alloc (Below.refl _ _)
          have hsX : X.heap.size = w2.heap.size + 1 := by rw [← hX]; simp
          have HBX := Lib.hid (show X.heap[w2.heap.size]? = some (.cells #[.string t, .slice none 0 0] 59) by rw [← hX]; exact w_new w2 _)
          have HSX := Lib.hid (HS2.out.below hbX)
          have HBB := Lib.hid hbX
          rw [hX]
          clear hX hbX
          have HC3 := Lib.hid (HVH.out (by omega) X B R s p2 e2 room' HSX.out hs (Nat.le_trans HI.out.rm hroom))
          go_wp2_with fail
          go_at_call 60; refine HC3.out.mono ?_; rintro en w3 ⟨a, tl, tc, A, p3, e3, room3, rfl, hS3, hr3, hK3, hV3, st3, he3, nm3, wn3⟩
          have ST3 := Lib.hid st3; have WN3 := Lib.hid wn3; have HE3 := Lib.hid he3; clear st3 wn3 he3
          have HB3 := Lib.hid ((hK3.block w2.heap.size (by omega) (by have := HS2.out.lt; omega) (by have := HS2.out.lt; omega)).trans HBX.out)
          have hs2 : wr.heap.size ≤ w2.heap.size := HK2.out.size
          have hs0 : w.heap.size ≤ wr.heap.size := HI.out.kp.size
          have hs3 : X.heap.size ≤ w3.heap.size := hK3.size
          have HK4 := Lib.hid ((((Kp2.of_keep (R := R) HK2.out).trans (Kp2.of_below HBB.out)).trans hK3).set (b := w2.heap.size) (o := 1) (v := .slice a tl tc) (.inl hs2))
          have HS4 := Lib.hid (hS3.set (b := w2.heap.size) (o := 1) (v := .slice a tl tc) (by have := HS2.out.lt; omega) (by have := HS2.out.lt; omega))
          have HO4 := Lib.hid (owns_kp HI.out.own HK4.out hlB hlR)
          have hz4 : (w3.setCell ⟨w2.heap.size, 1, none⟩ (.slice a tl tc)).heap.size = w3.heap.size := by simp [World.setCell]
          obtain ⟨g, cap, w5, hrun, hb5, ho5, h5, hg5, hs5⟩ := ownFh_grow (w := w3.setCell ⟨w2.heap.size, 1, none⟩ (.slice a tl tc)) HO4.out (by omega) (by omega) ⟨t, A, a, tl, tc⟩
          rw [hz4] at hrun hg5
          have HR5 := Lib.hid hrun
          have hbk : w3.heap[w2.heap.size]? = some (.cells #[.string t, .slice none 0 0] 59) := HB3.out
          have g0 : (w3.setCell ⟨w2.heap.size, 1, none⟩ (.slice a tl tc)).cell? ⟨w2.heap.size, 0, none⟩ = some (.string t) := by have := heap_set (i := 1) (v := .slice a tl tc) hbk; simp [World.cell?, this]
          have g1 : (w3.setCell ⟨w2.heap.size, 1, none⟩ (.slice a tl tc)).cell? ⟨w2.heap.size, 1, none⟩ = some (.slice a tl tc) := by have := heap_set (i := 1) (v := .slice a tl tc) hbk; simp [World.cell?, this]
          have k1 : w3.cell? ⟨w2.heap.size, 1, none⟩ = some (.slice none 0 0) := by simp [World.cell?, hbk]
          have kf : ∀ i, w3.frozen? ⟨w2.heap.size, i, none⟩ = false := fun i => by simp [World.frozen?, hbk]
          have HN : Hid (FI l B R s p e room w n (L ++ [⟨t, A, a, tl, tc⟩]) (.slice (some ⟨g, 0, none⟩) (L.length + 1) cap) w5 p3 e3 room3) := Lib.hid (by
            refine HI.out.more (z := ⟨t, A, a, tl, tc⟩) hlt ⟨by show t.size ≤ _; omega, nm3⟩ rfl ST2.out WN2.out hr3 ST3.out HE3.out WN3.out ?_ ?_ ho5 fun h hh => ?_
            · exact st_in HS4.out hb5 hlB hlR
            · exact kp_in (HI.out.kp.trans HK4.out) hb5
            · rcases List.mem_append.1 hh with hh | hh
              · exact ok_old HK4.out hlB hlR hs5 h5 rfl (by rw [hz4]; exact hg5) (HI.out.ok h hh)
              · rw [List.mem_singleton] at hh
                subst hh
                exact ok_new (G := w2.heap.size) (o := 1) (v := .slice a tl tc) (x := X.heap.size) (by omega) (by omega) (fun k hk => by have := (HI.out.own.lt k hk).2; omega) (by omega) (by rw [hz4] at h5; exact h5) rfl hg5 hV3)
          clear hS3 hK3 hV3 hrun hb5 ho5 h5 HC3 hbk
          go_wp2_with (at_builtin; refine Lib.wpList_append_run _ rfl _ _ _ _ rfl _ _ rfl rfl _ _ HR5.out ?_)
          go_roundw
          case rel => exact ⟨L ++ [⟨t, A, a, tl, tc⟩], p3, e3, room3, by simp; omega, by rw [List.length_append]; go_num, HN⟩
          case measure => simp [intOf]; omega
        · have he2 : ((e' : Int) != 0) = true := by rw [bne_iff_ne]; omega
          obtain ⟨a, cap, hu, -⟩ := HI.out.own.row
          subst hu
          go_wp2_with fail
          go_ret
          exact HI.out.done (by omega) (.inr he)
      · have hki : ¬ (L.length : Int) < (n : Int) := by omega
        obtain ⟨a, cap, hu, -⟩ := HI.out.own.row
        subst hu
        go_wp2_with fail
        go_ret
        exact HI.out.done (by omega) (.inl (by omega))
end Go.Proofs.YtddleeenlpigfaaGreatDoor.Ec
/- WALK of the reader's value. -/
namespace Go.Proofs.YtddleeenlpigfaaGreatDoor.Ec
open Go.RowKit
/-- A box of one row. -/
def BxS (w : World) (g : Nat) (v : Value) : Prop := w.heap[g]? = some (.cells #[v] 24)
section
variable {B R g : Nat} {w w' : World} {v u : Value}
theorem BxS.lt (k : BxS w g v) : g < w.heap.size := (Array.getElem?_eq_some_iff.1 k).1
theorem BxS.kp2 (k : BxS w g v) (hk : Kp2 B R w w') (hB : g ≠ B) (hR : g ≠ R) : BxS w' g v := (hk.block g k.lt hB hR).trans k
theorem BxS.keep (k : BxS w g v) (hk : Vn.Keep B w w') (hg : g ≠ B) : BxS w' g v := (hk.block g k.lt hg).trans k
theorem BxS.below (k : BxS w g v) (hb : Below w.heap.size w w') : BxS w' g v := (hb.block g k.lt).trans k
theorem BxS.other {b o : Nat} {x : Value} (k : BxS w g v) (hb : b ≠ g) : BxS (w.setCell ⟨b, o, none⟩ x) g v := (Below.heap_setCell w ⟨b, o, none⟩ x g (fun e => hb e.symm)).trans k
theorem BxS.cell (k : BxS w g v) : w.cell? ⟨g, 0, none⟩ = some v := by
  unfold BxS at k
  simp [World.cell?, k]
theorem BxS.fz (k : BxS w g v) : w.frozen? ⟨g, 0, none⟩ = false := by
  unfold BxS at k
  simp [World.frozen?, k]
theorem BxS.set (k : BxS w g v) (x : Value) : BxS (w.setCell ⟨g, 0, none⟩ x) g x := heap_set k
end
theorem step_append_run {P : Program} {w : World} {ops : Array Oper} {o : Oper} {a : Act} {K : Act → World → Prop} {Q : Exit → Act → World → Prop} {E : Prop} (hgd : o.guard = none) (s x : Operand) (t tn : TypeId)
    (ho : o.op = .call { callee := .builtin .append, args := #[s, x], argTypes := #[t, tn] }) (vs vx : Value) (hs : a.eval s = vs) (hx : a.eval x = vx)
    (v' : Value) (w' : World) (hr : (Builtin.append_ #[t, tn] o.type #[vs, vx]).run P w = .ok v' w') (h : K (a.put o.dst v') w') : if Region.wanted o (yielded ops a.tmps) = true then Oper.wp P o a w K Q else E := by
  have hw : Region.wanted o (yielded ops a.tmps) = true := by simp [Region.wanted, hgd]
  rw [if_pos hw]
  exact Lib.wp_append_run w s x t tn ho vs vx hs hx v' w' hr h
/-- One header more, told whole. -/
theorem ownH_grow {w : World} {B : Nat} {u : Value} {L : List Hr} (ho : OwnH w B u L) (hby : (L.length + 1) * 72 ≤ 140737488355328) (hB : B ≤ w.heap.size) (h : Hr) :
    ∃ (g cap : Nat) (w4 : World), (Builtin.append_ #[22, 22] 22 #[u, .slice (some ⟨w.heap.size, 0, none⟩) 1 1]).run Tryz.prog (w.alloc (.cells h.enc.toArray 31)) = .ok (.slice (some ⟨g, 0, none⟩) (L.length + 1) cap) w4 ∧ Below B w w4 ∧ OwnH w4 B (.slice (some ⟨g, 0, none⟩) (L.length + 1) cap) (L ++ [h]) ∧
      (∀ b, b < w.heap.size → u.ownBlock ≠ some b → w4.heap[b]? = w.heap[b]?) ∧ (u.ownBlock = some g ∨ w.heap.size ≤ g) ∧ w.heap.size ≤ w4.heap.size := by
  obtain ⟨i0, hi, hz0, hz1, hz2⟩ := info_parts info24
  have ha := bl_alloc (o := .cells h.enc.toArray 31) (Below.refl w.heap.size w)
  obtain ⟨g, cap, w4, hap, hown, hgrow, hloc, hlt⟩ := run_append_lies (P := Tryz.prog) (w.alloc (.cells h.enc.toArray 31)) 22 22 B 31 i0 _ 8 72 Tryz.underlying22 hi hz0 hz1 hz2 rfl (by omega) u L.length (L.map Hr.enc).flatten (owns_below ho ha)
    ⟨w.heap.size, 0, none⟩ 1 1 h.enc (enc_len h) (World.news_of_block (cs := h.enc.toArray) (t := 31) (fr := (0, 0)) (heap_new w _)) (fun v hv => by
      simp only [Hr.enc, List.mem_cons, List.not_mem_nil, or_false] at hv
      rcases hv with rfl | rfl | rfl | rfl | rfl | rfl | rfl | rfl <;> rfl) (by omega) (by unfold maxLen; omega) hby (by simp; omega) (w.heap.size + 1) (by simp)
  refine ⟨g, cap, w4, hap, (ha.mono hB).trans ((Below.refl B _).grown hgrow (by simp; omega) (fun k hk => (ho.lt k hk).1)), ?_, fun b hb hne => ?_, ?_, ?_⟩
  · unfold OwnH
    rw [List.map_append, List.flatten_append, List.length_append]
    simpa using hown
  · rw [hgrow.block b (by simp; omega) (fun e => hne e.symm)]
    exact ha.block b hb
  · rcases hloc with h | h
    · exact .inl h
    · exact .inr (by omega)
  · have := hgrow.size; simp at this; omega
/-- One term more. -/
theorem VI.round {l B R : Nat} {s : ByteArray} {p e room : Nat} {w : World} {n G : Nat} {L : List Hr} {u : Value} {wr : World} {p' e' room' p2 e2 room2 g cap : Nat} {z : Hr} {w2 w4 : World} (h : VI l B R s p e room w (G + 1) n L u wr p' e' room') (hlt : L.length < n) (hnz : NmF l z.x.fs) (hG : G < wr.heap.size) (hwG : w.heap.size ≤ G) (hB : B < w.heap.size) (hR : R < w.heap.size)
    (hK2 : Kp2 B R wr w2) (hS2 : St w2 B R s p2 e2 room2) (hr2 : room2 ≤ room') (hok2 : z.okP (fun b => wr.heap.size ≤ b) l w2) (st2 : Step s.data.toList p' e' p2 e2 (bT (bV l) z.x)) (he2 : e2 = 0 → room' = room2 + wF l z.x.fs) (wn2 : ∀ x0 Q, Wants s.data.toList p' e' (bT (bV l) x0 ++ Q) → RdT (RdV l) x0 → wF l x0.fs ≤ room' → z.x = x0 ∧ e2 = 0)
    (hb5 : Below (G + 1) w2 w4) (ho5 : OwnH w4 (G + 1) (.slice (some ⟨g, 0, none⟩) (L.length + 1) cap) (L ++ [z])) (h5 : ∀ b, b < w2.heap.size → u.ownBlock ≠ some b → w4.heap[b]? = w2.heap[b]?) (hg5 : u.ownBlock = some g ∨ w2.heap.size ≤ g) (hs5 : w2.heap.size ≤ w4.heap.size) :
    VI l B R s p e room w (G + 1) n (L ++ [z]) (.slice (some ⟨g, 0, none⟩) (L.length + 1) cap) (w4.setCell ⟨G, 0, none⟩ (.slice (some ⟨g, 0, none⟩) (L.length + 1) cap)) p2 e2 room2 := by
  have hz : (w4.setCell ⟨G, 0, none⟩ (.slice (some ⟨g, 0, none⟩) (L.length + 1) cap)).heap.size = w4.heap.size := by simp [World.setCell]
  have hset : ∀ b, b ≠ G → (w4.setCell ⟨G, 0, none⟩ (.slice (some ⟨g, 0, none⟩) (L.length + 1) cap)).heap[b]? = w4.heap[b]? := fun b hb => Below.heap_setCell w4 ⟨G, 0, none⟩ _ b hb
  have hl2 := hK2.size
  have hown := h.own
  refine h.more hlt hnz hr2 st2 he2 wn2 ((st_in hS2 hb5 (by omega) (by omega)).set (by omega) (by omega)) ?_ (ho5.set (by omega)) fun x hx => ?_
  · exact (kp_in (h.kp.trans hK2) (hb5.mono (by omega))).set (.inl hwG)
  · rcases List.mem_append.1 hx with hx | hx
    · refine (h.ok x hx).to (by omega) fun b hb lt => ?_
      refine ⟨⟨hb.1, fun ee => ?_⟩, (hset b (by omega)).trans ((h5 b (by omega) hb.2).trans (hK2.block b lt (by omega) (by omega)))⟩
      have ee : g = b := Option.some.inj ee
      rcases hg5 with h9 | h9
      · exact hb.2 (by rw [h9, ee])
      · omega
    · rw [List.mem_singleton] at hx
      subst hx
      refine hok2.to (by omega) fun b hb lt => ?_
      have hn : u.ownBlock ≠ some b := fun ee => by have := (hown.lt b ee).2; omega
      refine ⟨⟨by omega, fun ee => ?_⟩, (hset b (by omega)).trans (h5 b lt hn)⟩
      have ee : g = b := Option.some.inj ee
      rcases hg5 with h9 | h9
      · exact hn (by rw [h9, ee])
      · omega
/-- Less room. -/
theorem RBox.set {w : World} {B R room : Nat} (h : RBox w R B room) (n : Nat) : RBox (w.setCell ⟨R, 1, none⟩ (.int .i64 (n : Int))) R B n := heap_set h
theorem St.room {w : World} {B R p e room : Nat} {s : ByteArray} (h : St w B R s p e room) (n : Nat) : St (w.setCell ⟨R, 1, none⟩ (.int .i64 (n : Int))) B R s p e n :=
  ⟨(Below.heap_setCell w ⟨R, 1, none⟩ _ B h.ne).trans h.rd, h.bx.set n, h.pl, h.ne⟩
set_option maxRecDepth 100000 in
set_option maxHeartbeats 8000000 in
theorem value_step (l : Nat) (TH : TermH l) : ValH (l + 1) := by
  intro w B R s p e room h hs hroom
  have HTH := Lib.hid TH
  have HS0 := Lib.hid (h.below (bl_alloc (Below.refl _ w) (o := .cells #[.slice none 0 0] 24)))
  have hlB := h.lt.1
  have hlR := h.lt.2
  have hd1 : Below w.heap.size w { (w.alloc (.cells #[.slice none 0 0] 24)) with drawn := (w.alloc (.cells #[.slice none 0 0] 24)).drawn + 1 } := (bl_alloc (Below.refl _ w)).drew
  have HSD := Lib.hid (h.below hd1)
  obtain ⟨c0, c1, cf⟩ := HS0.out.bx.cells
  clear TH h
  obtain ⟨n, p1, e1, hc1, hnM, st1, wn1⟩ := most_call room (by omega) HSD.out hs
  have HC1 := Lib.hid hc1; have ST1 := Lib.hid st1; have WN1 := Lib.hid wn1; clear hc1 st1 wn1
  have HDD := Lib.hid hd1
  have v1 : IntKind.u64.wrap (room : Int) = (room : Int) := by rw [IntKind.wrap_u64]; omega
  have v2 : IntKind.i64.wrap (n : Int) = (n : Int) := by rw [IntKind.wrap_i64]; omega
  clear hd1
  go_enter Tryz.func60, Tryz.ntmps60
  go_wp2_with fail
  go_region_with ((go_at_call 101; refine HC1.out.mono ?_; rintro en w1 ⟨rfl, hS1, hK1⟩; have HS1 := Lib.hid hS1; have HK1 := Lib.hid hK1; clear hS1 hK1))
  all_goals
    have hN0 : BxS (w.alloc (.cells #[.slice none 0 0] 24)) w.heap.size (.slice none 0 0) := w_new w _
    have HN1 := Lib.hid ((hN0.below (Below.refl _ _).drew).keep HK1.out (by omega))
    have HKK := Lib.hid ((Kp2.of_below (B := B) (R := R) HDD.out).trans (Kp2.of_keep HK1.out))
    clear hN0 HK1 HC1 HS0 HSD HDD c0 c1 cf
    obtain ⟨c0, c1, cf⟩ := HS1.out.bx.cells
    have v3 : wrap64 ((room : Int) - (n : Int)) = ((room - n : Nat) : Int) := by unfold wrap64; omega
    go_upto_region 3 with fail
    rw [show (room : Int) - (n : Int) = ((room - n : Nat) : Int) by omega]
    have HS2 := Lib.hid (HS1.out.room (room - n))
    have HK2 := Lib.hid (HKK.out.set (b := R) (o := 1) (v := .int .i64 ((room - n : Nat) : Int)) (.inr (.inr rfl)))
    have HN2 := Lib.hid (HN1.out.other (b := R) (o := 1) (x := .int .i64 ((room - n : Nat) : Int)) (by omega))
    obtain ⟨Y, hY⟩ : ∃ Y, w1.setCell ⟨R, 1, none⟩ (.int .i64 ((room - n : Nat) : Int)) = Y := ⟨_, rfl⟩
    rw [hY] at HS2 HK2 HN2 ⊢
    clear hY HS1 HN1 HKK c0 c1 cf v3
    go_upto_region 4 with fail
    obtain ⟨Z, hZ⟩ : ∃ Z, Y.alloc (.cells #[.slice none 0 0] 24) = Z := ⟨_, rfl⟩
    have hbZ : Below Y.heap.size Y Z := by rw [← hZ]; exact bl_alloc (Below.refl _ _)
    have HG0 : Hid (BxS Z Y.heap.size (.slice none 0 0)) := by rw [← hZ]; exact w_new Y _
    have HS3 := Lib.hid (HS2.out.below hbZ)
    have HK3 := Lib.hid (HK2.out.trans (Kp2.of_below hbZ))
    have HN3 := Lib.hid (HN2.out.below hbZ)
    have hNG : w.heap.size < Y.heap.size := HN2.out.lt
    rw [hZ]
    obtain ⟨G, hG⟩ : ∃ G, Y.heap.size = G := ⟨_, rfl⟩
    rw [hG] at HG0 hNG ⊢
    clear hZ hbZ hG HS2 HK2 HN2
    have HI0 := Lib.hid (VI.start (l := l) (bs := G + 1) (room := room) HS3.out (by omega) HK3.out ST1.out WN1.out)
    clear HS3 HK3 ST1 WN1
    go_wp2_with fail
    go_loopw [27] (fun i wr => ∃ (L : List Hr) (u : Value) (p' e' room' : Nat), L.length ≤ n ∧ i = .int .i64 (L.length : Int) ∧ Hid (BxS wr w.heap.size (.slice none 0 0)) ∧ Hid (BxS wr G u) ∧ Hid (VI l B R s p e room w (G + 1) n L u wr p' e' room')) (fun i _ => n - (intOf i).toNat)
    case atStart => exact ⟨[], _, p1, e1, _, Nat.zero_le _, rfl, HN3, HG0, HI0⟩
    case round =>
      clear HI0 HN3 HG0
      obtain ⟨L, u, p', e', room', hLn, rfl, hN, hG, hI⟩ := hrel
      rename World => wr
      have HN := Lib.hid hN.out; have HG := Lib.hid hG.out; have HI := Lib.hid hI.out
      clear hN hG hI
      obtain ⟨q0, -, -⟩ := HI.out.st.bx.cells
      have g0 := HG.out.cell
      have m0 := HN.out.cell
      have mf := HN.out.fz
      by_cases hlt : L.length < n
      · have hki : (L.length : Int) < (n : Int) := by omega
        have HE := Lib.hid (Vn.err_any B s p' e' wr HI.out.st.rd)
        go_wp2_with fail
        go_at_call 102; refine HE.out.mono ?_; rintro en W ⟨rfl, rfl⟩
        clear HE
        by_cases he : e' = 0
        · subst he
          have HSd := Lib.hid (HI.out.st.below (Below.refl _ wr).drew)
          have HC3 := Lib.hid (HTH.out _ B R s p' 0 room' HSd.out hs (Nat.le_trans HI.out.rm hroom))
          clear HSd m0 mf
          go_upto_region 7 with fail
          have hGl := HG.out.lt
          have gd : (World.drew wr).cell? ⟨G, 0, none⟩ = some u := (HG.out.below (Below.refl wr.heap.size wr).drew).cell
          go_region_law (first
            | (refine step_append_run (by rfl) _ _ _ _ (by rfl) _ _ (by rfl) (by rfl) _ _ HRUN.out ?_)
            | (go_simp; go_wp2_with (go_at_call 103; refine HC3.out.mono ?_; rintro en w2 ⟨⟨⟨k, lo, hi, t, y, m, o, fs⟩, f, fl, fc⟩, p2, e2, room2, rfl, hS2, hr2, hK2, hok2, st2, he2, nm2, wn2⟩; have hK3 := (Kp2.of_below (B := B) (R := R) (Below.refl wr.heap.size wr).drew).trans hK2; have HG2 := Lib.hid (HG.out.kp2 hK3 (by omega) (by omega)); have HN2 := Lib.hid (HN.out.kp2 hK3 (by omega) (by omega)); have g2 := HG2.out.cell; have g3 : ∀ ob : Obj, (w2.alloc ob).cell? ⟨G, 0, none⟩ = some u := fun ob => (HG2.out.below (bl_alloc (o := ob) (Below.refl _ w2))).cell; have hl2 := hK3.size; have hwl := HI.out.own; obtain ⟨g, cap, w4, hrun, hb5, ho5, h5, hg5, hs5⟩ := ownH_grow (owns_kp hwl hK3 (by omega) (by omega)) (by omega) (by omega) ⟨.mk k lo hi t y m o fs, f, fl, fc⟩; have HI5 := Lib.hid (HI.out.round hlt nm2 hGl (by omega) hlB hlR hK3 hS2 hr2 hok2 st2 he2 wn2 hb5 ho5 h5 hg5 hs5); have HG4 := Lib.hid (show BxS w4 G u from (h5 G (by omega) (fun ee => by have := (hwl.lt G ee).1; omega)).trans HG2.out); have HN4 := Lib.hid (show BxS w4 w.heap.size (.slice none 0 0) from (hb5.block w.heap.size (by omega)).trans HN2.out); have g4 := HG4.out.cell; have f4 := HG4.out.fz; dsimp only [Hr.enc, Tm.k, Tm.lo, Tm.hi, Tm.s, Tm.y, Tm.m, Tm.o] at hrun; have HRUN := Lib.hid hrun; clear hrun hS2 hr2 hK2 hok2 st2 he2 nm2 wn2 hK3 hb5 ho5 h5 hg5 hs5 hwl)))
          all_goals
            go_wp2_with fail
            go_roundw
            case rel => exact ⟨_, _, p2, e2, room2, by simp; omega, by rw [List.length_append]; go_num, Lib.hid (HN4.out.other (by omega)), Lib.hid (HG4.out.set _), HI5⟩
            case measure => simp [intOf]; omega
        · have he2 : ((e' : Int) != 0) = true := by rw [bne_iff_ne]; omega
          obtain ⟨a, cap, hu, -⟩ := OwnH.row HI.out.own
          subst hu
          go_wp2_with fail
          have e0 : (wr.setCell ⟨w.heap.size, 0, none⟩ (.slice a L.length cap)).cell? ⟨w.heap.size, 0, none⟩ = some (.slice a L.length cap) := (HN.out.set _).cell
          refine bodyPost_ret (v := .agg #[.slice a L.length cap]) (by simp [results, Tryz.results60, go_sem, e0]) rfl ?_
          exact HI.out.done (by omega) (.inr he) (HI.out.st.set (by omega) (by omega)) (HI.out.kp.set (.inl (Nat.le_refl _))) (fun hV => hV.to (by simp [World.setCell]) fun b hb _ => ⟨by omega, Below.heap_setCell wr ⟨w.heap.size, 0, none⟩ _ b (by intro e; simp at e; omega)⟩)
      · have hki : ¬ (L.length : Int) < (n : Int) := by omega
        obtain ⟨a, cap, hu, -⟩ := OwnH.row HI.out.own
        subst hu
        go_wp2_with fail
        have e0 : (wr.setCell ⟨w.heap.size, 0, none⟩ (.slice a L.length cap)).cell? ⟨w.heap.size, 0, none⟩ = some (.slice a L.length cap) := (HN.out.set _).cell
        refine bodyPost_ret (v := .agg #[.slice a L.length cap]) (by simp [results, Tryz.results60, go_sem, e0]) rfl ?_
        exact HI.out.done (by omega) (.inl (by omega)) (HI.out.st.set (by omega) (by omega)) (HI.out.kp.set (.inl (Nat.le_refl _))) (fun hV => hV.to (by simp [World.setCell]) fun b hb _ => ⟨by omega, Below.heap_setCell wr ⟨w.heap.size, 0, none⟩ _ b (by intro e; simp at e; omega)⟩)
/-- The reader's value, of so many levels. -/
theorem read_value : ∀ l, l ≤ 15 → ValH (l + 1)
  | 0, _ => value_step 0 (term_step 0 (by omega) (fields_step 0 (by omega) (fun h => absurd h (by omega))))
  | l + 1, h => value_step (l + 1) (term_step (l + 1) (by omega) (fields_step (l + 1) (by omega) (fun _ => read_value l (by omega))))
end Go.Proofs.YtddleeenlpigfaaGreatDoor.Ec
