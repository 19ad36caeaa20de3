/- Pg, Ph, Ga, Gd, Ge -/
import Derived.Sort.Grow
import Derived.StillTailTactics
import Derived.Deep.DeepCutAuto
import Derived.Deep.CutBlock
import Derived.Test.YtddleeenlpigfaaGreatDoorY0
import Derived.Test.YtddleeenlpigfaaGreatDoorY1
/- WALKS of Compare and of the function that Terms hands over. -/
namespace Go.Proofs.YtddleeenlpigfaaGreatDoor
open Go.RowKit
set_option maxRecDepth 100000 in
set_option maxHeartbeats 2000000 in
theorem closure_any (nm : ByteArray) (t : Option Addr) (tl tc : Nat) (nm2 : ByteArray) (t2 : Option Addr) (tl2 tc2 : Nat) (r : Int) (w : World)
    (HG : ∀ W, Below w.heap.size w W → Calls Tryz.prog 111 #[.agg #[.slice t tl tc], .agg #[.slice t2 tl2 tc2]] W (CmpPost r W)) :
    Calls Tryz.prog 127 #[.agg #[.string nm, .slice t tl tc], .agg #[.string nm2, .slice t2 tl2 tc2]] w (CmpPost (two (cmpS nm nm2) r) w) := by
  have HG' := Lib.hid HG
  clear HG
  have HS := fun W => Lib.hid (cmpS_any nm nm2 W)
  generalize cmpS nm nm2 = c at *
  have HB : Hid (Below w.heap.size w w) := Below.refl _ _
  by_cases h0 : c = 0
  · subst h0
    go_enter Tryz.func127, Tryz.ntmps127
    go_wp2_with (first
      | (go_at_call 124; (with_reducible refine (HS _).out.mono ?_); rintro e w1 ⟨rfl, rfl⟩)
      | (go_at_call 111; refine (HG'.out _ ?_).mono ?_; rotate_left; rintro e w2 ⟨rfl, hB2⟩; have HB2 := Lib.hid hB2; clear hB2))
    · go_ret
      exact ⟨rfl, bl_step (bl_alloc (bl_alloc HB.out)) HB2.out⟩
    · exact bl_alloc (bl_alloc HB.out)
  · have hb : (c != 0) = true := by simpa using h0
    have HN := Lib.hid h0
    clear h0
    go_enter Tryz.func127, Tryz.ntmps127
    go_wp2_with (first
      | (go_at_call 124; (with_reducible refine (HS _).out.mono ?_); rintro e w1 ⟨rfl, h1⟩; subst h1))
    go_ret
    exact ⟨ret_int (by unfold two; rw [if_pos HN.out]), bl_alloc (bl_alloc HB.out)⟩
set_option maxRecDepth 100000 in
set_option maxHeartbeats 2000000 in
theorem compare_any (t : Option Addr) (tl tc : Nat) (t2 : Option Addr) (tl2 tc2 : Nat) (r : Int) (w : World)
    (HG : ∀ W, Below w.heap.size w W → Calls Tryz.prog 138 #[.slice t tl tc, .slice t2 tl2 tc2, .func (.func 88) #[] #[]] W (CmpPost r W)) :
    Calls Tryz.prog 111 #[.agg #[.slice t tl tc], .agg #[.slice t2 tl2 tc2]] w (CmpPost r w) := by
  have HG' := Lib.hid HG
  clear HG
  have HB : Hid (Below w.heap.size w w) := Below.refl _ _
  go_enter Tryz.func111, Tryz.ntmps111
  go_wp2_with (go_at_call 138; refine (HG'.out _ ?_).mono ?_; rotate_left; rintro e w2 ⟨rfl, hB2⟩; have HB2 := Lib.hid hB2; clear hB2)
  · go_ret
    exact ⟨rfl, bl_step (bl_alloc (bl_alloc HB.out)) HB2.out⟩
  · exact bl_alloc (bl_alloc HB.out)

end Go.Proofs.YtddleeenlpigfaaGreatDoor
/- rank: Compare, whole. -/
namespace Go.Proofs.YtddleeenlpigfaaGreatDoor
open Go.RowKit
theorem InF.same {I J : Option Addr → Nat → Nat → List Tm → Prop} (hIJ : ∀ t tl tc V, I t tl tc V → J t tl tc V) {w : World} {f : Option Addr} {fl : Nat} {fs : List (ByteArray × List Tm)} (h : InF I w f fl fs) : InF J w f fl fs := InF.below hIJ (Below.refl _ _) h
theorem InV.up {w : World} : ∀ {n : Nat} {t : Option Addr} {tl tc : Nat} {V : List Tm}, InV w n t tl tc V → InV w (n + 1) t tl tc V
  | 0, _, _, _, _, h => h.elim
  | n + 1, t, tl, tc, V, h => ⟨h.1, h.2.1, fun i hi => by
      obtain ⟨b, off, e, h2⟩ := h.2.2 i hi
      exact ⟨b, off, e, InT.below (fun t tl tc V h => InV.up h) (Below.refl _ _) h2⟩⟩
theorem InV.le {w : World} {n m : Nat} (hnm : n ≤ m) {t : Option Addr} {tl tc : Nat} {V : List Tm} (h : InV w n t tl tc V) : InV w m t tl tc V := by
  induction m with
  | zero => obtain rfl : n = 0 := by omega
            exact h
  | succ m ih =>
    by_cases e : n = m + 1
    · subst e; exact h
    · exact (ih (by omega)).up
theorem terms_in (n : Nat) (ih : ∀ (W : World) t tl tc A t2 tl2 tc2 B, InV W n t tl tc A → InV W n t2 tl2 tc2 B → Calls Tryz.prog 111 #[.agg #[.slice t tl tc], .agg #[.slice t2 tl2 tc2]] W (CmpPost (cmpV n A B) W))
    (W : World) (k lo hi : Int) (s : ByteArray) (y0 m0 o : Bool) (f : Option Addr) (fl fc : Nat) (fs : List (ByteArray × List Tm)) (k2 lo2 hi2 : Int) (s2 : ByteArray) (y2 m2 o2 : Bool) (f2 : Option Addr) (fl2 fc2 : Nat) (fs2 : List (ByteArray × List Tm))
    (h1 : InF (fun t tl tc V => InV W n t tl tc V) W f fl fs) (h2 : InF (fun t tl tc V => InV W n t tl tc V) W f2 fl2 fs2) :
    Calls Tryz.prog 88 #[tv k lo hi s y0 m0 o f fl fc, tv k2 lo2 hi2 s2 y2 m2 o2 f2 fl2 fc2] W (CmpPost (cmpT (cmpV n) (.mk k lo hi s y0 m0 o fs) (.mk k2 lo2 hi2 s2 y2 m2 o2 fs2)) W) :=
  terms_any (cmpV n) k lo hi s y0 m0 o f fl fc fs k2 lo2 hi2 s2 y2 m2 o2 f2 fl2 fc2 fs2 W (fun W2 hW2 =>
    listsF_any (cmpV n) (fun w t tl tc V => InV w n t tl tc V) (fun w t tl tc V => InV w n t tl tc V) (fun hb _ _ _ _ h => InV.below hb h) (fun hb _ _ _ _ h => InV.below hb h)
      (fun W3 nm t tl tc V nm2 t2 tl2 tc2 V2 i1 i2 => closure_any nm t tl tc nm2 t2 tl2 tc2 (cmpV n V V2) W3 (fun W4 hW4 => ih W4 _ _ _ _ _ _ _ _ (InV.below hW4 i1) (InV.below hW4 i2)))
      f fl fc fs f2 fl2 fc2 fs2 W2 (InF.below (fun _ _ _ _ h => InV.below hW2 h) hW2 h1) (InF.below (fun _ _ _ _ h => InV.below hW2 h) hW2 h2))
theorem compare_in : ∀ (n : Nat) (W : World) t tl tc A t2 tl2 tc2 B, InV W n t tl tc A → InV W n t2 tl2 tc2 B → Calls Tryz.prog 111 #[.agg #[.slice t tl tc], .agg #[.slice t2 tl2 tc2]] W (CmpPost (cmpV n A B) W)
  | 0, _, _, _, _, _, _, _, _, _, h, _ => h.elim
  | n + 1, W, t, tl, tc, A, t2, tl2, tc2, B, h1, h2 =>
    compare_any t tl tc t2 tl2 tc2 (cmpV (n + 1) A B) W (fun W2 hW2 =>
      listsT_any (cmpV n) n n (fun W3 k lo hi s y0 m0 o f fl fc fs k2 lo2 hi2 s2 y2 m2 o2 f2 fl2 fc2 fs2 i1 i2 => terms_in n (compare_in n) W3 k lo hi s y0 m0 o f fl fc fs k2 lo2 hi2 s2 y2 m2 o2 f2 fl2 fc2 fs2 i1 i2)
        t tl tc A t2 tl2 tc2 B W2 (InV.below hW2 h1) (InV.below hW2 h2))

end Go.Proofs.YtddleeenlpigfaaGreatDoor
/- As 'Below', and no fewer draws. -/
namespace Go.Proofs.YtddleeenlpigfaaGreatDoor
open Go.RowKit
/-- Below block number B as it was; what was drawn stays drawn. -/
def Gr (B : Nat) (w w' : World) : Prop := Below B w w' ∧ w.drawn ≤ w'.drawn
theorem Gr.refl (B : Nat) (w : World) : Gr B w w := ⟨Below.refl _ _, Nat.le_refl _⟩
theorem Gr.trans {B : Nat} {a b c : World} (h : Gr B a b) (k : Gr B b c) : Gr B a c := ⟨h.1.trans k.1, Nat.le_trans h.2 k.2⟩
theorem Gr.mono {B B' : Nat} {w w' : World} (h : Gr B w w') (hB : B' ≤ B) : Gr B' w w' := ⟨h.1.mono hB, h.2⟩
theorem Gr.drew {B : Nat} {a w : World} (h : Gr B a w) : Gr B a w.drew := ⟨h.1.drew, Nat.le_succ_of_le h.2⟩
theorem Gr.alloc {B : Nat} {a w : World} (h : Gr B a w) (hB : B ≤ w.heap.size) (o : Obj) : Gr B a (w.alloc o) := ⟨h.1.alloc hB o, h.2⟩
theorem Gr.setCell {B : Nat} {a w : World} (h : Gr B a w) {p : Addr} (hp : B ≤ p.block) (u : Value) : Gr B a (w.setCell p u) := ⟨h.1.setCell hp u, h.2⟩
theorem Gr.cell {B : Nat} {w w' : World} (h : Gr B w w') {p : Addr} (hp : p.block < B) : w'.cell? p = w.cell? p := h.1.cell hp
theorem Gr.frozen {B : Nat} {w w' : World} (h : Gr B w w') {p : Addr} (hp : p.block < B) : w'.frozen? p = w.frozen? p := h.1.frozen hp
theorem Gr.size {B : Nat} {w w' : World} (h : Gr B w w') : w.heap.size ≤ w'.heap.size := h.1.size
theorem gl_alloc {w a : World} {o : Obj} (h : Gr w.heap.size w a) : Gr w.heap.size w (a.alloc o) := h.alloc h.size o
theorem gl_step {w a b : World} (h : Gr w.heap.size w a) (k : Gr a.heap.size a b) : Gr w.heap.size w b := h.trans (k.mono h.size)
theorem InV.gr {w w' : World} (hb : Gr w.heap.size w w') {n : Nat} {t : Option Addr} {tl tc : Nat} {V : List Tm} (h : InV w n t tl tc V) : InV w' n t tl tc V := InV.below hb.1 h
theorem InF.gr {I J : Option Addr → Nat → Nat → List Tm → Prop} (hIJ : ∀ t tl tc V, I t tl tc V → J t tl tc V) {w w' : World} (hb : Gr w.heap.size w w') {f : Option Addr} {fl : Nat} {fs : List (ByteArray × List Tm)} (h : InF I w f fl fs) : InF J w' f fl fs := h.below hIJ hb.1
theorem InT.gr {I J : Option Addr → Nat → Nat → List Tm → Prop} (hIJ : ∀ t tl tc V, I t tl tc V → J t tl tc V) {w w' : World} (hb : Gr w.heap.size w w') {b off : Nat} {x : Tm} (h : InT I w b off x) : InT J w' b off x := h.below hIJ hb.1
theorem Tc.gox2 (w : World) (k lo hi : Int) (s : ByteArray) (y m o : Bool) (f : Option Addr) (fl fc : Nat) (k2 lo2 hi2 : Int) (s2 : ByteArray) (y2 m2 o2 : Bool) (f2 : Option Addr) (fl2 fc2 : Nat) {w1 : World}
    (h : Gr ((w.alloc (.cells #[.int .i64 k, .int .i64 lo, .int .i64 hi, .string s, .bool y, .bool m, .bool o, .slice f fl fc] 31)).alloc (.cells #[.int .i64 k2, .int .i64 lo2, .int .i64 hi2, .string s2, .bool y2, .bool m2, .bool o2, .slice f2 fl2 fc2] 31)).heap.size
      ((w.alloc (.cells #[.int .i64 k, .int .i64 lo, .int .i64 hi, .string s, .bool y, .bool m, .bool o, .slice f fl fc] 31)).alloc (.cells #[.int .i64 k2, .int .i64 lo2, .int .i64 hi2, .string s2, .bool y2, .bool m2, .bool o2, .slice f2 fl2 fc2] 31)) w1) :
    (Tc w1 w.heap.size k lo hi s y m o f fl fc ∧ w.heap.size < w1.heap.size) ∧ (Tc w1 (w.heap.size + 1) k2 lo2 hi2 s2 y2 m2 o2 f2 fl2 fc2 ∧ w.heap.size + 1 < w1.heap.size) ∧ Gr w.heap.size w w1 := by
  obtain ⟨h1, h2, h3⟩ := Tc.box2 w k lo hi s y m o f fl fc k2 lo2 hi2 s2 y2 m2 o2 f2 fl2 fc2 h.1
  exact ⟨h1, h2, h3, h.2⟩
def GmpPost (r : Int) (w : World) (e : Ending) (w' : World) : Prop := e = .returned (.int .i64 r) ∧ Gr w.heap.size w w'
end Go.Proofs.YtddleeenlpigfaaGreatDoor
/- WALK of Terms. -/
namespace Go.Proofs.YtddleeenlpigfaaGreatDoor.G
open Go.RowKit
theorem first7 (c0 c1 c2 c3 c4 c5 c6 : Int) (t : TypeId) (Y : World) : Calls Tryz.prog 122 #[.slice (some ⟨Y.heap.size, 0, none⟩) 7 7] (Y.alloc (.cells #[.int .i64 c0, .int .i64 c1, .int .i64 c2, .int .i64 c3, .int .i64 c4, .int .i64 c5, .int .i64 c6] t))
    fun e w' => e = .returned (.int .i64 (firstL [c0, c1, c2, c3, c4, c5, c6])) ∧ (Y.alloc (.cells #[.int .i64 c0, .int .i64 c1, .int .i64 c2, .int .i64 c3, .int .i64 c4, .int .i64 c5, .int .i64 c6] t)) = w' :=
  (first_any [c0, c1, c2, c3, c4, c5, c6] Y.heap.size 7 _ (by simp) (fun i h => by
    match i, h with
    | 0, _ => simp
    | 1, _ => simp
    | 2, _ => simp
    | 3, _ => simp
    | 4, _ => simp
    | 5, _ => simp
    | 6, _ => simp
    | n + 7, h => exact absurd h (by simp))).mono fun _ _ ⟨a, b⟩ => ⟨a, b.symm⟩
set_option maxRecDepth 100000 in
set_option maxHeartbeats 4000000 in
theorem terms_any (g : List Tm → List Tm → Int) (k lo hi : Int) (s : ByteArray) (y m o : Bool) (f : Option Addr) (fl fc : Nat) (fs : List (ByteArray × List Tm)) (k2 lo2 hi2 : Int) (s2 : ByteArray) (y2 m2 o2 : Bool) (f2 : Option Addr) (fl2 fc2 : Nat) (fs2 : List (ByteArray × List Tm)) (w : World)
    (HF : ∀ W, Gr w.heap.size w W → Calls Tryz.prog 126 #[.slice f fl fc, .slice f2 fl2 fc2, .func (.func 127) #[] #[]] W (GmpPost (lexL (cmpF g) fs fs2) W)) :
    Calls Tryz.prog 88 #[tv k lo hi s y m o f fl fc, tv k2 lo2 hi2 s2 y2 m2 o2 f2 fl2 fc2] w (GmpPost (cmpT g (.mk k lo hi s y m o fs) (.mk k2 lo2 hi2 s2 y2 m2 o2 fs2)) w) := by
  have HF' := Lib.hid HF
  clear HF
  go_enter Tryz.func88, Tryz.ntmps88
  go_wp2_with fail
  obtain ⟨⟨TA, hA⟩, ⟨TB, hB⟩, hW⟩ := Tc.gox2 w k lo hi s y m o f fl fc k2 lo2 hi2 s2 y2 m2 o2 f2 fl2 fc2 (Gr.refl _ _)
  generalize (w.alloc (.cells #[.int .i64 k, .int .i64 lo, .int .i64 hi, .string s, .bool y, .bool m, .bool o, .slice f fl fc] 31)).alloc (.cells #[.int .i64 k2, .int .i64 lo2, .int .i64 hi2, .string s2, .bool y2, .bool m2, .bool o2, .slice f2 fl2 fc2] 31) = X at *
  refine wp_region_still_tail 41 (by kernel_rfl) (by kernel_rfl) ?_
  simp only [List.take_succ_cons, List.take_zero, List.drop_succ_cons, List.drop_zero]
  have hW := hW.drew
  replace TA : Tc X.drew _ _ _ _ _ _ _ _ _ _ _ := TA
  replace TB : Tc X.drew _ _ _ _ _ _ _ _ _ _ _ := TB
  replace hA : w.heap.size < X.drew.heap.size := hA
  replace hB : w.heap.size + 1 < X.drew.heap.size := hB
  change wpStill _ _ X.drew (fun a' => wpList _ _ _ _ a' X.drew) _ _
  generalize X.drew = Y at *
  have HW := Lib.hid hW
  clear hW
  obtain ⟨x0, x1, x2, x3, x4, x5, x6, x7⟩ := TA
  obtain ⟨y0, y1', y2', y3', y4', y5', y6', y7'⟩ := TB
  repeat (first | still_step | (refine wpStill_step (fun K hK => ?_); go_simp; (first | refine ⟨_, cmpI_any _ _ _, hK _ ?_⟩ | refine ⟨_, cmpS_any _ _ _, hK _ ?_⟩ | refine ⟨_, bit_any _ _, hK _ ?_⟩); clear hK K))
  refine wpStill_nil ?_
  change wpList _ _ _ _ _ Y
  go_wp2_with (first
    | (go_at_call 122; (with_reducible refine (first7 _ _ _ _ _ _ _ _ _).mono ?_); rintro e w1 ⟨rfl, rfl⟩)
    | (go_at_call 126; refine (HF'.out _ ?_).mono ?_; rotate_left; rintro e w2 ⟨rfl, hB2⟩; have HB2 := Lib.hid hB2; clear hB2))
  · rename_i hx
    go_ret
    exact ⟨ret_int (show firstL (plainL (.mk k lo hi s y m o fs) (.mk k2 lo2 hi2 s2 y2 m2 o2 fs2)) = two (firstL _) _ by unfold two; rw [if_pos (by simpa [plainL] using hx)]), gl_alloc HW.out⟩
  · rename_i hx
    go_ret
    exact ⟨ret_int (show lexL _ _ _ = two (firstL _) _ by unfold two; rw [if_neg (by simpa [plainL] using hx)]; rfl), gl_step (gl_alloc HW.out) HB2.out⟩
  · exact gl_alloc HW.out

end Go.Proofs.YtddleeenlpigfaaGreatDoor.G
/- WALK of lists, at fields. -/
namespace Go.Proofs.YtddleeenlpigfaaGreatDoor.G
open Go.RowKit
set_option maxRecDepth 100000 in
set_option maxHeartbeats 8000000 in
theorem listsF_any (g : List Tm → List Tm → Int) (I1 I2 : World → Option Addr → Nat → Nat → List Tm → Prop) (mono1 : ∀ {w w' : World}, Gr w.heap.size w w' → ∀ t tl tc V, I1 w t tl tc V → I1 w' t tl tc V) (mono2 : ∀ {w w' : World}, Gr w.heap.size w w' → ∀ t tl tc V, I2 w t tl tc V → I2 w' t tl tc V)
    (HC : ∀ W nm t tl tc V nm2 t2 tl2 tc2 V2, I1 W t tl tc V → I2 W t2 tl2 tc2 V2 → Calls Tryz.prog 127 #[.agg #[.string nm, .slice t tl tc], .agg #[.string nm2, .slice t2 tl2 tc2]] W (GmpPost (cmpF g (nm, V) (nm2, V2)) W))
    (f : Option Addr) (fl fc : Nat) (fs : List (ByteArray × List Tm)) (f2 : Option Addr) (fl2 fc2 : Nat) (fs2 : List (ByteArray × List Tm)) (w : World) (h1 : InF (I1 w) w f fl fs) (h2 : InF (I2 w) w f2 fl2 fs2) :
    Calls Tryz.prog 126 #[.slice f fl fc, .slice f2 fl2 fc2, .func (.func 127) #[] #[]] w (GmpPost (lexL (cmpF g) fs fs2) w) := by
  have HC := Lib.hid HC
  obtain ⟨l1, z1, h1⟩ := h1
  obtain ⟨l2, z2, h2⟩ := h2
  have H1 := Lib.hid h1
  have H2 := Lib.hid h2
  subst l1 l2
  clear h1 h2
  by_cases hm : fs2.length < fs.length
  · have B1 : fs2.length ≤ fs.length := by omega
    go_enter Tryz.func126, Tryz.ntmps126
    go_wp2_with fail
    go_loopw [14] (fun i wr => ∃ k : Nat, k ≤ fs2.length ∧ i = .int .i64 k ∧ Hid (∀ j (a : j < fs.length) (b : j < fs2.length), j < k → cmpF g fs[j] fs2[j] = 0) ∧ Hid (Gr w.heap.size w wr)) (fun i _ => fs2.length - (intOf i).toNat)
    case atStart => exact ⟨0, Nat.zero_le _, rfl, fun j _ _ hj => absurd hj (Nat.not_lt_zero _), Gr.refl _ _⟩
    case round =>
      obtain ⟨k, hk, rfl, hz, hB⟩ := hrel
      rename World => wr
      by_cases hlt : k < fs2.length
      · have hk1 : (k : Int) < (fs.length : Int) := by omega
        have hk2 : (k : Int) < (fs2.length : Int) := by omega
        have hk0 : (0 : Int) ≤ (k : Int) := by omega
        have L1 : k < fs.length := by omega
        have L2 : k < fs2.length := by omega
        obtain ⟨b1, off1, tl1, tc1, t1, rfl, lt1, c10, c11, i1⟩ := H1.out k L1
        obtain ⟨b2, off2, tl2, tc2, t2, rfl, lt2, c20, c21, i2⟩ := H2.out k L2
        have C1 := Lib.hid (And.intro lt1 (And.intro c10 c11))
        have C2 := Lib.hid (And.intro lt2 (And.intro c20 c21))
        have V1 : ∀ W, Gr wr.heap.size wr W → W.cell? ⟨b1, off1 + k * 2, none⟩ = some (.string fs[k].1) ∧ W.cell? ⟨b1, off1 + k * 2 + 1, none⟩ = some (.slice t1 tl1 tc1) := fun W hW => by
          have hw := gl_step hB.out hW
          exact ⟨(hw.cell (p := ⟨b1, off1 + k * 2, none⟩) C1.out.1).trans C1.out.2.1, (hw.cell (p := ⟨b1, off1 + k * 2 + 1, none⟩) C1.out.1).trans C1.out.2.2⟩
        have V2 : ∀ W, Gr wr.heap.size wr W → W.cell? ⟨b2, off2 + k * 2, none⟩ = some (.string fs2[k].1) ∧ W.cell? ⟨b2, off2 + k * 2 + 1, none⟩ = some (.slice t2 tl2 tc2) := fun W hW => by
          have hw := gl_step hB.out hW
          exact ⟨(hw.cell (p := ⟨b2, off2 + k * 2, none⟩) C2.out.1).trans C2.out.2.1, (hw.cell (p := ⟨b2, off2 + k * 2 + 1, none⟩) C2.out.1).trans C2.out.2.2⟩
        have V1 := Lib.hid V1
        have V2 := Lib.hid V2
        have KC : Hid (∀ W, Gr wr.heap.size wr W → Calls Tryz.prog 127 #[.agg #[.string fs[k].1, .slice t1 tl1 tc1], .agg #[.string fs2[k].1, .slice t2 tl2 tc2]] W fun e w' => e = .returned (.int .i64 (cmpF g fs[k] fs2[k])) ∧ Gr wr.heap.size wr w') := fun W hW =>
          (HC.out W _ _ _ _ _ _ _ _ _ _ (mono1 (gl_step hB.out hW) _ _ _ _ i1) (mono2 (gl_step hB.out hW) _ _ _ _ i2)).mono fun _ _ ⟨a, b⟩ => ⟨a, gl_step hW b⟩
        clear c10 c11 c20 c21 lt1 lt2 i1 i2
        generalize hn1 : fs[k].1 = nm1 at *
        generalize hn2 : fs2[k].1 = nm2 at *
        generalize hcc : cmpF g fs[k] fs2[k] = cc at *
        have HCC := Lib.hid hcc
        clear hcc hn1 hn2
        go_upto_region 4 with fail
        refine region_class (C := fun W => Gr wr.heap.size wr W) (by kernel_rfl) (by kernel_rfl) ((Gr.refl _ _).drew) ?_
        repeat (first | go_big_quiet_skip | (go_big_quiet_want; go_big_quiet_op; first | go_big_quiet_on | (apply Exists.intro; refine ⟨fun W hW => ?_, ?_⟩; (first | rfl | exact (KC.out W hW) | (obtain ⟨q0, q1⟩ := V1.out W hW; go_simp; first | done | rfl | exact ⟨rfl, rfl⟩) | (obtain ⟨q0, q1⟩ := V2.out W hW; go_simp; first | done | rfl | exact ⟨rfl, rfl⟩)); go_big_quiet_on)))
        refine wpQuiet_nil ?_
        intro w9 hW9
        have HB9 := Lib.hid (gl_step hB.out hW9)
        clear hW9
        clear V1 V2 KC
        by_cases h0 : cc = 0
        · have HZ : Hid (cmpF g fs[k] fs2[k] = 0) := HCC.out.trans h0
          subst h0
          go_wp2_with fail
          go_roundw
          case rel => exact ⟨k + 1, by omega, by go_num, Lib.hid (show ∀ j (a : j < fs.length) (b : j < fs2.length), j < k + 1 → cmpF g fs[j] fs2[j] = 0 from fun j a b hj => by
            by_cases e : j = k
            · subst e; exact HZ.out
            · exact hz.out j a b (Nat.lt_of_le_of_ne (Nat.le_of_lt_succ hj) e)), HB9⟩
          case measure => simp [intOf]; omega
        · have hb : (cc != 0) = true := by simpa using h0
          have HN := Lib.hid h0
          clear h0
          go_wp2_with fail
          go_ret
          exact ⟨ret_int (by rw [lexL_at (cmpF g) fs fs2 k L1 L2 (fun j a b hj => hz.out j a b hj) (by rw [HCC.out]; exact HN.out), HCC.out]), HB9.out⟩
      · go_wp2_with (go_at_call 123; (with_reducible refine (cmpI_any _ _ _).mono ?_); rintro e w1 ⟨rfl, rfl⟩)
        go_ret
        exact ⟨ret_int (lexL_end _ _ _ (fun j a b => hz.out j a b (by omega))).symm, hB.out⟩
  · have B1 : fs.length ≤ fs2.length := by omega
    go_enter Tryz.func126, Tryz.ntmps126
    go_wp2_with fail
    go_loopw [14] (fun i wr => ∃ k : Nat, k ≤ fs.length ∧ i = .int .i64 k ∧ Hid (∀ j (a : j < fs.length) (b : j < fs2.length), j < k → cmpF g fs[j] fs2[j] = 0) ∧ Hid (Gr w.heap.size w wr)) (fun i _ => fs.length - (intOf i).toNat)
    case atStart => exact ⟨0, Nat.zero_le _, rfl, fun j _ _ hj => absurd hj (Nat.not_lt_zero _), Gr.refl _ _⟩
    case round =>
      obtain ⟨k, hk, rfl, hz, hB⟩ := hrel
      rename World => wr
      by_cases hlt : k < fs.length
      · have hk1 : (k : Int) < (fs.length : Int) := by omega
        have hk2 : (k : Int) < (fs2.length : Int) := by omega
        have hk0 : (0 : Int) ≤ (k : Int) := by omega
        have L1 : k < fs.length := by omega
        have L2 : k < fs2.length := by omega
        obtain ⟨b1, off1, tl1, tc1, t1, rfl, lt1, c10, c11, i1⟩ := H1.out k L1
        obtain ⟨b2, off2, tl2, tc2, t2, rfl, lt2, c20, c21, i2⟩ := H2.out k L2
        have C1 := Lib.hid (And.intro lt1 (And.intro c10 c11))
        have C2 := Lib.hid (And.intro lt2 (And.intro c20 c21))
        have V1 : ∀ W, Gr wr.heap.size wr W → W.cell? ⟨b1, off1 + k * 2, none⟩ = some (.string fs[k].1) ∧ W.cell? ⟨b1, off1 + k * 2 + 1, none⟩ = some (.slice t1 tl1 tc1) := fun W hW => by
          have hw := gl_step hB.out hW
          exact ⟨(hw.cell (p := ⟨b1, off1 + k * 2, none⟩) C1.out.1).trans C1.out.2.1, (hw.cell (p := ⟨b1, off1 + k * 2 + 1, none⟩) C1.out.1).trans C1.out.2.2⟩
        have V2 : ∀ W, Gr wr.heap.size wr W → W.cell? ⟨b2, off2 + k * 2, none⟩ = some (.string fs2[k].1) ∧ W.cell? ⟨b2, off2 + k * 2 + 1, none⟩ = some (.slice t2 tl2 tc2) := fun W hW => by
          have hw := gl_step hB.out hW
          exact ⟨(hw.cell (p := ⟨b2, off2 + k * 2, none⟩) C2.out.1).trans C2.out.2.1, (hw.cell (p := ⟨b2, off2 + k * 2 + 1, none⟩) C2.out.1).trans C2.out.2.2⟩
        have V1 := Lib.hid V1
        have V2 := Lib.hid V2
        have KC : Hid (∀ W, Gr wr.heap.size wr W → Calls Tryz.prog 127 #[.agg #[.string fs[k].1, .slice t1 tl1 tc1], .agg #[.string fs2[k].1, .slice t2 tl2 tc2]] W fun e w' => e = .returned (.int .i64 (cmpF g fs[k] fs2[k])) ∧ Gr wr.heap.size wr w') := fun W hW =>
          (HC.out W _ _ _ _ _ _ _ _ _ _ (mono1 (gl_step hB.out hW) _ _ _ _ i1) (mono2 (gl_step hB.out hW) _ _ _ _ i2)).mono fun _ _ ⟨a, b⟩ => ⟨a, gl_step hW b⟩
        clear c10 c11 c20 c21 lt1 lt2 i1 i2
        generalize hn1 : fs[k].1 = nm1 at *
        generalize hn2 : fs2[k].1 = nm2 at *
        generalize hcc : cmpF g fs[k] fs2[k] = cc at *
        have HCC := Lib.hid hcc
        clear hcc hn1 hn2
        go_upto_region 4 with fail
        refine region_class (C := fun W => Gr wr.heap.size wr W) (by kernel_rfl) (by kernel_rfl) ((Gr.refl _ _).drew) ?_
        repeat (first | go_big_quiet_skip | (go_big_quiet_want; go_big_quiet_op; first | go_big_quiet_on | (apply Exists.intro; refine ⟨fun W hW => ?_, ?_⟩; (first | rfl | exact (KC.out W hW) | (obtain ⟨q0, q1⟩ := V1.out W hW; go_simp; first | done | rfl | exact ⟨rfl, rfl⟩) | (obtain ⟨q0, q1⟩ := V2.out W hW; go_simp; first | done | rfl | exact ⟨rfl, rfl⟩)); go_big_quiet_on)))
        refine wpQuiet_nil ?_
        intro w9 hW9
        have HB9 := Lib.hid (gl_step hB.out hW9)
        clear hW9
        clear V1 V2 KC
        by_cases h0 : cc = 0
        · have HZ : Hid (cmpF g fs[k] fs2[k] = 0) := HCC.out.trans h0
          subst h0
          go_wp2_with fail
          go_roundw
          case rel => exact ⟨k + 1, by omega, by go_num, Lib.hid (show ∀ j (a : j < fs.length) (b : j < fs2.length), j < k + 1 → cmpF g fs[j] fs2[j] = 0 from fun j a b hj => by
            by_cases e : j = k
            · subst e; exact HZ.out
            · exact hz.out j a b (Nat.lt_of_le_of_ne (Nat.le_of_lt_succ hj) e)), HB9⟩
          case measure => simp [intOf]; omega
        · have hb : (cc != 0) = true := by simpa using h0
          have HN := Lib.hid h0
          clear h0
          go_wp2_with fail
          go_ret
          exact ⟨ret_int (by rw [lexL_at (cmpF g) fs fs2 k L1 L2 (fun j a b hj => hz.out j a b hj) (by rw [HCC.out]; exact HN.out), HCC.out]), HB9.out⟩
      · go_wp2_with (go_at_call 123; (with_reducible refine (cmpI_any _ _ _).mono ?_); rintro e w1 ⟨rfl, rfl⟩)
        go_ret
        exact ⟨ret_int (lexL_end _ _ _ (fun j a b => hz.out j a b (by omega))).symm, hB.out⟩

end Go.Proofs.YtddleeenlpigfaaGreatDoor.G
