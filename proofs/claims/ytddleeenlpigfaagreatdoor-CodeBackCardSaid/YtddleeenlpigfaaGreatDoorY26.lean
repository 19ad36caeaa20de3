/- Shelf, Ao, Ar, As, Bd -/
import Derived.Shelf.SlSortCmp.WholeK
import Derived.Shelf.SlSortCmp.NoneTotal
import Derived.Ground.SlsfProg
import Derived.Test.YtddleeenlpigfaaGreatDoorProg
import Derived.WalkMore
import Derived.RegionTactic
import Derived.BigRegion
import Derived.Test.YtddleeenlpigfaaGreatDoorY24
import Derived.Test.YtddleeenlpigfaaGreatDoorY25
/- The library's contract of slices.SortFunc at this program's own numbers, laid by the library's command and written out in plain words. -/
namespace Go.Proofs
open Go.Shelf
def Tryz.sortT_ren : Go.Shelf.Ren := ⟨fun | 6 => 87 | 15 => 121 | 14 => 120 | 28 => 158 | 29 => 159 | 20 => 150 | 21 => 151 | 22 => 152 | 23 => 153 | 24 => 154 | 25 => 155 | 26 => 156 | 27 => 157 | 46 => 174 | 47 => 175 | 48 => 176 | 49 => 177 | 50 => 178 | 57 => 182 | n => n, fun | 22 => 22 | 24 => 31 | 25 => 61 | 3 => 3 | 39 => 137 | 0 => 0 | 53 => 168 | 55 => 55 | 4 => 4 | 46 => 161 | 45 => 160 | 50 => 165 | 5 => 5 | 9 => 9 | 66 => 181 | 70 => 65 | 76 => 186 | 77 => 187 | n => n, fun | n => n⟩
theorem Tryz.sortT : Go.Proofs.SlLaysF0.n6 Tryz.prog Tryz.sortT_ren := {
  mixed := by kernel_rfl
  f6 := ⟨Tryz.f87.name, by decide, Tryz.func87.trans (congrArg some (by kernel_rfl))⟩
  f14 := ⟨Tryz.f120.name, by decide, Tryz.func120.trans (congrArg some (by kernel_rfl))⟩
  f15 := Tryz.func121.trans (congrArg some (by kernel_rfl))
  f20 := ⟨Tryz.f150.name, by decide, Tryz.func150.trans (congrArg some (by kernel_rfl))⟩
  f21 := ⟨Tryz.f151.name, by decide, Tryz.func151.trans (congrArg some (by kernel_rfl))⟩
  f22 := ⟨Tryz.f152.name, by decide, Tryz.func152.trans (congrArg some (by kernel_rfl))⟩
  f23 := ⟨Tryz.f153.name, by decide, Tryz.func153.trans (congrArg some (by kernel_rfl))⟩
  f24 := ⟨Tryz.f154.name, by decide, Tryz.func154.trans (congrArg some (by kernel_rfl))⟩
  f25 := ⟨Tryz.f155.name, by decide, Tryz.func155.trans (congrArg some (by kernel_rfl))⟩
  f26 := ⟨Tryz.f156.name, by decide, Tryz.func156.trans (congrArg some (by kernel_rfl))⟩
  f27 := ⟨Tryz.f157.name, by decide, Tryz.func157.trans (congrArg some (by kernel_rfl))⟩
  f28 := Tryz.func158.trans (congrArg some (by kernel_rfl))
  f29 := Tryz.func159.trans (congrArg some (by kernel_rfl))
  f46 := ⟨Tryz.f174.name, by decide, Tryz.func174.trans (congrArg some (by kernel_rfl))⟩
  f47 := Tryz.func175.trans (congrArg some (by kernel_rfl))
  f48 := Tryz.func176.trans (congrArg some (by kernel_rfl))
  f49 := ⟨Tryz.f177.name, by decide, Tryz.func177.trans (congrArg some (by kernel_rfl))⟩
  f50 := ⟨Tryz.f178.name, by decide, Tryz.func178.trans (congrArg some (by kernel_rfl))⟩
  f57 := ⟨Tryz.f182.name, by decide, Tryz.func182.trans (congrArg some (by kernel_rfl))⟩
  t0 := Tryz.underlying0
  a0 := Tryz.isAgg0
  z0 := Tryz.sizeOf0
  v0 := Tryz.zeroValue0
  t3 := Tryz.underlying3
  a3 := Tryz.isAgg3
  z3 := Tryz.sizeOf3
  v3 := Tryz.zeroValue3
  t4 := Tryz.underlying4
  a4 := Tryz.isAgg4
  z4 := Tryz.sizeOf4
  v4 := Tryz.zeroValue4
  t5 := Tryz.underlying5
  a5 := Tryz.isAgg5
  z5 := Tryz.sizeOf5
  v5 := Tryz.zeroValue5
  t9 := Tryz.underlying9
  a9 := Tryz.isAgg9
  z9 := Tryz.sizeOf9
  v9 := Tryz.zeroValue9
  t22 := Tryz.underlying22
  a22 := Tryz.isAgg22
  z22 := Tryz.sizeOf22
  v22 := Tryz.zeroValue22
  t25 := Tryz.underlying61
  a25 := Tryz.isAgg61
  z25 := Tryz.sizeOf61
  v25 := Tryz.zeroValue61
  t39 := Tryz.underlying137
  a39 := Tryz.isAgg137
  z39 := Tryz.sizeOf137
  v39 := Tryz.zeroValue137
  t45 := Tryz.underlying160
  a45 := Tryz.isAgg160
  z45 := Tryz.sizeOf160
  v45 := Tryz.zeroValue160
  t46 := Tryz.underlying161
  a46 := Tryz.isAgg161
  z46 := Tryz.sizeOf161
  v46 := Tryz.zeroValue161
  t50 := Tryz.underlying165
  a50 := Tryz.isAgg165
  z50 := Tryz.sizeOf165
  v50 := Tryz.zeroValue165
  t53 := Tryz.underlying168
  a53 := Tryz.isAgg168
  z53 := Tryz.sizeOf168
  v53 := Tryz.zeroValue168
  t55 := Tryz.underlying55
  a55 := Tryz.isAgg55
  z55 := Tryz.sizeOf55
  v55 := Tryz.zeroValue55
  t66 := Tryz.underlying181
  a66 := Tryz.isAgg181
  z66 := Tryz.sizeOf181
  v66 := Tryz.zeroValue181
  t70 := Tryz.underlying65
  a70 := Tryz.isAgg65
  z70 := Tryz.sizeOf65
  v70 := Tryz.zeroValue65
  t76 := Tryz.underlying186
  a76 := Tryz.isAgg186
  z76 := Tryz.sizeOf186
  v76 := Tryz.zeroValue186
  t77 := Tryz.underlying187
  a77 := Tryz.isAgg187
  z77 := Tryz.sizeOf187
  v77 := Tryz.zeroValue187 }
end Go.Proofs
/- SortFunc at terms. -/
namespace Go.Proofs.YtddleeenlpigfaaGreatDoor
open Go.RowKit
open Go.Sort (grow PermIn SortedIn HoldsK SWO flatK putRowK)
/-- A header whose fields lie in a world. -/
abbrev HrIn (n : Nat) (w : World) : Type := { h : Hr // h.ok n w }
instance (n : Nat) (w : World) : Inhabited (HrIn n w) := ⟨⟨⟨.mk 0 0 0 ⟨#[]⟩ false false false [], none, 0, 0⟩, rfl, by decide, fun i hi => absurd hi (Nat.not_lt_zero _)⟩⟩
def cmpH (n : Nat) (w : World) (a b : HrIn n w) : Int := cmpT (cmpV n) a.1.x b.1.x
def encH {n : Nat} {w : World} (a : HrIn n w) : List Value := a.1.enc
theorem cmp_swo (n : Nat) (w : World) : SWO (ltOf (cmpH n w)) where
  irrefl x := by simp [ltOf, cmpH, (cmpT_cmp n).refl]
  trans x y z := by
    simp only [ltOf, decide_eq_true_eq]
    exact fun h1 h2 => lt_of (cmpT_cmp n) h1 (Int.le_of_lt h2)
  ntrans x y z := by
    simp only [ltOf, decide_eq_false_iff_not]
    intro h1 h2 h3
    have a1 := (cmpT_cmp n).anti x.1.x y.1.x
    have a2 := (cmpT_cmp n).anti y.1.x z.1.x
    have a3 := (cmpT_cmp n).anti x.1.x z.1.x
    unfold cmpH at h1 h2 h3
    have := ((cmpT_cmp n).trans z.1.x y.1.x x.1.x (by omega) (by omega)).1
    omega
theorem sortW_kp {n : Nat} {w0 : World} (w : World) (g m : Nat) (D : Array (HrIn n w0)) (os : Array Obj) : Kp g w (sortWorldK encH 8 w g 0 m D os) := by
  refine ⟨rfl, rfl, rfl, ?_, fun k hk hP => ?_⟩
  · simp [sortWorldK, grow, putRowK, Sort.putRow, Sort.mapBlock, Sort.ahead]
  · simp only [sortWorldK]
    rw [Sort.heap_grow_old _ _ (by simpa [putRowK, Sort.putRow, Sort.mapBlock, Sort.ahead] using hk)]
    simp only [putRowK, Sort.putRow, Sort.mapBlock, Sort.ahead, Array.getElem?_modify]
    rw [if_neg (fun e => hP e.symm)]
theorem sortW_frozen {n : Nat} {w0 : World} (w : World) (g m : Nat) (D : Array (HrIn n w0)) (os : Array Obj) (hg : g < w.heap.size) (o : Nat) : (sortWorldK encH 8 w g 0 m D os).frozen? ⟨g, o, none⟩ = w.frozen? ⟨g, o, none⟩ := by
  simp only [sortWorldK]
  rw [Sort.frozen?_grow _ _ _ (by simpa [putRowK, Sort.putRow, Sort.mapBlock, Sort.ahead] using hg)]
  unfold putRowK
  rw [Go.Sort.frozen?_putRow]
  rfl
theorem terms88 (n : Nat) (a b : Hr) (w : World) (ha : a.ok n w) (hb : b.ok n w) : Calls Tryz.prog 88 #[a.v, b.v] w (GmpPost (cmpT (cmpV n) a.x b.x) w) := by
  obtain ⟨⟨k, lo, hi, s, y, m, o, fs⟩, f, fl, fc⟩ := a
  obtain ⟨⟨k2, lo2, hi2, s2, y2, m2, o2, fs2⟩, f2, fl2, fc2⟩ := b
  exact G.terms_in n (G.compare_in n) w k lo hi s y m o f fl fc fs k2 lo2 hi2 s2 y2 m2 o2 f2 fl2 fc2 fs2 ha hb
theorem enters88 : ∀ args w, (callFunc 88 args).run Tryz.prog w = .ok (.enter 88 args) w := enters_of Tryz.func88 (by kernel_rfl) rfl
def SortP (n g : Nat) (d : List Hr) (w : World) (e : Ending) (w' : World) : Prop :=
  e = .returned (.tuple #[]) ∧ ∃ d' : List Hr, d'.Perm d ∧ d'.Pairwise (fun a b => cmpT (cmpV n) a.x b.x ≤ 0) ∧ Kp g w w' ∧ (∀ j (h : j < d'.length), T8 w' g (j * 8) d'[j]) ∧ ∀ o, w'.frozen? ⟨g, o, none⟩ = false
theorem sort_any (n : Nat) (w0 : World) (g cap : Nat) (d : List Hr) (hz : d.length < 4611686018427387904) (w : World) (hb : Below w0.heap.size w0 w) (hg : w0.heap.size ≤ g) (hgl : g < w.heap.size)
    (row : ∀ j (h : j < d.length), T8 w g (j * 8) d[j]) (fz : ∀ o, w.frozen? ⟨g, o, none⟩ = false) (ok : ∀ h ∈ d, h.ok n w0) :
    Calls Tryz.prog 87 #[.slice (some ⟨g, 0, none⟩) d.length cap, .func (.func 88) #[] #[]] w (SortP n g d w) := by
  obtain ⟨D, hD⟩ : ∃ D : List (HrIn n w0), D.map (·.1) = d := ⟨d.attach.map fun h => ⟨h.1, ok h.1 h.2⟩, by rw [List.map_map]; exact List.attach_map_subtype_val d⟩
  have hlen : D.length = d.length := by rw [← hD, List.length_map]
  have hH : HoldsK encH 8 w g 0 D.toArray := by
    intro j hj
    rw [Sort.size_flatK, List.size_toArray] at hj
    refine ⟨?_, fz _⟩
    rw [Sort.get_flatK _ _ _ _ (by simpa using hj), Nat.zero_add]
    have hjd : j / 8 < d.length := by omega
    have h := enc_at (row (j / 8) hjd) (j % 8) (Nat.mod_lt _ (by omega))
    rw [Nat.div_add_mod'] at h
    rw [h]
    have : D.toArray[j / 8]! = D[j / 8]'(by omega) := by rw [getElem!_pos _ _ (by simpa using (by omega : j / 8 < D.length))]; simp
    rw [this]
    have e : d[j / 8] = (D[j / 8]'(by omega)).1 := by simp only [← hD, List.getElem_map]
    rw [e]; rfl
  have hcmp : CmpLays Tryz.prog 88 #[] encH 8 (cmpH n w0) g 0 D.toArray.size w := fun m os dk _ x y => by
    have hW : Below w0.heap.size w0 (sortWorldK encH 8 w g 0 m dk os) := Kp.below hb (sortW_kp w g m dk os) hg
    exact (terms88 n x.1 y.1 _ (x.2.below hW) (y.2.below hW)).mono fun e w' ⟨h1, h2⟩ => ⟨h1, grow_of h2⟩
  have h := AnyQ.slices_SortFunc Tryz.sortT 8 Tryz.isAgg31 Tryz.sizeOf31 (encH (n := n) (w := w0)) (fun _ => rfl) (fun x v hv => by
    simp only [encH, Hr.enc, List.mem_cons, List.not_mem_nil, or_false] at hv
    rcases hv with rfl | rfl | rfl | rfl | rfl | rfl | rfl | rfl <;> rfl) (cmpH n w0) (cmp_swo n w0) 88 #[] g 0 cap D.toArray w enters88 hcmp hH hgl (by simpa [hlen] using hz)
  rw [List.size_toArray, hlen] at h
  refine Calls.mono h ?_
  rintro e w' ⟨rfl, D', m, os, hp, hs, rfl⟩
  obtain ⟨hp1, -, hp3⟩ := hp
  have hsz : D'.size = D.length := by rw [hp1, List.size_toArray]
  have hH' := Go.Proofs.holdsK_sortWorldK_c encH 8 w g 0 D.toArray D' m os hH hgl hp1
  have hrow : ∀ j (h : j < D'.size), T8 (sortWorldK encH 8 w g 0 m D' os) g (j * 8) (D'[j]).1 := fun j h => t8_of fun r hr => by
    have := (hH'.cell h hr).1
    rw [Nat.zero_add, getElem!_pos D' j h] at this
    exact this
  refine ⟨rfl, D'.toList.map (·.1), ?_, ?_, sortW_kp w g m D' os, fun j h => ?_, fun o => (sortW_frozen w g m D' os hgl o).trans (fz o)⟩
  · rw [← hD]
    refine List.Perm.map _ ?_
    have e1 : D'.extract 0 D.length = D' := by rw [← hsz]; simp
    have e2 : D.toArray.extract 0 D.length = D.toArray := by simp
    rw [← hlen, e1, e2] at hp3
    simpa using hp3
  · rw [List.pairwise_map, List.pairwise_iff_getElem]
    intro i j hi hj hij
    rw [Array.length_toList] at hi hj
    have := hs i j (Nat.zero_le _) hij (by omega)
    rw [getElem!_pos D' j hj, getElem!_pos D' i hi] at this
    have h9 : ¬ cmpT (cmpV n) (D'[j]).1.x (D'[i]).1.x < 0 := of_decide_eq_false this
    rw [Array.getElem_toList, Array.getElem_toList]
    have a := (cmpT_cmp n).anti (D'[i]).1.x (D'[j]).1.x
    omega
  · rw [List.getElem_map, Array.getElem_toList]
    exact hrow j (by simpa using h)
end Go.Proofs.YtddleeenlpigfaaGreatDoor
/- WALK of left. -/
namespace Go.Proofs.YtddleeenlpigfaaGreatDoor
open Go.RowKit
set_option maxRecDepth 100000 in
set_option maxHeartbeats 2000000 in
theorem none_any (w : World) : Calls Tryz.prog 15 #[] w fun e w' => e = .returned (.agg #[.slice none 0 0]) ∧ Below w.heap.size w w' := by
  go_enter Tryz.func15, Tryz.ntmps15
  go_wp2_with fail
  exact bodyPost_ret (v := .agg #[.slice none 0 0]) (by simp [results, Tryz.results15, go_sem]) rfl ⟨rfl, bl_alloc (Below.refl _ _)⟩
set_option maxRecDepth 100000 in
set_option maxHeartbeats 2000000 in
theorem compact_zero (t : Option Addr) (c : Nat) (fv : Value) (w : World) : Calls Tryz.prog 89 #[.slice t 0 c, fv] w fun e w' => e = .returned (.slice t 0 c) ∧ w' = w := by
  go_enter Tryz.func89, Tryz.ntmps89
  go_wp2_with fail
  go_ret
  exact ⟨rfl, rfl⟩
theorem sort_zero (t : Option Addr) (c : Nat) (fv : Value) (w : World) : Calls Tryz.prog 87 #[.slice t 0 c, fv] w fun e w' => e = .returned (.tuple #[]) ∧ w' = w := AnyF.slices_SortFunc_none Tryz.sortT t c fv w
/-- What left answers, told by headers. -/
def LeftH (D : List Hr) (n : Nat) (A : List Tm) (w : World) (e : Ending) (w' : World) : Prop :=
  ∃ (t : Option Addr) (tl tc : Nat) (er : Int), e = .returned (.tuple #[.agg #[.slice t tl tc], .int .i64 er]) ∧ Below w.heap.size w w' ∧
    ((wN (n + 1) (normV n A) ≤ 512 ∧ er = 0 ∧ ∃ L : List Hr, (∀ h ∈ L, h ∈ D) ∧ L.map (·.x) = normV n A ∧ (L.length : Int) ≤ 9223372036854775807 ∧ OwnH w' w.heap.size (.slice t tl tc) L) ∨ (512 < wN (n + 1) (normV n A) ∧ er = 30 ∧ t = none ∧ tl = 0 ∧ tc = 0))
/-- What left answers. -/
def LeftP (n : Nat) (A : List Tm) (w : World) (e : Ending) (w' : World) : Prop :=
  ∃ (t : Option Addr) (tl tc : Nat) (er : Int), e = .returned (.tuple #[.agg #[.slice t tl tc], .int .i64 er]) ∧ Below w.heap.size w w' ∧
    ((wN (n + 1) (normV n A) ≤ 512 ∧ er = 0 ∧ InV w' (n + 1) t tl tc (normV n A)) ∨ (512 < wN (n + 1) (normV n A) ∧ er = 30 ∧ t = none ∧ tl = 0 ∧ tc = 0))
set_option maxRecDepth 100000 in
set_option maxHeartbeats 8000000 in
theorem left_nil (n : Nat) (w : World) (t : Option Addr) (tc : Nat) : Calls Tryz.prog 55 #[.slice t 0 tc] w (LeftH [] n [] w) := by
  have HC := Lib.hid (fun W => clone_heads n W W (Below.refl _ _) t 0 tc [] ⟨rfl, by decide, fun i hi => absurd hi (Nat.not_lt_zero _)⟩ (by omega) [] rfl (fun _ _ _ j hj => absurd hj (Nat.not_lt_zero _)))
  go_enter Tryz.func55, Tryz.ntmps55
  go_wp2_with fail
  go_step3
  go_wp2_with (first
    | (go_at_call 83; refine (HC.out _).mono ?_; rintro e w1 ⟨t', c', rfl, hB1, -⟩; have HB1 := Lib.hid (bl_step (bl_alloc (Below.refl w.heap.size w)) hB1); have HR := Lib.hid (show Rx w1 w.heap.size from ⟨Nat.lt_of_lt_of_le new_lt hB1.size, (hB1.cell (p := ⟨w.heap.size, 0, none⟩) new_lt).trans (by simp [go_sem]), (hB1.frozen (p := ⟨w.heap.size, 0, none⟩) new_lt).trans (by simp [go_sem])⟩); clear hB1)
    | (go_at_call 87; refine (sort_zero _ _ _ _).mono ?_; rintro e w2 ⟨rfl, rfl⟩)
    | (go_at_call 89; refine (compact_zero _ _ _ _).mono ?_; rintro e w2 ⟨rfl, rfl⟩)
    | (go_at_call 15; refine (none_any _).mono ?_; rintro e w3 ⟨rfl, hB3⟩; have HB3 := Lib.hid (bl_step HB1.out hB3); replace HR := Lib.hid (HR.out.later hB3); clear hB3))
  go_step3
  go_wp2_with fail
  go_loopw [17] (fun i wr => i = .int .i64 0 ∧ Hid (wr = w3.alloc (.cells #[.slice none 0 0] 24))) (fun _ _ => 0)
  case atStart => exact ⟨rfl, rfl⟩
  case round =>
    obtain ⟨rfl, hw⟩ := hrel
    replace hw := hw.out
    subst hw
    obtain ⟨rz, rc, rf⟩ := HR.out
    go_wp2_with fail
    rw [Exit.noGoto_ret]
    exact bodyPost_ret (v := .tuple #[.agg #[.slice none 0 0], .int .i64 0]) (by simp [results, Tryz.results55, go_sem, rz, set_here rc]) rfl ⟨none, 0, 0, 0, rfl, bl_alloc (bl_set HB3.out (Nat.le_refl _)), .inl ⟨by simp [normV, someL, keepL, wN], rfl, [], fun _ h => h, rfl, by decide, World.ownsRow_nil _ _ _ _⟩⟩
theorem keep_take {n : Nat} {S : List Tm} (k : Nat) (hk : k < S.length) (h : ∀ j (hj : j < S.length), j ≠ k → undT (undV n) S[k] S[j] = false) : (S[k] ∈ keepL (cmpT (cmpV n)) (undT (undV n)) S) :=
  keepL_mem.2 ⟨List.getElem_mem hk, fun y hy hne => by
    obtain ⟨j, hj, rfl⟩ := List.getElem_of_mem hy
    exact h j hj (fun e => hne (by subst e; exact (cmpT_cmp n).refl _))⟩
theorem drop_take {n : Nat} {S : List Tm} (hS : Ups (cmpT (cmpV n)) S) (k j : Nat) (hk : k < S.length) (hj : j < S.length) (hne : j ≠ k) (h : undT (undV n) S[k] S[j] = true) : (S[k] ∉ keepL (cmpT (cmpV n)) (undT (undV n)) S) := fun hm => by
  have := (keepL_mem.1 hm).2 S[j] (List.getElem_mem hj) (fun e => by
    have hp := List.pairwise_iff_getElem.1 hS
    have a := (cmpT_cmp n).anti S[k] S[j]
    rcases Nat.lt_or_gt_of_ne hne with h1 | h1
    · have := hp j k hj hk h1; omega
    · have := hp k j hk hj h1; omega)
  rw [h] at this
  cases this
/-- Those of the first k that are kept. -/
def keepH (n : Nat) (S : List Tm) (d : List Hr) (k : Nat) : List Hr := (d.take k).filter fun h => !(S.any fun y => decide (cmpT (cmpV n) h.x y ≠ 0) && undT (undV n) h.x y)
theorem keepH_map {n : Nat} {d : List Hr} : (keepH n (d.map (·.x)) d d.length).map (·.x) = keepL (cmpT (cmpV n)) (undT (undV n)) (d.map (·.x)) := by
  unfold keepH keepL
  rw [List.take_length, List.filter_map]
  rfl
theorem keepH_yes {n : Nat} {S : List Tm} {d : List Hr} {k : Nat} (hk : k < d.length) (h : d[k].x ∈ keepL (cmpT (cmpV n)) (undT (undV n)) S) : keepH n S d (k + 1) = keepH n S d k ++ [d[k]] := by
  unfold keepH
  rw [List.take_succ_eq_append_getElem hk, List.filter_append]
  congr 1
  rw [List.filter_eq_self]
  intro a ha
  rw [List.mem_singleton.1 ha]
  have := (List.mem_filter.1 h).2
  exact this
theorem keepH_no {n : Nat} {S : List Tm} {d : List Hr} {k : Nat} (hk : k < d.length) (hS : d[k].x ∈ S) (h : d[k].x ∉ keepL (cmpT (cmpV n)) (undT (undV n)) S) : keepH n S d (k + 1) = keepH n S d k := by
  unfold keepH
  rw [List.take_succ_eq_append_getElem hk, List.filter_append]
  have : ([d[k]].filter fun h => !(S.any fun y => decide (cmpT (cmpV n) h.x y ≠ 0) && undT (undV n) h.x y)) = [] := by
    rw [List.filter_eq_nil_iff]
    intro a ha
    rw [List.mem_singleton.1 ha]
    intro hc
    exact h (List.mem_filter.2 ⟨hS, hc⟩)
  rw [this, List.append_nil]
theorem keepH_le {n : Nat} {S : List Tm} {d : List Hr} {k : Nat} : wN (n + 1) ((keepH n S d k).map (·.x)) ≤ wN (n + 1) ((keepH n S d d.length).map (·.x)) := by
  have e : keepH n S d d.length = keepH n S d k ++ (d.drop k).filter fun h => !(S.any fun y => decide (cmpT (cmpV n) h.x y ≠ 0) && undT (undV n) h.x y) := by
    unfold keepH
    rw [← List.filter_append, List.take_append_drop, List.take_length]
  rw [e, List.map_append, wN_append]
  omega
theorem keepH_sub {n : Nat} {S : List Tm} {d : List Hr} {k : Nat} {h : Hr} (hh : h ∈ keepH n S d k) : h ∈ d := List.mem_of_mem_take (List.mem_filter.1 hh).1
end Go.Proofs.YtddleeenlpigfaaGreatDoor
/- WALK of left, at some terms. -/
namespace Go.Proofs.YtddleeenlpigfaaGreatDoor
open Go.RowKit
theorem clone_len {tl : Nat} {d : List Hr} {A : List Tm} {w : World} {e : Ending} {w' : World} (hd : d.map (·.x) = A) (hne : A ≠ []) (hl : A.length = tl) (h : CloneH d tl A w e w') :
    ∃ (g c' : Nat), e = .returned (.slice (some ⟨g, 0, none⟩) d.length c') ∧ Below w.heap.size w w' ∧ d.length ≤ c' ∧ w.heap.size ≤ g ∧ RowH w' g d ∧ d.length = tl := by
  obtain ⟨t', c', rfl, hB, hx⟩ := h
  obtain ⟨g, rfl, hc, hg, hrow⟩ := hx.resolve_left hne
  have : d.length = tl := by rw [← hl, ← hd, List.length_map]
  rw [← this] at hc ⊢
  exact ⟨g, c', rfl, hB, hc, hg, hrow, rfl⟩
theorem owns_base {w : World} {base base' E size n : Nat} {v : Value} {xs : List Value} (h : w.ownsRow base E size v n xs) (hb : base' ≤ base) : w.ownsRow base' E size v n xs := by
  obtain ⟨h1, h2⟩ := h
  refine ⟨h1, ?_⟩
  rcases h2 with h2 | ⟨g, cap, cur, hv, hg, r⟩
  · exact Or.inl h2
  · exact Or.inr ⟨g, cap, cur, hv, by omega, r⟩
theorem alone_inV {n : Nat} {w : World} {g : Nat} {k lo hi : Int} {s : ByteArray} {y m o : Bool} {f : Option Addr} {fl fc : Nat} {fs : List (ByteArray × List Tm)} (hg : g < w.heap.size) (hT : Tc w g k lo hi s y m o f fl fc) (hok : Hr.ok n w ⟨.mk k lo hi s y m o fs, f, fl, fc⟩) :
    InV w (n + 1) (some ⟨g, 0, none⟩) 1 1 [.mk k lo hi s y m o fs] :=
  row_inV (L := [⟨.mk k lo hi s y m o fs, f, fl, fc⟩]) hg (show ((1 : Nat) : Int) ≤ 9223372036854775807 by decide) (fun h hh => by rw [List.mem_singleton.1 hh]; exact hok) (fun j hj => by
    have e : j = 0 := by simp at hj; exact hj
    subst e
    exact hT)
set_option maxRecDepth 100000 in
set_option maxHeartbeats 8000000 in
theorem left_cons (n : Nat) (w : World) (t : Option Addr) (tl tc : Nat) (A : List Tm) (h : InV w (n + 1) t tl tc A) (hne : A ≠ []) (hbig : tl * 72 ≤ 140737488355328) (hr : ∀ x ∈ A, RtN n x) (hw : ∀ x ∈ A, wF n x.fs ≤ 1099511627776) (d : List Hr) (hd : d.map (·.x) = A) (hok : ∀ h ∈ d, h.ok n w) (hrow : ∀ b off, t = some ⟨b, off, none⟩ → ∀ j (hj : j < d.length), b < w.heap.size ∧ T8 w b (off + j * 8) d[j]) :
    Calls Tryz.prog 55 #[.slice t tl tc] w (LeftH d n A w) := by
  have hl : A.length = tl := h.1
  have hA : ∀ x ∈ A, Dt n x := h.dv
  have HC := Lib.hid (fun (W : World) (hW : Below w.heap.size w W) => clone_heads n w W hW t tl tc A h hbig d hd hrow)
  have HNE := Lib.hid (And.intro hne hl)
  have HA := Lib.hid hA
  have HR := Lib.hid hr
  have HW := Lib.hid hw
  have HBIG := Lib.hid hbig
  have HD := Lib.hid hd
  have HOK := Lib.hid hok
  clear h hne hl hA hr hw hbig hd hok hrow
  go_enter Tryz.func55, Tryz.ntmps55
  go_wp2_with fail
  go_step3
  have HXE : ∃ X, w.alloc (.cells #[.slice none 0 0] 24) = X := ⟨_, rfl⟩
  obtain ⟨X, hX⟩ := HXE
  have HXB : Hid (Below w.heap.size w X ∧ X.heap.size = w.heap.size + 1 ∧ Rx X w.heap.size) := by
    rw [← hX]; exact ⟨bl_alloc (Below.refl _ _), by simp, ⟨by simp, by simp [go_sem], by simp [go_sem]⟩⟩
  rw [hX]
  clear hX
  go_wp2_with (first
    | (go_at_call 83; refine (HC.out X HXB.out.1).mono ?_; intro e w1 hcl; obtain ⟨g, c', rfl, hB1, hcap, hg, hrow, htl⟩ := clone_len HD.out HNE.out.1 HNE.out.2 hcl; have HB1 := Lib.hid (HXB.out.1.trans (hB1.mono HXB.out.1.size)); have HX1 := Lib.hid (HXB.out.2.2.later hB1)
       have HG := Lib.hid (And.intro (show w.heap.size < g by have := HXB.out.2.1; omega) (And.intro hcap htl)); have HROW := Lib.hid hrow; clear hB1 hcap hg hrow htl hcl)
    | (go_at_call 87; refine (sort_any n w g c' d (by have := HBIG.out; have := HG.out.2.2; omega) _ HB1.out (Nat.le_of_lt HG.out.1) HROW.out.1 HROW.out.2.2 HROW.out.2.1 HOK.out).mono ?_; rintro e w2 ⟨rfl, d1, hp, hs, hk, hrow2, hfz2⟩
       have HS := Lib.hid (And.intro hp hs); have HK2 := Lib.hid hk; have HR2 := Lib.hid (And.intro hrow2 hfz2); clear hp hs hk hrow2 hfz2)
    | (go_at_call 89; have hco := compact_any n w g c' d1 (by rw [HS.out.1.length_eq]; exact HG.out.2.1) (by rw [HS.out.1.length_eq]; have := HBIG.out; have := HG.out.2.2; omega) w2 (Kp.below HB1.out HK2.out (Nat.le_of_lt HG.out.1)) (Nat.le_of_lt HG.out.1) (Nat.lt_of_lt_of_le HROW.out.1 HK2.out.size) HR2.out.1 HR2.out.2 (fun h hh => HOK.out h (HS.out.1.mem_iff.1 hh)); rw [HS.out.1.length_eq] at hco; refine hco.mono ?_; clear hco; rintro e w3 ⟨rfl, hk3, hrow3, hfz3⟩
       have HK3 := Lib.hid (HK2.out.trans hk3); have HR3 := Lib.hid (And.intro hrow3 hfz3); clear hk3 hrow3 hfz3)
    | (go_at_call 15; refine (none_any _).mono ?_; rintro e w4 ⟨rfl, hB4⟩; have HB4 := Lib.hid hB4; clear hB4))
  go_step3
  go_wp2_with fail
  have HEQ : ∃ d2, compL (eqH n) d1 = d2 := ⟨_, rfl⟩
  obtain ⟨d2, hd2⟩ := HEQ
  have HM : Hid (d2.map (·.x) = someL (cmpT (cmpV n)) A ∧ (∀ h ∈ d2, h ∈ d) ∧ d2.length ≤ tl) := by
    rw [← hd2]
    refine ⟨comp_some HA.out (by have := HS.out.1.map (·.x); rwa [HD.out] at this) HS.out.2, fun h hh => HS.out.1.mem_iff.1 (compL_sub hh), ?_⟩
    have h1 := compL_len (eqH n) d1
    have h2 := HS.out.1.length_eq
    have h3 := HG.out.2.2
    omega
  rw [hd2] at HR3 ⊢
  clear hd2
  have HB5 : Hid (Below w.heap.size w w4) := (Kp.below HB1.out HK3.out (Nat.le_of_lt HG.out.1)).trans (HB4.out.mono ((Kp.below HB1.out HK3.out (Nat.le_of_lt HG.out.1)).size))
  have HX5 : Hid (Rx w4 w.heap.size) := by
    obtain ⟨a, b, c⟩ := HX1.out
    have hne : w.heap.size ≠ g := Nat.ne_of_lt HG.out.1
    exact Rx.later ⟨Nat.lt_of_lt_of_le a HK3.out.size, (HK3.out.cell (p := ⟨w.heap.size, 0, none⟩) a hne).trans b, (HK3.out.frozen (p := ⟨w.heap.size, 0, none⟩) a hne).trans c⟩ HB4.out
  have HROW5 : Hid (RowH w4 g d2) := RowH.below ⟨Nat.lt_of_lt_of_le HROW.out.1 HK3.out.size, HR3.out.2, HR3.out.1⟩ HB4.out
  have HOK2 : Hid (∀ h ∈ d2, h.ok n w) := fun h hh => HOK.out h (HM.out.2.1 h hh)
  have HGX : Hid (w.heap.size < g) := HG.out.1
  have HSUB : Hid (∀ h ∈ d2, h ∈ d) := HM.out.2.1
  have HS2 : Hid (Ups (cmpT (cmpV n)) (d2.map (·.x)) ∧ (∀ h ∈ d2, RtN n h.x ∧ wF n h.x.fs ≤ 1099511627776) ∧ (d2.length : Int) ≤ 1954687338268) := by
    refine ⟨by rw [HM.out.1]; exact someL_ups (cmpT_cmp n) A, fun h hh => ?_, by have := HM.out.2.2; have := HBIG.out; omega⟩
    have hm : h.x ∈ A := (someL_mem (sharp_of HA.out)).1 (by rw [← HM.out.1]; exact List.mem_map.2 ⟨h, hh, rfl⟩)
    exact ⟨HR.out _ hm, HW.out _ hm⟩
  have HNV : Hid (normV n A = (keepH n (d2.map (·.x)) d2 d2.length).map (·.x)) := by rw [keepH_map, HM.out.1]; rfl
  clear HK3 HR3 HK2 HR2 HS HROW HB1 HB4 HOK HD HC HG HM HA HR HW HBIG HNE
  have hz2 : (d2.length : Int) ≤ 1954687338268 := HS2.out.2.2
  go_loopw [5, 17] (fun room i wr => ∃ (k : Nat) (u : Value) (r : Int), k ≤ d2.length ∧ i = .int .i64 k ∧ room = .int .i64 r ∧ Hid (r = 512 - wN (n + 1) ((keepH n (d2.map (·.x)) d2 k).map (·.x)) ∧ 0 ≤ r) ∧ Cx wr w4.heap.size 0 u ∧ Hid (OwnH wr (w4.heap.size + 1) u (keepH n (d2.map (·.x)) d2 k)) ∧ Hid (Below w4.heap.size w4 wr)) (fun _ i _ => d2.length - (intOf i).toNat)
  case atStart => exact ⟨0, .slice none 0 0, 512, Nat.zero_le _, rfl, rfl, ⟨by simp [keepH, wN], by decide⟩, ⟨by simp, by simp [go_sem], by simp [go_sem]⟩, OwnH.nil _ _, bl_alloc (Below.refl _ _)⟩
  case round =>
    obtain ⟨k, u, r, hk, rfl, rfl, hr, hC, hO, hB⟩ := hrel
    rename World => wr
    have HCX := Lib.hid hC
    clear hC
    by_cases hlt : k < d2.length
    · have hki : (k : Int) < (d2.length : Int) := by omega
      have hk0 : (0 : Int) ≤ (k : Int) := by omega
      go_wp2_with fail
      go_loopw [22] (fun i wi => ∃ j : Nat, j ≤ d2.length ∧ i = .int .i64 j ∧ Hid (∀ q (h : q < d2.length), q < j → q ≠ k → undT (undV n) d2[k].x d2[q].x = false) ∧ Hid (Below wr.heap.size wr wi)) (fun i _ => d2.length - (intOf i).toNat)
      case atStart => exact ⟨0, Nat.zero_le _, rfl, fun q _ hq => absurd hq (Nat.not_lt_zero _), Below.refl _ _⟩
      case round =>
        obtain ⟨j, hj, rfl, hN, hBi⟩ := hrel
        rename World => wi
        have HWI : Hid (Below w4.heap.size w4 wi) := hB.out.trans (hBi.out.mono hB.out.size)
        by_cases hjl : j < d2.length
        · have hji : (j : Int) < (d2.length : Int) := by omega
          have hj0 : (0 : Int) ≤ (j : Int) := by omega
          by_cases hjk : j = k
          · subst hjk
            have hbn : (0 : Nat) = 0 := rfl
            go_upto_region 12 with fail
            clear hbn
            go_quiet (fail)
            have HI9 := Lib.hid (below_drewN hBi.out nq)
            go_wp2_with fail
            go_roundw
            case rel => exact ⟨j + 1, by omega, by go_num, fun q h hq hqk => hN.out q h (by omega) hqk, HI9⟩
            case measure => simp [intOf]; omega
          · have hbn : ((k : Int) != (j : Int)) = true := by simp; omega
            have HROWi : Hid (RowH wi g d2) := HROW5.out.below HWI.out
            have HQ : ∃ q, undT (undV n) d2[k].x d2[j].x = q := ⟨_, rfl⟩
            obtain ⟨q, hq⟩ := HQ
            have KC : Hid (∀ W, Below wi.heap.size wi W → Calls Tryz.prog 73 #[.pointer (some ⟨g, k * 8, none⟩), .pointer (some ⟨g, j * 8, none⟩)] W fun e w' => e = .returned (.bool q) ∧ Below wi.heap.size wi w') := fun W hW => by
              have hr2 := HROWi.out.below hW
              have hX2 : Below w.heap.size w W := HB5.out.trans ((HWI.out.trans (hW.mono HWI.out.size)).mono HB5.out.size)
              have h := below_in n W g (k * 8) g (j * 8) d2[k].x d2[j].x (T8.inT hr2.1 (hr2.2.2 k hlt) ((HOK2.out _ (List.getElem_mem _)).below hX2)) (T8.inT hr2.1 (hr2.2.2 j hjl) ((HOK2.out _ (List.getElem_mem _)).below hX2)) (HS2.out.2.1 _ (List.getElem_mem _)).1 (HS2.out.2.1 _ (List.getElem_mem _)).1
              rw [hq] at h
              exact h.mono fun _ _ ⟨a, b⟩ => ⟨a, bl_step hW b⟩
            have QQ := Lib.hid hq
            clear hq
            go_upto_region 12 with fail
            refine region_class (C := fun W => Below wi.heap.size wi W) (by kernel_rfl) (by kernel_rfl) ((Below.refl _ _).drew) ?_
            repeat (first | go_big_quiet_skip | (go_big_quiet_want; go_big_quiet_op; first | go_big_quiet_on | (apply Exists.intro; refine ⟨fun W hW => ?_, ?_⟩; (first | rfl | exact (KC.out W hW)); go_big_quiet_on)))
            refine wpQuiet_nil ?_
            intro w9 hW9
            have HI9 := Lib.hid (bl_step hBi.out hW9)
            have HB9 : Hid (Below w4.heap.size w4 w9) := HWI.out.trans (hW9.mono HWI.out.size)
            have HC9 := Lib.hid (HCX.out.later HI9.out)
            have HO9 := Lib.hid (hO.out.below HI9.out)
            clear hW9 KC
            cases q
            · go_wp2_with fail
              go_roundw
              case rel => exact ⟨j + 1, by omega, by go_num, fun q h hq hqk => (by
                by_cases e : q = j
                · subst e; exact QQ.out
                · exact hN.out q h (by omega) hqk), HI9⟩
              case measure => simp [intOf]; omega
            · have HE : Hid (keepH n (d2.map (·.x)) d2 (k + 1) = keepH n (d2.map (·.x)) d2 k) := keepH_no hlt (List.mem_map.2 ⟨_, List.getElem_mem hlt, rfl⟩) (by
                have := drop_take HS2.out.1 k j (by simpa using hlt) (by simpa using hjl) hjk (by simpa using QQ.out)
                simpa using this)
              go_wp2_with fail
              go_roundw
              case rel => exact ⟨k + 1, u, r, by omega, by go_num, rfl, by rw [HE.out]; exact hr, HC9.out, by rw [HE.out]; exact HO9, HB9⟩
              case measure => simp [intOf]; omega
        · have ej : j = d2.length := by omega
          subst ej
          have HE : Hid (keepH n (d2.map (·.x)) d2 (k + 1) = keepH n (d2.map (·.x)) d2 k ++ [d2[k]]) := keepH_yes hlt (by
            have := keep_take (S := d2.map (·.x)) (n := n) k (by simpa using hlt) (fun j hj hjk => by simpa using hN.out j (by simpa using hj) (by simpa using hj) hjk)
            simpa using this)
          have HLEN : Hid ((keepH n (d2.map (·.x)) d2 k).length ≤ k) := by unfold keepH; exact Nat.le_trans (List.length_filter_le _ _) (by rw [List.length_take]; omega)
          obtain ⟨wd, hwd⟩ : ∃ wd : World, wd = wi.drew := ⟨_, rfl⟩
          have HBD : Hid (Below wi.heap.size wi wd) := by rw [hwd]; exact (Below.refl _ _).drew
          have HWD : Hid (Below w4.heap.size w4 wd) := by rw [hwd]; exact HWI.out.drew
          have HROWd : Hid (RowH wd g d2) := HROW5.out.below HWD.out
          have hC := (HCX.out.later hBi.out).later HBD.out
          have hO' := (hO.out.below hBi.out).below HBD.out
          have hNd : w4.heap.size + 1 ≤ wd.heap.size := hC.1
          obtain ⟨gg, cap, w9, hap, hb9, ho9⟩ := hO'.append (by have := HLEN.out; omega) hNd d2[k]
          have hgN : g < w4.heap.size := HROW5.out.1
          have ht := HROWd.out.2.2 k hlt
          have htz : g < wd.heap.size := HROWd.out.1
          have htA : T8 (wd.alloc (.cells d2[k].enc.toArray 31)) g (k * 8) d2[k] := ht.to (fun r _ => World.cell?_alloc_past _ g _ htz)
          have ht9 : T8 w9 g (k * 8) d2[k] := ht.to (fun r _ => hb9.cell (p := ⟨g, k * 8 + r, none⟩) (by show g < w4.heap.size + 1; omega))
          have hcA : (wd.alloc (.cells d2[k].enc.toArray 31)).cell? ⟨w4.heap.size, 0, none⟩ = some u := (World.cell?_alloc_past _ _ _ hC.1).trans hC.2.1
          have hc9 : w9.cell? ⟨w4.heap.size, 0, none⟩ = some u := (hb9.cell (p := ⟨w4.heap.size, 0, none⟩) (by show w4.heap.size < w4.heap.size + 1; omega)).trans hC.2.1
          have hf9 : w9.frozen? ⟨w4.heap.size, 0, none⟩ = false := (hb9.frozen (p := ⟨w4.heap.size, 0, none⟩) (by show w4.heap.size < w4.heap.size + 1; omega)).trans hC.2.2
          have ht10 : T8 (w9.setCell ⟨w4.heap.size, 0, none⟩ (.slice (some ⟨gg, 0, none⟩) ((keepH n (d2.map (·.x)) d2 k).length + 1) cap)) g (k * 8) d2[k] := ht9.to (fun r _ => set_far (.inl (by omega)))
          have HT10 := Lib.hid ht10
          have HC10 : Hid (Cx (w9.setCell ⟨w4.heap.size, 0, none⟩ (.slice (some ⟨gg, 0, none⟩) ((keepH n (d2.map (·.x)) d2 k).length + 1) cap)) w4.heap.size 0 (.slice (some ⟨gg, 0, none⟩) ((keepH n (d2.map (·.x)) d2 k).length + 1) cap)) := ⟨by rw [set_size]; have := hb9.size; omega, set_here hc9, by rw [World.frozen?_setCell]; exact hf9⟩
          have HO10 : Hid (OwnH (w9.setCell ⟨w4.heap.size, 0, none⟩ (.slice (some ⟨gg, 0, none⟩) ((keepH n (d2.map (·.x)) d2 k).length + 1) cap)) (w4.heap.size + 1) (.slice (some ⟨gg, 0, none⟩) ((keepH n (d2.map (·.x)) d2 k).length + 1) cap) (keepH n (d2.map (·.x)) d2 (k + 1))) := by rw [HE.out]; exact ho9.set (by omega)
          have HB10 : Hid (Below w4.heap.size w4 (w9.setCell ⟨w4.heap.size, 0, none⟩ (.slice (some ⟨gg, 0, none⟩) ((keepH n (d2.map (·.x)) d2 k).length + 1) cap))) := bl_set (HWD.out.trans (hb9.mono (Nat.le_succ _))) (Nat.le_refl _)
          have HAP := Lib.hid hap
          have HH : ∃ h, d2[k] = h := ⟨_, rfl⟩
          obtain ⟨h5, hh5⟩ := HH
          have HHE := Lib.hid hh5
          rw [hh5] at ht htA ht9 ht10 HT10 hcA HAP
          have hcD := hC.2.1
          clear hC hO' hap hb9 ho9 hh5 ht10
          obtain ⟨⟨k5, lo5, hi5, s5, y5, m5, o5, g5⟩, f5, fl5, fc5⟩ := h5
          simp only [Hr.enc, Tm.k, Tm.lo, Tm.hi, Tm.s, Tm.y, Tm.m, Tm.o] at hcA HAP htA
          have HSD := Lib.hid ht
          have HSA := Lib.hid htA
          have HS9 := Lib.hid ht9
          clear ht htA ht9
          go_upto_region 14 with fail
          refine wp_region_held (S := fun w' => T8 w' g (k * 8) ⟨.mk k5 lo5 hi5 s5 y5 m5 o5 g5, f5, fl5, fc5⟩) (by kernel_rfl) ?_
          rw [show ({ wi with drawn := wi.drawn + 1 } : World) = wd from hwd.symm]
          clear hwd
          refine take_at' (i := 0) 38 (v := ?v1) rfl rfl (by kernel_rfl) (by kernel_rfl) (by kernel_rfl) (fun _ _ _ h => h) (Or.inl ⟨by rfl, fun w' hS => ?hy1⟩) HSD.out ?_
          case hy1 => (go_simp; try rfl)
          simp only [List.setIfInBounds_toArray, List.set_cons_succ, List.set_cons_zero]
          refine take_at' (i := 2) 40 (v := ?v2) rfl rfl (by kernel_rfl) (by kernel_rfl) (by kernel_rfl) (fun _ _ _ h => h) (Or.inl ⟨by rfl, fun w' hS => ?hy2⟩) HSD.out ?_
          case hy2 => (go_simp; try rfl)
          simp only [List.setIfInBounds_toArray, List.set_cons_succ, List.set_cons_zero]
          refine take_at' (i := 3) 41 (v := ?v3) rfl rfl (by kernel_rfl) (by kernel_rfl) (by kernel_rfl) (fun _ _ _ h => h) (Or.inl ⟨by rfl, fun w' hS => ?hy3⟩) HSD.out ?_
          case hy3 => (go_simp; try rfl)
          simp only [List.setIfInBounds_toArray, List.set_cons_succ, List.set_cons_zero]
          refine take_at' (i := 4) 42 (v := ?v4) rfl rfl (by kernel_rfl) (by kernel_rfl) (by kernel_rfl) (fun _ _ _ h => h) (Or.inl ⟨by rfl, fun w' hS => ?hy4⟩) HSD.out ?_
          case hy4 => (go_simp; try rfl)
          simp only [List.setIfInBounds_toArray, List.set_cons_succ, List.set_cons_zero]
          refine take_at' (i := 5) 43 (v := ?v5) rfl rfl (by kernel_rfl) (by kernel_rfl) (by kernel_rfl) (fun _ _ _ h => h) (Or.inl ⟨by rfl, fun w' hS => ?hy5⟩) HSD.out ?_
          case hy5 => obtain ⟨q0, q1, q2, q3, q4, q5, q6, q7⟩ := hS; simp only [Tm.k, Tm.lo, Tm.hi, Tm.s, Tm.y, Tm.m, Tm.o] at q0 q1 q2 q3 q4 q5 q6 q7; (go_simp; try rfl)
          simp only [List.setIfInBounds_toArray, List.set_cons_succ, List.set_cons_zero]
          refine wpAnyH_all (rs := [1, 6]) (by kernel_rfl) (by simp) ?_
          intro i hi
          have hi2 : i = 1 ∨ i = 6 := by simpa using hi
          rcases hi2 with rfl | rfl
          refine value_at 39 (v := u) (w' := wd) rfl rfl rfl (by have q := hcD; go_simp) ⟨HSD.out, ?_⟩
          simp only [List.setIfInBounds_toArray, List.set_cons_succ, List.set_cons_zero]
          refine wpAnyH_all (rs := [6]) (by kernel_rfl) (by simp) ?_
          intro i hi
          obtain rfl : i = 6 := by simpa using hi
          refine value_at 44 (v := .slice (some ⟨wd.heap.size, 0, none⟩) 1 1) (w' := wd.alloc (.cells #[.int .i64 k5, .int .i64 lo5, .int .i64 hi5, .string s5, .bool y5, .bool m5, .bool o5, .slice f5 fl5 fc5] 31)) rfl rfl rfl (by go_simp) ⟨HSA.out, ?_⟩
          simp only [List.setIfInBounds_toArray, List.set_cons_succ, List.set_cons_zero]
          rotate_left
          refine value_at 44 (v := .slice (some ⟨wd.heap.size, 0, none⟩) 1 1) (w' := wd.alloc (.cells #[.int .i64 k5, .int .i64 lo5, .int .i64 hi5, .string s5, .bool y5, .bool m5, .bool o5, .slice f5 fl5 fc5] 31)) rfl rfl rfl (by go_simp) ⟨HSA.out, ?_⟩
          simp only [List.setIfInBounds_toArray, List.set_cons_succ, List.set_cons_zero]
          refine wpAnyH_all (rs := [1]) (by kernel_rfl) (by simp) ?_
          intro i hi
          obtain rfl : i = 1 := by simpa using hi
          refine value_at 39 (v := u) (w' := wd.alloc (.cells #[.int .i64 k5, .int .i64 lo5, .int .i64 hi5, .string s5, .bool y5, .bool m5, .bool o5, .slice f5 fl5 fc5] 31)) rfl rfl rfl (by have q := hcA; go_simp) ⟨HSA.out, ?_⟩
          simp only [List.setIfInBounds_toArray, List.set_cons_succ, List.set_cons_zero]
          all_goals
            refine wpAnyH_all (rs := [7]) (by kernel_rfl) (by simp) ?_
            intro i hi
            obtain rfl : i = 7 := by simpa using hi
            refine value_at 45 (v := .slice (some ⟨gg, 0, none⟩) ((keepH n (d2.map (·.x)) d2 k).length + 1) cap) (w' := w9) rfl rfl rfl (append_run rfl rfl rfl HAP.out) ⟨HS9.out, ?_⟩
            simp only [List.setIfInBounds_toArray, List.set_cons_succ, List.set_cons_zero]
            refine take_at' (i := 8) 46 (v := ?v6) rfl rfl (by kernel_rfl) (by kernel_rfl) (by kernel_rfl) (fun _ _ _ h => h) (Or.inl ⟨by rfl, fun w' hS => ?hy6⟩) HS9.out ?_
            case hy6 => (go_simp; try rfl)
            simp only [List.setIfInBounds_toArray, List.set_cons_succ, List.set_cons_zero]
            refine wpAnyH_all (rs := [9]) (by kernel_rfl) (by simp) ?_
            intro i hi
            obtain rfl : i = 9 := by simpa using hi
            refine skip_at (w' := w9.setCell ⟨w4.heap.size, 0, none⟩ (.slice (some ⟨gg, 0, none⟩) ((keepH n (d2.map (·.x)) d2 k).length + 1) cap)) rfl rfl rfl (by go_simp) ⟨HT10.out, ?_⟩
            refine wpAnyH_done (by kernel_rfl) ?_ _
            generalize w9.setCell ⟨w4.heap.size, 0, none⟩ (.slice (some ⟨gg, 0, none⟩) ((keepH n (d2.map (·.x)) d2 k).length + 1) cap) = w10 at *
            have hmem : (⟨.mk k5 lo5 hi5 s5 y5 m5 o5 g5, f5, fl5, fc5⟩ : Hr) ∈ d2 := by rw [← HHE.out]; exact List.getElem_mem hlt
            have HOKh : Hid (Hr.ok n w ⟨.mk k5 lo5 hi5 s5 y5 m5 o5 g5, f5, fl5, fc5⟩) := HOK2.out _ hmem
            have hwf : wF n g5 ≤ 1099511627776 := (HS2.out.2.1 _ hmem).2
            obtain ⟨z, hz⟩ : ∃ z : Nat, z = 1 + wF n g5 := ⟨_, rfl⟩
            have HWT : Hid (∀ (W : World) (ga : Nat), InV W (n + 1) (some ⟨ga, 0, none⟩) 1 1 [.mk k5 lo5 hi5 s5 y5 m5 o5 g5] → Calls Tryz.prog 91 #[.agg #[.slice (some ⟨ga, 0, none⟩) 1 1]] W (DepPost W (z : Int))) := fun W ga hv => by
              have h := weight_in (n + 1) W (some ⟨ga, 0, none⟩) 1 1 [.mk k5 lo5 hi5 s5 y5 m5 o5 g5] hv
              have e : wN (n + 1) [.mk k5 lo5 hi5 s5 y5 m5 o5 g5] = z := by rw [hz, wN_cons, wN_nil]; rfl
              rw [wtV_exact (by rw [e]; omega), e] at h
              exact h
            have HZ : Hid ((wN (n + 1) ((keepH n (d2.map (·.x)) d2 (k + 1)).map (·.x)) : Int) = wN (n + 1) ((keepH n (d2.map (·.x)) d2 k).map (·.x)) + z) := by
              rw [HE.out, HHE.out, List.map_append, wN_append, List.map_singleton, wN_cons, wN_nil, hz]
              show ((_ + (1 + wF n g5 + 0) : Nat) : Int) = _
              omega
            have hz1 : (z : Int) ≤ 1099511627777 := by omega
            have hz0 : (0 : Int) ≤ (z : Int) := by omega
            have hr0 : (0 : Int) ≤ r := hr.out.2
            have hr1 : r ≤ 512 := by have := hr.out.1; omega
            have hl1 : (-9223372036854775808 : Int) ≤ r - z := by omega
            have hl2 : r - z ≤ (9223372036854775807 : Int) := by omega
            have HTH := HT10.out
            simp only [T8, Tm.k, Tm.lo, Tm.hi, Tm.s, Tm.y, Tm.m, Tm.o] at HTH
            obtain ⟨q0, q1, q2, q3, q4, q5, q6, q7⟩ := HTH
            have HXW : Hid (Below w.heap.size w w10) := HB5.out.trans (HB10.out.mono HB5.out.size)
            clear hwf hz hmem HSD HSA HS9 hcA hcD hc9 hf9
            by_cases hneg : r - (z : Int) < 0
            · have HNEG := Lib.hid hneg
              have hng : (r : Int) < (z : Int) := by omega
              go_wp2_with (first
                | (go_at_call 76; (with_reducible refine (alone_any _ _ _ _ _ _ _ _ _ _ _).mono ?_); rintro e wa ⟨ga, rfl, hBa, hga, hgal, hTa⟩; have HBa := Lib.hid (bl_step HXW.out (hBa.mono (Nat.le_refl _))); have HBb := Lib.hid hBa; have HTa := Lib.hid (And.intro hgal hTa); have HTw := Lib.hid hBa; clear hBa hga hgal hTa)
                | (go_at_call 91; refine (HWT.out _ _ (alone_inV HTa.out.1 HTa.out.2 (HOKh.out.below HBa.out))).mono ?_; rintro e wb ⟨rfl, hBc⟩; have HBc := Lib.hid (bl_step HBb.out hBc); have HTv := Lib.hid (bl_step HTw.out hBc); clear hBc)
                | (go_at_call 15; refine (none_any _).mono ?_; rintro e wn ⟨rfl, hBn⟩; have HBn := Lib.hid (HXW.out.trans ((bl_step HBc.out hBn).mono HXW.out.size)); obtain ⟨rz, rc, rf⟩ := HX5.out.later (HB10.out.trans ((bl_step HBc.out hBn).mono HB10.out.size)); clear hBn))
              rw [Exit.noGoto_ret]
              refine bodyPost_ret (v := .tuple #[.agg #[.slice none 0 0], .int .i64 30]) (by simp [results, Tryz.results55, go_sem, set_here rc]) rfl ⟨none, 0, 0, 30, rfl, bl_set HBn.out (Nat.le_refl _), .inr ⟨?_, rfl, rfl, rfl, rfl⟩⟩
              rw [HNV.out]
              have h1 := keepH_le (n := n) (S := d2.map (·.x)) (d := d2) (k := k + 1)
              have h2 := HZ.out
              have h3 := HNEG.out
              have h4 := hr.out.1
              omega
            · have HNEG := Lib.hid hneg
              have hng : ¬ ((r : Int) < (z : Int)) := by omega
              go_wp2_with (first
                | (go_at_call 76; (with_reducible refine (alone_any _ _ _ _ _ _ _ _ _ _ _).mono ?_); rintro e wa ⟨ga, rfl, hBa, hga, hgal, hTa⟩; have HBa := Lib.hid (bl_step HXW.out (hBa.mono (Nat.le_refl _))); have HBb := Lib.hid hBa; have HTa := Lib.hid (And.intro hgal hTa); have HTw := Lib.hid hBa; clear hBa hga hgal hTa)
                | (go_at_call 91; refine (HWT.out _ _ (alone_inV HTa.out.1 HTa.out.2 (HOKh.out.below HBa.out))).mono ?_; rintro e wb ⟨rfl, hBc⟩; have HBc := Lib.hid (bl_step HBb.out hBc); have HTv := Lib.hid (bl_step HTw.out hBc); clear hBc))
              go_roundw
              case rel => exact ⟨k + 1, _, r - z, by omega, by go_num, rfl, ⟨by rw [HZ.out]; have := hr.out.1; omega, by have := HNEG.out; omega⟩, HC10.out.later HTv.out, HO10.out.below HTv.out, HB10.out.trans (HTv.out.mono HB10.out.size)⟩
              case measure => simp [intOf]; omega
    · have ek : k = d2.length := by omega
      subst ek
      obtain ⟨ua, uc, rfl⟩ := slice_of_owns hO.out
      have hC := HCX.out
      obtain ⟨cz, cc, cf⟩ := hC
      have hBX := HB5.out.trans (hB.out.mono HB5.out.size)
      obtain ⟨rz, rc, rf⟩ := HX5.out.later hB.out
      have HBX := Lib.hid hBX
      have hne : w4.heap.size ≠ w.heap.size := by have := HX5.out.1; omega
      have HV : Hid (((keepH n (d2.map (·.x)) d2 d2.length).length : Int) ≤ 9223372036854775807 ∧ OwnH wr (w4.heap.size + 1) (.slice ua (keepH n (d2.map (·.x)) d2 d2.length).length uc) (keepH n (d2.map (·.x)) d2 d2.length)) := ⟨by have h1 : (keepH n (d2.map (·.x)) d2 d2.length).length ≤ (d2.take d2.length).length := List.length_filter_le _ _; rw [List.length_take] at h1; omega, hO.out⟩
      clear hBX
      go_wp2_with fail
      refine bodyPost_ret (v := .tuple #[.agg #[.slice ua (keepH n (d2.map (·.x)) d2 d2.length).length uc], .int .i64 0]) (by simp [results, Tryz.results55, go_sem, set_here rc]) rfl ⟨ua, _, uc, 0, rfl, bl_set HBX.out (Nat.le_refl _), .inl ⟨?_, rfl, keepH n (d2.map (·.x)) d2 d2.length, fun h hh => HSUB.out h (keepH_sub hh), HNV.out.symm, HV.out.1, ?_⟩⟩
      · rw [HNV.out]
        have h1 := hr.out.1
        have h2 := hr.out.2
        omega
      · exact owns_base (HV.out.2.set (T := w.heap.size) (o := 0) (by have := HX5.out.1; omega)) (by have := HX5.out.1; omega)
/-- left, told by what lies there. -/
theorem left_heads (n : Nat) (w : World) (t : Option Addr) (tl tc : Nat) (A : List Tm) (h : InV w (n + 1) t tl tc A) (hbig : tl * 72 ≤ 140737488355328) (hr : ∀ x ∈ A, RtN n x) (hw : ∀ x ∈ A, wF n x.fs ≤ 1099511627776) (d : List Hr) (hd : d.map (·.x) = A) (hok : ∀ h ∈ d, h.ok n w) (hrow : ∀ b off, t = some ⟨b, off, none⟩ → ∀ j (hj : j < d.length), b < w.heap.size ∧ T8 w b (off + j * 8) d[j]) :
    Calls Tryz.prog 55 #[.slice t tl tc] w (LeftH d n A w) := by
  by_cases hA : A = []
  · subst hA
    obtain rfl : d = [] := List.map_eq_nil_iff.1 hd
    obtain rfl : 0 = tl := h.1
    exact left_nil n w t tc
  · exact left_cons n w t tl tc A h hA hbig hr hw d hd hok hrow
theorem left_in (n : Nat) (w : World) (t : Option Addr) (tl tc : Nat) (A : List Tm) (h : InV w (n + 1) t tl tc A) (hbig : tl * 72 ≤ 140737488355328) (hr : ∀ x ∈ A, RtN n x) (hw : ∀ x ∈ A, wF n x.fs ≤ 1099511627776) :
    Calls Tryz.prog 55 #[.slice t tl tc] w (LeftP n A w) := by
  obtain ⟨d, hd, hok, hrow⟩ := heads h
  refine (left_heads n w t tl tc A h hbig hr hw d hd hok hrow).mono ?_
  rintro e w' ⟨t', tl', tc', er, he, hb, h1 | h1⟩
  · obtain ⟨h1, h2, L, hs, hl, hz, ho⟩ := h1
    refine ⟨t', tl', tc', er, he, hb, .inl ⟨h1, h2, ?_⟩⟩
    rw [← hl]
    exact (OwnH.inV (n := n) ho hz fun h hh => (hok h (hs h hh)).below hb).1
  · exact ⟨t', tl', tc', er, he, hb, .inr h1⟩
end Go.Proofs.YtddleeenlpigfaaGreatDoor
/- WALK of within. -/
namespace Go.Proofs.YtddleeenlpigfaaGreatDoor
open Go.RowKit
/-- Names no longer than memory lets. -/
def NmV : Nat → List Tm → Prop
  | 0, _ => True
  | n + 1, A => ∀ x ∈ A, ∀ f ∈ x.fs, f.1.size ≤ 140737488355328 ∧ NmV n f.2
/-- What within tells. -/
def WiP (P n l : Nat) (r : Int) (A : List Tm) (w : World) (e : Ending) (w' : World) : Prop :=
  ∃ q : Bool, e = .returned (.bool q) ∧ Kp P w w' ∧ (q = true → RV n l A ∧ Cx w' P 0 (.int .i64 (r - wN n A)) ∧ 0 ≤ r - wN n A) ∧ (q = false → ¬ (RV n l A ∧ (wN n A : Int) ≤ r))
theorem WiP.no {P n l : Nat} {r : Int} {A : List Tm} {w w' : World} (hk : Kp P w w') (h : ¬ (RV n l A ∧ (wN n A : Int) ≤ r)) : WiP P n l r A w (.returned (.bool false)) w' := ⟨false, rfl, hk, fun e => absurd e (by decide), fun _ => h⟩
/-- What within asks of its callers. -/
structure WiA (w0 : World) (n : Nat) (P : Nat) (r : Int) (t : Option Addr) (tl tc : Nat) (A : List Tm) (w : World) : Prop where
  v : InV w0 n t tl tc A
  nm : NmV n A
  env : Nm.Env w0
  old : Below w0.heap.size w0 w
  pos : w0.heap.size ≤ P
  room : Cx w P 0 (.int .i64 r)
  lo : 0 ≤ r
  hi : r ≤ 512
/-- Between two terms. -/
structure WInv (P N n l : Nat) (lv r : Int) (A : List Tm) (w0 w wr : World) (t : Option Addr) (tl tc : Nat) (k : Nat) : Prop where
  old : Below w0.heap.size w0 wr
  kp : Kp P w wr
  room : Cx wr P 0 (.int .i64 (r - wU n (A.take k)))
  lo : 0 ≤ r - wU n (A.take k)
  bv : Cx wr N 0 (.slice t tl tc)
  bl : Cx wr (N + 1) 0 (.int .i64 lv)
  br : Cx wr (N + 1 + 1) 0 (.pointer (some ⟨P, 0, none⟩))
  right : ∀ j (h : j < A.length), j < k → RT (RV n l) A[j]
/-- The boxes of within's parameters. -/
structure WBox (P : Nat) (r lv : Int) (t : Option Addr) (tl tc : Nat) (w X : World) : Prop where
  kp : Kp P w X
  room : Cx X P 0 (.int .i64 r)
  bv : Cx X w.heap.size 0 (.slice t tl tc)
  bl : Cx X (w.heap.size + 1) 0 (.int .i64 lv)
  br : Cx X (w.heap.size + 1 + 1) 0 (.pointer (some ⟨P, 0, none⟩))
theorem WBox.new {w : World} {P : Nat} {r : Int} (lv : Int) (t : Option Addr) (tl tc : Nat) (h : Cx w P 0 (.int .i64 r)) : WBox P r lv t tl tc w (((w.alloc (.cells #[.slice t tl tc] 24)).alloc (.cells #[.int .i64 lv] 3)).alloc (.cells #[.pointer (some ⟨P, 0, none⟩)] 65)) :=
  ⟨((Kp.refl _ _).alloc).alloc.alloc, h.later (bl_alloc (bl_alloc (bl_alloc (Below.refl _ _)))), ⟨by simp; omega, by simp [go_sem], by simp [go_sem]⟩, ⟨by simp, by simp [go_sem], by simp [go_sem]⟩, ⟨by simp, by simp [go_sem], by simp [go_sem]⟩⟩
theorem Cx.set_other {w : World} {N o P : Nat} {v u : Value} (h : Cx w N o v) (hne : N ≠ P) : Cx (w.setCell ⟨P, 0, none⟩ u) N o v := ⟨by rw [set_size]; exact h.1, (set_far (.inl hne)).trans h.2.1, by rw [World.frozen?_setCell]; exact h.2.2⟩
theorem Cx.set_same {w : World} {N o : Nat} {v u : Value} (h : Cx w N o v) : Cx (w.setCell ⟨N, o, none⟩ u) N o u := ⟨by rw [set_size]; exact h.1, set_here h.2.1, by rw [World.frozen?_setCell]; exact h.2.2⟩
theorem WBox.room' {P : Nat} {r lv r' : Int} {t : Option Addr} {tl tc : Nat} {w X : World} (hP : P < w.heap.size) (h : WBox P r lv t tl tc w X) : WBox P r' lv t tl tc w (X.setCell ⟨P, 0, none⟩ (.int .i64 r')).drew :=
  ⟨(h.kp.set (.inr rfl)).drew, h.room.set_same, h.bv.set_other (by omega), h.bl.set_other (by omega), h.br.set_other (by omega)⟩
set_option maxRecDepth 100000 in
set_option maxHeartbeats 8000000 in
/-- No level is left, or no room. -/
theorem within_no (n l P : Nat) (r : Int) (w0 : World) (t : Option Addr) (tl tc : Nat) (A : List Tm) (w : World) (h : WiA w0 n P r t tl tc A w) (hno : l = 0 ∨ r < tl) : Calls Tryz.prog 43 #[.agg #[.slice t tl tc], .int .i64 (l : Int), .pointer (some ⟨P, 0, none⟩)] w (WiP P n l r A w) := by
  have hl : A.length = tl ∧ (tl : Int) ≤ 9223372036854775807 ∧ A.length ≤ wN n A := by
    have := h.v
    cases n with
    | zero => exact this.elim
    | succ n => exact ⟨this.1, this.2.1, by rw [wN_U]; omega⟩
  have hn : ¬ (RV n l A ∧ (wN n A : Int) ≤ r) := fun c => by
    rcases hno with rfl | hno
    · cases n <;> exact c.1.elim
    · omega
  have HN := Lib.hid hn
  have hlo := h.lo
  have hhi := h.hi
  have hPw := h.room.1
  have HR := Lib.hid h.room
  obtain ⟨hl1, hl2, -⟩ := hl
  clear hn hl1 h
  go_enter Tryz.func43, Tryz.ntmps43
  go_upto_region 1 with fail
  have HXE : ∃ X, ((w.alloc (.cells #[.slice t tl tc] 24)).alloc (.cells #[.int .i64 (l : Int)] 3)).alloc (.cells #[.pointer (some ⟨P, 0, none⟩)] 65) = X := ⟨_, rfl⟩
  obtain ⟨X, hX⟩ := HXE
  have HXB : Hid (WBox P r l t tl tc w X) := by rw [← hX]; exact WBox.new l t tl tc HR.out
  obtain ⟨-, x0, -⟩ := HXB.out.bv
  obtain ⟨-, x1, -⟩ := HXB.out.bl
  obtain ⟨-, x2, -⟩ := HXB.out.br
  obtain ⟨-, xp, xf⟩ := HXB.out.room
  rw [hX]
  clear hX
  have hb1 : (-9223372036854775808 : Int) ≤ r - tl := by omega
  have hb2 : r - tl ≤ (9223372036854775807 : Int) := by omega
  go_region
  clear x0 x1 x2 xp xf
  have HYE : ∃ Y, (X.setCell ⟨P, 0, none⟩ (.int .i64 (r - tl))).drew = Y := ⟨_, rfl⟩
  obtain ⟨Y, hY⟩ := HYE
  have HYB : Hid (WBox P (r - tl) l t tl tc w Y) := by rw [← hY]; exact HXB.out.room' hPw
  rw [hY]
  clear hY
  obtain ⟨-, x0, -⟩ := HYB.out.bv
  obtain ⟨-, x1, -⟩ := HYB.out.bl
  obtain ⟨-, x2, -⟩ := HYB.out.br
  obtain ⟨-, xp, xf⟩ := HYB.out.room
  by_cases hl0 : l = 0
  · subst hl0
    have hq : (((0 : Nat) : Int) == 0) = true := rfl
    go_wp2_with fail
    go_ret
    exact WiP.no HYB.out.kp HN.out
  · have hq : ((l : Int) == 0) = false := by simpa using hl0
    have hq2 : r - (tl : Int) < 0 := by rcases hno with e | e <;> omega
    have hq3 : r < (tl : Int) := by omega
    clear hno hl0
    go_wp2_with fail
    go_ret
    exact WiP.no HYB.out.kp HN.out
end Go.Proofs.YtddleeenlpigfaaGreatDoor
