/- Bo, Bp, Br, Bs, Ca -/
import Derived.Test.YtddleeenlpigfaaGreatDoorY30
/- WALKS of Concat at two slices of terms, of Join. -/
namespace Go.Proofs.YtddleeenlpigfaaGreatDoor
open Go.RowKit
set_option maxRecDepth 100000 in
set_option maxHeartbeats 8000000 in
theorem concat_two (g cap : Nat) (t1 t2 : Option Addr) (l1 c1 l2 c2 : Nat) (L1 L2 : List Hr) (w : World) (hg : g < w.heap.size) (h0 : w.cell? ⟨g, 0, none⟩ = some (.slice t1 l1 c1)) (h1 : w.cell? ⟨g, 1, none⟩ = some (.slice t2 l2 c2)) (s1 : SegH w t1 l1 L1) (s2 : SegH w t2 l2 L2) (hl1 : l1 ≤ 1000) (hl2 : l2 ≤ 1000) :
    Calls Tryz.prog 56 #[.slice (some ⟨g, 0, none⟩) 2 cap] w fun e w' => ∃ u, e = .returned u ∧ Below w.heap.size w w' ∧ OwnH w' w.heap.size u (L1 ++ L2) := by
  have HS1 := Lib.hid s1
  have HS2 := Lib.hid s2
  have HC := Lib.hid (And.intro hg (And.intro h0 h1))
  have hb1 : (l1 : Int) ≤ 1000 := by omega
  have hb2 : (l2 : Int) ≤ 1000 := by omega
  have ez : ((l1 + l2 : Nat) : Int) = (l1 : Int) + (l2 : Int) := by omega
  have HGR := Lib.hid (growT_any (l1 + l2) w (by omega))
  rw [ez] at HGR
  clear s1 s2 hg ez
  go_enter Tryz.func56, Tryz.ntmps56
  go_wp2_with fail
  go_loop [3, 11] (fun z i => (i = .int .i64 0 ∧ z = .int .i64 0) ∨ (i = .int .i64 1 ∧ z = .int .i64 l1) ∨ (i = .int .i64 2 ∧ z = .int .i64 ((l1 : Int) + (l2 : Int)))) (fun _ i => 2 - (intOf i).toNat)
  case atStart => exact .inl ⟨rfl, rfl⟩
  case round =>
    rcases hrel with ⟨rfl, rfl⟩ | ⟨rfl, rfl⟩ | ⟨rfl, rfl⟩
    · go_wp2_with fail
      go_round
      case rel => exact .inr (.inl ⟨rfl, rfl⟩)
      case measure => simp [intOf]
    · go_wp2_with fail
      go_round
      case rel => exact .inr (.inr ⟨rfl, rfl⟩)
      case measure => simp [intOf]
    · clear h0 h1
      go_wp2_with (go_at_call 92; refine HGR.out.mono ?_; rintro e w1 ⟨v1, rfl, hO, hB⟩; have HO := Lib.hid hO; have HB := Lib.hid hB; clear hO hB)
      go_loopw [6, 27] (fun v i wr => (i = .int .i64 0 ∧ Hid (OwnH wr w.heap.size v []) ∨ i = .int .i64 1 ∧ Hid (OwnH wr w.heap.size v L1) ∨ i = .int .i64 2 ∧ Hid (OwnH wr w.heap.size v (L1 ++ L2))) ∧ Hid (Below w.heap.size w wr)) (fun _ i _ => 2 - (intOf i).toNat)
      case atStart => exact ⟨.inl ⟨rfl, HO⟩, HB⟩
      case round =>
        obtain ⟨hrel, hBl⟩ := hrel
        rename World => wr
        have k0 := (hBl.out.cell (p := ⟨g, 0, none⟩) HC.out.1).trans HC.out.2.1
        have k1 := (hBl.out.cell (p := ⟨g, 1, none⟩) HC.out.1).trans HC.out.2.2
        rcases hrel with ⟨rfl, hO⟩ | ⟨rfl, hO⟩ | ⟨rfl, hO⟩
        · obtain ⟨v', w', hrun, ho', hb'⟩ := append_seg hO.out c1 (HS1.out.below hBl.out) (by simp; omega) hBl.out.size
          have HR := Lib.hid hrun
          have HO2 := Lib.hid ho'
          have HB2 := Lib.hid (hBl.out.trans hb')
          clear hrun ho' hb' k1
          go_wp2_with (at_builtin; refine Lib.wpList_append_run _ rfl _ _ _ _ rfl _ _ rfl rfl _ _ HR.out ?_)
          go_roundw
          case rel => exact ⟨.inr (.inl ⟨rfl, by have := HO2.out; rw [List.nil_append] at this; exact this⟩), HB2⟩
          case measure => simp [intOf]
        · obtain ⟨v', w', hrun, ho', hb'⟩ := append_seg hO.out c2 (HS2.out.below hBl.out) (by rw [HS1.out.len]; omega) hBl.out.size
          have HR := Lib.hid hrun
          have HO2 := Lib.hid ho'
          have HB2 := Lib.hid (hBl.out.trans hb')
          clear hrun ho' hb' k0
          go_wp2_with (at_builtin; refine Lib.wpList_append_run _ rfl _ _ _ _ rfl _ _ rfl rfl _ _ HR.out ?_)
          go_roundw
          case rel => exact ⟨.inr (.inr ⟨rfl, HO2⟩), HB2⟩
          case measure => simp [intOf]
        · clear k0 k1
          go_wp2_with fail
          go_ret
          exact ⟨_, rfl, hBl.out, hO.out⟩
/-- lat.Join. -/
noncomputable def joinR (n : Nat) (A B : List Tm) : Int × List Tm := if (rgV n A && rgV n B) = true then joinV (n - 1) A B else (1, [])
theorem join_rg {n : Nat} {A B : List Tm} (hA : RG (n + 1) A) (hB : RG (n + 1) B) : joinV n A B = (30, []) ∨ ∃ J, joinV n A B = (0, J) ∧ RG (n + 1) J := by
  rcases join_rv hA.1 hB.1 with h | ⟨J, e, r, hw, _⟩
  · exact .inl h.1
  · exact .inr ⟨J, e, r, hw⟩
theorem heads_seg {n : Nat} {w : World} {t : Option Addr} {tl tc : Nat} {A : List Tm} (h : InV w (n + 1) t tl tc A) : ∃ L : List Hr, L.map (fun h : Hr => h.x) = A ∧ (∀ h ∈ L, h.ok n w) ∧ SegH w t tl L := by
  obtain ⟨L, h1, h2, h3⟩ := heads h
  have hl : L.length = tl := by rw [← h.1, ← h1, List.length_map]
  refine ⟨L, h1, h2, hl, fun h0 => ?_⟩
  obtain ⟨b, off, e, _⟩ := h.2.2 0 (by have := h.1; omega)
  exact ⟨b, off, e, (h3 b off e 0 (by omega)).1, fun j hj => (h3 b off e j hj).2⟩
set_option maxRecDepth 100000 in
set_option maxHeartbeats 8000000 in
theorem ljoin_in (n : Nat) (w : World) (t : Option Addr) (tl tc : Nat) (A : List Tm) (t2 : Option Addr) (tl2 tc2 : Nat) (B : List Tm) (hA : Vin w n t tl tc A) (hB : Vin w n t2 tl2 tc2 B) :
    Calls Tryz.prog 28 #[.agg #[.slice t tl tc], .agg #[.slice t2 tl2 tc2]] w (LmP n (joinR n A B) w) := by
  obtain ⟨m, rfl⟩ := inV_pos hA.v
  obtain ⟨qa, hqa⟩ : ∃ q, rgV (m + 1) A = q := ⟨_, rfl⟩
  obtain ⟨qb, hqb⟩ : ∃ q, rgV (m + 1) B = q := ⟨_, rfl⟩
  have HRA := Lib.hid (fun (W : World) (hW : Below w.heap.size w W) => lright_in (m + 1) W t tl tc A (hA.below hW))
  have HRB := Lib.hid (fun (W : World) (hW : Below w.heap.size w W) => lright_in (m + 1) W t2 tl2 tc2 B (hB.below hW))
  rw [hqa] at HRA
  rw [hqb] at HRB
  have HQ := Lib.hid (And.intro hqa hqb)
  have HR : Hid (joinR (m + 1) A B = if (qa && qb) = true then joinV m A B else (1, [])) := by unfold joinR; rw [hqa, hqb]; rfl
  obtain ⟨rr, hrr⟩ : ∃ rr, joinR (m + 1) A B = rr := ⟨_, rfl⟩
  rw [hrr] at HR ⊢
  have HVA := Lib.hid hA.v
  have HVB := Lib.hid hB.v
  clear hA hB hqa hqb hrr
  go_enter Tryz.func28, Tryz.ntmps28
  go_upto_region 1 with fail
  have HXE : ∃ X, ((w.alloc (.cells #[.slice t tl tc] 24)).alloc (.cells #[.slice t2 tl2 tc2] 24)).alloc (.cells #[.slice none 0 0] 24) = X := ⟨_, rfl⟩
  obtain ⟨X, hX⟩ := HXE
  have HXB : Hid (MBox t tl tc t2 tl2 tc2 w X) := by rw [← hX]; exact MBox.new w t tl tc t2 tl2 tc2
  rw [hX]
  clear hX
  obtain ⟨-, x0, -⟩ := HXB.out.ba
  cases qa
  · have hv : rr = (1, []) := HR.out
    subst hv
    clear HR HRB
    go_wp2_with (first
      | (go_at_call 18; refine (HRA.out _ HXB.out.old).mono ?_; rintro e w1 ⟨rfl, hB1⟩; have HB1 := Lib.hid hB1; clear hB1)
      | (go_at_call 15; refine (none_any _).mono ?_; rintro e w4 ⟨rfl, hB4⟩; obtain ⟨rz, rc, rf⟩ := HXB.out.br.later (bl_step HB1.out hB4); have HB4 := Lib.hid (bl_step HXB.out.old (bl_step HB1.out hB4)); clear hB4))
    exact bodyPost_ret (v := .tuple #[.agg #[.slice none 0 0], .int .i64 1]) (by simp [results, Tryz.results28, go_sem, set_here rc]) rfl ⟨none, 0, 0, rfl, bl_set HB4.out (by show w.heap.size ≤ w.heap.size + 1 + 1; omega), inV_nil⟩
  · cases qb
    · have hv : rr = (1, []) := HR.out
      subst hv
      clear HR
      go_wp2_with (first
        | (go_at_call 18; (with_reducible refine (HRA.out _ HXB.out.old).mono ?_); rintro e w1 ⟨rfl, hB1⟩; obtain ⟨-, y1, -⟩ := HXB.out.bb.later hB1; have HB1 := Lib.hid hB1; clear hB1)
        | (go_at_call 18; (with_reducible refine (HRB.out _ (bl_step HXB.out.old HB1.out)).mono ?_); rintro e w2 ⟨rfl, hB2⟩; have HB2 := Lib.hid (bl_step HB1.out hB2); clear hB2)
        | (go_at_call 15; refine (none_any _).mono ?_; rintro e w4 ⟨rfl, hB4⟩; obtain ⟨rz, rc, rf⟩ := HXB.out.br.later (bl_step HB2.out hB4); have HB4 := Lib.hid (bl_step HXB.out.old (bl_step HB2.out hB4)); clear hB4))
      exact bodyPost_ret (v := .tuple #[.agg #[.slice none 0 0], .int .i64 1]) (by simp [results, Tryz.results28, go_sem, set_here rc]) rfl ⟨none, 0, 0, rfl, bl_set HB4.out (by show w.heap.size ≤ w.heap.size + 1 + 1; omega), inV_nil⟩
    · have hv : rr = joinV m A B := HR.out
      have gA := rgV_yes.1 HQ.out.1
      have gB := rgV_yes.1 HQ.out.2
      have hrg := join_rg gA gB
      rw [← hv] at hrg
      have HSL : Hid (SlimV (m + 1) rr.2) := by
        rcases hrg with h | ⟨M, h, hr⟩
        · rw [h]; exact ⟨by decide, fun i hi => absurd hi (Nat.not_lt_zero _)⟩
        · rw [h]; exact hr.slim
      obtain ⟨L1, hL1, ok1, s1⟩ := heads_seg HVA.out
      obtain ⟨L2, hL2, ok2, s2⟩ := heads_seg HVB.out
      have HOK : Hid (∀ h ∈ L1 ++ L2, h.ok m w) := fun h hh => by
        rcases List.mem_append.1 hh with hh | hh
        · exact ok1 h hh
        · exact ok2 h hh
      have hAB : (L1 ++ L2).map (fun h : Hr => h.x) = A ++ B := by rw [List.map_append, hL1, hL2]
      have hlA : A.length ≤ 512 := by have := gA.2; rw [wN_U] at this; omega
      have hlB : B.length ≤ 512 := by have := gB.2; rw [wN_U] at this; omega
      have htl : tl ≤ 512 ∧ tl2 ≤ 512 := ⟨by have := HVA.out.1; omega, by have := HVB.out.1; omega⟩
      have HLL : Hid ((L1 ++ L2).length ≤ 1024 ∧ tl ≤ 512 ∧ tl2 ≤ 512) := by
        have h1 : (L1 ++ L2).length ≤ 1024 := by rw [List.length_append, s1.len, s2.len]; omega
        exact ⟨h1, htl⟩
      have hGt : ∀ x ∈ (L1 ++ L2).map (fun h : Hr => h.x), RtN m x ∧ wF m x.fs ≤ 512 := fun x hx => by
        rw [hAB] at hx
        rcases List.mem_append.1 hx with hx | hx
        · exact ⟨⟨15, gA.1.1 x hx⟩, by have h3 := wN_mem (n := m) hx; have := gA.2; omega⟩
        · exact ⟨⟨15, gB.1.1 x hx⟩, by have h3 := wN_mem (n := m) hx; have := gB.2; omega⟩
      have HLF : Hid (∀ W u, Below w.heap.size w W → OwnH W w.heap.size u (L1 ++ L2) → ∃ a cap, u = .slice a (L1 ++ L2).length cap ∧ Calls Tryz.prog 55 #[u] W fun e w' => ∃ (t3 : Option Addr) (tl3 tc3 : Nat), e = .returned (.tuple #[.agg #[.slice t3 tl3 tc3], .int .i64 rr.1]) ∧ Below W.heap.size W w' ∧ InV w' (m + 1) t3 tl3 tc3 rr.2) := fun W u hW hO => by
        obtain ⟨a, cap, rfl, hrow⟩ := hO.row
        refine ⟨a, cap, rfl, ?_⟩
        have hokW : ∀ h ∈ L1 ++ L2, h.ok m W := fun h hh => (HOK.out h hh).below hW
        have := left_in m W a (L1 ++ L2).length cap ((L1 ++ L2).map fun h : Hr => h.x) ((OwnH.inV hO (by have := HLL.out.1; omega) hokW).1) (by have := HLL.out.1; omega) (fun x hx => (hGt x hx).1) (fun x hx => Nat.le_trans (hGt x hx).2 (by omega))
        refine this.mono ?_
        rintro e w' ⟨t3, tl3, tc3, er, he, hB, hc⟩
        rw [hAB] at hc
        rw [hv]
        unfold joinV nrm
        rcases hc with ⟨c1, rfl, c3⟩ | ⟨c1, rfl, rfl, rfl, rfl⟩
        · rw [if_neg (by omega)]; exact ⟨t3, tl3, tc3, he, hB, c3⟩
        · rw [if_pos c1]; exact ⟨none, 0, 0, he, hB, inV_nil⟩
      have HS := Lib.hid (And.intro s1 s2)
      have HCT : Hid (∀ w2, Below X.heap.size X w2 → Calls Tryz.prog 56 #[.slice (some ⟨w2.heap.size, 0, none⟩) 2 2] (w2.alloc (.cells #[.slice t tl tc, .slice t2 tl2 tc2] 22)) fun e w' => ∃ (a : Option Addr) (ln cap : Nat), e = .returned (.slice a ln cap) ∧ Below X.heap.size X w' ∧ Calls Tryz.prog 55 #[.slice a ln cap] w' fun e w'' => ∃ (t3 : Option Addr) (tl3 tc3 : Nat), e = .returned (.tuple #[.agg #[.slice t3 tl3 tc3], .int .i64 rr.1]) ∧ Below w'.heap.size w' w'' ∧ InV w'' (m + 1) t3 tl3 tc3 rr.2) := fun w2 h2 => by
        have hb := bl_step HXB.out.old (bl_alloc (o := .cells #[.slice t tl tc, .slice t2 tl2 tc2] 22) h2)
        refine (concat_two w2.heap.size 2 t t2 tl tc tl2 tc2 L1 L2 (w2.alloc (.cells #[.slice t tl tc, .slice t2 tl2 tc2] 22)) new_lt (by simp [go_sem]) (by simp [go_sem]) (HS.out.1.below hb) (HS.out.2.below hb) (by have := HLL.out.2.1; omega) (by have := HLL.out.2.2; omega)).mono ?_
        rintro e w3 ⟨u, rfl, hB3, ho3⟩
        have hx3 := bl_step (bl_alloc (o := .cells #[.slice t tl tc, .slice t2 tl2 tc2] 22) h2) hB3
        obtain ⟨a, cap, rfl, hc⟩ := HLF.out w3 u (bl_step HXB.out.old hx3) (owns_base ho3 hb.size)
        exact ⟨a, _, cap, rfl, hx3, hc⟩
      obtain ⟨re, M⟩ := rr
      clear HR hv hrg gA gB hL1 hL2 ok1 ok2 s1 s2 hAB hlA hlB hGt htl
      go_wp2_with (first
        | (go_at_call 18; (with_reducible refine (HRA.out _ HXB.out.old).mono ?_); rintro e w1 ⟨rfl, hB1⟩; obtain ⟨-, y1, -⟩ := HXB.out.bb.later hB1; have HB1 := Lib.hid hB1; clear hB1)
        | (go_at_call 18; (with_reducible refine (HRB.out _ (bl_step HXB.out.old HB1.out)).mono ?_); rintro e w2 ⟨rfl, hB2⟩; obtain ⟨-, z0, -⟩ := HXB.out.ba.later (bl_step HB1.out hB2); obtain ⟨-, z1, -⟩ := HXB.out.bb.later (bl_step HB1.out hB2); have HB2 := Lib.hid (bl_step HB1.out hB2); clear hB2)
        | (go_at_call 56; (with_reducible refine (HCT.out _ HB2.out).mono ?_); rintro e w3 ⟨au, ln, cu, rfl, hB3, hcl⟩; have HB3 := Lib.hid hB3; have HCL := Lib.hid hcl; clear hB3 hcl)
        | (go_at_call 55; (with_reducible refine HCL.out.mono ?_); rintro e w4 ⟨t3, tl3, tc3, rfl, hB4, hv4⟩; have HB4 := Lib.hid (bl_step HB3.out hB4); have HV4 := Lib.hid hv4; clear hB4 hv4)
        | (go_at_call 53; refine (copy_in (m + 1) _ _ _ _ M (HV4.out.below (bl_alloc (Below.refl _ _))) HSL.out).mono ?_; rintro e w5 ⟨t5, tc5, rfl, hB5, ho5⟩; obtain ⟨rz, rc, rf⟩ := HXB.out.br.later (bl_step (bl_alloc HB4.out) hB5); have HB5 := Lib.hid (bl_step HXB.out.old (bl_step (bl_alloc HB4.out) hB5)); have HO5 := Lib.hid ho5; clear hB5 ho5))
      refine bodyPost_ret (v := .tuple #[.agg #[.slice t5 tl3 tc5], .int .i64 re]) (by simp [results, Tryz.results28, go_sem, set_here rc]) rfl ⟨t5, tl3, tc5, rfl, bl_set HB5.out (by show w.heap.size ≤ w.heap.size + 1 + 1; omega), ?_⟩
      have hs := HXB.out.size
      refine OwV.inV (P := fun _ => True) (HO5.out.to (Nat.le_of_eq set_size.symm) fun b hb _ => ⟨trivial, set_heap ?_⟩)
      have h1 := HB4.out.size
      rw [new_size] at hb
      omega
end Go.Proofs.YtddleeenlpigfaaGreatDoor
/- PLAIN MATHEMATICS of depths; WALK of made. -/
namespace Go.Proofs.YtddleeenlpigfaaGreatDoor
open Go.RowKit
theorem mx_ge : ∀ (l : List Int) (a : Int), a ≤ l.foldl max a
  | [], a => Int.le_refl a
  | x :: l, a => by rw [List.foldl_cons]; have := mx_ge l (max a x); omega
theorem mx_mem : ∀ (l : List Int) (a x : Int), x ∈ l → x ≤ l.foldl max a
  | y :: l, a, x, h => by
    rw [List.foldl_cons]
    rcases List.mem_cons.1 h with rfl | h
    · have := mx_ge l (max a x); omega
    · exact mx_mem l _ x h
theorem mx_le : ∀ (l : List Int) (a b : Int), a ≤ b → (∀ x ∈ l, x ≤ b) → l.foldl max a ≤ b
  | [], _, _, h, _ => h
  | x :: l, a, b, h, hx => by
    rw [List.foldl_cons]
    exact mx_le l _ b (by have := hx x (by simp); omega) fun y hy => hx y (by simp [hy])
theorem wrap_id {x : Int} (h0 : 0 ≤ x) (h1 : x ≤ 1000) : wrap64 x = x := wrap_small (by omega) (by omega)
theorem dep_mem {n : Nat} {A : List Tm} {x : Tm} {f : Fd} (hx : x ∈ A) (hf : f ∈ x.fs) : depV n f.2 ∈ deps (depV n) A := by
  unfold deps; exact List.mem_flatMap.2 ⟨x, hx, List.mem_map.2 ⟨f, hf, rfl⟩⟩
theorem dep_of {n : Nat} {A : List Tm} {d : Int} (h : d ∈ deps (depV n) A) : ∃ x ∈ A, ∃ f ∈ x.fs, d = depV n f.2 := by
  unfold deps at h
  obtain ⟨x, hx, h⟩ := List.mem_flatMap.1 h
  obtain ⟨f, hf, rfl⟩ := List.mem_map.1 h
  exact ⟨x, hx, f, hf, rfl⟩
/-- How deep what is right is. -/
theorem dep_rv : ∀ {n l : Nat} {A : List Tm}, l ≤ 100 → RV n l A → 1 ≤ depV n A ∧ depV n A ≤ l
  | 0, _, _, _, h => by unfold RV at h; exact h.elim
  | n + 1, 0, _, _, h => by unfold RV at h; exact h.elim
  | n + 1, l + 1, A, hl, h => by
    have h1 : mx (deps (depV n) A) ≤ l := mx_le _ _ _ (by omega) fun d hd => by
      obtain ⟨x, hx, f, hf, rfl⟩ := dep_of hd
      exact (dep_rv (by omega) (gt_f (h.1 x hx) hf).2.1).2
    have h0 : 0 ≤ mx (deps (depV n) A) := mx_ge _ 0
    show 1 ≤ wrap64 (1 + mx (deps (depV n) A)) ∧ wrap64 (1 + mx (deps (depV n) A)) ≤ ((l + 1 : Nat) : Int)
    rw [wrap_id (by omega) (by omega)]
    omega
theorem RT.impF {g h : List Tm → Prop} {x : Tm} (gh : ∀ f ∈ x.fs, h f.2) (r : RT g x) : RT h x := by
  unfold RT at *
  split
  · rename_i h5; rw [if_pos h5] at r; exact r
  · rename_i h5
    rw [if_neg h5] at r
    split
    · rename_i h4
      rw [if_pos h4] at r
      obtain ⟨a, b, c, d, e, ⟨f1, f2, f3⟩, g'⟩ := r
      exact ⟨a, b, c, d, e, ⟨f1, f2, gh⟩, g'⟩
    · rename_i h4; rw [if_neg h4] at r; exact r
theorem dep_down : ∀ {n l k : Nat} {A : List Tm}, l ≤ 100 → RV n l A → depV n A ≤ k → RV n k A
  | 0, _, _, _, _, h, _ => by unfold RV at h; exact h.elim
  | n + 1, 0, _, _, _, h, _ => by unfold RV at h; exact h.elim
  | n + 1, l + 1, k, A, hl, h, hk => by
    have hd := dep_rv hl h
    have h1 : mx (deps (depV n) A) ≤ l := mx_le _ _ _ (by omega) fun d hd => by
      obtain ⟨x, hx, f, hf, rfl⟩ := dep_of hd
      exact (dep_rv (by omega) (gt_f (h.1 x hx) hf).2.1).2
    have h0 : 0 ≤ mx (deps (depV n) A) := mx_ge _ 0
    have e : depV (n + 1) A = 1 + mx (deps (depV n) A) := by
      show wrap64 (1 + mx (deps (depV n) A)) = _
      exact wrap_id (by omega) (by omega)
    cases k with
    | zero => omega
    | succ k =>
      refine ⟨fun x hx => (h.1 x hx).impF fun f hf => dep_down (by omega) (gt_f (h.1 x hx) hf).2.1 ?_, h.2⟩
      have := mx_mem (deps (depV n) A) 0 _ (dep_mem hx hf)
      have e2 : mx (deps (depV n) A) = (deps (depV n) A).foldl max 0 := rfl
      omega
/-- A right term, of which we don't know whether it is too deep for a value. -/
abbrev Gr1 (n : Nat) (x : Tm) : Prop := RT (RG n) x
theorem Gr1.gt {n : Nat} {x : Tm} (h : Gr1 n x) : Gt n 16 x := h.imp fun _ h => h.1
theorem Gr1.w {n : Nat} {x : Tm} (h : Gr1 n x) : wF n x.fs ≤ 16384 := by
  by_cases h4 : x.k = 4
  · have hr : RF (RG n) x.fs := by
      have h' : RT (RG n) x := h
      unfold RT at h'
      rw [if_neg (by omega), if_pos h4] at h'
      exact h'.2.2.2.2.2.1
    have sum : ∀ L : List Fd, (∀ f ∈ L, wN n f.2 ≤ 512) → wF n L ≤ L.length * 512 := fun L => by
      induction L with
      | nil => intro _; simp [wF]
      | cons f L ih =>
        intro h
        rw [wF_cons, List.length_cons]
        have := h f (by simp)
        have := ih fun f hf => h f (by simp [hf])
        omega
    have := sum x.fs fun f hf => (hr.2.2 f hf).2
    have := hr.1
    omega
  · rw [gt_flat h.gt h4]; simp [wF]
/-- Is a term too deep for a value? -/
def tooDeep (n : Nat) (x : Tm) : Bool := decide (16 < depV (n + 1) [x])
theorem Gr1.deep {n : Nat} {x : Tm} (h : Gr1 n x) (hd : tooDeep n x = false) : Gt n 15 x := by
  have h1 : ¬ 16 < depV (n + 1) [x] := of_decide_eq_false hd
  have hg := h.gt
  refine hg.impF fun f hf => dep_down (l := 16) (by omega) (gt_f hg hf).2.1 ?_
  have hm : ∀ d ∈ deps (depV n) [x], 1 ≤ d ∧ d ≤ 16 := fun d hd => by
    obtain ⟨y, hy, f, hf, rfl⟩ := dep_of hd
    rw [List.mem_singleton.1 hy] at hf
    have := dep_rv (l := 16) (by omega) (gt_f hg hf).2.1
    omega
  have h2 : mx (deps (depV n) [x]) ≤ 16 := mx_le _ _ _ (by omega) fun d hd => (hm d hd).2
  have h0 : 0 ≤ mx (deps (depV n) [x]) := mx_ge _ 0
  have e : depV (n + 1) [x] = 1 + mx (deps (depV n) [x]) := by
    show wrap64 (1 + mx (deps (depV n) [x])) = _
    exact wrap_id (by omega) (by omega)
  have := mx_mem (deps (depV n) [x]) 0 _ (dep_mem (by simp) hf)
  have e2 : mx (deps (depV n) [x]) = (deps (depV n) [x]).foldl max 0 := rfl
  omega
theorem deep_gt {n : Nat} {x : Tm} (h : Gt n 15 x) : tooDeep n x = false := by
  have h1 : mx (deps (depV n) [x]) ≤ 15 := mx_le _ _ _ (by omega) fun d hd => by
    obtain ⟨y, hy, f, hf, rfl⟩ := dep_of hd
    rw [List.mem_singleton.1 hy] at hf
    have := (dep_rv (l := 15) (by omega) (gt_f h hf).2.1).2
    omega
  have h0 : 0 ≤ mx (deps (depV n) [x]) := mx_ge _ 0
  refine decide_eq_false ?_
  show ¬ 16 < wrap64 (1 + mx (deps (depV n) [x]))
  rw [wrap_id (by omega) (by omega)]
  omega
/-- The value of right terms. -/
def madeV (n : Nat) (A : List Tm) : Int × List Tm := if A.any (tooDeep n) = true then (22, []) else nrm n A
theorem made_rg {n : Nat} {A : List Tm} (h : ∀ x ∈ A, Gr1 n x) : (madeV n A = (22, []) ∨ madeV n A = (30, [])) ∨ ∃ M, madeV n A = (0, M) ∧ RG (n + 1) M := by
  unfold madeV
  by_cases hd : A.any (tooDeep n) = true
  · rw [if_pos hd]; exact .inl (.inl rfl)
  · rw [if_neg hd]
    have hg : ∀ x ∈ A, Gt n 15 x := fun x hx => (h x hx).deep (by
      cases e : tooDeep n x
      · rfl
      · exact (hd (List.any_eq_true.2 ⟨x, hx, e⟩)).elim)
    rcases nrm_cases n A with ⟨e, _⟩ | ⟨e, hw⟩
    · exact .inl (.inr e)
    · exact .inr ⟨_, e, norm_rv hg fun x hx => gt_dt (hg x hx), hw⟩
end Go.Proofs.YtddleeenlpigfaaGreatDoor
/- WALKS of made, Struct, number, Any. -/
namespace Go.Proofs.YtddleeenlpigfaaGreatDoor
open Go.RowKit
/-- Those of the first k that are too deep: none. -/
def NoDeep (n : Nat) (A : List Tm) (k : Nat) : Prop := ∀ j (h : j < A.length), j < k → tooDeep n A[j] = false
theorem NoDeep.end {n : Nat} {A : List Tm} (h : NoDeep n A A.length) : madeV n A = nrm n A := by
  unfold madeV
  rw [if_neg]
  rw [Bool.not_eq_true, List.any_eq_false]
  intro x hx
  obtain ⟨j, hj, rfl⟩ := List.getElem_of_mem hx
  rw [h j hj hj]; decide
theorem deep_is {n : Nat} {A : List Tm} {k : Nat} (hk : k < A.length) (h : tooDeep n A[k] = true) : madeV n A = (22, []) := by
  unfold madeV
  rw [if_pos (List.any_eq_true.2 ⟨_, List.getElem_mem hk, h⟩)]
set_option maxRecDepth 100000 in
set_option maxHeartbeats 8000000 in
theorem made_any (n : Nat) (w : World) (t : Option Addr) (tl tc : Nat) (A : List Tm) (h : InV w (n + 1) t tl tc A) (hr : ∀ x ∈ A, Gr1 n x) (hbig : tl ≤ 512) :
    Calls Tryz.prog 46 #[.slice t tl tc] w (LmP (n + 1) (madeV n A) w) := by
  obtain rfl : A.length = tl := h.1
  obtain ⟨d, hd, hok, hrow⟩ := heads h
  have hdl : d.length = A.length := by rw [← hd, List.length_map]
  have HD := Lib.hid (And.intro hd (And.intro hok hrow))
  have HDL := Lib.hid hdl
  have HV := Lib.hid h
  have HR := Lib.hid hr
  have hl2 : (A.length : Int) ≤ 512 := by omega
  have HNE : Hid (0 < A.length → ∃ b off, t = some ⟨b, off, none⟩) := fun h0 => by
    obtain ⟨b, off, e, _⟩ := h.2.2 0 h0; exact ⟨b, off, e⟩
  obtain ⟨rr, hrr⟩ : ∃ rr, madeV n A = rr := ⟨_, rfl⟩
  rw [hrr]
  have HRR := Lib.hid hrr
  have hrg := made_rg hr
  rw [hrr] at hrg
  have HSL : Hid (SlimV (n + 1) rr.2) := by
    rcases hrg with (h | h) | ⟨M, h, hr⟩
    · rw [h]; exact ⟨by decide, fun i hi => absurd hi (Nat.not_lt_zero _)⟩
    · rw [h]; exact ⟨by decide, fun i hi => absurd hi (Nat.not_lt_zero _)⟩
    · rw [h]; exact hr.slim
  clear h hd hok hrow hdl hr hbig hrr hrg
  go_enter Tryz.func46, Tryz.ntmps46
  go_upto_region 1 with fail
  have HXE : ∃ X, w.alloc (.cells #[.slice none 0 0] 24) = X := ⟨_, rfl⟩
  obtain ⟨X, hX⟩ := HXE
  have HXB : Hid (Below w.heap.size w X ∧ Cx X w.heap.size 0 (.slice none 0 0) ∧ X.heap.size = w.heap.size + 1) := by
    rw [← hX]; exact ⟨bl_alloc (Below.refl _ _), ⟨by simp, by simp [go_sem], by simp [go_sem]⟩, by simp⟩
  rw [hX]
  clear hX
  go_wp2_with fail
  go_loopw [10] (fun i wr => ∃ k : Nat, k ≤ A.length ∧ i = .int .i64 k ∧ Hid (NoDeep n A k) ∧ Hid (Below X.heap.size X wr)) (fun i _ => A.length - (intOf i).toNat)
  case atStart => exact ⟨0, Nat.zero_le _, rfl, fun j _ hj => absurd hj (Nat.not_lt_zero _), Below.refl _ _⟩
  case round =>
    obtain ⟨k, hk, rfl, hN, hB⟩ := hrel
    rename World => wr
    by_cases hlt : k < A.length
    · have hki : (k : Int) < (A.length : Int) := by omega
      have hk0 : (0 : Int) ≤ (k : Int) := by omega
      obtain ⟨b1, off1, rfl⟩ := HNE.out (by omega)
      have hkd : k < d.length := by rw [HDL.out]; exact hlt
      obtain ⟨lt1, q0, q1, q2, q3, q4, q5, q6, q7⟩ := HD.out.2.2 b1 off1 rfl k hkd
      have HOK := Lib.hid (HD.out.2.1 _ (List.getElem_mem hkd))
      have hxa : d[k].x = A[k] := by
        have := congrArg (fun l => l[k]?) HD.out.1
        simpa [hkd, hlt] using this
      have hbw := bl_step HXB.out.1 hB.out
      replace q0 := (hbw.cell (p := ⟨b1, off1 + k * 8, none⟩) lt1).trans q0
      replace q1 := (hbw.cell (p := ⟨b1, off1 + k * 8 + 1, none⟩) lt1).trans q1
      replace q2 := (hbw.cell (p := ⟨b1, off1 + k * 8 + 2, none⟩) lt1).trans q2
      replace q3 := (hbw.cell (p := ⟨b1, off1 + k * 8 + 3, none⟩) lt1).trans q3
      replace q4 := (hbw.cell (p := ⟨b1, off1 + k * 8 + 4, none⟩) lt1).trans q4
      replace q5 := (hbw.cell (p := ⟨b1, off1 + k * 8 + 5, none⟩) lt1).trans q5
      replace q6 := (hbw.cell (p := ⟨b1, off1 + k * 8 + 6, none⟩) lt1).trans q6
      replace q7 := (hbw.cell (p := ⟨b1, off1 + k * 8 + 7, none⟩) lt1).trans q7
      have HXA := Lib.hid hxa
      have HBW := Lib.hid hbw
      clear hbw lt1 hxa
      generalize d[k] = ha at *
      obtain ⟨dp, hdp⟩ : ∃ dp, depV (n + 1) [A[k]] = dp := ⟨_, rfl⟩
      have HDP := Lib.hid hdp
      have HDC : Hid (∀ (W : World) (g : Nat), Below wr.heap.size wr W → g < W.heap.size → Tc W g ha.x.k ha.x.lo ha.x.hi ha.x.s ha.x.y ha.x.m ha.x.o ha.f ha.fl ha.fc → Calls Tryz.prog 75 #[.agg #[.slice (some ⟨g, 0, none⟩) 1 1]] W fun e w' => e = .returned (.int .i64 dp) ∧ Below W.heap.size W w') := fun W g hW hg hT => by
        have hv := alone_inV (n := n) (fs := ha.x.fs) hg hT (by
          have := (HOK.out.below HBW.out).below hW
          obtain ⟨⟨k', lo, hi', s, y, m, o, fs⟩, f, fl, fc⟩ := ha
          exact this)
        have := depth_in (n + 1) W (some ⟨g, 0, none⟩) 1 1 _ hv
        rw [← hdp, ← HXA.out]
        obtain ⟨⟨k', lo, hi', s, y, m, o, fs⟩, f, fl, fc⟩ := ha
        exact this
      clear hdp
      by_cases hdeep : 16 < dp
      · have hv : rr = (22, []) := by rw [← HRR.out]; exact deep_is hlt (decide_eq_true (by rw [HDP.out]; exact hdeep))
        subst hv
        go_wp2_with (first
          | (go_at_call 76; (with_reducible refine (alone_any _ _ _ _ _ _ _ _ _ _ _).mono ?_); rintro e w3 ⟨ga, rfl, hBa, hga, hgal, hTa⟩; have HBa := Lib.hid (bl_step (bl_alloc (Below.refl wr.heap.size wr)) hBa); have HTa := Lib.hid (And.intro hgal hTa); clear hBa hga hgal hTa)
          | (go_at_call 75; refine (HDC.out _ _ HBa.out HTa.out.1 HTa.out.2).mono ?_; rintro e w4 ⟨rfl, hB4⟩; have HB4 := Lib.hid (bl_step HBa.out hB4); clear hB4)
          | (go_at_call 15; refine (none_any _).mono ?_; rintro e w5 ⟨rfl, hB5⟩; obtain ⟨rz, rc, rf⟩ := HXB.out.2.1.later (bl_step hB.out (bl_step HB4.out hB5)); have HB5 := Lib.hid (bl_step HBW.out (bl_step HB4.out hB5)); clear hB5))
        exact bodyPost_ret (v := .tuple #[.agg #[.slice none 0 0], .int .i64 22]) (by simp [results, Tryz.results46, go_sem, set_here rc]) rfl ⟨none, 0, 0, rfl, bl_set HB5.out (Nat.le_refl _), inV_nil⟩
      · have HND : Hid (tooDeep n A[k] = false) := decide_eq_false (by rw [HDP.out]; exact hdeep)
        go_wp2_with (first
          | (go_at_call 76; (with_reducible refine (alone_any _ _ _ _ _ _ _ _ _ _ _).mono ?_); rintro e w3 ⟨ga, rfl, hBa, hga, hgal, hTa⟩; have HBa := Lib.hid (bl_step (bl_alloc (Below.refl wr.heap.size wr)) hBa); have HTa := Lib.hid (And.intro hgal hTa); clear hBa hga hgal hTa)
          | (go_at_call 75; refine (HDC.out _ _ HBa.out HTa.out.1 HTa.out.2).mono ?_; rintro e w4 ⟨rfl, hB4⟩; have HB4 := Lib.hid (bl_step HBa.out hB4); clear hB4))
        go_roundw
        case rel => exact ⟨k + 1, by omega, by go_num, fun j hj hjk => (by
          by_cases e : j = k
          · subst e; exact HND.out
          · exact hN.out j hj (by omega)), bl_step hB.out HB4.out⟩
        case measure => simp [intOf]; omega
    · have ek : k = A.length := by omega
      subst ek
      have hv : rr = nrm n A := by rw [← HRR.out]; exact hN.out.end
      have HBW := Lib.hid (bl_step HXB.out.1 hB.out)
      have HLF : Hid (Calls Tryz.prog 55 #[.slice t A.length tc] wr fun e w' => ∃ (t3 : Option Addr) (tl3 tc3 : Nat), e = .returned (.tuple #[.agg #[.slice t3 tl3 tc3], .int .i64 rr.1]) ∧ Below wr.heap.size wr w' ∧ InV w' (n + 1) t3 tl3 tc3 rr.2) := by
        have := left_in n wr t A.length tc A (HV.out.below HBW.out) (by omega) (fun x hx => ⟨16, (HR.out x hx).gt⟩) (fun x hx => Nat.le_trans (HR.out x hx).w (by omega))
        refine this.mono ?_
        rintro e w' ⟨t3, tl3, tc3, er, he, hB, hc⟩
        rw [hv]
        unfold nrm
        rcases hc with ⟨c1, rfl, c3⟩ | ⟨c1, rfl, rfl, rfl, rfl⟩
        · rw [if_neg (by omega)]; exact ⟨t3, tl3, tc3, he, hB, c3⟩
        · rw [if_pos c1]; exact ⟨none, 0, 0, he, hB, inV_nil⟩
      obtain ⟨re, M⟩ := rr
      clear hv
      go_wp2_with (first
        | (go_at_call 55; (with_reducible refine HLF.out.mono ?_); rintro e w4 ⟨t3, tl3, tc3, rfl, hB4, hv4⟩; have HB4 := Lib.hid (bl_step hB.out hB4); have HV4 := Lib.hid hv4; clear hB4 hv4)
        | (go_at_call 53; refine (copy_in (n + 1) _ _ _ _ M (HV4.out.below (bl_alloc (Below.refl _ _))) HSL.out).mono ?_; rintro e w5 ⟨t5, tc5, rfl, hB5, ho5⟩; obtain ⟨rz, rc, rf⟩ := HXB.out.2.1.later (bl_step (bl_alloc HB4.out) hB5); have HB5 := Lib.hid (bl_step HXB.out.1 (bl_step (bl_alloc HB4.out) hB5)); have HO5 := Lib.hid ho5; clear hB5 ho5))
      refine bodyPost_ret (v := .tuple #[.agg #[.slice t5 tl3 tc5], .int .i64 re]) (by simp [results, Tryz.results46, go_sem, set_here rc]) rfl ⟨t5, tl3, tc5, rfl, bl_set HB5.out (Nat.le_refl _), ?_⟩
      have hs := HXB.out.2.2
      refine OwV.inV (P := fun _ => True) (HO5.out.to (Nat.le_of_eq set_size.symm) fun b hb _ => ⟨trivial, set_heap ?_⟩)
      have h1 := HB4.out.size
      rw [new_size] at hb
      omega
end Go.Proofs.YtddleeenlpigfaaGreatDoor
/- WALKS of number, Any, Struct. -/
namespace Go.Proofs.YtddleeenlpigfaaGreatDoor
open Go.RowKit
/-- From one world to another one, in which but one block is other: that one holds a slice. -/
theorem cell_slice {w : World} {N : Nat} {a : Option Addr} {l c ty : Nat} (h : w.heap[N]? = some (.cells #[.slice a l c] ty)) (off : Nat) : (∀ k x, w.cell? ⟨N, off, none⟩ ≠ some (.int k x)) ∧ ∀ x, w.cell? ⟨N, off, none⟩ ≠ some (.string x) := by
  have e : w.cell? ⟨N, off, none⟩ = #[Value.slice a l c][off]? := by simp [World.cell?, h]
  rw [e]
  cases off with
  | zero => exact ⟨fun k x h => by simp at h, fun x h => by simp at h⟩
  | succ j => exact ⟨fun k x h => by simp at h, fun x h => by simp at h⟩
section
variable {w w' : World} {N : Nat} {a : Option Addr} {l c ty : Nat} (hs : w.heap.size ≤ w'.heap.size) (hb : ∀ b, b ≠ N → w'.heap[b]? = w.heap[b]?) (hN : w.heap[N]? = some (.cells #[.slice a l c] ty))
include hs hb hN
theorem InF.but {I J : Option Addr → Nat → Nat → List Tm → Prop} (hIJ : ∀ t tl tc V, I t tl tc V → J t tl tc V) {f : Option Addr} {fl : Nat} {fs : List (ByteArray × List Tm)} (h : InF I w f fl fs) : InF J w' f fl fs := by
  refine ⟨h.1, h.2.1, fun i hi => ?_⟩
  obtain ⟨b, off, tl, tc, t, e, lt, c0, c1, h2⟩ := h.2.2 i hi
  have hne : b ≠ N := fun e => by subst e; exact (cell_slice hN _).2 _ c0
  exact ⟨b, off, tl, tc, t, e, Nat.lt_of_lt_of_le lt hs, (cell_of_heap (hb b hne) _).trans c0, (cell_of_heap (hb b hne) _).trans c1, hIJ _ _ _ _ h2⟩
theorem InV.but : ∀ {n : Nat} {t : Option Addr} {tl tc : Nat} {V : List Tm}, InV w n t tl tc V → InV w' n t tl tc V
  | 0, _, _, _, _, h => h.elim
  | n + 1, t, tl, tc, V, h => by
    refine ⟨h.1, h.2.1, fun i hi => ?_⟩
    obtain ⟨b, off, e, hT⟩ := h.2.2 i hi
    refine ⟨b, off, e, ?_⟩
    generalize V[i] = x at hT
    obtain ⟨k, lo, hi, s, y, m, o, fs⟩ := x
    obtain ⟨lt, f, fl, fc, c0, c1, c2, c3, c4, c5, c6, c7, hf⟩ := hT
    have hne : b ≠ N := fun e => by subst e; exact (cell_slice hN _).1 _ _ c0
    have e : ∀ i, w'.cell? ⟨b, i, none⟩ = w.cell? ⟨b, i, none⟩ := fun i => cell_of_heap (hb b hne) i
    exact ⟨Nat.lt_of_lt_of_le lt hs, f, fl, fc, (e _).trans c0, (e _).trans c1, (e _).trans c2, (e _).trans c3, (e _).trans c4, (e _).trans c5, (e _).trans c6, (e _).trans c7, hf.but hs hb hN (fun _ _ _ _ h => h.but)⟩
end
/-- A value of one term without fields, of the call's own. -/
def OneP (k lo hi : Int) (w : World) (e : Ending) (w' : World) : Prop :=
  ∃ g, e = .returned (.agg #[.slice (some ⟨g, 0, none⟩) 1 1]) ∧ Below w.heap.size w w' ∧ g < w'.heap.size ∧ Tc w' g k lo hi ⟨#[]⟩ false false false none 0 0
set_option maxRecDepth 100000 in
set_option maxHeartbeats 2000000 in
theorem number_any (lo hi : Int) (w : World) : Calls Tryz.prog 30 #[.int .i64 lo, .int .i64 hi] w (OneP 2 lo hi w) := by
  go_enter Tryz.func30, Tryz.ntmps30
  go_wp2_with fail
  refine bodyPost_ret (v := .agg #[.slice (some ⟨w.heap.size + 1, 0, none⟩) 1 1]) (by simp [results, Tryz.results30, go_sem]) rfl ⟨_, rfl, bl_alloc (bl_alloc (Below.refl _ _)), by simp, ?_⟩
  have h := Tc.new (w.alloc (.cells #[.slice (some ⟨w.heap.size + 1, 0, none⟩) 1 1] 24)) 2 lo hi ⟨#[]⟩ false false false none 0 0
  rw [show (w.alloc (.cells #[.slice (some ⟨w.heap.size + 1, 0, none⟩) 1 1] 24)).heap.size = w.heap.size + 1 by simp] at h
  exact h
set_option maxRecDepth 100000 in
set_option maxHeartbeats 2000000 in
theorem lany_any (w : World) : Calls Tryz.prog 16 #[] w (OneP 5 0 0 w) := by
  go_enter Tryz.func16, Tryz.ntmps16
  go_wp2_with fail
  refine bodyPost_ret (v := .agg #[.slice (some ⟨w.heap.size + 1, 0, none⟩) 1 1]) (by simp [results, Tryz.results16, go_sem]) rfl ⟨_, rfl, bl_alloc (bl_alloc (Below.refl _ _)), by simp, ?_⟩
  have h := Tc.new (w.alloc (.cells #[.slice (some ⟨w.heap.size + 1, 0, none⟩) 1 1] 24)) 5 0 0 ⟨#[]⟩ false false false none 0 0
  rw [show (w.alloc (.cells #[.slice (some ⟨w.heap.size + 1, 0, none⟩) 1 1] 24)).heap.size = w.heap.size + 1 by simp] at h
  exact h
theorem OneP.inV {k lo hi : Int} {w' : World} {g : Nat} (hg : g < w'.heap.size) (hT : Tc w' g k lo hi ⟨#[]⟩ false false false none 0 0) (n : Nat) : InV w' (n + 1) (some ⟨g, 0, none⟩) 1 1 [.mk k lo hi ⟨#[]⟩ false false false []] :=
  alone_inV hg hT ⟨rfl, (show ((0 : Nat) : Int) ≤ 9223372036854775807 by decide), fun i hi => absurd hi (Nat.not_lt_zero _)⟩
/-- Struct's value. -/
noncomputable def structV (n : Nat) (o : Bool) (fs : List (ByteArray × List Tm)) : Int × List Tm :=
  open Classical in if RFb (fun i => rgV n (fAt fs i).2) fs then (if ∃ f ∈ fs, f.2 = [] then (0, []) else madeV n [.mk 4 0 0 ⟨#[]⟩ false false o fs]) else (1, [])
theorem rfb_rf {n : Nat} {fs : List (ByteArray × List Tm)} (h : RFb (fun i => rgV n (fAt fs i).2) fs) : RF (RG n) fs :=
  ⟨h.1, h.2.1, fun f hf => by
    obtain ⟨i, hi, rfl⟩ := List.getElem_of_mem hf
    have := h.2.2 i hi
    dsimp only at this
    rw [fAt_eq hi] at this
    exact rgV_yes.1 this⟩
theorem four_gr {n : Nat} {o : Bool} {fs : List (ByteArray × List Tm)} (h : RF (RG n) fs) (he : ∀ f ∈ fs, f.2 ≠ []) : Gr1 n (.mk 4 0 0 ⟨#[]⟩ false false o fs) := by
  show RT (RG n) _
  unfold RT
  rw [if_neg (by show ¬ (4 : Int) = 5; decide), if_pos (by rfl)]
  exact ⟨rfl, rfl, rfl, rfl, rfl, h, he⟩
set_option maxRecDepth 100000 in
set_option maxHeartbeats 8000000 in
theorem struct_any (n : Nat) (w : World) (o : Bool) (f : Option Addr) (fl fc : Nat) (fs : List (ByteArray × List Tm)) (hF : InF (fun t tl tc V => InV w n t tl tc V) w f fl fs) (hnm : ∀ x ∈ fs, x.1.size ≤ 140737488355328 ∧ NmV n x.2) (hE : Nm.Env w) :
    Calls Tryz.prog 23 #[.bool o, .slice f fl fc] w (LmP (n + 1) (structV n o fs) w) := by
  obtain rfl : fs.length = fl := hF.1
  have asks : AsksV (w.heap.size + 2) (fun t tl tc V => InV w n t tl tc V) fs 18 #[] (fun _ W => Below w.heap.size w W) (fun i => rgV n (fAt fs i).2) := fun i W hi t tl tc hJ hI => by
    refine (lright_in n W t tl tc fs[i].2 ⟨InV.below hJ hI, (hnm _ (List.getElem_mem hi)).2, hE.below hJ⟩).mono ?_
    rintro e W' ⟨rfl, hB⟩
    dsimp only
    rw [fAt_eq hi]
    exact ⟨rfl, Kp.of hB, fun _ => bl_step hJ hB⟩
  have HRF := Lib.hid (rightFields_any (w.heap.size + 2) (fun t tl tc V => InV w n t tl tc V) 18 #[] enters18 (fun _ W => Below w.heap.size w W) (fun i => rgV n (fAt fs i).2) w f fs.length fc fs hF (fun x hx => (hnm x hx).1) hE (fun i W h => h) (fun i W W' h hb => bl_step h hb)
    asks (w.alloc (.cells #[.slice none 0 0] 24)) (bl_alloc (Below.refl _ _)) (by simp))
  have HCE : Hid (∀ W1, Below w.heap.size w W1 → Calls Tryz.prog 49 #[.slice f fs.length fc, .func (.func 50) #[] #[]] W1 (ContP (w.heap.size + 2) fs.length (fun _ W => Below w.heap.size w W) (fun i => (fAt fs i).2.length == 0) W1)) := fun W1 hj =>
    contains_any (w.heap.size + 2) (fun t tl tc V => InV w n t tl tc V) 50 #[] enters50 (fun _ W => Below w.heap.size w W) (fun i => (fAt fs i).2.length == 0) w f fs.length fc fs hF (fun i W h => h)
      (fun i W hi t tl tc hJ hii => by
        have e : fs[i].2.length = tl := by
          cases n with
          | zero => exact hii.elim
          | succ n => exact hii.1
        show Calls _ _ _ _ fun e W' => e = .returned (.bool ((fAt fs i).2.length == 0)) ∧ Kp _ W W' ∧ (((fAt fs i).2.length == 0) = false → Below w.heap.size w W')
        rw [fAt_eq hi, e]
        exact (empty_any fs[i].1 t tl tc W).mono fun e W' ⟨a, b⟩ => ⟨a, Kp.of b, fun _ => bl_step hJ b⟩) W1 hj
  have HMD : Hid (RF (RG n) fs → (∀ f ∈ fs, f.2 ≠ []) → ∀ W g, Below w.heap.size w W → g < W.heap.size → Tc W g 4 0 0 ⟨#[]⟩ false false o f fs.length fc → Calls Tryz.prog 46 #[.slice (some ⟨g, 0, none⟩) 1 1] W (LmP (n + 1) (madeV n [.mk 4 0 0 ⟨#[]⟩ false false o fs]) W)) := fun hr he W g hW hg hT =>
    made_any n W _ 1 1 _ (alone_inV hg hT (InF.below (fun _ _ _ _ h => InV.below hW h) hW hF)) (fun x hx => by rw [List.mem_singleton.1 hx]; exact four_gr hr he) (by omega)
  have HSV : Hid (structV n o fs = open Classical in if RFb (fun i => rgV n (fAt fs i).2) fs then (if ∃ f ∈ fs, f.2 = [] then (0, []) else madeV n [.mk 4 0 0 ⟨#[]⟩ false false o fs]) else (1, [])) := rfl
  obtain ⟨rr, hrr⟩ : ∃ rr, structV n o fs = rr := ⟨_, rfl⟩
  rw [hrr] at HSV ⊢
  obtain ⟨mm, hmm⟩ : ∃ mm, madeV n [.mk 4 0 0 ⟨#[]⟩ false false o fs] = mm := ⟨_, rfl⟩
  rw [hmm] at HSV HMD
  clear hF hnm hE asks hrr hmm
  go_enter Tryz.func23, Tryz.ntmps23
  have HXE : ∃ X, w.alloc (.cells #[.slice none 0 0] 24) = X := ⟨_, rfl⟩
  obtain ⟨X, hX⟩ := HXE
  have HXB : Hid (Below w.heap.size w X ∧ Cx X w.heap.size 0 (.slice none 0 0) ∧ X.heap.size = w.heap.size + 1 ∧ X.heap[w.heap.size]? = some (.cells #[.slice none 0 0] 24)) := by
    rw [← hX]; exact ⟨bl_alloc (Below.refl _ _), ⟨by simp, by simp [go_sem], by simp [go_sem]⟩, by simp, by show (w.heap.push _)[w.heap.size]? = _; simp⟩
  rw [hX] at HRF
  go_upto_region 1 with fail
  clear hX
  go_wp2_with (first
    | (go_at_call 48; refine HRF.out.mono ?_; rintro e w1 ⟨q, rfl, hk1, h1, h0⟩; have HK1 := Lib.hid (Kp.below HXB.out.1 hk1 (by omega)); have HC1 := Lib.hid (HXB.out.2.1.kp hk1 (by omega)); have HN1 := Lib.hid ((hk1.block _ (by rw [HXB.out.2.2.1]; omega) (by omega)).trans HXB.out.2.2.2); clear hk1; cases q; all_goals ((first | (have H1 := Lib.hid (h0 rfl)) | (have H1 := Lib.hid (h1 rfl))); clear h1 h0)))
  · obtain ⟨rz, rc, rf⟩ := HC1.out
    go_wp2_with (go_at_call 15; refine (none_any _).mono ?_; rintro e w5 ⟨rfl, hB5⟩; obtain ⟨rz, rc, rf⟩ := HC1.out.later hB5; have HB5 := Lib.hid (bl_step HK1.out hB5); clear hB5)
    refine bodyPost_ret (v := .tuple #[.agg #[.slice none 0 0], .int .i64 1]) (by simp [results, Tryz.results23, go_sem, set_here rc]) rfl ?_
    have e : rr = (1, []) := by rw [HSV.out, if_neg H1.out]
    rw [e]
    exact ⟨none, 0, 0, rfl, bl_set HB5.out (Nat.le_refl _), inV_nil⟩
  · go_wp2_with (go_at_call 49; refine (HCE.out _ H1.out.2).mono ?_; rintro e w2 ⟨q, rfl, hk2, h3, h4⟩; have HK2 := Lib.hid (Kp.below HK1.out hk2 (by omega)); have HC2 := Lib.hid (HC1.out.kp hk2 (by omega)); have HN2 := Lib.hid ((hk2.block _ HC1.out.1 (by omega)).trans HN1.out); clear hk2; cases q; all_goals ((first | (have H3 := Lib.hid (h3 rfl)) | (have H3 := Lib.hid (h4 rfl))); clear h3 h4))
    · have HNE : Hid (∀ f ∈ fs, f.2 ≠ []) := fun x hx he => by
        obtain ⟨i, hi, rfl⟩ := List.getElem_of_mem hx
        have := H3.out.1 i hi
        rw [fAt_eq hi, he] at this
        exact absurd this (by decide)
      have HE : Hid (rr = mm) := by
        refine HSV.out.trans ?_
        rw [if_pos H1.out.1, if_neg]
        rintro ⟨f, hf, he⟩
        exact HNE.out f hf he
      have HM2 := Lib.hid (HMD.out (rfb_rf H1.out.1) HNE.out)
      obtain ⟨rz, rc, rf⟩ := HC2.out
      obtain ⟨me, ml⟩ := mm
      go_wp2_with (go_at_call 46; refine (HM2.out _ _ (bl_alloc HK2.out) new_lt (Tc.new _ _ _ _ _ _ _ _ _ _ _)).mono ?_; rintro e w5 ⟨t5, tl5, tc5, rfl, hB5, hv5⟩; obtain ⟨rz, rc, rf⟩ := HC2.out.later (bl_step (bl_alloc (Below.refl _ _)) hB5); have HN5 := Lib.hid (((bl_step (bl_alloc (Below.refl w2.heap.size w2)) hB5).block _ HC2.out.1).trans HN2.out); have HB5 := Lib.hid (bl_step (bl_alloc HK2.out) hB5); have HV5 := Lib.hid hv5; clear hB5 hv5)
      refine bodyPost_ret (v := .tuple #[.agg #[.slice t5 tl5 tc5], .int .i64 me]) (by simp [results, Tryz.results23, go_sem, set_here rc]) rfl ?_
      rw [HE.out]
      refine ⟨t5, tl5, tc5, rfl, bl_set HB5.out (Nat.le_refl _), ?_⟩
      exact HV5.out.but (Nat.le_of_eq set_size.symm) (fun b hb => set_heap hb) HN5.out
    · have HE : Hid (rr = (0, [])) := by
        refine HSV.out.trans ?_
        obtain ⟨i, hi, h2⟩ := H3.out
        rw [fAt_eq hi] at h2
        rw [if_pos H1.out.1, if_pos ⟨_, List.getElem_mem hi, List.eq_nil_of_length_eq_zero (by simpa using h2)⟩]
      obtain ⟨rz, rc, rf⟩ := HC2.out
      go_wp2_with (go_at_call 15; refine (none_any _).mono ?_; rintro e w5 ⟨rfl, hB5⟩; obtain ⟨rz, rc, rf⟩ := HC2.out.later hB5; have HB5 := Lib.hid (bl_step HK2.out hB5); clear hB5)
      refine bodyPost_ret (v := .tuple #[.agg #[.slice none 0 0], .int .i64 0]) (by simp [results, Tryz.results23, go_sem, set_here rc]) rfl ?_
      rw [HE.out]
      exact ⟨none, 0, 0, rfl, bl_set HB5.out (Nat.le_refl _), inV_nil⟩
end Go.Proofs.YtddleeenlpigfaaGreatDoor
/- WALKS of the reference's Find, names. -/
namespace Go.Proofs.YtddleeenlpigfaaGreatDoor
open Go.RowKit
/-- The place of a field; -1: there is none. -/
def fidx : List (ByteArray × List Tm) → ByteArray → Int
  | [], _ => -1
  | g :: fs, key => if (g.1.toList == key.toList) = true then 0 else if fidx fs key < 0 then -1 else fidx fs key + 1
theorem fidx_none : ∀ {fs : List (ByteArray × List Tm)} {key : ByteArray}, NoF fs key fs.length → fidx fs key = -1
  | [], _, _ => rfl
  | g :: fs, key, h => by
    have h0 : (g.1.toList == key.toList) = false := h 0 (by simp) (by simp)
    have := fidx_none (fs := fs) (key := key) fun j hj hjk => h (j + 1) (by simpa using hj) (by simpa using hjk)
    unfold fidx
    rw [if_neg (by rw [h0]; decide), if_pos (by rw [this]; decide)]
theorem fidx_at : ∀ {fs : List (ByteArray × List Tm)} {key : ByteArray} {k : Nat} (hk : k < fs.length), NoF fs key k → (fs[k].1.toList == key.toList) = true → fidx fs key = k
  | g :: fs, key, 0, _, _, h => by
    have h' : (g.1.toList == key.toList) = true := h
    unfold fidx
    rw [if_pos h']; rfl
  | g :: fs, key, k + 1, hk, hn, h => by
    have h0 : (g.1.toList == key.toList) = false := hn 0 (by simp) (by omega)
    have := fidx_at (fs := fs) (key := key) (k := k) (by simpa using hk) (fun j hj hjk => hn (j + 1) (by simpa using hj) (by omega)) h
    unfold fidx
    rw [if_neg (by rw [h0]; decide), if_neg (by rw [this]; omega), this]; omega
theorem fidx_find : ∀ (fs : List (ByteArray × List Tm)) (key : ByteArray), (fidx fs key = -1 ∧ findF fs key = none) ∨ ∃ k, ∃ hk : k < fs.length, fidx fs key = (k : Int) ∧ findF fs key = some fs[k].2
  | [], _ => .inl ⟨rfl, rfl⟩
  | g :: fs, key => by
    cases h0 : (g.1.toList == key.toList)
    · rcases fidx_find fs key with ⟨a, b⟩ | ⟨k, hk, a, b⟩
      · refine .inl ⟨?_, ?_⟩
        · unfold fidx; rw [if_neg (by rw [h0]; decide), if_pos (by rw [a]; decide)]
        · simp only [findF, List.find?_cons, h0] at *; exact b
      · refine .inr ⟨k + 1, by simpa using hk, ?_, ?_⟩
        · unfold fidx; rw [if_neg (by rw [h0]; decide), if_neg (by rw [a]; omega), a]; omega
        · simp only [findF, List.find?_cons, h0, List.getElem_cons_succ] at *; exact b
    · refine .inr ⟨0, by simp, ?_, ?_⟩
      · unfold fidx; rw [if_pos h0]; rfl
      · simp [findF, h0]
/-- What the reference's Find tells. -/
def FndP (r : Int) (w : World) (e : Ending) (w' : World) : Prop := e = .returned (.int .i64 r) ∧ Below w.heap.size w w'
set_option maxRecDepth 100000 in
set_option maxHeartbeats 8000000 in
theorem rfind_any (I : Option Addr → Nat → Nat → List Tm → Prop) (w : World) (f : Option Addr) (fl fc : Nat) (fs : List (ByteArray × List Tm)) (h : InF I w f fl fs) (key : ByteArray) :
    Calls Tryz.prog 70 #[.slice f fl fc, .string key] w (FndP (fidx fs key) w) := by
  obtain ⟨r, hr⟩ : ∃ r, fidx fs key = r := ⟨_, rfl⟩
  rw [hr]
  have HR := Lib.hid hr
  clear hr
  obtain ⟨l1, z1, h1⟩ := h
  have H1 := Lib.hid h1
  subst l1
  clear h1
  go_enter Tryz.func70, Tryz.ntmps70
  go_wp2_with fail
  go_loopw [5] (fun i wr => ∃ k : Nat, k ≤ fs.length ∧ i = .int .i64 k ∧ Hid (NoF fs key k) ∧ Hid (Below w.heap.size w wr)) (fun i _ => fs.length - (intOf i).toNat)
  case atStart => exact ⟨0, Nat.zero_le _, rfl, fun j _ hj => absurd hj (Nat.not_lt_zero _), Below.refl _ _⟩
  case round =>
    obtain ⟨k, hk, rfl, hN, hB⟩ := hrel
    rename World => wr
    by_cases hlt : k < fs.length
    · have hki : (k : Int) < (fs.length : Int) := by omega
      have hk0 : (0 : Int) ≤ (k : Int) := by omega
      obtain ⟨b2, off2, tl2, tc2, t2, rfl, lt2, d0, d1, i2⟩ := H1.out k hlt
      replace d0 := (hB.out.cell (p := ⟨b2, off2 + k * 2, none⟩) lt2).trans d0
      have HN : ∃ nm, fs[k].1 = nm := ⟨_, rfl⟩
      obtain ⟨nm, hn⟩ := HN
      rw [hn] at d0
      clear i2 lt2 d1
      have HVN := Lib.hid hn
      clear hn
      cases hc : (nm.toList == key.toList)
      · have HC := Lib.hid hc
        go_wp2_with fail
        go_roundw
        case rel => exact ⟨k + 1, by omega, by go_num, hN.out.succ hlt (by rw [HVN.out]; exact HC.out), hB⟩
        case measure => simp [intOf]; omega
      · have HC := Lib.hid hc
        go_wp2_with fail
        go_ret
        exact ⟨by rw [← HR.out, fidx_at hlt hN.out (by rw [HVN.out]; exact HC.out)]; rfl, hB.out⟩
    · go_wp2_with fail
      go_ret
      have : k = fs.length := by omega
      subst this
      exact ⟨by rw [← HR.out, fidx_none hN.out]; rfl, hB.out⟩
set_option maxRecDepth 100000 in
set_option maxHeartbeats 8000000 in
theorem rnames_any (I : Option Addr → Nat → Nat → List Tm → Prop) (w : World) (f : Option Addr) (fl fc : Nat) (fs : List (ByteArray × List Tm)) (h : InF I w f fl fs) (hl : fs.length ≤ 1000000) (hnm : ∀ x ∈ fs, x.1.size ≤ 140737488355328) :
    Calls Tryz.prog 51 #[.slice f fl fc] w (LackP (Nm.risB (fs.map (·.1))) w) := by
  obtain ⟨l1, z1, h1⟩ := h
  have H1 := Lib.hid h1
  subst l1
  obtain ⟨i0, hi, hx⟩ := Option.map_eq_some_iff.1 info9
  simp only [Prod.mk.injEq] at hx
  obtain ⟨hz0, hz1, hz2⟩ := hx
  have HNM := Lib.hid hnm
  obtain ⟨r, hr⟩ : ∃ r, Nm.risB (fs.map (·.1)) = r := ⟨_, rfl⟩
  rw [hr]
  have HR := Lib.hid hr
  clear h1 hnm hr
  go_enter Tryz.func51, Tryz.ntmps51
  go_wp2_with fail
  go_loopw [3, 4] (fun v i wr => ∃ k : Nat, k ≤ fs.length ∧ i = .int .i64 k ∧ Hid (wr.ownsRow w.heap.size 9 1 v k (((fs.take k).map (·.1)).map Value.string)) ∧ Hid (Below w.heap.size w wr)) (fun _ i _ => fs.length - (intOf i).toNat)
  case atStart => exact ⟨0, Nat.zero_le _, rfl, World.ownsRow_nil _ _ _ _, Below.refl _ _⟩
  case round =>
    obtain ⟨k, hk, rfl, hO, hB⟩ := hrel
    rename World => wr
    by_cases hlt : k < fs.length
    · have hki : (k : Int) < (fs.length : Int) := by omega
      have hk0 : (0 : Int) ≤ (k : Int) := by omega
      obtain ⟨b2, off2, tl2, tc2, t2, rfl, lt2, d0, d1, i2⟩ := H1.out k hlt
      replace d0 := (hB.out.cell (p := ⟨b2, off2 + k * 2, none⟩) lt2).trans d0
      have hT : Hid (((fs.take (k + 1)).map (·.1)).map Value.string = ((fs.take k).map (·.1)).map Value.string ++ [.string fs[k].1]) := by
        rw [List.take_succ_eq_append_getElem hlt, List.map_append, List.map_append]; rfl
      clear i2 lt2 d1
      have hsz : w.heap.size ≤ wr.heap.size := hB.out.size
      generalize fs[k].1 = nm at *
      have HCN : Hid (∀ j u, [Value.string nm][j]? = some u → (wr.alloc (.cells #[.string nm] 9)).cell? ((⟨wr.heap.size, 0, none⟩ : Addr).add j) = some u) := cell_one_new wr (.string nm) 9
      go_wp2_with (at_builtin; refine wpList_append_own _ rfl _ _ 97 rfl w.heap.size 9 i0 (.string ByteArray.empty) 1 16 Tryz.underlying97 hi hz0 hz1 hz2 rfl (by decide) _ _ _ rfl (hO.out.alloc _) ⟨wr.heap.size, 0, none⟩ 1 1 [.string nm] rfl rfl HCN.out (fun x hx => by simp at hx; subst hx; rfl) (by unfold maxLen; omega) (by omega) (by simp; omega) ?_; intro v' w3 hown' hgrow3 hnil3; have OW3 := Lib.hid hown'; have G3 := Lib.hid hgrow3; clear hown' hgrow3 hnil3)
      go_roundw
      case rel => exact ⟨k + 1, by omega, by go_num, (by rw [hT.out]; exact OW3.out), ((hB.out.alloc hB.out.size _).grown G3.out (by have := hB.out.size; simp; omega) (own_base hO.out))⟩
      case measure => simp [intOf]; omega
    · obtain rfl : k = fs.length := by omega
      have hT : Hid (((fs.take fs.length).map (·.1)).map Value.string = (fs.map (·.1)).map Value.string) := by rw [List.take_length]; rfl
      rw [hT.out] at hO
      obtain ⟨a1, cap1, rfl, hS1⟩ := row_own (xs := fs.map (·.1)) hO.out (by omega) (fun x hx => by obtain ⟨y, hy, rfl⟩ := List.mem_map.1 hx; exact HNM.out y hy)
      have S1 := Lib.hid hS1
      clear hS1 hT
      have HRC : Hid (Calls Tryz.prog 81 #[.slice a1 fs.length cap1] wr (LackP r wr)) := by rw [← HR.out]; exact Nm.rrising_any _ _ _ _ _ S1.out
      go_wp2_with (go_at_call 81; refine HRC.out.mono ?_; rintro e w4 ⟨rfl, hB4⟩; have HB4 := Lib.hid hB4; clear hB4)
      go_ret
      exact ⟨rfl, bl_step hB.out HB4.out⟩
end Go.Proofs.YtddleeenlpigfaaGreatDoor
