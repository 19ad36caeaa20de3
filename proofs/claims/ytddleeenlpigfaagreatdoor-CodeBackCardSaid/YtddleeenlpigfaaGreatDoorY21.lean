/- Hd, Ai, Aj -/
import Derived.Deep.RegionHeld3
import Derived.Deep.DeepCutAuto
import Derived.Deep.CutBlock
import Derived.Test.YtddleeenlpigfaaGreatDoorY0
import Derived.Test.YtddleeenlpigfaaGreatDoorY18
import Derived.Test.YtddleeenlpigfaaGreatDoorY19
/- A region that draws its order, by hand: what yields is taken; calls; appends. -/
namespace Go.Proofs.YtddleeenlpigfaaGreatDoor
open Go.RowKit
section
variable {P : Program} {md : Region.Mode} {ops : Array Oper} {Q : Exit → Act → World → Prop} {S : World → Prop}
theorem take_at' {i : Nat} {oi : Oper} (d : Nat) {v : Value} {fuel : Nat} {listed : Array Bool} {a : Act} {w : World} (hi : ops[i]? = some oi) (hd : oi.dst = some d)
    (hs : Region.noSelect ops = true) (hf : Region.free md ops listed i = true) (hr : (Region.ready md ops listed).contains i = true)
    (hQ : ∀ c a w, Q (.panic c) (a.put oi.dst v) w → Q (.panic c) a w) (hy : YieldsIf P ops S oi v a) (hS : S w)
    (h : wpAnyH P md ops Q S fuel (listed.setIfInBounds i true) { a with tmps := a.tmps.setIfInBounds d v } w) : wpAnyH P md ops Q S (fuel + 1) listed a w :=
  wpAnyH_take hi hs hf hr hQ hy hS (by rw [hd]; exact h)
theorem value_at {i : Nat} {o : Oper} (d : Nat) {a : Act} {w w' : World} {v : Value} {K : Act → World → Prop} (ho : ops[i]? = some o) (hd : o.dst = some d) (hw : Region.wanted o (yielded ops a.tmps) = true) (hr : (execOp a.eval o).run P w = .ok (.value v) w') (h : K { a with tmps := a.tmps.setIfInBounds d v } w') : wpOp P ops Q i K a w := by
  unfold wpOp
  simp only [ho, hw, if_true, Oper.wp, hr, Oper.upon]
  exact .inl (by rw [hd]; exact h)
theorem skip_at {i : Nat} {o : Oper} {a : Act} {w w' : World} {K : Act → World → Prop} (ho : ops[i]? = some o) (hd : o.dst = none) (hw : Region.wanted o (yielded ops a.tmps) = true) (hr : (execOp a.eval o).run P w = .ok .skip w') (h : K a w') : wpOp P ops Q i K a w := by
  unfold wpOp
  simp only [ho, hw, if_true, Oper.wp, hr, Oper.upon]
  exact .inl (by rw [hd]; exact h)
theorem call_at {i : Nat} {o : Oper} (d : Nat) {a : Act} {w w' : World} {f : FuncId} {args : Array Value} {K : Act → World → Prop} (ho : ops[i]? = some o) (hd : o.dst = some d) (hw : Region.wanted o (yielded ops a.tmps) = true) (hr : (execOp a.eval o).run P w = .ok (.enter f args) w')
    (h : Calls P f args w' fun e w2 => ∃ u, e = .returned u ∧ K { a with tmps := a.tmps.setIfInBounds d u } w2) : wpOp P ops Q i K a w := by
  unfold wpOp
  simp only [ho, hw, if_true, Oper.wp, hr, Oper.upon]
  exact .inl (h.mono fun e w2 ⟨u, he, hk⟩ => by subst he; rw [hd]; exact hk)
theorem append_run {o : Oper} {a : Act} {s x : Operand} {t : TypeId} {w w' : World} {v u r : Value} (hop : o.op = Op.call { callee := Callee.builtin Builtin.append, args := #[s, x], argTypes := #[t, t] }) (hs : a.eval s = v) (hx : a.eval x = u)
    (hrun : (Builtin.append_ #[t, t] o.type #[v, u]).run P w = .ok r w') : (execOp a.eval o).run P w = .ok (.value r) w' := by
  simp [execOp, hop, resolve, invoke, builtin, hs, hx, hrun, Result.andThen]
end
end Go.Proofs.YtddleeenlpigfaaGreatDoor
/- WALK of belowStruct. -/
namespace Go.Proofs.YtddleeenlpigfaaGreatDoor
open Go.RowKit
/-- A term of a value so deep. -/
abbrev InTn (w : World) (n : Nat) (b off : Nat) (x : Tm) : Prop := InT (fun t tl tc V => InV w n t tl tc V) w b off x
set_option maxRecDepth 100000 in
set_option maxHeartbeats 8000000 in
theorem bstruct_step (n : Nat) (R : List Tm → Prop) (ih : ∀ (W : World) (t : Option Addr) (tl tc : Nat) (A : List Tm) (t2 : Option Addr) (tl2 tc2 : Nat) (B : List Tm), InV W n t tl tc A → InV W n t2 tl2 tc2 B → R A → R B → Calls Tryz.prog 44 #[.agg #[.slice t tl tc], .agg #[.slice t2 tl2 tc2]] W (LackP (undV n A B) W))
    (w : World) (b1 off1 b2 off2 : Nat) (x y : Tm) (hx : InTn w n b1 off1 x) (hy : InTn w n b2 off2 y) (rx : ∀ f ∈ x.fs, R f.2) (ry : ∀ f ∈ y.fs, R f.2) :
    Calls Tryz.prog 112 #[.pointer (some ⟨b1, off1, none⟩), .pointer (some ⟨b2, off2, none⟩)] w (LackP (undS (undV n) x y) w) := by
  have HX := Lib.hid hx
  have HY := Lib.hid hy
  obtain ⟨lt1, f1, fl1, fc1, -, -, -, -, -, -, c6, c7, hF1⟩ := hx.cells
  obtain ⟨lt2, f2, fl2, fc2, -, -, -, -, -, -, d6, d7, hF2⟩ := hy.cells
  have IH := Lib.hid ih
  have RX := Lib.hid rx
  have RY := Lib.hid ry
  have HR := Lib.hid (fun (W : World) (hW : Below w.heap.size w W) => refuses_any _ W b2 off2 b1 off1 y x (hy.below (fun _ _ _ _ h => InV.below hW h) hW) (hx.below (fun _ _ _ _ h => InV.below hW h) hW))
  have HL := Lib.hid (fun (W : World) (hW : Below w.heap.size w W) (N : Nat) (hN : N < W.heap.size) (hp : W.cell? ⟨N, 0, none⟩ = some (.pointer (some ⟨b1, off1, none⟩))) =>
    contains_lacks _ W b1 off1 N x (hx.below (fun _ _ _ _ h => InV.below hW h) hW) hN hp f2 fl2 fc2 y.fs (hF2.below (fun _ _ _ _ h => InV.below hW h) hW))
  have HF2 := Lib.hid hF2
  clear ih rx ry hx hy hF1 hF2
  have HS : Hid (undS (undV n) x y = (!(x.o && !y.o) && (y.o || !lacksF y.fs x.fs) && y.fs.all (undF (undV n) x.fs))) := rfl
  have HQ : ∃ l1, lacksF y.fs x.fs = l1 := ⟨_, rfl⟩
  have HQ2 : ∃ l2, lacksF x.fs y.fs = l2 := ⟨_, rfl⟩
  have HO : ∃ o1, x.o = o1 := ⟨_, rfl⟩
  have HO2 : ∃ o2, y.o = o2 := ⟨_, rfl⟩
  obtain ⟨l1, e1⟩ := HQ
  obtain ⟨l2, e2⟩ := HQ2
  obtain ⟨o1, e3⟩ := HO
  obtain ⟨o2, e4⟩ := HO2
  rw [e1, e3, e4] at HS
  rw [e1, e4] at HR
  rw [e2] at HL
  rw [e3] at c6
  rw [e4] at d6
  have HE := Lib.hid e2
  clear e1 e2 e3 e4
  go_enter Tryz.func112, Tryz.ntmps112
  go_upto_region 1 with fail
  go_cut [33] (fun v wc => v = .bool ((o1 && !o2) || (!o2 && l1) || l2) ∧ Hid (Below w.heap.size w wc))
  case first =>
    clear HX HY IH RX RY HS
    by_cases h1 : o1 = true ∧ o2 = false
    · obtain ⟨rfl, rfl⟩ := h1
      go_quiet (fail)
      go_wp2_with fail
      go_meet
      exact ⟨rfl, below_drewN (Below.refl _ _) _⟩
    · by_cases h2 : (!o2 && l1) = true
      · rw [h2] at HR
        have KR : Hid (∀ W, Below w.heap.size w W → Calls Tryz.prog 139 #[.pointer (some ⟨b2, off2, none⟩), .pointer (some ⟨b1, off1, none⟩)] W fun e w' => e = .returned (.bool true) ∧ Below w.heap.size w w') := fun W hW => (HR.out W hW).mono fun _ _ ⟨a, b⟩ => ⟨a, bl_step hW b⟩
        have V1 : Hid (∀ W, Below w.heap.size w W → W.cell? ⟨b1, off1 + 6, none⟩ = some (.bool o1)) := fun W hW => (hW.cell (p := ⟨b1, off1 + 6, none⟩) lt1).trans c6
        have V2 : Hid (∀ W, Below w.heap.size w W → W.cell? ⟨b2, off2 + 6, none⟩ = some (.bool o2)) := fun W hW => (hW.cell (p := ⟨b2, off2 + 6, none⟩) lt2).trans d6
        have H2 := Lib.hid h2
        clear h2
        cases o1 <;> cases o2
        case true.false => exact absurd ⟨rfl, rfl⟩ h1
        all_goals
          clear h1
          refine region_class (C := fun W => Below w.heap.size w W) (by kernel_rfl) (by kernel_rfl) ((Below.refl _ _).drew) ?_
          repeat (first | go_big_quiet_skip | (go_big_quiet_want; go_big_quiet_op; first | go_big_quiet_on | (apply Exists.intro; refine ⟨fun W hW => ?_, ?_⟩; (first | rfl | exact (KR.out W hW) | (have q0 := V1.out W hW; go_simp; first | done | rfl | exact ⟨rfl, rfl⟩) | (have q0 := V2.out W hW; go_simp; first | done | rfl | exact ⟨rfl, rfl⟩)); go_big_quiet_on)))
          refine wpQuiet_nil ?_
          intro w9 hW9
          go_wp2_with fail
          go_meet
          exact ⟨by rw [H2.out]; rfl, hW9⟩
      · have h2' : (!o2 && l1) = false := by simpa using h2
        rw [h2'] at HR
        have H2 := Lib.hid h2'
        clear h2 h2'
        cases o1 <;> cases o2
        case true.false => exact absurd ⟨rfl, rfl⟩ h1
        case false.false =>
          clear h1
          refine wp_region_held (S := fun w' => ∀ b o, b < w.heap.size → w'.cell? ⟨b, o, none⟩ = w.cell? ⟨b, o, none⟩) (by kernel_rfl) ?_
          have HS0 : Hid (∀ b o, b < w.heap.size → w.drew.cell? ⟨b, o, none⟩ = w.cell? ⟨b, o, none⟩) := fun _ _ _ => rfl
          change wpAnyH _ _ _ _ _ _ _ _ w.drew
          refine take_at' (i := 0) 9 (v := ?v1) rfl rfl (by kernel_rfl) (by kernel_rfl) (by kernel_rfl) (fun _ _ _ h => h) (Or.inl ⟨by rfl, fun w' hS => ?hy1⟩) HS0.out ?_
          case hy1 => (go_simp; try rfl)
          simp only [List.setIfInBounds_toArray, List.set_cons_succ, List.set_cons_zero]
          refine take_at' (i := 1) 10 (v := ?v2) rfl rfl (by kernel_rfl) (by kernel_rfl) (by kernel_rfl) (fun _ _ _ h => h) (Or.inl ⟨by rfl, fun w' hS => ?hy2⟩) HS0.out ?_
          case hy2 => (go_simp; try rfl)
          simp only [List.setIfInBounds_toArray, List.set_cons_succ, List.set_cons_zero]
          refine take_at' (i := 2) 11 (v := ?v3) rfl rfl (by kernel_rfl) (by kernel_rfl) (by kernel_rfl) (fun _ _ _ h => h) (Or.inl ⟨by rfl, fun w' hS => ?hy3⟩) HS0.out ?_
          case hy3 => (go_simp; try rfl)
          simp only [List.setIfInBounds_toArray, List.set_cons_succ, List.set_cons_zero]
          refine take_at' (i := 3) 12 (v := ?v4) rfl rfl (by kernel_rfl) (by kernel_rfl) (by kernel_rfl) (fun _ _ _ h => h) (Or.inl ⟨by rfl, fun w' hS => ?hy4⟩) HS0.out ?_
          case hy4 => (go_simp; try rfl)
          simp only [List.setIfInBounds_toArray, List.set_cons_succ, List.set_cons_zero]
          refine take_at' (i := 4) 13 (v := ?v5) rfl rfl (by kernel_rfl) (by kernel_rfl) (by kernel_rfl) (fun _ _ _ h => h) (Or.inl ⟨by rfl, fun w' hS => ?hy5⟩) HS0.out ?_
          case hy5 => (go_simp; try rfl)
          simp only [List.setIfInBounds_toArray, List.set_cons_succ, List.set_cons_zero]
          refine take_at' (i := 5) 14 (v := undef) rfl rfl (by kernel_rfl) (by kernel_rfl) (by kernel_rfl) (fun _ _ _ h => h) (Or.inr ⟨by rfl, rfl⟩) HS0.out ?_
          simp only [List.setIfInBounds_toArray, List.set_cons_succ, List.set_cons_zero]
          refine take_at' (i := 6) 15 (v := undef) rfl rfl (by kernel_rfl) (by kernel_rfl) (by kernel_rfl) (fun _ _ _ h => h) (Or.inr ⟨by rfl, rfl⟩) HS0.out ?_
          simp only [List.setIfInBounds_toArray, List.set_cons_succ, List.set_cons_zero]
          refine take_at' (i := 7) 16 (v := undef) rfl rfl (by kernel_rfl) (by kernel_rfl) (by kernel_rfl) (fun _ _ _ h => h) (Or.inr ⟨by rfl, rfl⟩) HS0.out ?_
          simp only [List.setIfInBounds_toArray, List.set_cons_succ, List.set_cons_zero]
          refine take_at' (i := 8) 17 (v := undef) rfl rfl (by kernel_rfl) (by kernel_rfl) (by kernel_rfl) (fun _ _ _ h => h) (Or.inr ⟨by rfl, rfl⟩) HS0.out ?_
          simp only [List.setIfInBounds_toArray, List.set_cons_succ, List.set_cons_zero]
          refine take_at' (i := 9) 18 (v := undef) rfl rfl (by kernel_rfl) (by kernel_rfl) (by kernel_rfl) (fun _ _ _ h => h) (Or.inr ⟨by rfl, rfl⟩) HS0.out ?_
          simp only [List.setIfInBounds_toArray, List.set_cons_succ, List.set_cons_zero]
          refine take_at' (i := 10) 19 (v := ?v6) rfl rfl (by kernel_rfl) (by kernel_rfl) (by kernel_rfl) (fun _ _ _ h => h) (Or.inl ⟨by rfl, fun w' hS => ?hy6⟩) HS0.out ?_
          case hy6 => (go_simp; try rfl)
          simp only [List.setIfInBounds_toArray, List.set_cons_succ, List.set_cons_zero]
          refine take_at' (i := 11) 20 (v := ?v7) rfl rfl (by kernel_rfl) (by kernel_rfl) (by kernel_rfl) (fun _ _ _ h => h) (Or.inl ⟨by rfl, fun w' hS => ?hy7⟩) HS0.out ?_
          case hy7 => (go_simp; try rfl)
          simp only [List.setIfInBounds_toArray, List.set_cons_succ, List.set_cons_zero]
          refine take_at' (i := 12) 21 (v := ?v8) rfl rfl (by kernel_rfl) (by kernel_rfl) (by kernel_rfl) (fun _ _ _ h => h) (Or.inl ⟨by rfl, fun w' hS => ?hy8⟩) HS0.out ?_
          case hy8 => (go_simp; try rfl)
          simp only [List.setIfInBounds_toArray, List.set_cons_succ, List.set_cons_zero]
          refine take_at' (i := 13) 22 (v := ?v9) rfl rfl (by kernel_rfl) (by kernel_rfl) (by kernel_rfl) (fun _ _ _ h => h) (Or.inl ⟨by rfl, fun w' hS => ?hy9⟩) HS0.out ?_
          case hy9 => (go_simp; try rfl)
          simp only [List.setIfInBounds_toArray, List.set_cons_succ, List.set_cons_zero]
          refine wpAnyH_all (rs := [14]) (by kernel_rfl) (by simp) ?_
          intro i hi
          obtain rfl : i = 14 := by simpa using hi
          refine call_at 23 (f := 139) (args := #[.pointer (some ⟨b2, off2, none⟩), .pointer (some ⟨b1, off1, none⟩)]) (w' := w.drew) rfl rfl rfl (by go_simp) ?_
          refine (HR.out w.drew ((Below.refl _ _).drew)).mono ?_
          rintro e w0 ⟨rfl, hB0⟩
          have KW := Lib.hid (bl_step ((Below.refl w.heap.size w).drew) hB0)
          have HS1 : Hid (∀ b o, b < w.heap.size → w0.cell? ⟨b, o, none⟩ = w.cell? ⟨b, o, none⟩) := fun b o h => KW.out.cell (p := ⟨b, o, none⟩) h
          clear hB0
          refine ⟨_, rfl, HS1.out, ?_⟩
          simp only [List.setIfInBounds_toArray, List.set_cons_succ, List.set_cons_zero]
          refine take_at' (i := 15) 24 (v := ?v10) rfl rfl (by kernel_rfl) (by kernel_rfl) (by kernel_rfl) (fun _ _ _ h => h) (Or.inl ⟨by rfl, fun w' hS => ?hy10⟩) HS1.out ?_
          case hy10 => (go_simp; try rfl)
          simp only [List.setIfInBounds_toArray, List.set_cons_succ, List.set_cons_zero]
          refine take_at' (i := 16) 25 (v := ?v11) rfl rfl (by kernel_rfl) (by kernel_rfl) (by kernel_rfl) (fun _ _ _ h => h) (Or.inl ⟨by rfl, fun w' hS => ?hy11⟩) HS1.out ?_
          case hy11 => (go_simp; try rfl)
          simp only [List.setIfInBounds_toArray, List.set_cons_succ, List.set_cons_zero]
          refine take_at' (i := 17) 26 (v := ?v12) rfl rfl (by kernel_rfl) (by kernel_rfl) (by kernel_rfl) (fun _ _ _ h => h) (Or.inl ⟨by rfl, fun w' hS => ?hy12⟩) HS1.out ?_
          case hy12 => (go_simp; try rfl)
          simp only [List.setIfInBounds_toArray, List.set_cons_succ, List.set_cons_zero]
          refine take_at' (i := 18) 27 (v := ?v13) rfl rfl (by kernel_rfl) (by kernel_rfl) (by kernel_rfl) (fun _ _ _ h => h) (Or.inl ⟨by rfl, fun w' hS => ?hy13⟩) HS1.out ?_
          case hy13 => (go_simp; try rfl)
          simp only [List.setIfInBounds_toArray, List.set_cons_succ, List.set_cons_zero]
          refine take_at' (i := 19) 28 (v := ?v14) rfl rfl (by kernel_rfl) (by kernel_rfl) (by kernel_rfl) (fun _ _ _ h => h) (Or.inl ⟨by rfl, fun w' hS => ?hy14⟩) HS1.out ?_
          case hy14 => (go_simp; try rfl)
          simp only [List.setIfInBounds_toArray, List.set_cons_succ, List.set_cons_zero]
          refine take_at' (i := 20) 29 (v := ?v15) rfl rfl (by kernel_rfl) (by kernel_rfl) (by kernel_rfl) (fun _ _ _ h => h) (Or.inl ⟨by rfl, fun w' hS => ?hy15⟩) HS1.out ?_
          case hy15 => (go_simp; try rfl)
          simp only [List.setIfInBounds_toArray, List.set_cons_succ, List.set_cons_zero]
          refine take_at' (i := 21) 30 (v := ?v16) rfl rfl (by kernel_rfl) (by kernel_rfl) (by kernel_rfl) (fun _ _ _ h => h) (Or.inl ⟨by rfl, fun w' hS => ?hy16⟩) HS1.out ?_
          case hy16 => (go_simp; try rfl)
          simp only [List.setIfInBounds_toArray, List.set_cons_succ, List.set_cons_zero]
          refine wpAnyH_all (rs := [22]) (by kernel_rfl) (by simp) ?_
          intro i hi
          obtain rfl : i = 22 := by simpa using hi
          refine call_at 31 (f := 140) (args := #[.pointer (some ⟨b1, off1, none⟩)]) (w' := w0) rfl rfl rfl (by go_simp) ?_
          refine (lacking_any _ _ _).mono ?_
          rintro e w1 ⟨rfl, hB, hn, hc⟩
          have KW1 := Lib.hid (bl_step KW.out hB)
          have HN := Lib.hid hn
          have HC := Lib.hid hc
          have HS2 : Hid (∀ b o, b < w.heap.size → w1.cell? ⟨b, o, none⟩ = w.cell? ⟨b, o, none⟩) := fun b o h => KW1.out.cell (p := ⟨b, o, none⟩) h
          clear hB hn hc
          refine ⟨_, rfl, HS2.out, ?_⟩
          simp only [List.setIfInBounds_toArray, List.set_cons_succ, List.set_cons_zero]
          refine wpAnyH_all (rs := [23]) (by kernel_rfl) (by simp) ?_
          intro i hi
          obtain rfl : i = 23 := by simpa using hi
          refine call_at 32 (f := 49) (args := #[.slice f2 fl2 fc2, .func (.func 166) #[] #[.pointer (some ⟨w0.heap.size, 0, none⟩)]]) (w' := w1) rfl rfl rfl (by go_simp) ?_
          refine (HL.out w1 KW1.out _ HN.out HC.out).mono ?_
          rintro e w2 ⟨rfl, hB2⟩
          have KW2 := Lib.hid (bl_step KW1.out hB2)
          have HS3 : Hid (∀ b o, b < w.heap.size → w2.cell? ⟨b, o, none⟩ = w.cell? ⟨b, o, none⟩) := fun b o h => KW2.out.cell (p := ⟨b, o, none⟩) h
          clear hB2
          refine ⟨_, rfl, HS3.out, ?_⟩
          simp only [List.setIfInBounds_toArray, List.set_cons_succ, List.set_cons_zero]
          refine take_at' (i := 24) 33 (v := ?v17) rfl rfl (by kernel_rfl) (by kernel_rfl) (by kernel_rfl) (fun _ _ _ h => h) (Or.inl ⟨by rfl, fun w' hS => ?hy17⟩) HS3.out ?_
          case hy17 => (go_simp; try rfl)
          simp only [List.setIfInBounds_toArray, List.set_cons_succ, List.set_cons_zero]
          refine wpAnyH_done (by kernel_rfl) ?_ _
          go_wp2_with fail
          go_meet
          exact ⟨by rw [H2.out]; rfl, KW2.out⟩
        case false.true =>
          clear h1
          refine wp_region_held (S := fun w' => ∀ b o, b < w.heap.size → w'.cell? ⟨b, o, none⟩ = w.cell? ⟨b, o, none⟩) (by kernel_rfl) ?_
          have HS0 : Hid (∀ b o, b < w.heap.size → w.drew.cell? ⟨b, o, none⟩ = w.cell? ⟨b, o, none⟩) := fun _ _ _ => rfl
          change wpAnyH _ _ _ _ _ _ _ _ w.drew
          refine take_at' (i := 0) 9 (v := ?v18) rfl rfl (by kernel_rfl) (by kernel_rfl) (by kernel_rfl) (fun _ _ _ h => h) (Or.inl ⟨by rfl, fun w' hS => ?hy18⟩) HS0.out ?_
          case hy18 => (go_simp; try rfl)
          simp only [List.setIfInBounds_toArray, List.set_cons_succ, List.set_cons_zero]
          refine take_at' (i := 1) 10 (v := ?v19) rfl rfl (by kernel_rfl) (by kernel_rfl) (by kernel_rfl) (fun _ _ _ h => h) (Or.inl ⟨by rfl, fun w' hS => ?hy19⟩) HS0.out ?_
          case hy19 => (go_simp; try rfl)
          simp only [List.setIfInBounds_toArray, List.set_cons_succ, List.set_cons_zero]
          refine take_at' (i := 2) 11 (v := ?v20) rfl rfl (by kernel_rfl) (by kernel_rfl) (by kernel_rfl) (fun _ _ _ h => h) (Or.inl ⟨by rfl, fun w' hS => ?hy20⟩) HS0.out ?_
          case hy20 => (go_simp; try rfl)
          simp only [List.setIfInBounds_toArray, List.set_cons_succ, List.set_cons_zero]
          refine take_at' (i := 3) 12 (v := ?v21) rfl rfl (by kernel_rfl) (by kernel_rfl) (by kernel_rfl) (fun _ _ _ h => h) (Or.inl ⟨by rfl, fun w' hS => ?hy21⟩) HS0.out ?_
          case hy21 => (go_simp; try rfl)
          simp only [List.setIfInBounds_toArray, List.set_cons_succ, List.set_cons_zero]
          refine take_at' (i := 4) 13 (v := ?v22) rfl rfl (by kernel_rfl) (by kernel_rfl) (by kernel_rfl) (fun _ _ _ h => h) (Or.inl ⟨by rfl, fun w' hS => ?hy22⟩) HS0.out ?_
          case hy22 => (go_simp; try rfl)
          simp only [List.setIfInBounds_toArray, List.set_cons_succ, List.set_cons_zero]
          refine take_at' (i := 5) 14 (v := undef) rfl rfl (by kernel_rfl) (by kernel_rfl) (by kernel_rfl) (fun _ _ _ h => h) (Or.inr ⟨by rfl, rfl⟩) HS0.out ?_
          simp only [List.setIfInBounds_toArray, List.set_cons_succ, List.set_cons_zero]
          refine take_at' (i := 6) 15 (v := undef) rfl rfl (by kernel_rfl) (by kernel_rfl) (by kernel_rfl) (fun _ _ _ h => h) (Or.inr ⟨by rfl, rfl⟩) HS0.out ?_
          simp only [List.setIfInBounds_toArray, List.set_cons_succ, List.set_cons_zero]
          refine take_at' (i := 7) 16 (v := undef) rfl rfl (by kernel_rfl) (by kernel_rfl) (by kernel_rfl) (fun _ _ _ h => h) (Or.inr ⟨by rfl, rfl⟩) HS0.out ?_
          simp only [List.setIfInBounds_toArray, List.set_cons_succ, List.set_cons_zero]
          refine take_at' (i := 8) 17 (v := undef) rfl rfl (by kernel_rfl) (by kernel_rfl) (by kernel_rfl) (fun _ _ _ h => h) (Or.inr ⟨by rfl, rfl⟩) HS0.out ?_
          simp only [List.setIfInBounds_toArray, List.set_cons_succ, List.set_cons_zero]
          refine take_at' (i := 9) 18 (v := undef) rfl rfl (by kernel_rfl) (by kernel_rfl) (by kernel_rfl) (fun _ _ _ h => h) (Or.inr ⟨by rfl, rfl⟩) HS0.out ?_
          simp only [List.setIfInBounds_toArray, List.set_cons_succ, List.set_cons_zero]
          refine take_at' (i := 10) 19 (v := ?v23) rfl rfl (by kernel_rfl) (by kernel_rfl) (by kernel_rfl) (fun _ _ _ h => h) (Or.inl ⟨by rfl, fun w' hS => ?hy23⟩) HS0.out ?_
          case hy23 => (go_simp; try rfl)
          simp only [List.setIfInBounds_toArray, List.set_cons_succ, List.set_cons_zero]
          refine take_at' (i := 11) 20 (v := ?v24) rfl rfl (by kernel_rfl) (by kernel_rfl) (by kernel_rfl) (fun _ _ _ h => h) (Or.inl ⟨by rfl, fun w' hS => ?hy24⟩) HS0.out ?_
          case hy24 => (go_simp; try rfl)
          simp only [List.setIfInBounds_toArray, List.set_cons_succ, List.set_cons_zero]
          refine take_at' (i := 12) 21 (v := ?v25) rfl rfl (by kernel_rfl) (by kernel_rfl) (by kernel_rfl) (fun _ _ _ h => h) (Or.inl ⟨by rfl, fun w' hS => ?hy25⟩) HS0.out ?_
          case hy25 => (go_simp; try rfl)
          simp only [List.setIfInBounds_toArray, List.set_cons_succ, List.set_cons_zero]
          refine take_at' (i := 13) 22 (v := ?v26) rfl rfl (by kernel_rfl) (by kernel_rfl) (by kernel_rfl) (fun _ _ _ h => h) (Or.inl ⟨by rfl, fun w' hS => ?hy26⟩) HS0.out ?_
          case hy26 => (go_simp; try rfl)
          simp only [List.setIfInBounds_toArray, List.set_cons_succ, List.set_cons_zero]
          refine wpAnyH_all (rs := [14]) (by kernel_rfl) (by simp) ?_
          intro i hi
          obtain rfl : i = 14 := by simpa using hi
          refine call_at 23 (f := 139) (args := #[.pointer (some ⟨b2, off2, none⟩), .pointer (some ⟨b1, off1, none⟩)]) (w' := w.drew) rfl rfl rfl (by go_simp) ?_
          refine (HR.out w.drew ((Below.refl _ _).drew)).mono ?_
          rintro e w0 ⟨rfl, hB0⟩
          have KW := Lib.hid (bl_step ((Below.refl w.heap.size w).drew) hB0)
          have HS1 : Hid (∀ b o, b < w.heap.size → w0.cell? ⟨b, o, none⟩ = w.cell? ⟨b, o, none⟩) := fun b o h => KW.out.cell (p := ⟨b, o, none⟩) h
          clear hB0
          refine ⟨_, rfl, HS1.out, ?_⟩
          simp only [List.setIfInBounds_toArray, List.set_cons_succ, List.set_cons_zero]
          refine take_at' (i := 15) 24 (v := ?v27) rfl rfl (by kernel_rfl) (by kernel_rfl) (by kernel_rfl) (fun _ _ _ h => h) (Or.inl ⟨by rfl, fun w' hS => ?hy27⟩) HS1.out ?_
          case hy27 => (go_simp; try rfl)
          simp only [List.setIfInBounds_toArray, List.set_cons_succ, List.set_cons_zero]
          refine take_at' (i := 16) 25 (v := ?v28) rfl rfl (by kernel_rfl) (by kernel_rfl) (by kernel_rfl) (fun _ _ _ h => h) (Or.inl ⟨by rfl, fun w' hS => ?hy28⟩) HS1.out ?_
          case hy28 => (go_simp; try rfl)
          simp only [List.setIfInBounds_toArray, List.set_cons_succ, List.set_cons_zero]
          refine take_at' (i := 17) 26 (v := ?v29) rfl rfl (by kernel_rfl) (by kernel_rfl) (by kernel_rfl) (fun _ _ _ h => h) (Or.inl ⟨by rfl, fun w' hS => ?hy29⟩) HS1.out ?_
          case hy29 => (go_simp; try rfl)
          simp only [List.setIfInBounds_toArray, List.set_cons_succ, List.set_cons_zero]
          refine take_at' (i := 18) 27 (v := ?v30) rfl rfl (by kernel_rfl) (by kernel_rfl) (by kernel_rfl) (fun _ _ _ h => h) (Or.inl ⟨by rfl, fun w' hS => ?hy30⟩) HS1.out ?_
          case hy30 => (go_simp; try rfl)
          simp only [List.setIfInBounds_toArray, List.set_cons_succ, List.set_cons_zero]
          refine take_at' (i := 19) 28 (v := ?v31) rfl rfl (by kernel_rfl) (by kernel_rfl) (by kernel_rfl) (fun _ _ _ h => h) (Or.inl ⟨by rfl, fun w' hS => ?hy31⟩) HS1.out ?_
          case hy31 => (go_simp; try rfl)
          simp only [List.setIfInBounds_toArray, List.set_cons_succ, List.set_cons_zero]
          refine take_at' (i := 20) 29 (v := ?v32) rfl rfl (by kernel_rfl) (by kernel_rfl) (by kernel_rfl) (fun _ _ _ h => h) (Or.inl ⟨by rfl, fun w' hS => ?hy32⟩) HS1.out ?_
          case hy32 => (go_simp; try rfl)
          simp only [List.setIfInBounds_toArray, List.set_cons_succ, List.set_cons_zero]
          refine take_at' (i := 21) 30 (v := ?v33) rfl rfl (by kernel_rfl) (by kernel_rfl) (by kernel_rfl) (fun _ _ _ h => h) (Or.inl ⟨by rfl, fun w' hS => ?hy33⟩) HS1.out ?_
          case hy33 => (go_simp; try rfl)
          simp only [List.setIfInBounds_toArray, List.set_cons_succ, List.set_cons_zero]
          refine wpAnyH_all (rs := [22]) (by kernel_rfl) (by simp) ?_
          intro i hi
          obtain rfl : i = 22 := by simpa using hi
          refine call_at 31 (f := 140) (args := #[.pointer (some ⟨b1, off1, none⟩)]) (w' := w0) rfl rfl rfl (by go_simp) ?_
          refine (lacking_any _ _ _).mono ?_
          rintro e w1 ⟨rfl, hB, hn, hc⟩
          have KW1 := Lib.hid (bl_step KW.out hB)
          have HN := Lib.hid hn
          have HC := Lib.hid hc
          have HS2 : Hid (∀ b o, b < w.heap.size → w1.cell? ⟨b, o, none⟩ = w.cell? ⟨b, o, none⟩) := fun b o h => KW1.out.cell (p := ⟨b, o, none⟩) h
          clear hB hn hc
          refine ⟨_, rfl, HS2.out, ?_⟩
          simp only [List.setIfInBounds_toArray, List.set_cons_succ, List.set_cons_zero]
          refine wpAnyH_all (rs := [23]) (by kernel_rfl) (by simp) ?_
          intro i hi
          obtain rfl : i = 23 := by simpa using hi
          refine call_at 32 (f := 49) (args := #[.slice f2 fl2 fc2, .func (.func 166) #[] #[.pointer (some ⟨w0.heap.size, 0, none⟩)]]) (w' := w1) rfl rfl rfl (by go_simp) ?_
          refine (HL.out w1 KW1.out _ HN.out HC.out).mono ?_
          rintro e w2 ⟨rfl, hB2⟩
          have KW2 := Lib.hid (bl_step KW1.out hB2)
          have HS3 : Hid (∀ b o, b < w.heap.size → w2.cell? ⟨b, o, none⟩ = w.cell? ⟨b, o, none⟩) := fun b o h => KW2.out.cell (p := ⟨b, o, none⟩) h
          clear hB2
          refine ⟨_, rfl, HS3.out, ?_⟩
          simp only [List.setIfInBounds_toArray, List.set_cons_succ, List.set_cons_zero]
          refine take_at' (i := 24) 33 (v := ?v34) rfl rfl (by kernel_rfl) (by kernel_rfl) (by kernel_rfl) (fun _ _ _ h => h) (Or.inl ⟨by rfl, fun w' hS => ?hy34⟩) HS3.out ?_
          case hy34 => (go_simp; try rfl)
          simp only [List.setIfInBounds_toArray, List.set_cons_succ, List.set_cons_zero]
          refine wpAnyH_done (by kernel_rfl) ?_ _
          go_wp2_with fail
          go_meet
          exact ⟨by rw [H2.out]; rfl, KW2.out⟩
        case true.true =>
          clear h1
          refine wp_region_held (S := fun w' => ∀ b o, b < w.heap.size → w'.cell? ⟨b, o, none⟩ = w.cell? ⟨b, o, none⟩) (by kernel_rfl) ?_
          have HS0 : Hid (∀ b o, b < w.heap.size → w.drew.cell? ⟨b, o, none⟩ = w.cell? ⟨b, o, none⟩) := fun _ _ _ => rfl
          change wpAnyH _ _ _ _ _ _ _ _ w.drew
          refine take_at' (i := 0) 9 (v := ?v35) rfl rfl (by kernel_rfl) (by kernel_rfl) (by kernel_rfl) (fun _ _ _ h => h) (Or.inl ⟨by rfl, fun w' hS => ?hy35⟩) HS0.out ?_
          case hy35 => (go_simp; try rfl)
          simp only [List.setIfInBounds_toArray, List.set_cons_succ, List.set_cons_zero]
          refine take_at' (i := 1) 10 (v := ?v36) rfl rfl (by kernel_rfl) (by kernel_rfl) (by kernel_rfl) (fun _ _ _ h => h) (Or.inl ⟨by rfl, fun w' hS => ?hy36⟩) HS0.out ?_
          case hy36 => (go_simp; try rfl)
          simp only [List.setIfInBounds_toArray, List.set_cons_succ, List.set_cons_zero]
          refine take_at' (i := 2) 11 (v := ?v37) rfl rfl (by kernel_rfl) (by kernel_rfl) (by kernel_rfl) (fun _ _ _ h => h) (Or.inl ⟨by rfl, fun w' hS => ?hy37⟩) HS0.out ?_
          case hy37 => (go_simp; try rfl)
          simp only [List.setIfInBounds_toArray, List.set_cons_succ, List.set_cons_zero]
          refine take_at' (i := 3) 12 (v := ?v38) rfl rfl (by kernel_rfl) (by kernel_rfl) (by kernel_rfl) (fun _ _ _ h => h) (Or.inl ⟨by rfl, fun w' hS => ?hy38⟩) HS0.out ?_
          case hy38 => (go_simp; try rfl)
          simp only [List.setIfInBounds_toArray, List.set_cons_succ, List.set_cons_zero]
          refine take_at' (i := 4) 13 (v := ?v39) rfl rfl (by kernel_rfl) (by kernel_rfl) (by kernel_rfl) (fun _ _ _ h => h) (Or.inl ⟨by rfl, fun w' hS => ?hy39⟩) HS0.out ?_
          case hy39 => (go_simp; try rfl)
          simp only [List.setIfInBounds_toArray, List.set_cons_succ, List.set_cons_zero]
          refine take_at' (i := 5) 14 (v := ?v40) rfl rfl (by kernel_rfl) (by kernel_rfl) (by kernel_rfl) (fun _ _ _ h => h) (Or.inl ⟨by rfl, fun w' hS => ?hy40⟩) HS0.out ?_
          case hy40 => (go_simp; try rfl)
          simp only [List.setIfInBounds_toArray, List.set_cons_succ, List.set_cons_zero]
          refine take_at' (i := 6) 15 (v := ?v41) rfl rfl (by kernel_rfl) (by kernel_rfl) (by kernel_rfl) (fun _ _ _ h => h) (Or.inl ⟨by rfl, fun w' hS => ?hy41⟩) HS0.out ?_
          case hy41 => (go_simp; try rfl)
          simp only [List.setIfInBounds_toArray, List.set_cons_succ, List.set_cons_zero]
          refine take_at' (i := 7) 16 (v := ?v42) rfl rfl (by kernel_rfl) (by kernel_rfl) (by kernel_rfl) (fun _ _ _ h => h) (Or.inl ⟨by rfl, fun w' hS => ?hy42⟩) HS0.out ?_
          case hy42 => (go_simp; try rfl)
          simp only [List.setIfInBounds_toArray, List.set_cons_succ, List.set_cons_zero]
          refine take_at' (i := 8) 17 (v := ?v43) rfl rfl (by kernel_rfl) (by kernel_rfl) (by kernel_rfl) (fun _ _ _ h => h) (Or.inl ⟨by rfl, fun w' hS => ?hy43⟩) HS0.out ?_
          case hy43 => (go_simp; try rfl)
          simp only [List.setIfInBounds_toArray, List.set_cons_succ, List.set_cons_zero]
          refine take_at' (i := 9) 18 (v := ?v44) rfl rfl (by kernel_rfl) (by kernel_rfl) (by kernel_rfl) (fun _ _ _ h => h) (Or.inl ⟨by rfl, fun w' hS => ?hy44⟩) HS0.out ?_
          case hy44 => (go_simp; try rfl)
          simp only [List.setIfInBounds_toArray, List.set_cons_succ, List.set_cons_zero]
          refine take_at' (i := 10) 19 (v := ?v45) rfl rfl (by kernel_rfl) (by kernel_rfl) (by kernel_rfl) (fun _ _ _ h => h) (Or.inl ⟨by rfl, fun w' hS => ?hy45⟩) HS0.out ?_
          case hy45 => (go_simp; try rfl)
          simp only [List.setIfInBounds_toArray, List.set_cons_succ, List.set_cons_zero]
          refine take_at' (i := 11) 20 (v := ?v46) rfl rfl (by kernel_rfl) (by kernel_rfl) (by kernel_rfl) (fun _ _ _ h => h) (Or.inl ⟨by rfl, fun w' hS => ?hy46⟩) HS0.out ?_
          case hy46 => (go_simp; try rfl)
          simp only [List.setIfInBounds_toArray, List.set_cons_succ, List.set_cons_zero]
          refine take_at' (i := 12) 21 (v := ?v47) rfl rfl (by kernel_rfl) (by kernel_rfl) (by kernel_rfl) (fun _ _ _ h => h) (Or.inl ⟨by rfl, fun w' hS => ?hy47⟩) HS0.out ?_
          case hy47 => (go_simp; try rfl)
          simp only [List.setIfInBounds_toArray, List.set_cons_succ, List.set_cons_zero]
          refine take_at' (i := 13) 22 (v := ?v48) rfl rfl (by kernel_rfl) (by kernel_rfl) (by kernel_rfl) (fun _ _ _ h => h) (Or.inl ⟨by rfl, fun w' hS => ?hy48⟩) HS0.out ?_
          case hy48 => (go_simp; try rfl)
          simp only [List.setIfInBounds_toArray, List.set_cons_succ, List.set_cons_zero]
          refine wpAnyH_all (rs := [14]) (by kernel_rfl) (by simp) ?_
          intro i hi
          obtain rfl : i = 14 := by simpa using hi
          refine call_at 23 (f := 139) (args := #[.pointer (some ⟨b2, off2, none⟩), .pointer (some ⟨b1, off1, none⟩)]) (w' := w.drew) rfl rfl rfl (by go_simp) ?_
          refine (HR.out w.drew ((Below.refl _ _).drew)).mono ?_
          rintro e w0 ⟨rfl, hB0⟩
          have KW := Lib.hid (bl_step ((Below.refl w.heap.size w).drew) hB0)
          have HS1 : Hid (∀ b o, b < w.heap.size → w0.cell? ⟨b, o, none⟩ = w.cell? ⟨b, o, none⟩) := fun b o h => KW.out.cell (p := ⟨b, o, none⟩) h
          clear hB0
          refine ⟨_, rfl, HS1.out, ?_⟩
          simp only [List.setIfInBounds_toArray, List.set_cons_succ, List.set_cons_zero]
          refine take_at' (i := 15) 24 (v := ?v49) rfl rfl (by kernel_rfl) (by kernel_rfl) (by kernel_rfl) (fun _ _ _ h => h) (Or.inl ⟨by rfl, fun w' hS => ?hy49⟩) HS1.out ?_
          case hy49 => (go_simp; try rfl)
          simp only [List.setIfInBounds_toArray, List.set_cons_succ, List.set_cons_zero]
          refine take_at' (i := 16) 25 (v := ?v50) rfl rfl (by kernel_rfl) (by kernel_rfl) (by kernel_rfl) (fun _ _ _ h => h) (Or.inl ⟨by rfl, fun w' hS => ?hy50⟩) HS1.out ?_
          case hy50 => (go_simp; try rfl)
          simp only [List.setIfInBounds_toArray, List.set_cons_succ, List.set_cons_zero]
          refine take_at' (i := 17) 26 (v := ?v51) rfl rfl (by kernel_rfl) (by kernel_rfl) (by kernel_rfl) (fun _ _ _ h => h) (Or.inl ⟨by rfl, fun w' hS => ?hy51⟩) HS1.out ?_
          case hy51 => (go_simp; try rfl)
          simp only [List.setIfInBounds_toArray, List.set_cons_succ, List.set_cons_zero]
          refine take_at' (i := 18) 27 (v := ?v52) rfl rfl (by kernel_rfl) (by kernel_rfl) (by kernel_rfl) (fun _ _ _ h => h) (Or.inl ⟨by rfl, fun w' hS => ?hy52⟩) HS1.out ?_
          case hy52 => (go_simp; try rfl)
          simp only [List.setIfInBounds_toArray, List.set_cons_succ, List.set_cons_zero]
          refine take_at' (i := 19) 28 (v := ?v53) rfl rfl (by kernel_rfl) (by kernel_rfl) (by kernel_rfl) (fun _ _ _ h => h) (Or.inl ⟨by rfl, fun w' hS => ?hy53⟩) HS1.out ?_
          case hy53 => (go_simp; try rfl)
          simp only [List.setIfInBounds_toArray, List.set_cons_succ, List.set_cons_zero]
          refine take_at' (i := 20) 29 (v := ?v54) rfl rfl (by kernel_rfl) (by kernel_rfl) (by kernel_rfl) (fun _ _ _ h => h) (Or.inl ⟨by rfl, fun w' hS => ?hy54⟩) HS1.out ?_
          case hy54 => (go_simp; try rfl)
          simp only [List.setIfInBounds_toArray, List.set_cons_succ, List.set_cons_zero]
          refine take_at' (i := 21) 30 (v := ?v55) rfl rfl (by kernel_rfl) (by kernel_rfl) (by kernel_rfl) (fun _ _ _ h => h) (Or.inl ⟨by rfl, fun w' hS => ?hy55⟩) HS1.out ?_
          case hy55 => (go_simp; try rfl)
          simp only [List.setIfInBounds_toArray, List.set_cons_succ, List.set_cons_zero]
          refine wpAnyH_all (rs := [22]) (by kernel_rfl) (by simp) ?_
          intro i hi
          obtain rfl : i = 22 := by simpa using hi
          refine call_at 31 (f := 140) (args := #[.pointer (some ⟨b1, off1, none⟩)]) (w' := w0) rfl rfl rfl (by go_simp) ?_
          refine (lacking_any _ _ _).mono ?_
          rintro e w1 ⟨rfl, hB, hn, hc⟩
          have KW1 := Lib.hid (bl_step KW.out hB)
          have HN := Lib.hid hn
          have HC := Lib.hid hc
          have HS2 : Hid (∀ b o, b < w.heap.size → w1.cell? ⟨b, o, none⟩ = w.cell? ⟨b, o, none⟩) := fun b o h => KW1.out.cell (p := ⟨b, o, none⟩) h
          clear hB hn hc
          refine ⟨_, rfl, HS2.out, ?_⟩
          simp only [List.setIfInBounds_toArray, List.set_cons_succ, List.set_cons_zero]
          refine wpAnyH_all (rs := [23]) (by kernel_rfl) (by simp) ?_
          intro i hi
          obtain rfl : i = 23 := by simpa using hi
          refine call_at 32 (f := 49) (args := #[.slice f2 fl2 fc2, .func (.func 166) #[] #[.pointer (some ⟨w0.heap.size, 0, none⟩)]]) (w' := w1) rfl rfl rfl (by go_simp) ?_
          refine (HL.out w1 KW1.out _ HN.out HC.out).mono ?_
          rintro e w2 ⟨rfl, hB2⟩
          have KW2 := Lib.hid (bl_step KW1.out hB2)
          have HS3 : Hid (∀ b o, b < w.heap.size → w2.cell? ⟨b, o, none⟩ = w.cell? ⟨b, o, none⟩) := fun b o h => KW2.out.cell (p := ⟨b, o, none⟩) h
          clear hB2
          refine ⟨_, rfl, HS3.out, ?_⟩
          simp only [List.setIfInBounds_toArray, List.set_cons_succ, List.set_cons_zero]
          refine take_at' (i := 24) 33 (v := ?v56) rfl rfl (by kernel_rfl) (by kernel_rfl) (by kernel_rfl) (fun _ _ _ h => h) (Or.inl ⟨by rfl, fun w' hS => ?hy56⟩) HS3.out ?_
          case hy56 => (go_simp; try rfl)
          simp only [List.setIfInBounds_toArray, List.set_cons_succ, List.set_cons_zero]
          refine wpAnyH_done (by kernel_rfl) ?_ _
          go_wp2_with fail
          go_meet
          exact ⟨by rw [H2.out]; rfl, KW2.out⟩
  case rest =>
    obtain ⟨rfl, hB⟩ := hcut
    by_cases hd : ((o1 && !o2) || (!o2 && l1) || l2) = true
    · have HD := Lib.hid hd
      rw [hd]
      clear hd
      go_wp2_with fail
      go_ret
      refine ⟨Nm.ret_bool ?_, hB.out⟩
      rw [HS.out]
      cases l2
      · cases o1 <;> cases o2 <;> cases l1 <;> first | rfl | exact absurd HD.out (by decide)
      · have he := HE.out
        unfold lacksF at he
        rw [List.any_eq_true] at he
        obtain ⟨f, hf, hn⟩ := he
        rw [show y.fs.all (undF (undV n) x.fs) = false from List.all_eq_false.2 ⟨f, hf, by unfold undF; rw [Option.isNone_iff_eq_none.1 hn]; simp⟩]
        simp
    · have hd' : ((o1 && !o2) || (!o2 && l1) || l2) = false := by simpa using hd
      have hl2 : l2 = false := by cases l2; rfl; simp at hd'
      subst hl2
      have hgood : (!(o1 && !o2) && (o2 || !l1)) = true := by revert hd'; cases o1 <;> cases o2 <;> cases l1 <;> decide
      rw [hgood, Bool.true_and] at HS
      rw [hd']
      clear hd hd' hgood HR HL
      have hFF := HF2.out
      obtain ⟨ln, zn, hn⟩ := hFF
      have H2 := Lib.hid hn
      subst ln
      have D7 := Lib.hid (And.intro lt2 d7)
      replace d7 := (hB.out.cell (p := ⟨b2, off2 + 7, none⟩) lt2).trans d7
      clear hn c6 c7 d6
      go_wp2_with fail
      go_loopw [39] (fun i wr => ∃ k : Nat, k ≤ y.fs.length ∧ i = .int .i64 k ∧ Hid (∀ j (h : j < y.fs.length), j < k → undF (undV n) x.fs y.fs[j] = true) ∧ Hid (Below w.heap.size w wr)) (fun i _ => y.fs.length - (intOf i).toNat)
      case atStart => exact ⟨0, Nat.zero_le _, rfl, fun j _ hj => absurd hj (Nat.not_lt_zero _), hB⟩
      case round =>
        obtain ⟨k, hk, rfl, hN, hBr⟩ := hrel
        rename World => wr
        clear d7
        by_cases hlt : k < y.fs.length
        · have hki : (k : Int) < (y.fs.length : Int) := by omega
          have hk0 : (0 : Int) ≤ (k : Int) := by omega
          obtain ⟨b3, off3, tl3, tc3, t3, rfl, lt3, d0, d1, i3⟩ := H2.out k hlt
          replace d0 := (hBr.out.cell (p := ⟨b3, off3 + k * 2, none⟩) lt3).trans d0
          replace d1 := (hBr.out.cell (p := ⟨b3, off3 + k * 2 + 1, none⟩) lt3).trans d1
          have HI3 := Lib.hid i3
          have hmem : y.fs[k] ∈ y.fs := List.getElem_mem hlt
          obtain ⟨V, hV⟩ := lacksF_no HE.out _ hmem
          have HM := Lib.hid hmem
          have HV := Lib.hid hV
          have HG : ∃ g, y.fs[k] = g := ⟨_, rfl⟩
          obtain ⟨⟨nm, B⟩, hg⟩ := HG
          rw [hg] at d0 HI3 HM HV
          have HGG := Lib.hid hg
          have HFI := Lib.hid (fun (W : World) (hW : Below w.heap.size w W) => find_any _ W b1 off1 x (HX.out.below (fun _ _ _ _ h => h) hW) nm)
          rw [show findF x.fs nm = some V from HV.out] at HFI
          have HRV : Hid (R V) := by obtain ⟨f, hf, -, rfl⟩ := findF_mem HV.out; exact RX.out f hf
          have HRB : Hid (R B) := RY.out _ HM.out
          have HU : Hid (undF (undV n) x.fs (nm, B) = undV n V B) := by show undF _ _ _ = _; unfold undF; rw [show findF x.fs (nm, B).1 = some V from HV.out]
          clear hmem hV i3 lt3 hg
          have HQ : ∃ q, undV n V B = q := ⟨_, rfl⟩
          obtain ⟨q, hq⟩ := HQ
          rw [hq] at HU
          have HQQ := Lib.hid hq
          clear hq
          cases q
          all_goals
            go_wp2_with (first
              | (go_at_call 141; refine (HFI.out _ (bl_alloc hBr.out)).mono ?_; rintro e w1 ⟨t1, tl1, tc1, bl, rfl, hB1, hr1, hr2⟩; subst hr1; have HB1 := Lib.hid (bl_step (bl_alloc (Below.refl wr.heap.size wr)) hB1); have HI1 := Lib.hid hr2; have hz1 := hB1.size; simp at hz1; replace hz1 : wr.heap.size < w1.heap.size := hz1
                 have e0 := (hB1.cell (p := ⟨wr.heap.size, 1, none⟩) (by simp)); simp [go_sem] at e0; clear hB1 hr2)
              | (go_at_call 44; have HBW := Lib.hid (bl_step hBr.out (bl_alloc (o := .cells #[.slice t1 tl1 tc1] 24) HB1.out)); refine (IH.out _ t1 tl1 tc1 V t3 tl3 tc3 B (InV.below HBW.out HI1.out) (InV.below HBW.out HI3.out) HRV.out HRB.out).mono ?_; rw [HQQ.out]; rintro e w2 ⟨rfl, hB2⟩; have HB2 := Lib.hid (bl_step HBW.out hB2); clear hB2))
          · go_ret
            refine ⟨Nm.ret_bool ?_, HB2.out⟩
            rw [HS.out, List.all_eq_false.2 ⟨_, HM.out, by rw [HU.out]; decide⟩]
          · go_roundw
            case rel => exact ⟨k + 1, by omega, by go_num, fun j h hj => (by
              by_cases e : j = k
              · subst e; rw [HGG.out]; exact HU.out
              · exact hN.out j h (by omega)), HB2⟩
            case measure => simp [intOf]; omega
        · go_wp2_with fail
          go_ret
          refine ⟨Nm.ret_bool ?_, hBr.out⟩
          rw [HS.out, List.all_eq_true.2]
          intro f hf
          obtain ⟨j, hj, rfl⟩ := List.getElem_of_mem hf
          exact hN.out j hj (by omega)
end Go.Proofs.YtddleeenlpigfaaGreatDoor
/- WALK of below. -/
namespace Go.Proofs.YtddleeenlpigfaaGreatDoor
open Go.RowKit
set_option maxRecDepth 100000 in
set_option maxHeartbeats 8000000 in
theorem below_scal (I : Option Addr → Nat → Nat → List Tm → Prop) (w : World) (b1 off1 b2 off2 : Nat) (x y : Tm) (hx : InT I w b1 off1 x) (hy : InT I w b2 off2 y) (hk : x.k = y.k) (h4 : y.k ≠ 4) (h5 : y.k ≠ 5) :
    Calls Tryz.prog 73 #[.pointer (some ⟨b1, off1, none⟩), .pointer (some ⟨b2, off2, none⟩)] w (LackP (scB x y) w) := by
  obtain ⟨lt1, f1, fl1, fc1, c0, c1, c2, c3, c4, c5, c6, c7, hF1⟩ := hx.cells
  obtain ⟨lt2, f2, fl2, fc2, d0, d1, d2, d3, d4, d5, d6, d7, hF2⟩ := hy.cells
  have KC : Hid (∀ W, Below w.heap.size w W → Calls Tryz.prog 113 #[tv x.k x.lo x.hi x.s x.y x.m x.o f1 fl1 fc1, tv y.k y.lo y.hi y.s y.y y.m y.o f2 fl2 fc2] W fun e w' => e = .returned (.bool (scB x y)) ∧ Below w.heap.size w w') := fun W hW => by
    rw [← hF1.1, ← hF2.1]
    exact (sbelow_tm x y f1 f2 fc1 fc2 W).mono fun _ _ ⟨a, b⟩ => ⟨a, bl_step hW b⟩
  have HQ := Lib.hid (@scB_quick x y)
  clear hF1 hF2 hx hy
  generalize scB x y = r at *
  rw [hk] at c0 KC
  generalize y.k = k at *
  generalize x.lo = lo1 at *
  generalize x.hi = hi1 at *
  generalize x.s = s1 at *
  generalize x.y = y1 at *
  generalize x.m = m1 at *
  generalize x.o = o1 at *
  generalize y.lo = lo2 at *
  generalize y.hi = hi2 at *
  generalize y.s = s2 at *
  generalize y.y = y2 at *
  generalize y.m = m2 at *
  generalize y.o = o2 at *
  have VX : Hid (∀ W, Below w.heap.size w W → W.cell? ⟨b1, off1, none⟩ = some (.int .i64 k) ∧ W.cell? ⟨b1, off1 + 1, none⟩ = some (.int .i64 lo1) ∧ W.cell? ⟨b1, off1 + 2, none⟩ = some (.int .i64 hi1) ∧ W.cell? ⟨b1, off1 + 3, none⟩ = some (.string s1) ∧ W.cell? ⟨b1, off1 + 4, none⟩ = some (.bool y1) ∧ W.cell? ⟨b1, off1 + 5, none⟩ = some (.bool m1) ∧ W.cell? ⟨b1, off1 + 6, none⟩ = some (.bool o1) ∧ W.cell? ⟨b1, off1 + 7, none⟩ = some (.slice f1 fl1 fc1)) := fun W hW => by
    have e : ∀ i, W.cell? ⟨b1, i, none⟩ = w.cell? ⟨b1, i, none⟩ := fun i => hW.cell (p := ⟨b1, i, none⟩) lt1
    rw [e, e, e, e, e, e, e, e]
    exact ⟨c0, c1, c2, c3, c4, c5, c6, c7⟩
  have VY : Hid (∀ W, Below w.heap.size w W → W.cell? ⟨b2, off2, none⟩ = some (.int .i64 k) ∧ W.cell? ⟨b2, off2 + 1, none⟩ = some (.int .i64 lo2) ∧ W.cell? ⟨b2, off2 + 2, none⟩ = some (.int .i64 hi2) ∧ W.cell? ⟨b2, off2 + 3, none⟩ = some (.string s2) ∧ W.cell? ⟨b2, off2 + 4, none⟩ = some (.bool y2) ∧ W.cell? ⟨b2, off2 + 5, none⟩ = some (.bool m2) ∧ W.cell? ⟨b2, off2 + 6, none⟩ = some (.bool o2) ∧ W.cell? ⟨b2, off2 + 7, none⟩ = some (.slice f2 fl2 fc2)) := fun W hW => by
    have e : ∀ i, W.cell? ⟨b2, i, none⟩ = w.cell? ⟨b2, i, none⟩ := fun i => hW.cell (p := ⟨b2, i, none⟩) lt2
    rw [e, e, e, e, e, e, e, e]
    exact ⟨d0, d1, d2, d3, d4, d5, d6, d7⟩
  have k4 : (k == 4) = false := by simpa using h4
  have k5 : (k == 5) = false := by simpa using h5
  clear c1 c2 c3 c4 c5 c6 c7 d1 d2 d3 d4 d5 d6 d7 h4 h5 hk
  go_enter Tryz.func73, Tryz.ntmps73
  go_upto_region 3 with fail
  go_quiet (fail)
  go_upto_region 7 with fail
  clear c0 d0 k4 k5
  have HD : Hid (Below w.heap.size w { w.drewN nq with drawn := (w.drewN nq).drawn + 1 }) := (below_drewN (Below.refl _ _) nq).drew
  by_cases g1 : lo2 ≤ lo1
  case neg =>
    have e1 : decide (lo2 ≤ lo1) = false := by simpa using g1
    have G1 := Lib.hid g1
    refine region_class (C := fun W => Below w.heap.size w W) (by kernel_rfl) (by kernel_rfl) HD.out ?_
    repeat (first | go_big_quiet_skip | (go_big_quiet_want; go_big_quiet_op; first | go_big_quiet_on | (apply Exists.intro; refine ⟨fun W hW => ?_, ?_⟩; (first | rfl | exact (KC.out W hW) | (obtain ⟨q0, q1, q2, q3, q4, q5, q6, q7⟩ := VX.out W hW; go_simp; first | done | rfl | exact ⟨rfl, rfl⟩) | (obtain ⟨q0, q1, q2, q3, q4, q5, q6, q7⟩ := VY.out W hW; go_simp; first | done | rfl | exact ⟨rfl, rfl⟩)); go_big_quiet_on)))
    refine wpQuiet_nil ?_
    intro w9 hW9
    go_wp2_with fail
    go_ret
    refine ⟨Nm.ret_bool ?_, hW9⟩
    cases r
    · rfl
    · exact absurd (HQ.out rfl) (fun c => by
        have g := G1.out; have c2 := c.2.1; omega)
  by_cases g2 : hi1 ≤ hi2
  case neg =>
    have e2 : decide (hi1 ≤ hi2) = false := by simpa using g2
    have G2 := Lib.hid g2
    refine region_class (C := fun W => Below w.heap.size w W) (by kernel_rfl) (by kernel_rfl) HD.out ?_
    repeat (first | go_big_quiet_skip | (go_big_quiet_want; go_big_quiet_op; first | go_big_quiet_on | (apply Exists.intro; refine ⟨fun W hW => ?_, ?_⟩; (first | rfl | exact (KC.out W hW) | (obtain ⟨q0, q1, q2, q3, q4, q5, q6, q7⟩ := VX.out W hW; go_simp; first | done | rfl | exact ⟨rfl, rfl⟩) | (obtain ⟨q0, q1, q2, q3, q4, q5, q6, q7⟩ := VY.out W hW; go_simp; first | done | rfl | exact ⟨rfl, rfl⟩)); go_big_quiet_on)))
    refine wpQuiet_nil ?_
    intro w9 hW9
    go_wp2_with fail
    go_ret
    refine ⟨Nm.ret_bool ?_, hW9⟩
    cases r
    · rfl
    · exact absurd (HQ.out rfl) (fun c => by
        have g := G2.out; have c2 := c.2.2.1; omega)
  cases y2
  case true =>
    refine region_class (C := fun W => Below w.heap.size w W) (by kernel_rfl) (by kernel_rfl) HD.out ?_
    repeat (first | go_big_quiet_skip | (go_big_quiet_want; go_big_quiet_op; first | go_big_quiet_on | (apply Exists.intro; refine ⟨fun W hW => ?_, ?_⟩; (first | rfl | exact (KC.out W hW) | (obtain ⟨q0, q1, q2, q3, q4, q5, q6, q7⟩ := VX.out W hW; go_simp; first | done | rfl | exact ⟨rfl, rfl⟩) | (obtain ⟨q0, q1, q2, q3, q4, q5, q6, q7⟩ := VY.out W hW; go_simp; first | done | rfl | exact ⟨rfl, rfl⟩)); go_big_quiet_on)))
    refine wpQuiet_nil ?_
    intro w9 hW9
    go_wp2_with fail
    go_ret
    exact ⟨rfl, hW9⟩
  case false =>
    cases g3 : (s2.toList == s1.toList)
    case false =>
      have G3 := Lib.hid g3
      refine region_class (C := fun W => Below w.heap.size w W) (by kernel_rfl) (by kernel_rfl) HD.out ?_
      repeat (first | go_big_quiet_skip | (go_big_quiet_want; go_big_quiet_op; first | go_big_quiet_on | (apply Exists.intro; refine ⟨fun W hW => ?_, ?_⟩; (first | rfl | exact (KC.out W hW) | (obtain ⟨q0, q1, q2, q3, q4, q5, q6, q7⟩ := VX.out W hW; go_simp; first | done | rfl | exact ⟨rfl, rfl⟩) | (obtain ⟨q0, q1, q2, q3, q4, q5, q6, q7⟩ := VY.out W hW; go_simp; first | done | rfl | exact ⟨rfl, rfl⟩)); go_big_quiet_on)))
      refine wpQuiet_nil ?_
      intro w9 hW9
      go_wp2_with fail
      go_ret
      refine ⟨Nm.ret_bool ?_, hW9⟩
      cases r
      · rfl
      · exact absurd (HQ.out rfl) (fun c => by
          rcases c.2.2.2 with c | c; exact absurd c (by decide); have g := G3.out; rw [c] at g; simp at g)
    case true =>
      refine region_class (C := fun W => Below w.heap.size w W) (by kernel_rfl) (by kernel_rfl) HD.out ?_
      repeat (first | go_big_quiet_skip | (go_big_quiet_want; go_big_quiet_op; first | go_big_quiet_on | (apply Exists.intro; refine ⟨fun W hW => ?_, ?_⟩; (first | rfl | exact (KC.out W hW) | (obtain ⟨q0, q1, q2, q3, q4, q5, q6, q7⟩ := VX.out W hW; go_simp; first | done | rfl | exact ⟨rfl, rfl⟩) | (obtain ⟨q0, q1, q2, q3, q4, q5, q6, q7⟩ := VY.out W hW; go_simp; first | done | rfl | exact ⟨rfl, rfl⟩)); go_big_quiet_on)))
      refine wpQuiet_nil ?_
      intro w9 hW9
      go_wp2_with fail
      go_ret
      exact ⟨rfl, hW9⟩
/-- A term of a right value. -/
def RtN (n : Nat) (x : Tm) : Prop := ∃ l, RT (RV n l) x
def RvN (n : Nat) (A : List Tm) : Prop := ∃ l, RV n l A
set_option maxRecDepth 100000 in
set_option maxHeartbeats 8000000 in
theorem below_step (n : Nat) (ih : ∀ (W : World) (t : Option Addr) (tl tc : Nat) (A : List Tm) (t2 : Option Addr) (tl2 tc2 : Nat) (B : List Tm), InV W n t tl tc A → InV W n t2 tl2 tc2 B → RvN n A → RvN n B → Calls Tryz.prog 44 #[.agg #[.slice t tl tc], .agg #[.slice t2 tl2 tc2]] W (LackP (undV n A B) W))
    (w : World) (b1 off1 b2 off2 : Nat) (x y : Tm) (hx : InTn w n b1 off1 x) (hy : InTn w n b2 off2 y) (rx : RtN n x) (ry : RtN n y) :
    Calls Tryz.prog 73 #[.pointer (some ⟨b1, off1, none⟩), .pointer (some ⟨b2, off2, none⟩)] w (LackP (undT (undV n) x y) w) := by
  obtain ⟨l, rx⟩ := rx
  obtain ⟨l', ry⟩ := ry
  have HX := Lib.hid hx
  have HY := Lib.hid hy
  obtain ⟨lt1, f1, fl1, fc1, c0, c1, c2, c3, c4, c5, c6, c7, hF1⟩ := hx.cells
  obtain ⟨lt2, f2, fl2, fc2, d0, d1, d2, d3, d4, d5, d6, d7, hF2⟩ := hy.cells
  clear hx hy c1 c2 c3 c4 c5 c6 c7 d1 d2 d3 d4 d5 d6 d7 hF1 hF2
  by_cases h5 : y.k = 5
  · rw [show undT (undV n) x y = true by unfold undT; rw [if_pos h5]]
    rw [h5] at d0
    clear ih HX HY rx ry h5
    go_enter Tryz.func73, Tryz.ntmps73
    go_wp2_with fail
    go_ret
    exact ⟨rfl, Below.refl _ _⟩
  · by_cases hk : x.k = y.k
    · by_cases h4 : y.k = 4
      · rw [show undT (undV n) x y = undS (undV n) x y by unfold undT; rw [if_neg h5, if_pos ⟨by omega, h4⟩]]
        have HB := Lib.hid (fun (W : World) (hW : Below w.heap.size w W) => bstruct_step n (RvN n) ih W b1 off1 b2 off2 x y (HX.out.below (fun _ _ _ _ h => InV.below hW h) hW) (HY.out.below (fun _ _ _ _ h => InV.below hW h) hW)
          (fun f hf => ⟨l, (rx.fields (by omega)).1.2.2 f hf⟩) (fun f hf => ⟨l', (ry.fields h4).1.2.2 f hf⟩))
        rw [hk, h4] at c0
        rw [h4] at d0
        generalize undS (undV n) x y = r at *
        clear ih HX HY rx ry h5 hk h4
        go_enter Tryz.func73, Tryz.ntmps73
        go_upto_region 3 with fail
        go_quiet (fail)
        go_wp2_with (go_at_call 112; refine (HB.out _ (below_drewN (Below.refl _ _) _)).mono ?_; rintro e w1 ⟨rfl, hB1⟩; have HB1 := Lib.hid (bl_step (below_drewN (Below.refl w.heap.size w) nq) hB1); clear hB1)
        go_ret
        exact ⟨rfl, HB1.out⟩
      · rw [show undT (undV n) x y = scB x y by unfold undT; rw [if_neg h5, if_neg (fun c => h4 c.2)]]
        exact below_scal _ w b1 off1 b2 off2 x y HX.out HY.out hk h4 h5
    · have hs : scB x y = false := by
        cases hc : scB x y
        · rfl
        · exact absurd (scB_quick hc).1 hk
      rw [show undT (undV n) x y = false by unfold undT; rw [if_neg h5, if_neg (fun c => hk (by omega)), hs]]
      generalize x.k = k1 at *
      generalize y.k = k2 at *
      have e5 : (k2 == 5) = false := by simpa using h5
      have ek : (k1 != k2) = true := by simpa using hk
      clear ih HX HY rx ry h5 hk hs
      go_enter Tryz.func73, Tryz.ntmps73
      go_upto_region 3 with fail
      go_quiet (fail)
      go_wp2_with fail
      go_ret
      exact ⟨rfl, below_drewN (Below.refl _ _) _⟩
end Go.Proofs.YtddleeenlpigfaaGreatDoor
