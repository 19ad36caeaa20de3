/- WALK of Plain. -/
import Derived.Test.YtkmbhjcedkojjaaSg
import Derived.Deep.RegionHeld3
import Derived.Lib.AppendZeros
import Derived.Deep.DeepCutAuto
import Derived.Deep.CutBlock
namespace Go.Proofs.Ytkmbhjcedkojjaa
open Go.RowKit
/-- A variable's cell. -/
def Cx (w : World) (N o : Nat) (v : Value) : Prop := N < w.heap.size ∧ w.cell? ⟨N, o, none⟩ = some v ∧ w.frozen? ⟨N, o, none⟩ = false
theorem Cx.later {w w' : World} {N o : Nat} {v : Value} (h : Cx w N o v) (hb : Below w.heap.size w w') : Cx w' N o v := ⟨Nat.lt_of_lt_of_le h.1 hb.size, (hb.cell (p := ⟨N, o, none⟩) h.1).trans h.2.1, (hb.frozen (p := ⟨N, o, none⟩) h.1).trans h.2.2⟩
theorem below_own {w w' : World} {row : Option Nat} {B : Nat} (h : w.grownBy w' row) (hB : B ≤ w.heap.size) (hr : ∀ k, row = some k → B ≤ k) : Below B w w' := (Below.refl B w).grown h hB hr
theorem own_lt {w : World} {base E size n : Nat} {v : Value} {xs : List Value} (h : w.ownsRow base E size v n xs) {b : Nat} (hb : w.heap.size ≤ b) : v.ownBlock ≠ some b := fun e => by have := (h.lt b e).2; omega
theorem own_ge {w : World} {base E size n : Nat} {v : Value} {xs : List Value} (h : w.ownsRow base E size v n xs) {b : Nat} (hb : b < base) : v.ownBlock ≠ some b := fun e => by have := (h.lt b e).1; omega
/-- The seven ends of a term's box. -/
def T7 (w : World) (T : Nat) (k lo hi : Int) (s : ByteArray) (y m o : Bool) : Prop :=
  w.cell? ⟨T, 0, none⟩ = some (.int .i64 k) ∧ w.cell? ⟨T, 1, none⟩ = some (.int .i64 lo) ∧ w.cell? ⟨T, 2, none⟩ = some (.int .i64 hi) ∧ w.cell? ⟨T, 3, none⟩ = some (.string s) ∧
  w.cell? ⟨T, 4, none⟩ = some (.bool y) ∧ w.cell? ⟨T, 5, none⟩ = some (.bool m) ∧ w.cell? ⟨T, 6, none⟩ = some (.bool o)
theorem T7.to {w w' : World} {T : Nat} {k lo hi : Int} {s : ByteArray} {y m o : Bool} (h : T7 w T k lo hi s y m o) (e : ∀ r, r < 7 → w'.cell? ⟨T, r, none⟩ = w.cell? ⟨T, r, none⟩) : T7 w' T k lo hi s y m o := by
  unfold T7
  rw [e 0 (by omega), e 1 (by omega), e 2 (by omega), e 3 (by omega), e 4 (by omega), e 5 (by omega), e 6 (by omega)]
  exact h
section
variable {P : Program} {md : Region.Mode} {ops : Array Oper} {Q : Exit → Act → World → Prop} {S : World → Prop}
theorem take_at' {i : Nat} {oi : Oper} (d : Nat) {v : Value} {fuel : Nat} {listed : Array Bool} {a : Act} {w : World} (hi : ops[i]? = some oi) (hd : oi.dst = some d)
    (hs : Region.noSelect ops = true) (hf : Region.free md ops listed i = true) (hr : (Region.ready md ops listed).contains i = true)
    (hQ : ∀ c a w, Q (.panic c) (a.put oi.dst v) w → Q (.panic c) a w) (hy : YieldsIf P ops S oi v a) (hS : S w)
    (h : wpAnyH P md ops Q S fuel (listed.setIfInBounds i true) { a with tmps := a.tmps.setIfInBounds d v } w) : wpAnyH P md ops Q S (fuel + 1) listed a w :=
  wpAnyH_take hi hs hf hr hQ hy hS (by rw [hd]; exact h)
theorem value_at {i : Nat} {o : Oper} (d : Nat) {a : Act} {w w' : World} {v : Value} {K : Act → World → Prop} (ho : ops[i]? = some o) (hd : o.dst = some d) (hw : Region.wanted o (yielded ops a.tmps) = true) (hr : (execOp a.eval o).run P w = .ok (.value v) w') (h : K { a with tmps := a.tmps.setIfInBounds d v } w') : wpOp P ops Q i K a w := by
  unfold wpOp
  simp only [ho, hw, if_true, Oper.wp, hr, Oper.upon]
  exact .inl (by rw [hd]; exact h)
theorem skip_at {i : Nat} {o : Oper} {a : Act} {w w' : World} {K : Act → World → Prop} (ho : ops[i]? = some o) (hd : o.dst = none) (hw : Region.wanted o (yielded ops a.tmps) = true) (hr : (execOp a.eval o).run P w = .ok .skip w') (h : K a w') : wpOp P ops Q i K a w := by
  unfold wpOp
  simp only [ho, hw, if_true, Oper.wp, hr, Oper.upon]
  exact .inl (by rw [hd]; exact h)
theorem call_at {i : Nat} {o : Oper} (d : Nat) {a : Act} {w w' : World} {f : FuncId} {args : Array Value} {K : Act → World → Prop} (ho : ops[i]? = some o) (hd : o.dst = some d) (hw : Region.wanted o (yielded ops a.tmps) = true) (hr : (execOp a.eval o).run P w = .ok (.enter f args) w')
    (h : Calls P f args w' fun e w2 => ∃ u, e = .returned u ∧ K { a with tmps := a.tmps.setIfInBounds d u } w2) : wpOp P ops Q i K a w := by
  unfold wpOp
  simp only [ho, hw, if_true, Oper.wp, hr, Oper.upon]
  exact .inl (h.mono fun e w2 ⟨u, he, hk⟩ => by subst he; rw [hd]; exact hk)
theorem append_run {o : Oper} {a : Act} {s x : Operand} {t : TypeId} {w w' : World} {v u r : Value} (hop : o.op = Op.call { callee := Callee.builtin Builtin.append, args := #[s, x], argTypes := #[t, t] }) (hs : a.eval s = v) (hx : a.eval x = u)
    (hrun : (Builtin.append_ #[t, t] o.type #[v, u]).run P w = .ok r w') : (execOp a.eval o).run P w = .ok (.value r) w' := by
  simp [execOp, hop, resolve, invoke, builtin, hs, hx, hrun, Result.andThen]
end
theorem cell_past {w : World} {o : Obj} {b q : Nat} (h : b < w.heap.size) : (w.alloc o).cell? ⟨b, q, none⟩ = w.cell? ⟨b, q, none⟩ := World.cell?_alloc_past o b q h
theorem after_plain {wi w3 : World} {nm : ByteArray} {t2 : Option Addr} {tl2 tc2 T : Nat} {uf : Value} {base E size n : Nat} {xs : List Value} (h : Below ((wi.alloc (.cells #[.string nm, .slice t2 tl2 tc2] 59)).drew).heap.size ((wi.alloc (.cells #[.string nm, .slice t2 tl2 tc2] 59)).drew) w3) (hC : Cx wi T 7 uf) (ho : wi.ownsRow base E size uf n xs) :
    w3.cell? ⟨wi.heap.size, 0, none⟩ = some (.string nm) ∧ w3.cell? ⟨wi.heap.size, 1, none⟩ = some (.slice t2 tl2 tc2) ∧ Cx w3 T 7 uf ∧ wi.heap.size < w3.heap.size ∧ w3.ownsRow base E size uf n xs := by
  have hz : wi.heap.size + 1 ≤ w3.heap.size := by have := h.size; simpa using this
  have hb : Below wi.heap.size wi w3 := ((bl_alloc (Below.refl _ _)).drew).trans (h.mono (by simp))
  refine ⟨?_, ?_, hC.later hb, by omega, owns_below ho hb⟩
  · exact (h.cell (p := ⟨wi.heap.size, 0, none⟩) (by simp)).trans (by simp [go_sem])
  · exact (h.cell (p := ⟨wi.heap.size, 1, none⟩) (by simp)).trans (by simp [go_sem])
set_option maxRecDepth 100000 in
set_option maxHeartbeats 16000000 in
theorem plain_step (n : Nat) (ih : ∀ (W : World) (t : Option Addr) (tl tc : Nat) (A : List Tm), InV W n t tl tc A → SlimV n A → Calls Try.prog 41 #[.agg #[.slice t tl tc]] W (CopyPost W n tl A))
    (w : World) (t : Option Addr) (tl tc : Nat) (A : List Tm) (h : InV w (n + 1) t tl tc A) (hs : SlimV (n + 1) A) : Calls Try.prog 41 #[.agg #[.slice t tl tc]] w (CopyPost w (n + 1) tl A) := by
  obtain ⟨i24, hi24, hz24, hs24, hb24⟩ := info_parts info24
  obtain ⟨i59, hi59, hz59, hs59, hb59⟩ := info_parts info59
  have I24 := Lib.hid (And.intro hi24 (And.intro hz24 (And.intro hs24 hb24)))
  have I59 := Lib.hid (And.intro hi59 (And.intro hz59 (And.intro hs59 hb59)))
  obtain ⟨hl, hz, hA⟩ := h
  subst hl
  have IH := Lib.hid ih
  have HA := Lib.hid hA
  have HS := Lib.hid hs
  clear ih hA hs hi24 hz24 hs24 hb24 hi59 hz59 hs59 hb59
  go_enter Try.func41, Try.ntmps41
  go_wp2_with fail
  go_loopw [4] (fun i wr => ∃ (k : Nat) (u : Value) (L : List (List Value)), k ≤ A.length ∧ i = .int .i64 k ∧ Bx wr w.heap.size t A.length tc ∧ Hid (Rx wr (w.heap.size + 1)) ∧ Cx wr (w.heap.size + 1 + 1) 0 u ∧ Hid (Below w.heap.size w wr) ∧ Hid (L.length = k ∧ wr.ownsRow (w.heap.size + 3) 24 8 u k L.flatten ∧ TM n (fun b => w.heap.size + 2 < b ∧ some b ≠ u.ownBlock) wr L A)) (fun i _ => A.length - (intOf i).toNat)
  case atStart => exact ⟨0, .slice none 0 0, [], Nat.zero_le _, rfl, ⟨by simp; omega, by simp [go_sem]⟩, ⟨by simp, by simp [go_sem], by simp [go_sem]⟩, ⟨by simp, by simp [go_sem], by simp [go_sem]⟩, bl_alloc (bl_alloc (bl_alloc (Below.refl _ _))), rfl, World.ownsRow_nil _ _ _ _, TM.nil⟩
  case round =>
    obtain ⟨k, u, L, hk, rfl, hX, hRx, hO, hBr, hLk⟩ := hrel
    rename World => wr
    have bx := hX.2
    have ⟨oz, oc, of⟩ := hO
    have HX := Lib.hid hX
    have HO := Lib.hid hO
    clear hX hO
    by_cases hlt : k < A.length
    · have hki : (k : Int) < (A.length : Int) := by omega
      have hk0 : (0 : Int) ≤ (k : Int) := by omega
      obtain ⟨b, off, rfl, i1⟩ := HA.out k hlt
      have HS1 := Lib.hid (HS.out.2 k hlt)
      have HF : ∃ x, A[k] = x := ⟨_, rfl⟩
      obtain ⟨⟨k5, lo5, hi5, s5, y5, m5, o5, g5⟩, hx⟩ := HF
      rw [hx] at i1 HS1
      obtain ⟨lt1, f5, fl5, fc5, c0, c1, c2, c3, c4, c5, c6, c7, j1⟩ := i1
      have e : ∀ i, wr.cell? ⟨b, i, none⟩ = w.cell? ⟨b, i, none⟩ := fun i => hBr.out.cell (p := ⟨b, i, none⟩) lt1
      have C7 := Lib.hid (And.intro lt1 c7)
      replace c0 := (e _).trans c0
      replace c1 := (e _).trans c1
      replace c2 := (e _).trans c2
      replace c3 := (e _).trans c3
      replace c4 := (e _).trans c4
      replace c5 := (e _).trans c5
      replace c6 := (e _).trans c6
      replace c7 := (e _).trans c7
      have lt1' : b < wr.heap.size := Nat.lt_of_lt_of_le lt1 hBr.out.size
      obtain ⟨l5, z5, j5⟩ := j1
      subst l5
      have HXX := Lib.hid hx
      have J5 := Lib.hid j5
      clear j5 e lt1 hx
      go_wp2_with fail
      go_loopw [6] (fun i wi => ∃ (j : Nat) (uf : Value) (M : List (List Value)), j ≤ g5.length ∧ i = .int .i64 j ∧ Hid (T7 wi wr.heap.size k5 lo5 hi5 s5 y5 m5 o5) ∧ Cx wi wr.heap.size 7 uf ∧ Hid (Below wr.heap.size wr wi) ∧ Hid (M.length = j ∧ wi.ownsRow (wr.heap.size + 1) 59 2 uf j M.flatten ∧ FM n (fun b => wr.heap.size < b ∧ some b ≠ uf.ownBlock) wi M g5)) (fun i _ => g5.length - (intOf i).toNat)
      case atStart => exact ⟨0, .slice none 0 0, [], Nat.zero_le _, rfl, by simp [T7, Hid], ⟨by simp, by simp [go_sem], by simp [go_sem]⟩, bl_alloc (Below.refl _ _), rfl, World.ownsRow_nil _ _ _ _, FM.nil⟩
      case round =>
        obtain ⟨j, uf, M, hj, rfl, hT, hC, hBi, hM⟩ := hrel
        rename World => wi
        clear c0 c1 c2 c3 c4 c5 c6
        have ⟨tz, tc7, tf7⟩ := hC
        have HC := Lib.hid hC
        have bxi := (HX.out.later hBi.out).2
        replace c7 := (hBi.out.cell (p := ⟨b, off + k * 8 + 7, none⟩) lt1').trans c7
        clear hC
        by_cases hjl : j < g5.length
        · have hji : (j : Int) < (g5.length : Int) := by omega
          have hj0 : (0 : Int) ≤ (j : Int) := by omega
          obtain ⟨b2, off2, tl2, tc2, t2, rfl, lt2, d0, d1, i2⟩ := J5.out j hjl
          have HWI := Lib.hid (bl_step hBr.out hBi.out)
          replace d0 := (HWI.out.cell (p := ⟨b2, off2 + j * 2, none⟩) lt2).trans d0
          replace d1 := (HWI.out.cell (p := ⟨b2, off2 + j * 2 + 1, none⟩) lt2).trans d1
          have lt2' : b2 < wi.heap.size := Nat.lt_of_lt_of_le lt2 HWI.out.size
          have HVV : ∃ V, (g5[j]).2 = V := ⟨_, rfl⟩
          obtain ⟨vv, hvv⟩ := HVV
          have HSV : Hid (SlimV n vv) := by rw [← hvv]; exact HS1.out.2 j hjl
          rw [hvv] at i2
          have HVE := Lib.hid hvv
          generalize hnm : (g5[j]).1 = nm at *
          have HNM := Lib.hid hnm
          have IC := Lib.hid (fun (W : World) (hW : Below w.heap.size w W) => IH.out W t2 tl2 tc2 vv (InV.below hW i2) HSV.out)
          clear lt2 i2 hvv hnm HSV
          go_upto_region 11 with fail
          obtain ⟨hMl, hMo, hMf⟩ := hM.out
          obtain ⟨wd, hwd⟩ : ∃ wd : World, wd = (wi.alloc (.cells #[.string nm, .slice t2 tl2 tc2] 59)).drew := ⟨_, rfl⟩
          have hbd : Below wi.heap.size wi wd := by rw [hwd]; exact (bl_alloc (Below.refl _ _)).drew
          have hne : wr.heap.size ≠ wi.heap.size := Nat.ne_of_lt tz
          have hf0 : wd.cell? ⟨wi.heap.size, 0, none⟩ = some (.string nm) := by rw [hwd]; simp [go_sem]
          have hf1 : wd.cell? ⟨wi.heap.size, 1, none⟩ = some (.slice t2 tl2 tc2) := by rw [hwd]; simp [go_sem]
          have hzd : wi.heap.size < wd.heap.size := by rw [hwd]; exact new_lt
          have hSd : wd.cell? ⟨wi.heap.size, 0, none⟩ = some (.string nm) ∧ wd.cell? ⟨wi.heap.size, 1, none⟩ = some (.slice t2 tl2 tc2) := ⟨hf0, hf1⟩
          have HBD := Lib.hid hbd
          have HSD := Lib.hid hSd
          have htd := (HC.out.later hbd).2.1
          have HHM := Lib.hid hMo
          have HFM := Lib.hid hMf
          have HML := Lib.hid hMl
          clear hMo hMf hMl hbd hSd bxi c7 d0 d1
          refine wp_region_held (S := fun w' => w'.cell? ⟨wi.heap.size, 0, none⟩ = some (.string nm) ∧ w'.cell? ⟨wi.heap.size, 1, none⟩ = some (.slice t2 tl2 tc2)) (by kernel_rfl) ?_
          rw [show ({ wi.alloc (.cells #[.string nm, .slice t2 tl2 tc2] 59) with drawn := (wi.alloc (.cells #[.string nm, .slice t2 tl2 tc2] 59)).drawn + 1 } : World) = wd from hwd.symm]
          clear hwd
          refine take_at' (i := 0) 41 (v := .pointer (some ⟨wr.heap.size, 7, none⟩)) rfl rfl (by kernel_rfl) (by kernel_rfl) (by kernel_rfl) (fun _ _ _ h => h) (Or.inl ⟨by rfl, fun w' hS => (by go_simp)⟩) HSD.out ?_
          simp only [List.setIfInBounds_toArray, List.set_cons_succ, List.set_cons_zero]
          refine take_at' (i := 2) 43 (v := .pointer (some ⟨wi.heap.size, 0, none⟩)) rfl rfl (by kernel_rfl) (by kernel_rfl) (by kernel_rfl) (fun _ _ _ h => h) (Or.inl ⟨by rfl, fun w' hS => (by go_simp)⟩) HSD.out ?_
          simp only [List.setIfInBounds_toArray, List.set_cons_succ, List.set_cons_zero]
          refine take_at' (i := 3) 44 (v := .string nm) rfl rfl (by kernel_rfl) (by kernel_rfl) (by kernel_rfl) (fun _ _ _ h => h) (Or.inl ⟨by rfl, fun w' hS => (by obtain ⟨hS1, hS2⟩ := hS; go_simp)⟩) HSD.out ?_
          simp only [List.setIfInBounds_toArray, List.set_cons_succ, List.set_cons_zero]
          refine take_at' (i := 4) 45 (v := .pointer (some ⟨wi.heap.size, 1, none⟩)) rfl rfl (by kernel_rfl) (by kernel_rfl) (by kernel_rfl) (fun _ _ _ h => h) (Or.inl ⟨by rfl, fun w' hS => (by go_simp)⟩) HSD.out ?_
          simp only [List.setIfInBounds_toArray, List.set_cons_succ, List.set_cons_zero]
          refine take_at' (i := 5) 46 (v := .agg #[.slice t2 tl2 tc2]) rfl rfl (by kernel_rfl) (by kernel_rfl) (by kernel_rfl) (fun _ _ _ h => h) (Or.inl ⟨by rfl, fun w' hS => (by obtain ⟨hS1, hS2⟩ := hS; go_simp)⟩) HSD.out ?_
          simp only [List.setIfInBounds_toArray, List.set_cons_succ, List.set_cons_zero]
          have HZD := Lib.hid hzd
          clear hzd
          refine wpAnyH_all (rs := [1, 6]) (by kernel_rfl) (by simp) ?_
          intro i hi
          have hi2 : i = 1 ∨ i = 6 := by simpa using hi
          rcases hi2 with rfl | rfl
          refine value_at 42 (v := uf) (w' := wd) rfl rfl rfl (by have q := htd; go_simp) ⟨HSD.out, ?_⟩
          simp only [List.setIfInBounds_toArray, List.set_cons_succ, List.set_cons_zero]
          refine wpAnyH_all (rs := [6]) (by kernel_rfl) (by simp) ?_
          intro i hi
          obtain rfl : i = 6 := by simpa using hi
          refine call_at 47 (f := 41) (args := #[.agg #[.slice t2 tl2 tc2]]) (w' := wd) rfl rfl rfl (by go_simp) ?_
          refine (IC.out wd (bl_step HWI.out HBD.out)).mono ?_
          rintro e w3 ⟨t3, tc3, rfl, hB3, hO3⟩
          have HB3 := Lib.hid hB3
          have HO3 := Lib.hid hO3
          have HS3 := Lib.hid (show w3.cell? ⟨wi.heap.size, 0, none⟩ = some (.string nm) ∧ w3.cell? ⟨wi.heap.size, 1, none⟩ = some (.slice t2 tl2 tc2) from ⟨(hB3.cell (p := ⟨wi.heap.size, 0, none⟩) HZD.out).trans HSD.out.1, (hB3.cell (p := ⟨wi.heap.size, 1, none⟩) HZD.out).trans HSD.out.2⟩)
          clear hB3 hO3
          refine ⟨_, rfl, HS3.out, ?_⟩
          simp only [List.setIfInBounds_toArray, List.set_cons_succ, List.set_cons_zero]
          have HZ3 := Lib.hid (Nat.lt_of_lt_of_le HZD.out HB3.out.size)
          have HT3 := Lib.hid ((HC.out.later HBD.out).later HB3.out)
          refine take_at' (i := 7) 48 (v := .agg #[.string nm, .slice t3 tl2 tc3]) rfl rfl (by kernel_rfl) (by kernel_rfl) (by kernel_rfl) (fun _ _ _ h => h) (Or.inl ⟨by rfl, fun w' hS => (by go_simp)⟩) HS3.out ?_
          simp only [List.setIfInBounds_toArray, List.set_cons_succ, List.set_cons_zero]
          refine wpAnyH_all (rs := [8]) (by kernel_rfl) (by simp) ?_
          intro i hi
          obtain rfl : i = 8 := by simpa using hi
          refine value_at 49 (v := .slice (some ⟨w3.heap.size, 0, none⟩) 1 1) (w' := w3.alloc (.cells #[.string nm, .slice t3 tl2 tc3] 59)) rfl rfl rfl (by go_simp) ⟨⟨(cell_past HZ3.out).trans HS3.out.1, (cell_past HZ3.out).trans HS3.out.2⟩, ?_⟩
          simp only [List.setIfInBounds_toArray, List.set_cons_succ, List.set_cons_zero]
          rotate_left
          refine call_at 47 (f := 41) (args := #[.agg #[.slice t2 tl2 tc2]]) (w' := wd) rfl rfl rfl (by go_simp) ?_
          refine (IC.out wd (bl_step HWI.out HBD.out)).mono ?_
          rintro e w3 ⟨t3, tc3, rfl, hB3, hO3⟩
          have HB3 := Lib.hid hB3
          have HO3 := Lib.hid hO3
          have HS3 := Lib.hid (show w3.cell? ⟨wi.heap.size, 0, none⟩ = some (.string nm) ∧ w3.cell? ⟨wi.heap.size, 1, none⟩ = some (.slice t2 tl2 tc2) from ⟨(hB3.cell (p := ⟨wi.heap.size, 0, none⟩) HZD.out).trans HSD.out.1, (hB3.cell (p := ⟨wi.heap.size, 1, none⟩) HZD.out).trans HSD.out.2⟩)
          clear hB3 hO3
          refine ⟨_, rfl, HS3.out, ?_⟩
          simp only [List.setIfInBounds_toArray, List.set_cons_succ, List.set_cons_zero]
          have HZ3 := Lib.hid (Nat.lt_of_lt_of_le HZD.out HB3.out.size)
          have HT3 := Lib.hid ((HC.out.later HBD.out).later HB3.out)
          refine take_at' (i := 7) 48 (v := .agg #[.string nm, .slice t3 tl2 tc3]) rfl rfl (by kernel_rfl) (by kernel_rfl) (by kernel_rfl) (fun _ _ _ h => h) (Or.inl ⟨by rfl, fun w' hS => (by go_simp)⟩) HS3.out ?_
          simp only [List.setIfInBounds_toArray, List.set_cons_succ, List.set_cons_zero]
          refine wpAnyH_all (rs := [1, 8]) (by kernel_rfl) (by simp) ?_
          intro i hi
          have hi2 : i = 1 ∨ i = 8 := by simpa using hi
          rcases hi2 with rfl | rfl
          refine value_at 42 (v := uf) (w' := w3) rfl rfl rfl (by have q := HT3.out.2.1; go_simp) ⟨HS3.out, ?_⟩
          simp only [List.setIfInBounds_toArray, List.set_cons_succ, List.set_cons_zero]
          refine wpAnyH_all (rs := [8]) (by kernel_rfl) (by simp) ?_
          intro i hi
          obtain rfl : i = 8 := by simpa using hi
          refine value_at 49 (v := .slice (some ⟨w3.heap.size, 0, none⟩) 1 1) (w' := w3.alloc (.cells #[.string nm, .slice t3 tl2 tc3] 59)) rfl rfl rfl (by go_simp) ⟨⟨(cell_past HZ3.out).trans HS3.out.1, (cell_past HZ3.out).trans HS3.out.2⟩, ?_⟩
          simp only [List.setIfInBounds_toArray, List.set_cons_succ, List.set_cons_zero]
          rotate_left
          refine value_at 49 (v := .slice (some ⟨w3.heap.size, 0, none⟩) 1 1) (w' := w3.alloc (.cells #[.string nm, .slice t3 tl2 tc3] 59)) rfl rfl rfl (by go_simp) ⟨⟨(cell_past HZ3.out).trans HS3.out.1, (cell_past HZ3.out).trans HS3.out.2⟩, ?_⟩
          simp only [List.setIfInBounds_toArray, List.set_cons_succ, List.set_cons_zero]
          refine wpAnyH_all (rs := [1]) (by kernel_rfl) (by simp) ?_
          intro i hi
          obtain rfl : i = 1 := by simpa using hi
          refine value_at 42 (v := uf) (w' := w3.alloc (.cells #[.string nm, .slice t3 tl2 tc3] 59)) rfl rfl rfl (by have q := (cell_past HT3.out.1 (o := .cells #[.string nm, .slice t3 tl2 tc3] 59) (q := 7)).trans HT3.out.2.1; go_simp) ⟨⟨(cell_past HZ3.out).trans HS3.out.1, (cell_past HZ3.out).trans HS3.out.2⟩, ?_⟩
          simp only [List.setIfInBounds_toArray, List.set_cons_succ, List.set_cons_zero]
          all_goals
            have HOW3 := Lib.hid (owns_below (owns_below HHM.out HBD.out) HB3.out)
            have HFM3 := Lib.hid (HFM.out.to (Nat.le_trans HBD.out.size HB3.out.size) (fun b hb hlt => ⟨hb, (HB3.out.block b (Nat.lt_of_lt_of_le hlt HBD.out.size)).trans (HBD.out.block b hlt)⟩))
            obtain ⟨gg, cap, w4, hap, hb4, hst4, hfin⟩ := plain_append (n := n) (H3 := wd.heap.size) (T := wr.heap.size) (nm := nm) HOW3.out HML.out hjl HS1.out.1 HFM3.out (by rw [HVE.out]; exact HO3.out) (fun g hg => Nat.lt_of_lt_of_le (HHM.out.lt g hg).2 HBD.out.size) (Nat.lt_trans tz HZD.out) (Nat.lt_succ_self _) (by have := HZ3.out; omega) HNM.out
            have HAP := Lib.hid hap
            have HB4 := Lib.hid hb4
            have HST4 := Lib.hid hst4
            have HFIN := Lib.hid (hfin (.slice (some ⟨gg, 0, none⟩) (j + 1) cap))
            have hnF : some wi.heap.size ≠ uf.ownBlock := fun e => by have := (HHM.out.lt _ e.symm).2; omega
            have hnT : some wr.heap.size ≠ uf.ownBlock := fun e => by have := (HHM.out.lt _ e.symm).1; omega
            have HS4 := Lib.hid (show w4.cell? ⟨wi.heap.size, 0, none⟩ = some (.string nm) ∧ w4.cell? ⟨wi.heap.size, 1, none⟩ = some (.slice t2 tl2 tc2) from ⟨(cell_of_heap (HST4.out _ HZ3.out hnF) _).trans HS3.out.1, (cell_of_heap (HST4.out _ HZ3.out hnF) _).trans HS3.out.2⟩)
            have tc4 : w4.cell? ⟨wr.heap.size, 7, none⟩ = some uf := (cell_of_heap (HST4.out _ HT3.out.1 hnT) _).trans HT3.out.2.1
            have tf4 : w4.frozen? ⟨wr.heap.size, 7, none⟩ = false := (frozen_of_heap (HST4.out _ HT3.out.1 hnT) _).trans HT3.out.2.2
            have tz4 : wr.heap.size < w4.heap.size := Nat.lt_of_lt_of_le HT3.out.1 HB4.out.size
            have HE4 := Lib.hid (fun r => cell_of_heap (HST4.out _ HT3.out.1 hnT) r)
            clear hap hb4 hst4 hfin hnF hnT
            refine wpAnyH_all (rs := [9]) (by kernel_rfl) (by simp) ?_
            intro i hi
            obtain rfl : i = 9 := by simpa using hi
            refine value_at 50 (v := .slice (some ⟨gg, 0, none⟩) (j + 1) cap) (w' := w4) rfl rfl rfl (append_run rfl rfl rfl HAP.out) ⟨HS4.out, ?_⟩
            simp only [List.setIfInBounds_toArray, List.set_cons_succ, List.set_cons_zero]
            refine take_at' (i := 10) 51 (v := .pointer (some ⟨wr.heap.size, 7, none⟩)) rfl rfl (by kernel_rfl) (by kernel_rfl) (by kernel_rfl) (fun _ _ _ h => h) (Or.inl ⟨by rfl, fun w' hS => (by go_simp)⟩) HS4.out ?_
            simp only [List.setIfInBounds_toArray, List.set_cons_succ, List.set_cons_zero]
            refine wpAnyH_all (rs := [11]) (by kernel_rfl) (by simp) ?_
            intro i hi
            obtain rfl : i = 11 := by simpa using hi
            refine skip_at (w' := w4.setCell ⟨wr.heap.size, 7, none⟩ (.slice (some ⟨gg, 0, none⟩) (j + 1) cap)) rfl rfl rfl (by go_simp) ⟨⟨(set_far (.inl hne.symm)).trans HS4.out.1, (set_far (.inl hne.symm)).trans HS4.out.2⟩, ?_⟩
            refine wpAnyH_done (by kernel_rfl) ?_ _
            go_wp2_with fail
            go_roundw
            case rel => exact ⟨j + 1, _, M ++ [[.string nm, .slice t3 tl2 tc3]], by omega, by go_num, Lib.hid (hT.out.to fun r hr => (set_far (.inr (by omega))).trans ((HE4.out r).trans ((HB3.out.cell (p := ⟨wr.heap.size, r, none⟩) (Nat.lt_trans tz HZD.out)).trans (HBD.out.cell (p := ⟨wr.heap.size, r, none⟩) tz)))), ⟨by rw [set_size]; exact tz4, set_here tc4, by rw [World.frozen?_setCell]; exact tf4⟩,
              bl_set (hBi.out.trans ((HBD.out.mono (Nat.le_of_lt tz)).trans ((HB3.out.mono (Nat.le_of_lt (Nat.lt_trans tz HZD.out))).trans (HB4.out.mono (Nat.le_succ _))))) (Nat.le_refl _), Lib.hid ⟨by simp [HML.out], HFIN.out.1, HFIN.out.2⟩⟩
            case measure => simp [intOf]; omega
        · have ej : j = g5.length := by omega
          subst ej
          obtain ⟨xz, xc, xf⟩ := HO.out.later hBi.out
          obtain ⟨hMl, hMo, hMf⟩ := hM.out
          obtain ⟨fa, ca, rfl⟩ := slice_of_owns hMo
          have hou := hLk.out.2.1
          have hTC : TC n (fun b => w.heap.size + 1 + 1 < b ∧ some b ≠ u.ownBlock) wi [.int .i64 k5, .int .i64 lo5, .int .i64 hi5, .string s5, .bool y5, .bool m5, .bool o5, .slice fa g5.length ca] A[k] := by
            rw [HXX.out]
            exact ⟨fa, _, ca, rfl, FM.owF hMf hMl z5 hMo rfl (fun b hb _ => ⟨by omega, fun e => by have := (hou.lt b e.symm).2; omega⟩) (fun g hg => ⟨by omega, fun e => by have := (hou.lt g e.symm).2; omega⟩)⟩
          obtain ⟨g, cap, w4, hap, hb4, hst4, hfin⟩ := plain_append2 (n := n) (T := w.heap.size + 1 + 1) (owns_below hou (hBi.out.mono (Nat.le_refl _))) hLk.out.1 hlt HS.out.1 (hLk.out.2.2.to hBi.out.size (fun b hb hlt => ⟨hb, hBi.out.block b hlt⟩)) hTC (Nat.lt_succ_self _) (by have := hBi.out.size; omega) (by simp [Value.oneCell'])
          have HAP := Lib.hid hap
          have HB4 := Lib.hid hb4
          have HFIN := Lib.hid (hfin (.slice (some ⟨g, 0, none⟩) (k + 1) cap))
          have hnX : some (w.heap.size + 1 + 1) ≠ u.ownBlock := fun e => by have := (hou.lt _ e.symm).1; omega
          have x4c : w4.cell? ⟨w.heap.size + 1 + 1, 0, none⟩ = some u := (cell_of_heap (hst4 _ xz hnX) _).trans xc
          have x4f : w4.frozen? ⟨w.heap.size + 1 + 1, 0, none⟩ = false := (frozen_of_heap (hst4 _ xz hnX) _).trans xf
          have x4z : w.heap.size + 1 + 1 < w4.heap.size := Nat.lt_of_lt_of_le xz HB4.out.size
          have HLL := Lib.hid hLk.out.1
          have HY : Hid (Bx w4 w.heap.size (some ⟨b, off, none⟩) A.length tc) := by
            have h := HX.out.later hBi.out
            exact ⟨Nat.lt_of_lt_of_le h.1 HB4.out.size, (HB4.out.cell (p := ⟨w.heap.size, 0, none⟩) (Nat.lt_add_of_pos_right (by omega))).trans h.2⟩
          have HRY : Hid (Rx w4 (w.heap.size + 1)) := by
            have h := hRx.out.later hBi.out
            exact ⟨Nat.lt_of_lt_of_le h.1 HB4.out.size, (HB4.out.cell (p := ⟨w.heap.size + 1, 0, none⟩) (Nat.add_lt_add_left (by omega) _)).trans h.2.1, (HB4.out.frozen (p := ⟨w.heap.size + 1, 0, none⟩) (Nat.add_lt_add_left (by omega) _)).trans h.2.2⟩
          obtain ⟨q0, q1, q2, q3, q4, q5, q6⟩ := hT.out
          clear hap hb4 hst4 hfin hTC hou hMl hMo hMf hnX
          go_wp2_with (at_builtin; refine Lib.wpList_append_run _ rfl _ _ _ _ rfl _ _ rfl rfl _ _ HAP.out ?_)
          go_roundw
          case rel => exact ⟨k + 1, _, L ++ [[.int .i64 k5, .int .i64 lo5, .int .i64 hi5, .string s5, .bool y5, .bool m5, .bool o5, .slice fa g5.length ca]], by omega, by go_num, ⟨by rw [set_size]; exact HY.out.1, (set_far (.inl (by omega))).trans HY.out.2⟩, ⟨by rw [set_size]; exact HRY.out.1, (set_far (.inl (by omega))).trans HRY.out.2.1, by rw [World.frozen?_setCell]; exact HRY.out.2.2⟩,
            ⟨by rw [set_size]; exact x4z, set_here x4c, by rw [World.frozen?_setCell]; exact x4f⟩, bl_set (hBr.out.trans ((hBi.out.mono hBr.out.size).trans (HB4.out.mono (by omega)))) (by show w.heap.size ≤ w.heap.size + 1 + 1; omega), Lib.hid ⟨by simp [HLL.out], HFIN.out.1, HFIN.out.2⟩⟩
          case measure => simp [intOf]; omega
    · have ek : k = A.length := by omega
      subst ek
      obtain ⟨hL1, hL2, hL3⟩ := hLk.out
      obtain ⟨ua, uc, rfl⟩ := slice_of_owns hL2
      obtain ⟨rz, rc, rf⟩ := hRx.out
      have HV := Lib.hid (TM.owV (Q := fun b => w.heap.size + 1 + 1 < b) hL3 hL1 hz hL2 rfl (fun b hb _ => hb.1) (fun g hg => by omega))
      clear hL1 hL2 hL3
      go_wp2_with fail
      exact bodyPost_ret (v := .agg #[.slice ua A.length uc]) (by simp [results, Try.results41, go_sem, rc]) rfl ⟨_, uc, rfl, bl_set hBr.out (by show w.heap.size ≤ w.heap.size + 1; omega), HV.out.to (Nat.le_of_eq set_size.symm) fun b hb _ => ⟨by omega, set_heap (by omega)⟩⟩
theorem plain_in : ∀ (n : Nat) (W : World) (t : Option Addr) (tl tc : Nat) (A : List Tm), InV W n t tl tc A → SlimV n A → Calls Try.prog 41 #[.agg #[.slice t tl tc]] W (CopyPost W n tl A)
  | 0, _, _, _, _, _, h, _ => h.elim
  | n + 1, W, t, tl, tc, A, h, hs => plain_step n (plain_in n) W t tl tc A h hs

end Go.Proofs.Ytkmbhjcedkojjaa
