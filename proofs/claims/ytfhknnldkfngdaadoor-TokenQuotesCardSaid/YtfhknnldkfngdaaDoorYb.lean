/- WALK of Quote. -/
import Derived.Test.YtfhknnldkfngdaaDoorYa
import Derived.Test.YtfhknnldkfngdaaDoorWg
import Derived.Deep.RegionHeld3
import Derived.Lib.AppendZeros
import Derived.Laws.OwnMore
namespace Go.Proofs.YtfhknnldkfngdaaDoor
open Go.RowKit
/-- What is made of the front of a text. -/
def qL (l : List UInt8) (k : Nat) : List UInt8 := 34 :: (l.take k).flatMap qpart
theorem qL_step {s : ByteArray} {k : Nat} (h : k < s.size) : qL s.toList (k + 1) = qL s.toList k ++ qpart s[k] := by
  unfold qL
  have hk : k < s.toList.length := by rw [← Nm.size_list]; exact h
  rw [List.take_succ_eq_append_getElem hk, flat_app, List.cons_append, show s.toList[k] = s[k] by
    have := drop_at s k h
    rw [List.drop_eq_getElem_cons hk] at this
    exact (List.cons.inj this).1]
theorem qL_len (l : List UInt8) (k : Nat) : (qL l k).length ≤ 4 * k + 1 := by
  unfold qL
  have h1 := flat_le (l.take k)
  have h2 := List.length_take_le k l
  rw [List.length_cons]; omega
theorem qL_all {s : ByteArray} {k : Nat} (h : ¬ k < s.size) : qL s.toList k ++ [34] = quoteL s.toList := by
  unfold qL quoteL
  rw [List.take_of_length_le (by rw [← Nm.size_list]; omega)]; rfl
theorem new1 (W : World) {x0 : Value} {ty : TypeId} {i : Nat} {u : Value} (h : [x0][i]? = some u) : (W.alloc (.cells #[x0] ty)).cell? ((⟨W.heap.size, 0, none⟩ : Addr).add i) = some u :=
  World.news_of_block (cs := #[x0]) (t := ty) (fr := (0, 0)) (heap_new W _) i u h
theorem new2 (W : World) {x0 x1 : Value} {ty : TypeId} {i : Nat} {u : Value} (h : [x0, x1][i]? = some u) : (W.alloc (.cells #[x0, x1] ty)).cell? ((⟨W.heap.size, 0, none⟩ : Addr).add i) = some u :=
  World.news_of_block (cs := #[x0, x1]) (t := ty) (fr := (0, 0)) (heap_new W _) i u h
/-- How a round of Quote goes. -/
theorem q_cases (c : UInt8) : ((c.toNat : Int) = 34 ∧ qpart c = [92, c]) ∨ ((c.toNat : Int) = 92 ∧ qpart c = [92, c]) ∨ (((c.toNat : Int) == 34) = false ∧ ((c.toNat : Int) == 92) = false ∧ (c.toNat : Int) = 10 ∧ qpart c = [92, 110]) ∨
    (((c.toNat : Int) == 34) = false ∧ ((c.toNat : Int) == 92) = false ∧ ((c.toNat : Int) == 10) = false ∧ plB c = false ∧ qpart c = [92, 120, hexC (c.toNat / 16), hexC (c.toNat % 16)]) ∨
    (((c.toNat : Int) == 34) = false ∧ ((c.toNat : Int) == 92) = false ∧ ((c.toNat : Int) == 10) = false ∧ plB c = true ∧ qpart c = [c]) := by
  unfold qpart
  by_cases h1 : (c.toNat : Int) = 34
  · exact .inl ⟨h1, if_pos (.inl h1)⟩
  · by_cases h2 : (c.toNat : Int) = 92
    · exact .inr (.inl ⟨h2, if_pos (.inr h2)⟩)
    · rw [if_neg (by omega)]
      have e1 : ((c.toNat : Int) == 34) = false := by simpa using h1
      have e2 : ((c.toNat : Int) == 92) = false := by simpa using h2
      by_cases h3 : (c.toNat : Int) = 10
      · exact .inr (.inr (.inl ⟨e1, e2, h3, if_pos h3⟩))
      · rw [if_neg h3]
        have e3 : ((c.toNat : Int) == 10) = false := by simpa using h3
        cases h4 : plB c
        · exact .inr (.inr (.inr (.inl ⟨e1, e2, e3, rfl, if_pos rfl⟩)))
        · exact .inr (.inr (.inr (.inr ⟨e1, e2, e3, rfl, if_neg (by simp)⟩)))
theorem u8_val {c : UInt8} {n : Nat} (h : (c.toNat : Int) = n) : c = UInt8.ofNat n := by
  have h2 : c.toNat = n := by omega
  rw [← h2, UInt8.ofNat_toNat]
theorem u8s_app (a b : List UInt8) : u8s (a ++ b) = u8s a ++ u8s b := List.map_append
section
variable {P : Program} {md : Region.Mode} {ops : Array Oper} {Q : Exit → Act → World → Prop} {S : World → Prop}
theorem take_at' {i : Nat} {oi : Oper} (d : Nat) {v : Value} {fuel : Nat} {listed : Array Bool} {a : Act} {w : World} (hi : ops[i]? = some oi) (hd : oi.dst = some d)
    (hs : Region.noSelect ops = true) (hf : Region.free md ops listed i = true) (hr : (Region.ready md ops listed).contains i = true)
    (hQ : ∀ c a w, Q (.panic c) (a.put oi.dst v) w → Q (.panic c) a w) (hy : YieldsIf P ops S oi v a) (hS : S w)
    (h : wpAnyH P md ops Q S fuel (listed.setIfInBounds i true) { a with tmps := a.tmps.setIfInBounds d v } w) : wpAnyH P md ops Q S (fuel + 1) listed a w :=
  wpAnyH_take hi hs hf hr hQ hy hS (by rw [hd]; exact h)
theorem value_at {i : Nat} {o : Oper} (d : Nat) {a : Act} {w w' : World} {v : Value} {K : Act → World → Prop} (ho : ops[i]? = some o) (hd : o.dst = some d) (hw : Region.wanted o (yielded ops a.tmps) = true) (hr : (execOp a.eval o).run P w = .ok (.value v) w') (h : K { a with tmps := a.tmps.setIfInBounds d v } w') : wpOp P ops Q i K a w := by
  unfold wpOp
  simp only [ho, hw, if_true, Oper.wp, hr, Oper.upon]
  exact .inl (by rw [hd]; exact h)
theorem skip_at {i : Nat} {o : Oper} {a : Act} {w w' : World} {K : Act → World → Prop} (ho : ops[i]? = some o) (hd : o.dst = none) (hw : Region.wanted o (yielded ops a.tmps) = true) (hr : (execOp a.eval o).run P w = .ok .skip w') (h : K a w') : wpOp P ops Q i K a w := by
  unfold wpOp
  simp only [ho, hw, if_true, Oper.wp, hr, Oper.upon]
  exact .inl (by rw [hd]; exact h)
theorem append_run {o : Oper} {a : Act} {s x : Operand} {t : TypeId} {w w' : World} {v u r : Value} (hop : o.op = Op.call { callee := Callee.builtin Builtin.append, args := #[s, x], argTypes := #[t, t] }) (hs : a.eval s = v) (hx : a.eval x = u)
    (hrun : (Builtin.append_ #[t, t] o.type #[v, u]).run P w = .ok r w') : (execOp a.eval o).run P w = .ok (.value r) w' := by
  simp [execOp, hop, resolve, invoke, builtin, hs, hx, hrun, Result.andThen]
end
set_option maxRecDepth 100000 in
set_option maxHeartbeats 4000000 in
theorem quote_any (s : ByteArray) (w : World) (hs : s.size ≤ 4096) : Calls Tryd.prog 12 #[.string s] w fun e w' => e = .returned (.string (bs (quoteL s.toList))) ∧ Below w.heap.size w w' := by
  obtain ⟨i0, hi, hz0, hz1, hz2⟩ := info_parts Tryd.info5
  have HI := Lib.hid hi
  have HZ0 := Lib.hid hz0
  have HZ1 := Lib.hid hz1
  have HZ2 := Lib.hid hz2
  clear hi hz0 hz1 hz2
  go_enter Tryd.func12, Tryd.ntmps12
  go_wp2_with fail
  go_loopw [3, 9] (fun v i wr => ∃ (k m : Nat) (a : Option Addr) (cp : Nat), k ≤ s.size ∧ i = .int .i64 k ∧ m ≤ 4 * k + 1 ∧ v = .slice a m cp ∧ Hid (m = (qL s.toList k).length) ∧ w.heap.size ≤ wr.heap.size ∧ Hid (wr.ownsRow w.heap.size 5 1 (.slice a m cp) m (u8s (qL s.toList k))) ∧ Hid (Below (w.heap.size) w wr)) (fun _ i _ => s.size - (intOf i).toNat)
  case atStart => exact ⟨0, 1, some ⟨w.heap.size, 0, none⟩, 1, by omega, rfl, by omega, rfl, Lib.hid rfl, by simp, Lib.hid (World.ownsRow_lit w #[.int .u8 34] 1 (Nat.le_refl _) (by decide) rfl), Lib.hid (bl_alloc (Below.refl _ _))⟩
  case round =>
    obtain ⟨k, m, a, cp, hk, rfl, hm, rfl, hM, hwr, hO, hB⟩ := hrel
    rename World => wr
    by_cases hlt : k < s.size
    · have HQ := Lib.hid (qL_step hlt)
      have hi1 : (k : Int) < (s.size : Int) := by omega
      have hi0 : (0 : Int) ≤ (k : Int) := by omega
      rcases q_cases s[k] with ⟨h1, hq⟩ | ⟨h1, hq⟩ | ⟨h1, h2, h3, hq⟩ | ⟨h1, h2, h3, h4, hq⟩ | ⟨h1, h2, h3, h4, hq⟩
      · have HQQ := Lib.hid hq
        have HV := Lib.hid (u8_val h1)
        clear hq
        go_wp2_with (at_builtin; refine wpList_append_own _ rfl _ _ 49 rfl w.heap.size 5 i0 (.int .u8 0) 1 1 Tryd.underlying49 HI.out HZ0.out HZ1.out HZ2.out rfl (by decide) _ _ _ rfl (hO.out.alloc _) ⟨wr.heap.size, 0, none⟩ 2 2 [.int .u8 92, .int .u8 34] rfl rfl (fun j u hj => new2 _ hj) (fun x hx => by simp only [List.mem_cons, List.not_mem_nil, or_false] at hx; rcases hx with rfl | rfl <;> rfl) (by unfold maxLen; omega) (by omega) (by simp; omega) ?_; intro v' w4 hown' hgrow4 hnil4; have OW4 := Lib.hid hown'; have G4 := Lib.hid hgrow4; clear hown' hgrow4 hnil4)
        have HU : Hid (u8s (qL s.toList (k + 1)) = u8s (qL s.toList k) ++ [.int .u8 92, .int .u8 34]) := Lib.hid (by rw [HQ.out, u8s_app, HQQ.out]; rw [HV.out]; rfl)
        have HMM : Hid (m + 2 = (qL s.toList (k + 1)).length) := Lib.hid (by rw [HQ.out, List.length_append, HQQ.out, ← hM.out]; rfl)
        have hOW := OW4.out
        rw [← HU.out] at hOW
        obtain ⟨a', c', e1, hS⟩ := row_own (by rw [HMM.out] at hOW; exact hOW)
        rw [← HMM.out] at e1
        subst e1
        have HOW := Lib.hid hOW
        clear hOW hS
        have B0 := Lib.hid ((bl_alloc hB.out).grown G4.out (by simp; omega) (fun k hk => by have := own_base hO.out k hk; omega))
        go_roundw
        case rel => exact ⟨k + 1, m + 2, a', c', by omega, by go_num, by omega, rfl, HMM, by have := B0.out.size; omega, HOW, B0⟩
        case measure => simp [intOf]; omega
      · have HQQ := Lib.hid hq
        have HV := Lib.hid (u8_val h1)
        clear hq
        go_wp2_with (at_builtin; refine wpList_append_own _ rfl _ _ 49 rfl w.heap.size 5 i0 (.int .u8 0) 1 1 Tryd.underlying49 HI.out HZ0.out HZ1.out HZ2.out rfl (by decide) _ _ _ rfl (hO.out.alloc _) ⟨wr.heap.size, 0, none⟩ 2 2 [.int .u8 92, .int .u8 92] rfl rfl (fun j u hj => new2 _ hj) (fun x hx => by simp only [List.mem_cons, List.not_mem_nil, or_false] at hx; rcases hx with rfl | rfl <;> rfl) (by unfold maxLen; omega) (by omega) (by simp; omega) ?_; intro v' w4 hown' hgrow4 hnil4; have OW4 := Lib.hid hown'; have G4 := Lib.hid hgrow4; clear hown' hgrow4 hnil4)
        have HU : Hid (u8s (qL s.toList (k + 1)) = u8s (qL s.toList k) ++ [.int .u8 92, .int .u8 92]) := Lib.hid (by rw [HQ.out, u8s_app, HQQ.out]; rw [HV.out]; rfl)
        have HMM : Hid (m + 2 = (qL s.toList (k + 1)).length) := Lib.hid (by rw [HQ.out, List.length_append, HQQ.out, ← hM.out]; rfl)
        have hOW := OW4.out
        rw [← HU.out] at hOW
        obtain ⟨a', c', e1, hS⟩ := row_own (by rw [HMM.out] at hOW; exact hOW)
        rw [← HMM.out] at e1
        subst e1
        have HOW := Lib.hid hOW
        clear hOW hS
        have B0 := Lib.hid ((bl_alloc hB.out).grown G4.out (by simp; omega) (fun k hk => by have := own_base hO.out k hk; omega))
        go_roundw
        case rel => exact ⟨k + 1, m + 2, a', c', by omega, by go_num, by omega, rfl, HMM, by have := B0.out.size; omega, HOW, B0⟩
        case measure => simp [intOf]; omega
      · have HQQ := Lib.hid hq
        clear hq
        go_wp2_with (at_builtin; refine wpList_append_own _ rfl _ _ 49 rfl w.heap.size 5 i0 (.int .u8 0) 1 1 Tryd.underlying49 HI.out HZ0.out HZ1.out HZ2.out rfl (by decide) _ _ _ rfl (hO.out.alloc _) ⟨wr.heap.size, 0, none⟩ 2 2 [.int .u8 92, .int .u8 110] rfl rfl (fun j u hj => new2 _ hj) (fun x hx => by simp only [List.mem_cons, List.not_mem_nil, or_false] at hx; rcases hx with rfl | rfl <;> rfl) (by unfold maxLen; omega) (by omega) (by simp; omega) ?_; intro v' w4 hown' hgrow4 hnil4; have OW4 := Lib.hid hown'; have G4 := Lib.hid hgrow4; clear hown' hgrow4 hnil4)
        have HU : Hid (u8s (qL s.toList (k + 1)) = u8s (qL s.toList k) ++ [.int .u8 92, .int .u8 110]) := Lib.hid (by rw [HQ.out, u8s_app, HQQ.out]; rfl)
        have HMM : Hid (m + 2 = (qL s.toList (k + 1)).length) := Lib.hid (by rw [HQ.out, List.length_append, HQQ.out, ← hM.out]; rfl)
        have hOW := OW4.out
        rw [← HU.out] at hOW
        obtain ⟨a', c', e1, hS⟩ := row_own (by rw [HMM.out] at hOW; exact hOW)
        rw [← HMM.out] at e1
        subst e1
        have HOW := Lib.hid hOW
        clear hOW hS
        have B0 := Lib.hid ((bl_alloc hB.out).grown G4.out (by simp; omega) (fun k hk => by have := own_base hO.out k hk; omega))
        go_roundw
        case rel => exact ⟨k + 1, m + 2, a', c', by omega, by go_num, by omega, rfl, HMM, by have := B0.out.size; omega, HOW, B0⟩
        case measure => simp [intOf]; omega
      · have HQQ := Lib.hid hq
        have HP := Lib.hid h4
        clear hq h4
        go_wp2_with (go_at_call 24; ((with_reducible refine (plain_as _ _ _ HP).mono ?_); rintro e w' ⟨rfl, rfl⟩))
        have hb := byte_lt s[k]
        obtain ⟨n1, hn1⟩ : ∃ n1, s[k].toNat / 16 = n1 := ⟨_, rfl⟩
        obtain ⟨n2, hn2⟩ : ∃ n2, s[k].toNat % 16 = n2 := ⟨_, rfl⟩
        have l1 : n1 < 16 := by omega
        have l2 : n2 < 16 := by omega
        refine wp_region_held (S := fun _ => True) (by kernel_rfl) ?_
        generalize hwd : ({ wr with drawn := wr.drawn + 1 } : World) = wd
        have HOD := Lib.hid (show wd.ownsRow w.heap.size 5 1 (.slice a m cp) m (u8s (qL s.toList k)) from by rw [← hwd]; exact hO.out)
        have HBD := Lib.hid (show Below w.heap.size w wd from by rw [← hwd]; exact hB.out.drew)
        have hwd2 : w.heap.size ≤ wd.heap.size := by rw [← hwd]; exact hwr
        clear hwd
        refine take_at' (i := 0) 40 (v := .slice a m cp) rfl rfl (by kernel_rfl) (by kernel_rfl) (by kernel_rfl) (fun _ _ _ h => h) (Or.inl ⟨by rfl, fun w' hS => (by go_simp)⟩) trivial ?_
        simp only [List.setIfInBounds_toArray, List.set_cons_succ, List.set_cons_zero]
        refine take_at' (i := 1) 41 (v := .int .u8 (s[k].toNat : Int)) rfl rfl (by kernel_rfl) (by kernel_rfl) (by kernel_rfl) (fun _ _ _ h => h) (Or.inl ⟨by rfl, fun w' hS => (by go_simp)⟩) trivial ?_
        simp only [List.setIfInBounds_toArray, List.set_cons_succ, List.set_cons_zero]
        refine take_at' (i := 2) 42 (v := .int .u8 (n1 : Int)) rfl rfl (by kernel_rfl) (by kernel_rfl) (by kernel_rfl) (fun _ _ _ h => h) (Or.inl ⟨by rfl, fun w' hS => (by go_simp; rw [IntWalk.u8_in _ (by omega)]; omega)⟩) trivial ?_
        simp only [List.setIfInBounds_toArray, List.set_cons_succ, List.set_cons_zero]
        refine take_at' (i := 3) 43 (v := .int .u8 ((hexC n1).toNat : Int)) rfl rfl (by kernel_rfl) (by kernel_rfl) (by kernel_rfl) (fun _ _ _ h => h) (Or.inl ⟨by rfl, fun w' hS => (by rcases (by omega : n1 = 0 ∨ n1 = 1 ∨ n1 = 2 ∨ n1 = 3 ∨ n1 = 4 ∨ n1 = 5 ∨ n1 = 6 ∨ n1 = 7 ∨ n1 = 8 ∨ n1 = 9 ∨ n1 = 10 ∨ n1 = 11 ∨ n1 = 12 ∨ n1 = 13 ∨ n1 = 14 ∨ n1 = 15) with rfl | rfl | rfl | rfl | rfl | rfl | rfl | rfl | rfl | rfl | rfl | rfl | rfl | rfl | rfl | rfl <;> rfl)⟩) trivial ?_
        simp only [List.setIfInBounds_toArray, List.set_cons_succ, List.set_cons_zero]
        refine take_at' (i := 4) 44 (v := .int .u8 (s[k].toNat : Int)) rfl rfl (by kernel_rfl) (by kernel_rfl) (by kernel_rfl) (fun _ _ _ h => h) (Or.inl ⟨by rfl, fun w' hS => (by go_simp)⟩) trivial ?_
        simp only [List.setIfInBounds_toArray, List.set_cons_succ, List.set_cons_zero]
        refine take_at' (i := 5) 45 (v := .int .u8 (n2 : Int)) rfl rfl (by kernel_rfl) (by kernel_rfl) (by kernel_rfl) (fun _ _ _ h => h) (Or.inl ⟨by rfl, fun w' hS => (by go_simp; rw [Int.tmod_eq_emod_of_nonneg (by omega)]; omega)⟩) trivial ?_
        simp only [List.setIfInBounds_toArray, List.set_cons_succ, List.set_cons_zero]
        refine take_at' (i := 6) 46 (v := .int .u8 ((hexC n2).toNat : Int)) rfl rfl (by kernel_rfl) (by kernel_rfl) (by kernel_rfl) (fun _ _ _ h => h) (Or.inl ⟨by rfl, fun w' hS => (by rcases (by omega : n2 = 0 ∨ n2 = 1 ∨ n2 = 2 ∨ n2 = 3 ∨ n2 = 4 ∨ n2 = 5 ∨ n2 = 6 ∨ n2 = 7 ∨ n2 = 8 ∨ n2 = 9 ∨ n2 = 10 ∨ n2 = 11 ∨ n2 = 12 ∨ n2 = 13 ∨ n2 = 14 ∨ n2 = 15) with rfl | rfl | rfl | rfl | rfl | rfl | rfl | rfl | rfl | rfl | rfl | rfl | rfl | rfl | rfl | rfl <;> rfl)⟩) trivial ?_
        simp only [List.setIfInBounds_toArray, List.set_cons_succ, List.set_cons_zero]
        refine wpAnyH_all (rs := [7]) (by kernel_rfl) (by simp) ?_
        intro i hi
        obtain rfl : i = 7 := by simpa using hi
        refine value_at 47 (v := .slice (some ⟨wd.heap.size, 0, none⟩) 4 4) (w' := wd.alloc (.cells #[.int .u8 92, .int .u8 120, .int .u8 ((hexC n1).toNat : Int), .int .u8 ((hexC n2).toNat : Int)] 5)) rfl rfl rfl (by go_simp) ⟨trivial, ?_⟩
        simp only [List.setIfInBounds_toArray, List.set_cons_succ, List.set_cons_zero]
        refine wpAnyH_all (rs := [8]) (by kernel_rfl) (by simp) ?_
        intro i hi
        obtain rfl : i = 8 := by simpa using hi
        obtain ⟨v', w4, hrun, hown', hgrow4, -⟩ := run_append_own (P := Tryd.prog) (wd.alloc (.cells #[.int .u8 92, .int .u8 120, .int .u8 ((hexC n1).toNat : Int), .int .u8 ((hexC n2).toNat : Int)] 5)) w.heap.size 49 49 5 i0 (.int .u8 0) 1 1 Tryd.underlying49 HI.out HZ0.out HZ1.out HZ2.out rfl (by decide) _ _ _ (HOD.out.alloc _) ⟨wd.heap.size, 0, none⟩ 4 4 [.int .u8 92, .int .u8 120, .int .u8 ((hexC n1).toNat : Int), .int .u8 ((hexC n2).toNat : Int)] rfl (fun j u hj => new4 _ hj) (fun x hx => by simp only [List.mem_cons, List.not_mem_nil, or_false] at hx; rcases hx with rfl | rfl | rfl | rfl <;> rfl) (by unfold maxLen; omega) (by omega) (by simp; omega)
        have OW4 := Lib.hid hown'
        have G4 := Lib.hid hgrow4
        refine value_at 48 (v := v') (w' := w4) rfl rfl rfl (append_run rfl rfl rfl hrun) ⟨trivial, ?_⟩
        clear hown' hgrow4 hrun
        simp only [List.setIfInBounds_toArray, List.set_cons_succ, List.set_cons_zero]
        refine take_at' (i := 9) 3 (v := v') rfl rfl (by kernel_rfl) (by kernel_rfl) (by kernel_rfl) (fun _ _ _ h => h) (Or.inl ⟨by rfl, fun w' hS => (by go_simp)⟩) trivial ?_
        simp only [List.setIfInBounds_toArray, List.set_cons_succ, List.set_cons_zero]
        refine wpAnyH_done (by kernel_rfl) ?_ _
        go_wp2_with fail
        have HU : Hid (u8s (qL s.toList (k + 1)) = u8s (qL s.toList k) ++ [.int .u8 92, .int .u8 120, .int .u8 ((hexC n1).toNat : Int), .int .u8 ((hexC n2).toNat : Int)]) := Lib.hid (by rw [HQ.out, u8s_app, HQQ.out]; rw [hn1, hn2]; rfl)
        have HMM : Hid (m + 4 = (qL s.toList (k + 1)).length) := Lib.hid (by rw [HQ.out, List.length_append, HQQ.out, ← hM.out]; rfl)
        have hOW := OW4.out
        rw [← HU.out] at hOW
        obtain ⟨a', c', e1, hS⟩ := row_own (by rw [HMM.out] at hOW; exact hOW)
        rw [← HMM.out] at e1
        subst e1
        have HOW := Lib.hid hOW
        clear hOW hS
        have B0 := Lib.hid ((bl_alloc HBD.out).grown G4.out (by simp; omega) (fun k hk => by have := own_base HOD.out k hk; omega))
        go_roundw
        case rel => exact ⟨k + 1, m + 4, a', c', by omega, by go_num, by omega, rfl, HMM, by have := B0.out.size; omega, HOW, B0⟩
        case measure => simp [intOf]; omega
      · have HQQ := Lib.hid hq
        have HP := Lib.hid h4
        clear hq h4
        go_wp2_with (first | (go_at_call 24; ((with_reducible refine (plain_as _ _ _ HP).mono ?_); rintro e w' ⟨rfl, rfl⟩)) | (at_builtin; refine wpList_append_own _ rfl _ _ 49 rfl w.heap.size 5 i0 (.int .u8 0) 1 1 Tryd.underlying49 HI.out HZ0.out HZ1.out HZ2.out rfl (by decide) _ _ _ rfl (hO.out.alloc _) ⟨wr.heap.size, 0, none⟩ 1 1 [.int .u8 (s[k].toNat : Int)] rfl rfl (fun j u hj => new1 _ hj) (fun x hx => by simp only [List.mem_cons, List.not_mem_nil, or_false] at hx; subst hx; rfl) (by unfold maxLen; omega) (by omega) (by simp; omega) ?_; intro v' w4 hown' hgrow4 hnil4; have OW4 := Lib.hid hown'; have G4 := Lib.hid hgrow4; clear hown' hgrow4 hnil4))
        have HU : Hid (u8s (qL s.toList (k + 1)) = u8s (qL s.toList k) ++ [.int .u8 (s[k].toNat : Int)]) := Lib.hid (by rw [HQ.out, u8s_app, HQQ.out]; rfl)
        have HMM : Hid (m + 1 = (qL s.toList (k + 1)).length) := Lib.hid (by rw [HQ.out, List.length_append, HQQ.out, ← hM.out]; rfl)
        have hOW := OW4.out
        rw [← HU.out] at hOW
        obtain ⟨a', c', e1, hS⟩ := row_own (by rw [HMM.out] at hOW; exact hOW)
        rw [← HMM.out] at e1
        subst e1
        have HOW := Lib.hid hOW
        clear hOW hS
        have B0 := Lib.hid ((bl_alloc hB.out).grown G4.out (by simp; omega) (fun k hk => by have := own_base hO.out k hk; omega))
        go_roundw
        case rel => exact ⟨k + 1, m + 1, a', c', by omega, by go_num, by omega, rfl, HMM, by have := B0.out.size; omega, HOW, B0⟩
        case measure => simp [intOf]; omega
    · have HA := Lib.hid (qL_all hlt)
      go_wp2_with (at_builtin; refine wpList_append_own _ rfl _ _ 49 rfl w.heap.size 5 i0 (.int .u8 0) 1 1 Tryd.underlying49 HI.out HZ0.out HZ1.out HZ2.out rfl (by decide) _ _ _ rfl (hO.out.alloc _) ⟨wr.heap.size, 0, none⟩ 1 1 [.int .u8 34] rfl rfl (fun j u hj => new1 _ hj) (fun x hx => by simp only [List.mem_cons, List.not_mem_nil, or_false] at hx; subst hx; rfl) (by unfold maxLen; omega) (by omega) (by simp; omega) ?_; intro v' w4 hown' hgrow4 hnil4; have OW4 := Lib.hid hown'; have G4 := Lib.hid hgrow4; clear hown' hgrow4 hnil4; have hOW : w4.ownsRow w.heap.size 5 1 v' (m + 1) (u8s (quoteL s.toList)) := (by rw [← HA.out, u8s_app]; exact OW4.out); obtain ⟨a', c', e1, hS⟩ := row_own hOW; have hcv := conv_row c' hS; subst e1; clear hS hOW)
      go_ret
      exact ⟨rfl, (bl_alloc hB.out).grown G4.out (by simp; omega) (fun k hk => by have := own_base hO.out k hk; omega)⟩
end Go.Proofs.YtfhknnldkfngdaaDoor
