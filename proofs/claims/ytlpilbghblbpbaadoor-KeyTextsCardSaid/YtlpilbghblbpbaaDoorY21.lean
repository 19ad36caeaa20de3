/- Kb, Kc, Kd, Ke -/
import Derived.Deep.QuietTactic
import Derived.BigQuiet
import Derived.Test.YtlpilbghblbpbaaDoorY2
import Derived.Test.YtlpilbghblbpbaaDoorY1
import Derived.Test.YtlpilbghblbpbaaDoorY13
import Derived.Test.YtlpilbghblbpbaaDoorY17
import Derived.Test.YtlpilbghblbpbaaDoorY16
import Derived.Test.YtlpilbghblbpbaaDoorY19
/- WALK of key's Of. -/
namespace Go.Proofs.YtlpilbghblbpbaaDoor.Ky
open Go.RowKit
open Sw (SE NText TxE sexp chk xt Cp chk_zero xt_len expr_any ntext_any)
open Lx (bs bl_alloc bl_step)
open Gr (okS)
theorem ok_right {n : Nat} {nm : ByteArray} {ds : List Ex} {fuel : Int} (h : Nm.rightL nm.toList = false) : okK n nm ds fuel = false := by unfold okK; rw [h]; rfl
theorem ok_defs {n : Nat} {nm : ByteArray} {fuel : Int} : okK n nm [] fuel = false := by unfold okK; cases Nm.rightL nm.toList <;> rfl
theorem ok_low {n : Nat} {nm : ByteArray} {ds : List Ex} {fuel : Int} (h : fuel < 1) : okK n nm ds fuel = false := by
  unfold okK
  rw [show decide (1 ≤ fuel) = false from decide_eq_false (by omega)]
  simp
theorem ok_high {n : Nat} {nm : ByteArray} {ds : List Ex} {fuel : Int} (h : 1048576 < fuel) : okK n nm ds fuel = false := by
  unfold okK
  rw [show decide (fuel ≤ 1048576) = false from decide_eq_false (by omega)]
  simp
theorem ok_def {n : Nat} {nm : ByteArray} {ds : List Ex} {fuel : Int} {x : Ex} (hx : x ∈ ds) (h : ¬ chk n x = 0) : okK n nm ds fuel = false := by
  unfold okK
  rw [show (ds.all fun e => decide (chk n e = 0)) = false from List.all_eq_false.2 ⟨x, hx, by simpa using h⟩]
  simp
theorem ok_all {n : Nat} {nm : ByteArray} {ds : List Ex} {fuel : Int} (h0 : Nm.rightL nm.toList = true) (h1 : ds ≠ []) (h2 : ¬ fuel < 1) (h3 : ¬ 1048576 < fuel) (h4 : ∀ x ∈ ds, chk n x = 0) : okK n nm ds fuel = true := by
  unfold okK
  rw [h0, show decide (1 ≤ fuel) = true from decide_eq_true (by omega), show decide (fuel ≤ 1048576) = true from decide_eq_true (by omega), show (ds.all fun e => decide (chk n e = 0)) = true from List.all_eq_true.2 fun x hx => decide_eq_true (h4 x hx)]
  cases ds with
  | nil => exact absurd rfl h1
  | cons _ _ => rfl
set_option maxRecDepth 100000 in
set_option maxHeartbeats 16000000 in
theorem of_any (w : World) (n : Nat) (nm : ByteArray) (rs : Bool) (a : Option Addr) (dl dc : Nat) (ds : List Ex) (fuel : Int) (hK : KN w n nm a dl ds) (lo : -9223372036854775808 ≤ fuel) (hi0 : fuel ≤ 9223372036854775807) :
    Calls Tryd.prog 6 #[.agg #[.string nm, .bool rs, .slice a dl dc], .int .i64 fuel] w (TxE (keyT n nm ds fuel) (keyE n nm ds fuel) w) := by
  have HK := Lib.hid hK
  have hdl := hK.ks.count
  have hlen := hK.len
  have hnl := hK.name
  obtain ⟨i0, hi, hz0, hz1, hz2⟩ := info_parts info9
  obtain ⟨KT, hKT⟩ : ∃ KT, keyT n nm ds fuel = KT := ⟨_, rfl⟩
  obtain ⟨KE, hKE⟩ : ∃ KE, keyE n nm ds fuel = KE := ⟨_, rfl⟩
  rw [hKT, hKE]
  have HNO := Lib.hid (show okK n nm ds fuel = false → KT = ⟨#[]⟩ ∧ KE = 1 from fun h => by rw [← hKT, ← hKE]; exact key_no h)
  have HYES := Lib.hid (show okK n nm ds fuel = true → KT = bs (kText (kLines n nm ds fuel)) ∧ KE = 0 from fun h => by rw [← hKT, ← hKE]; exact key_yes h)
  clear hK hKT hKE
  obtain ⟨W1, hW1⟩ : ∃ W1, W1 = w.alloc (.cells #[.string nm, .bool rs, .slice a dl dc] 24) := ⟨_, rfl⟩
  have d1 : W1.heap[w.heap.size]? = some (.cells #[.string nm, .bool rs, .slice a dl dc] 24) := by rw [hW1]; exact World.alloc_heap_new _ _
  have hz1w : W1.heap.size = w.heap.size + 1 := by rw [hW1]; simp
  have HB1 := Lib.hid (show Below w.heap.size w W1 by rw [hW1]; exact bl_alloc (Below.refl _ _))
  have c0 : W1.cell? ⟨w.heap.size, 0, none⟩ = some (.string nm) := by simp [World.cell?, d1]
  have c2 : W1.cell? ⟨w.heap.size, 2, none⟩ = some (.slice a dl dc) := by simp [World.cell?, d1]
  have HC0 := Lib.hid c0
  have HC2 := Lib.hid c2
  have HZ1 := Lib.hid hz1w
  have HW1 := Lib.hid hW1
  obtain ⟨b, hb⟩ : ∃ b, Nm.rightL nm.toList = b := ⟨_, rfl⟩
  have HRT := Lib.hid hb
  have HRI := Lib.hid (Nm.right_any nm W1 (HK.out.tab.env.below HB1.out) (by unfold maxLen; omega))
  rw [hb] at HRI
  clear hb d1 hz1w hW1
  go_enter Tryd.func6, Tryd.ntmps6
  go_upto_region 1 with fail
  rw [← HW1.out]
  go_wp2_with fail
  go_at_call 9; refine HRI.out.mono ?_; rintro e w2 ⟨rfl, hB2⟩
  have HB2 := Lib.hid (bl_step HB1.out hB2)
  have c0b : w2.cell? ⟨w.heap.size, 0, none⟩ = some (.string nm) := (hB2.cell (p := ⟨w.heap.size, 0, none⟩) (by have := HZ1.out; simp; omega)).trans HC0.out
  have c2b : w2.cell? ⟨w.heap.size, 2, none⟩ = some (.slice a dl dc) := (hB2.cell (p := ⟨w.heap.size, 2, none⟩) (by have := HZ1.out; simp; omega)).trans HC2.out
  have HL2 := Lib.hid (show w.heap.size < w2.heap.size by have := HZ1.out; have := hB2.size; omega)
  clear c0 c2 hB2 HRI
  cases b
  · have hno := HNO.out (ok_right HRT.out)
    clear HNO HYES
    go_wp2
    go_ret2
    exact ⟨by rw [hno.1, hno.2]; rfl, HB2.out⟩
  · by_cases hd0 : dl = 0
    · subst hd0
      have hd : ds = [] := List.eq_nil_of_length_eq_zero hdl
      have hno := HNO.out (by rw [hd]; exact ok_defs)
      clear HNO HYES hd
      go_wp2
      go_ret2
      exact ⟨by rw [hno.1, hno.2]; rfl, HB2.out⟩
    · have hd1 : ((dl : Int) == 0) = false := by simpa using hd0
      by_cases hf1 : fuel < 1
      · have hno := HNO.out (ok_low hf1)
        clear HNO HYES
        go_wp2
        go_ret2
        exact ⟨by rw [hno.1, hno.2]; rfl, HB2.out⟩
      · by_cases hf2 : 1048576 < fuel
        · have hno := HNO.out (ok_high hf2)
          clear HNO HYES
          go_wp2
          go_ret2
          exact ⟨by rw [hno.1, hno.2]; rfl, HB2.out⟩
        · have HT := fun W => Lib.hid (Nt.text_any fuel W lo hi0)
          have HTL := Lib.hid (texts_len (fuel := fuel) (by omega) (by omega))
          obtain ⟨T, hT⟩ : ∃ T, Nt.textS fuel = T := ⟨_, rfl⟩
          rw [hT] at HT HTL
          have HTE := Lib.hid hT
          have HC0b := Lib.hid c0b
          have HC2b := Lib.hid c2b
          clear hT
          go_upto_region 3 with fail
          go_region_held3 (fun w' => w'.cell? ⟨w.heap.size, 0, none⟩ = some (.string nm))
            (first | exact c0b | exact CK.out | exact CK4.out)
            (first
              | (go_at_call 10; (with_reducible refine (HT _).out.mono ?_); rintro e w3 ⟨rfl, hB3⟩
                 have hq : Below w2.heap.size w2 w3 := ⟨hB3.os, hB3.tape, hB3.output, hB3.size, hB3.block⟩
                 have CK := Lib.hid ((hq.cell (p := ⟨w.heap.size, 0, none⟩) HL2.out).trans HC0b.out)
                 have hq4 : Below w2.heap.size w2 (w3.alloc (.cells #[.string nm, .string T] 9)) := bl_alloc hq
                 have CK4 := Lib.hid ((hq4.cell (p := ⟨w.heap.size, 0, none⟩) HL2.out).trans HC0b.out)
                 have HB3 := Lib.hid hq
                 clear hB3 hq hq4))
          obtain ⟨W4, hW4⟩ : ∃ W4, W4 = w3.alloc (.cells #[.string nm, .string T] 9) := ⟨_, rfl⟩
          have d4 : W4.heap[w3.heap.size]? = some (.cells #[.string nm, .string T] 9) := by rw [hW4]; exact World.alloc_heap_new _ _
          have HO4 := Lib.hid (show W4.ownsRow w3.heap.size 9 1 (.slice (some ⟨w3.heap.size, 0, none⟩) 2 2) (nm :: T :: (ds.take 0).map (sexp n)).length ((nm :: T :: (ds.take 0).map (sexp n)).map Value.string) from ⟨by simp, .inr ⟨w3.heap.size, 2, _, rfl, Nat.le_refl _, d4, Nat.le_refl _, by unfold maxLen; omega, rfl, rfl⟩⟩)
          have HB4 := Lib.hid (show Below w3.heap.size w3 W4 by rw [hW4]; exact bl_alloc (Below.refl _ _))
          have HBW := Lib.hid (show Below w.heap.size w w3 from bl_step HB2.out HB3.out)
          have HC2d := Lib.hid (show W4.cell? ⟨w.heap.size, 2, none⟩ = some (.slice a dl dc) from by
            have h1 : Below w2.heap.size w2 W4 := bl_step HB3.out HB4.out
            exact (h1.cell (p := ⟨w.heap.size, 2, none⟩) HL2.out).trans HC2b.out)
          have HW4 := Lib.hid hW4
          have c2d := HC2d.out
          clear hW4 d4 c0b c2b HT CK CK4
          go_upto_region 4 with fail
          rw [← HW4.out]
          go_upto_region 5 with fail
          clear c2d
          go_loopw [6, 37] (fun v i wr => ∃ (k : Nat), k ≤ dl ∧ i = .int .i64 k ∧ Hid (wr.ownsRow w3.heap.size 9 1 v (nm :: T :: (ds.take k).map (sexp n)).length ((nm :: T :: (ds.take k).map (sexp n)).map Value.string)) ∧ Hid (∀ x ∈ ds.take k, chk n x = 0) ∧ Hid (Below w3.heap.size w3 wr)) (fun _ i _ => dl - (intOf i).toNat)
          case atStart => exact ⟨0, by omega, rfl, HO4, Lib.hid (by simp), HB4⟩
          case round =>
            obtain ⟨k, hk, rfl, hO, hA, hBr⟩ := hrel
            rename World => wr
            have HO := Lib.hid hO.out
            have HA := Lib.hid hA.out
            have HBr := Lib.hid hBr.out
            clear hO hA hBr HO4 HB4
            have HBA := Lib.hid (show Below w.heap.size w wr from bl_step HBW.out HBr.out)
            by_cases hlt : k < dl
            · have l1 : k < ds.length := by omega
              have hKr := HK.out.below HBA.out
              obtain ⟨b, off, y, hq, lt, hy, hI⟩ := hKr.ks.at_ k l1
              have hCp := hKr.cp k l1 b off y hq hy
              subst hq
              obtain ⟨x, hx⟩ : ∃ x, ds[k] = x := ⟨_, rfl⟩
              rw [hx] at hI hCp
              have hxm : x ∈ ds := by rw [← hx]; exact List.getElem_mem _
              have hxk : ds[k]? = some x := by rw [List.getElem?_eq_getElem l1, hx]
              have HX := Lib.hid (And.intro hxm hxk)
              have HTN := Lib.hid (hKr.tN x hxm)
              obtain ⟨op, nn, t, p, pl, pc, u, ul, uc, o, q, ql, qc⟩ := y
              obtain ⟨e0, e1, e2, e3, e4, e5, e6⟩ := hy
              dsimp only at e0 e1 e2 e3 e4 e5 e6
              obtain ⟨W5, hW5⟩ : ∃ W5, W5 = wr.alloc (.cells #[.int .i64 op, .int .i64 nn, .string t, .slice p pl pc, .slice u ul uc, .bool o, .slice q ql qc] 38) := ⟨_, rfl⟩
              have hb5 : Below wr.heap.size wr W5 := by rw [hW5]; exact bl_alloc (Below.refl _ _)
              have HE : Hid (Calls Tryd.prog 11 #[.agg #[.int .i64 op, .int .i64 nn, .string t, .slice p pl pc, .slice u ul uc, .bool o, .slice q ql qc]] W5 (TxE (sexp n x) (chk n x) W5)) := Lib.hid (expr_any W5 n ⟨op, nn, t, p, pl, pc, u, ul, uc, o, q, ql, qc⟩ x (hI.below hb5) (Cp.below hb5 hI hCp) (hKr.tab.below hb5) (fun W h => ntext_any W h.env) (by have := HTN.out; omega))
              obtain ⟨tx, htx⟩ : ∃ tx, sexp n x = tx := ⟨_, rfl⟩
              obtain ⟨c, hc⟩ : ∃ c, chk n x = c := ⟨_, rfl⟩
              rw [htx, hc] at HE
              have HTX := Lib.hid htx
              have HCE := Lib.hid hc
              have HSX := Lib.hid (show tx.size ≤ 220000 by rw [← htx]; exact sexp_len HTN.out)
              have HB5 := Lib.hid hb5
              have HW5 := Lib.hid hW5
              have d5 : W5.heap[wr.heap.size]? = some (.cells #[.int .i64 op, .int .i64 nn, .string t, .slice p pl pc, .slice u ul uc, .bool o, .slice q ql qc] 38) := by rw [hW5]; exact World.alloc_heap_new _ _
              have g0 : W5.cell? ⟨wr.heap.size, 0, none⟩ = some (.int .i64 op) := by simp [World.cell?, d5]
              have g1 : W5.cell? ⟨wr.heap.size, 1, none⟩ = some (.int .i64 nn) := by simp [World.cell?, d5]
              have g2 : W5.cell? ⟨wr.heap.size, 2, none⟩ = some (.string t) := by simp [World.cell?, d5]
              have g3 : W5.cell? ⟨wr.heap.size, 3, none⟩ = some (.slice p pl pc) := by simp [World.cell?, d5]
              have g4 : W5.cell? ⟨wr.heap.size, 4, none⟩ = some (.slice u ul uc) := by simp [World.cell?, d5]
              have g5 : W5.cell? ⟨wr.heap.size, 5, none⟩ = some (.bool o) := by simp [World.cell?, d5]
              have g6 : W5.cell? ⟨wr.heap.size, 6, none⟩ = some (.slice q ql qc) := by simp [World.cell?, d5]
              have hk0 : (0 : Int) ≤ (k : Int) := by omega
              have hki : (k : Int) < (dl : Int) := by omega
              clear hKr hI hCp hx hxm hxk htx hc hb5 hW5 d5 lt
              go_upto_region 7 with fail
              rw [← HW5.out]
              go_wp2_with fail
              go_at_call 11; refine HE.out.mono ?_; rintro e w6 ⟨rfl, hB6⟩
              have hg6 := Gr.grow_of (bl_step HB5.out hB6)
              have HO6 := Lib.hid (HO.out.kept hg6 (Gr.own_none _))
              have HB6 := Lib.hid (show Below w3.heap.size w3 w6 from HBr.out.trans ((bl_step HB5.out hB6).mono HBr.out.size))
              clear hg6 hB6 HE e0 e1 e2 e3 e4 e5 e6 g0 g1 g2 g3 g4 g5 g6
              by_cases hz : c = 0
              · subst hz
                have hll : (nm :: T :: (ds.take k).map (sexp n)).length = k + 2 := by simp; omega
                obtain ⟨acc, hacc⟩ : ∃ acc, nm :: T :: (ds.take k).map (sexp n) = acc := ⟨_, rfl⟩
                rw [hacc] at HO6 hll
                have HACC := Lib.hid (show nm :: T :: (ds.take (k + 1)).map (sexp n) = acc ++ [tx] by rw [← hacc, Gr.map_at (sexp n) HX.out.2, HTX.out]; rfl)
                have HZ6 := Lib.hid HB6.out.size
                clear hacc HO
                go_wp2_with (first
                  | (at_builtin; refine wpList_append_own_at _ rfl _ _ 35 rfl w3.heap.size 9 i0 (.string ByteArray.empty) 1 16 Tryd.underlying35 hi hz0 hz1 hz2 rfl (by decide) _ acc.length (acc.map Value.string) rfl (HO6.out.alloc _) ⟨w6.heap.size, 0, none⟩ 1 1 [.string tx] rfl rfl (cell_one_new _ _ _) (by intro v hv; simp at hv; subst hv; rfl) (by unfold maxLen; omega) (by omega) (by have := HZ6.out; simp; omega) ?_; intro v' w7 hown' hgrow7 hnil7 hat7; have HO7 := Lib.hid hown'; have HB7 := Lib.hid ((HB6.out.alloc HZ6.out (.cells #[.string tx] 9)).grown hgrow7 (by have := HZ6.out; simp; omega) (fun r e => own_base HO6.out r e)); clear hown' hgrow7 hnil7 hat7)
                  | go_in)
                go_roundw
                case rel => exact ⟨k + 1, by omega, by go_num, by rw [HACC.out, List.length_append, List.map_append]; exact HO7, Lib.hid (Gr.all_at HX.out.2 HA.out HCE.out), HB7⟩
                case measure => simp [intOf]; omega
              · have hz2 : (c != 0) = true := by simpa using hz
                have hno := HNO.out (ok_def (nm := nm) (fuel := fuel) HX.out.1 (by rw [HCE.out]; exact hz))
                go_wp2
                go_ret2
                exact ⟨by rw [hno.1, hno.2]; rfl, bl_step HBW.out HB6.out⟩
            · have hki : ¬ (k : Int) < (dl : Int) := by omega
              obtain rfl : k = dl := by omega
              have HAA := Lib.hid (show ∀ x ∈ ds, chk n x = 0 by have := HA.out; rwa [List.take_of_length_le (by omega)] at this)
              have hyes := HYES.out (ok_all HRT.out (by intro h; rw [h] at hdl; exact hd0 hdl.symm) (by omega) (by omega) HAA.out)
              have hLE : nm :: T :: (ds.take k).map (sexp n) = kLines n nm ds fuel := by unfold kLines; rw [List.take_of_length_le (by omega), HTE.out]
              have hKL := lines_len (n := n) (nm := nm) (ds := ds) (fuel := fuel) hnl hlen HK.out.tN (by omega) (by omega)
              have hJN := join_nl (kLines n nm ds fuel) (by unfold kLines; simp)
              obtain ⟨L, hL⟩ : ∃ L, kLines n nm ds fuel = L := ⟨_, rfl⟩
              have hLL : L.length = k + 2 := by rw [← hL]; unfold kLines; simp; omega
              rw [hLE, hL] at HO
              rw [hL] at hKL hJN hyes
              have hJL : (Lib.join (L.map (·.data.toList)) [10]).length ≤ 3000000 := by
                have := congrArg List.length hJN
                rw [List.length_append] at this
                simp only [List.length_cons, List.length_nil] at this
                omega
              clear hLE hL
              rcases HO.out.2 with ⟨rfl, h0⟩ | ⟨g, cap, cur, rfl, hbase, hb, h1, h2, h3, h4⟩
              · omega
              · have hc : ∀ (j : Nat) (x : ByteArray), L[j]? = some x → wr.cell? ⟨g, 0 + j, none⟩ = some (.string x) := fun j x hx => by
                  have := holds_str hb (by simpa using h4) j x hx
                  simpa using this
                have HJ := Lib.hid (Tryd.strings_Join g 0 cap L ⟨#[10]⟩ wr hc (Array.getElem?_eq_some_iff.1 hb).1 (by omega) (by omega) (show (Lib.join (L.map (·.data.toList)) [10]).length ≤ _ by omega))
                obtain ⟨J, hJ⟩ : ∃ J : ByteArray, J = ⟨(Lib.join (L.map (·.data.toList)) [10]).toArray⟩ := ⟨_, rfl⟩
                have HJ2 : Hid (Calls Tryd.prog 12 #[.slice (some ⟨g, 0, none⟩) L.length cap, .string ⟨#[10]⟩] wr fun e w' => e = .returned (.string J) ∧ Below wr.heap.size wr w') := Lib.hid (by rw [hJ]; exact HJ.out)
                rw [hLL] at HJ2
                have hJs : J.size ≤ 3000000 := by rw [hJ]; show (Lib.join (L.map (·.data.toList)) [10]).toArray.size ≤ _; rw [List.size_toArray]; exact hJL
                have HJE := Lib.hid (show J ++ ⟨#[10]⟩ = bs (kText L) by
                  rw [hJ, ← hJN]
                  apply ByteArray.ext
                  simp [bs])
                clear hb h1 h2 h3 h4 hc HJ hJ HO hJN hKL hJL
                go_wp2_with (go_at_call 12; refine HJ2.out.mono ?_; rintro e w8 ⟨rfl, hB8⟩; have HB8 := Lib.hid (bl_step HBA.out hB8); clear hB8)
                go_ret2
                exact ⟨by rw [hyes.1, hyes.2, ← HJE.out]; rfl, HB8.out⟩
end Go.Proofs.YtlpilbghblbpbaaDoor.Ky
/- WALKS of the reference's May, Of. -/
namespace Go.Proofs.YtlpilbghblbpbaaDoor.Ky
open Go.RowKit
open Sw (SE NText TxE TxP sexp chk xt Cp chk_zero xt_len rask_all RNText rntext_any)
open Lx (bs bl_alloc bl_step)
open Gr (okS)
set_option maxRecDepth 100000 in
set_option maxHeartbeats 16000000 in
theorem rmay_any (w0 w : World) (n : Nat) (nm : ByteArray) (rs : Bool) (a : Option Addr) (dl dc : Nat) (ds : List Ex) (fuel : Int) (hK : KN w0 n nm a dl ds) (hb0 : Below w0.heap.size w0 w) :
    Calls Tryd.prog 13 #[.agg #[.string nm, .bool rs, .slice a dl dc], .int .i64 fuel] w (BoolP (okK n nm ds fuel) w) := by
  have HK := Lib.hid hK
  have HB0 := Lib.hid hb0
  have hdl := hK.ks.count
  have hlen := hK.len
  have hnl := hK.name
  obtain ⟨r, hr⟩ : ∃ r, okK n nm ds fuel = r := ⟨_, rfl⟩
  rw [hr]
  have HR := Lib.hid hr
  clear hK hr hb0
  obtain ⟨W1, hW1⟩ : ∃ W1, W1 = w.alloc (.cells #[.string nm, .bool rs, .slice a dl dc] 24) := ⟨_, rfl⟩
  have d1 : W1.heap[w.heap.size]? = some (.cells #[.string nm, .bool rs, .slice a dl dc] 24) := by rw [hW1]; exact World.alloc_heap_new _ _
  have hz1w : W1.heap.size = w.heap.size + 1 := by rw [hW1]; simp
  have HB1 := Lib.hid (show Below w.heap.size w W1 by rw [hW1]; exact bl_alloc (Below.refl _ _))
  have HC0 := Lib.hid (show W1.cell? ⟨w.heap.size, 0, none⟩ = some (.string nm) by simp [World.cell?, d1])
  have HC2 := Lib.hid (show W1.cell? ⟨w.heap.size, 2, none⟩ = some (.slice a dl dc) by simp [World.cell?, d1])
  have HZ1 := Lib.hid hz1w
  have HW1 := Lib.hid hW1
  clear d1 hz1w hW1
  go_enter Tryd.func13, Tryd.ntmps13
  go_upto_region 2 with fail
  rw [← HW1.out]
  go_loopw [5] (fun i wr => ∃ (k : Nat), k ≤ dl ∧ i = .int .i64 k ∧ Hid (∀ x ∈ ds.take k, chk n x = 0) ∧ Hid (Below W1.heap.size W1 wr)) (fun i _ => dl - (intOf i).toNat)
  case atStart => exact ⟨0, by omega, rfl, Lib.hid (by simp), Lib.hid (Below.refl _ _)⟩
  case round =>
    obtain ⟨k, hk, rfl, hA, hBr⟩ := hrel
    rename World => wr
    have HA := Lib.hid hA.out
    have HBr := Lib.hid hBr.out
    clear hA hBr
    have HBA := Lib.hid (bl_step HB1.out HBr.out)
    have HBZ := Lib.hid (show Below w0.heap.size w0 wr from bl_step HB0.out HBA.out)
    have hw1 : w.heap.size < W1.heap.size := by have := HZ1.out; omega
    have c2 : wr.cell? ⟨w.heap.size, 2, none⟩ = some (.slice a dl dc) := (HBr.out.cell (p := ⟨w.heap.size, 2, none⟩) hw1).trans HC2.out
    have c0 : wr.cell? ⟨w.heap.size, 0, none⟩ = some (.string nm) := (HBr.out.cell (p := ⟨w.heap.size, 0, none⟩) hw1).trans HC0.out
    by_cases hlt : k < dl
    · have l1 : k < ds.length := by omega
      obtain ⟨b, off, y, rfl, lt, hy, hI⟩ := HK.out.ks.at_ k l1
      obtain ⟨x, hx⟩ : ∃ x, ds[k] = x := ⟨_, rfl⟩
      rw [hx] at hI
      have hxm : x ∈ ds := by rw [← hx]; exact List.getElem_mem _
      have HC : Hid (Calls Tryd.prog 26 #[y.agg] wr (IntP (chk n x) wr)) := Lib.hid (rcheck_any w0 wr n y x hI HBZ.out (by have := HK.out.tN x hxm; omega))
      have HX := Lib.hid (And.intro hxm (show ds[k]? = some x by rw [List.getElem?_eq_getElem l1, hx]))
      have hye := hy.below HBZ.out lt
      obtain ⟨op, nn, t, p, pl, pc, u, ul, uc, o, q, ql, qc⟩ := y
      obtain ⟨e0, e1, e2, e3, e4, e5, e6⟩ := hye
      dsimp only at e0 e1 e2 e3 e4 e5 e6
      unfold Hd.agg at HC
      dsimp only at HC
      obtain ⟨c, hc⟩ : ∃ c, chk n x = c := ⟨_, rfl⟩
      rw [hc] at HC
      have HCE := Lib.hid hc
      have hk0 : (0 : Int) ≤ (k : Int) := by omega
      have hki : (k : Int) < (dl : Int) := by omega
      clear hy hI hx hxm hc lt
      go_wp2_with fail
      go_at_call 26; refine HC.out.mono ?_; rintro e w5 ⟨rfl, hB5⟩
      have HB5 := Lib.hid (bl_step HBr.out hB5)
      clear hB5 HC e0 e1 e2 e3 e4 e5 e6 c0 c2
      by_cases hz : c = 0
      · subst hz
        go_wp2
        go_roundw
        case rel => exact ⟨k + 1, by omega, by go_num, Lib.hid (Gr.all_at HX.out.2 HA.out HCE.out), HB5⟩
        case measure => simp [intOf]; omega
      · have hz2 : (c != 0) = true := by simpa using hz
        have hno := HR.out.symm.trans (ok_def (nm := nm) (fuel := fuel) HX.out.1 (by rw [HCE.out]; exact hz))
        go_wp2
        go_ret
        exact ⟨by (try rw [hno]); try rfl, bl_step HB1.out HB5.out⟩
    · have hki : ¬ (k : Int) < (dl : Int) := by omega
      obtain rfl : k = dl := by omega
      have HAA := Lib.hid (show ∀ x ∈ ds, chk n x = 0 by have := HA.out; rwa [List.take_of_length_le (by omega)] at this)
      have HRI := Lib.hid (Nm.rright_any nm wr (by unfold maxLen; omega))
      obtain ⟨b, hb⟩ : ∃ b, Nm.rightL nm.toList = b := ⟨_, rfl⟩
      have HRT := Lib.hid hb
      rw [hb] at HRI
      clear hb
      go_wp2_with fail
      go_at_call 27; refine HRI.out.mono ?_; rintro e w5 ⟨rfl, rfl⟩
      cases b
      · have hno := HR.out.symm.trans (ok_right HRT.out)
        go_wp2
        go_ret
        exact ⟨by (try rw [hno]); try rfl, HBA.out⟩
      · by_cases hd0 : k = 0
        · subst hd0
          have hd : ds = [] := List.eq_nil_of_length_eq_zero hdl
          have hno := HR.out.symm.trans (show okK n nm ds fuel = false by rw [hd]; exact ok_defs)
          go_wp2
          go_ret
          exact ⟨by (try rw [hno]); try rfl, HBA.out⟩
        · have hd1 : (0 : Int) < (k : Int) := by omega
          by_cases hf1 : fuel < 1
          · have hf1b : ¬ (1 : Int) ≤ fuel := by omega
            have hno := HR.out.symm.trans (ok_low (n := n) (nm := nm) (ds := ds) hf1)
            go_wp2
            go_ret
            exact ⟨by (try rw [hno]); try rfl, HBA.out⟩
          · have hf1b : (1 : Int) ≤ fuel := by omega
            by_cases hf2 : 1048576 < fuel
            · have hf2b : ¬ fuel ≤ 1048576 := by omega
              have hno := HR.out.symm.trans (ok_high (n := n) (nm := nm) (ds := ds) hf2)
              go_wp2
              go_ret
              exact ⟨by (try rw [hno]); (first | done | rfl | (show Ending.returned (.bool (decide (fuel ≤ 1048576))) = _; rw [decide_eq_false (by omega)])), HBA.out⟩
            · have hf2b : fuel ≤ 1048576 := by omega
              have hno := HR.out.symm.trans (ok_all HRT.out (by intro h; rw [h] at hdl; exact hd0 hdl.symm) (by omega) (by omega) HAA.out)
              go_wp2
              go_ret
              exact ⟨by (try rw [hno]); (first | done | rfl | (show Ending.returned (.bool (decide (fuel ≤ 1048576))) = _; rw [decide_eq_true (by omega)])), HBA.out⟩
end Go.Proofs.YtlpilbghblbpbaaDoor.Ky
/- WALK of the reference's Of. -/
namespace Go.Proofs.YtlpilbghblbpbaaDoor.Ky
open Go.RowKit
open Sw (SE NText TxE TxP sexp chk xt Cp chk_zero xt_len rask_all RNText rntext_any)
open Lx (bs bl_alloc bl_step)
open Gr (okS)
/-- A text and a number are answered. -/
def TxI (t : ByteArray) (e : Int) (w : World) (en : Ending) (w' : World) : Prop := en = .returned (.tuple #[.string t, .int .i64 e]) ∧ Below w.heap.size w w'
theorem lines_take {n : Nat} {nm : ByteArray} {ds : List Ex} {fuel : Int} (hn : nm.size ≤ 100) (hd : ds.length ≤ 10) (ht : ∀ e ∈ ds, tN n e ≤ 200) (h1 : 1 ≤ fuel) (h2 : fuel ≤ 1048576) (k : Nat) : (kText (kLines n nm (ds.take k) fuel)).length ≤ 3000000 :=
  lines_len hn (Nat.le_trans (by rw [List.length_take]; exact Nat.min_le_right _ _) hd) (fun e he => ht e (List.mem_of_mem_take he)) h1 h2
theorem lines_snoc {n : Nat} {nm : ByteArray} {ds : List Ex} {fuel : Int} {k : Nat} {x : Ex} (h : ds[k]? = some x) : kLines n nm (ds.take (k + 1)) fuel = kLines n nm (ds.take k) fuel ++ [sexp n x] := by
  unfold kLines
  rw [Gr.map_at (sexp n) h]
  rfl
theorem bs_lines {l : List ByteArray} {t : ByteArray} : bs (kText (l ++ [t])) = bs (kText l) ++ t ++ ⟨#[10]⟩ := by
  rw [kText_snoc]
  apply ByteArray.ext
  simp [bs]
theorem bs_two {nm t : ByteArray} : bs (kText [nm, t]) = nm ++ ⟨#[10]⟩ ++ t ++ ⟨#[10]⟩ := by
  apply ByteArray.ext
  simp [bs, kText]
set_option maxRecDepth 100000 in
set_option maxHeartbeats 16000000 in
theorem rof_any (w : World) (n : Nat) (nm : ByteArray) (rs : Bool) (a : Option Addr) (dl dc : Nat) (ds : List Ex) (fuel : Int) (hK : KN w n nm a dl ds) (w0 : World) (hb0 : Below w.heap.size w w0) (lo : -9223372036854775808 ≤ fuel) (hi0 : fuel ≤ 9223372036854775807) :
    Calls Tryd.prog 7 #[.agg #[.string nm, .bool rs, .slice a dl dc], .int .i64 fuel] w0 (TxI (keyT n nm ds fuel) (keyE n nm ds fuel) w0) := by
  have HK := Lib.hid hK
  have HB0 := Lib.hid hb0
  have hdl := hK.ks.count
  have hlen := hK.len
  have hnl := hK.name
  obtain ⟨KT, hKT⟩ : ∃ KT, keyT n nm ds fuel = KT := ⟨_, rfl⟩
  obtain ⟨KE, hKE⟩ : ∃ KE, keyE n nm ds fuel = KE := ⟨_, rfl⟩
  rw [hKT, hKE]
  have HNO := Lib.hid (show okK n nm ds fuel = false → KT = ⟨#[]⟩ ∧ KE = 1 from fun h => by rw [← hKT, ← hKE]; exact key_no h)
  have HYES := Lib.hid (show okK n nm ds fuel = true → KT = bs (kText (kLines n nm ds fuel)) ∧ KE = 0 from fun h => by rw [← hKT, ← hKE]; exact key_yes h)
  clear hK hKT hKE hb0
  obtain ⟨W1, hW1⟩ : ∃ W1, W1 = w0.alloc (.cells #[.string nm, .bool rs, .slice a dl dc] 24) := ⟨_, rfl⟩
  have d1 : W1.heap[w0.heap.size]? = some (.cells #[.string nm, .bool rs, .slice a dl dc] 24) := by rw [hW1]; exact World.alloc_heap_new _ _
  have hz1w : W1.heap.size = w0.heap.size + 1 := by rw [hW1]; simp
  have HB1 := Lib.hid (show Below w0.heap.size w0 W1 by rw [hW1]; exact bl_alloc (Below.refl _ _))
  have c0 : W1.cell? ⟨w0.heap.size, 0, none⟩ = some (.string nm) := by simp [World.cell?, d1]
  have c1 : W1.cell? ⟨w0.heap.size, 1, none⟩ = some (.bool rs) := by simp [World.cell?, d1]
  have c2 : W1.cell? ⟨w0.heap.size, 2, none⟩ = some (.slice a dl dc) := by simp [World.cell?, d1]
  have HC0 := Lib.hid c0
  have HC2 := Lib.hid c2
  have HZ1 := Lib.hid hz1w
  have HW1 := Lib.hid hW1
  have HRM := Lib.hid (rmay_any w W1 n nm rs a dl dc ds fuel HK.out (bl_step HB0.out HB1.out))
  obtain ⟨b, hb⟩ : ∃ b, okK n nm ds fuel = b := ⟨_, rfl⟩
  have HOK := Lib.hid hb
  rw [hb] at HRM
  clear hb d1 hz1w hW1
  go_enter Tryd.func7, Tryd.ntmps7
  go_upto_region 1 with fail
  rw [← HW1.out]
  go_wp2_with fail
  go_at_call 13; refine HRM.out.mono ?_; rintro e w2 ⟨rfl, hB2⟩
  have HB2 := Lib.hid (bl_step HB1.out hB2)
  have hL1 : w0.heap.size < W1.heap.size := by have := HZ1.out; omega
  have c0b : w2.cell? ⟨w0.heap.size, 0, none⟩ = some (.string nm) := (hB2.cell (p := ⟨w0.heap.size, 0, none⟩) hL1).trans HC0.out
  have c2b : w2.cell? ⟨w0.heap.size, 2, none⟩ = some (.slice a dl dc) := (hB2.cell (p := ⟨w0.heap.size, 2, none⟩) hL1).trans HC2.out
  have HL2 := Lib.hid (show w0.heap.size < w2.heap.size by have := hB2.size; omega)
  clear c0 c1 c2 hB2 HRM
  cases b
  · have hno := HNO.out HOK.out
    clear HNO HYES
    go_wp2
    go_ret2
    exact ⟨by rw [hno.1, hno.2]; rfl, HB2.out⟩
  · have hyes := HYES.out HOK.out
    have hok := HOK.out
    unfold okK at hok
    simp only [Bool.and_eq_true, decide_eq_true_eq, List.all_eq_true] at hok
    have HCH := Lib.hid (show ∀ x ∈ ds, chk n x = 0 from fun x hx => hok.2 x hx)
    have hf1 : 1 ≤ fuel := hok.1.1.2
    have hf2 : fuel ≤ 1048576 := hok.1.2
    clear hok HNO HYES
    have HT := fun W => Lib.hid (Nt.rtext_any fuel W lo hi0)
    have hTL := texts_len (fuel := fuel) hf1 hf2
    have HLT := fun k => Lib.hid (lines_take (n := n) (nm := nm) (ds := ds) hnl hlen HK.out.tN hf1 hf2 k)
    have HS0 := Lib.hid (show bs (kText (kLines n nm (ds.take 0) fuel)) = nm ++ ⟨#[10]⟩ ++ Nt.textS fuel ++ ⟨#[10]⟩ from bs_two)
    obtain ⟨T, hT⟩ : ∃ T, Nt.textS fuel = T := ⟨_, rfl⟩
    rw [hT] at HT HS0 hTL
    clear hT
    have HC0b := Lib.hid c0b
    have HC2b := Lib.hid c2b
    have hq1 : ¬ 9223372036854775807 < nm.size + 1 := by omega
    have hq2 : ¬ 9223372036854775807 < nm.size + 1 + T.size := by omega
    have hq3 : ¬ 9223372036854775807 < nm.size + 1 + T.size + 1 := by omega
    go_upto_region 3 with fail
    go_region_held3 (fun w' => w'.cell? ⟨w0.heap.size, 0, none⟩ = some (.string nm))
      (first | exact c0b | exact CK.out)
      (first
        | (go_at_call 14; (with_reducible refine (HT _).out.mono ?_); rintro e w3 ⟨rfl, hB3⟩
           have hq : Below w2.heap.size w2 w3 := ⟨hB3.os, hB3.tape, hB3.output, hB3.size, hB3.block⟩
           have CK := Lib.hid ((hq.cell (p := ⟨w0.heap.size, 0, none⟩) HL2.out).trans HC0b.out)
           have HB3 := Lib.hid hq
           clear hB3 hq))
    have HBW := Lib.hid (bl_step HB2.out HB3.out)
    have HC2d := Lib.hid (show w3.cell? ⟨w0.heap.size, 2, none⟩ = some (.slice a dl dc) from (HB3.out.cell (p := ⟨w0.heap.size, 2, none⟩) HL2.out).trans HC2b.out)
    have HL3 := Lib.hid (show w0.heap.size < w3.heap.size from Nat.lt_of_lt_of_le HL2.out HB3.out.size)
    have HBK := Lib.hid (bl_step HB0.out HBW.out)
    obtain ⟨S0, hS0⟩ : ∃ S0, nm ++ ⟨#[10]⟩ ++ T ++ ⟨#[10]⟩ = S0 := ⟨_, rfl⟩
    rw [hS0] at HS0
    rw [hS0]
    clear hS0
    clear HT hq1 hq2 hq3 CK c0b c2b HC0b HC2b hTL
    go_upto_region 5 with fail
    go_loopw [6, 7] (fun v i wr => ∃ (k : Nat), k ≤ dl ∧ i = .int .i64 k ∧ v = .string (bs (kText (kLines n nm (ds.take k) fuel))) ∧ Hid (Below w3.heap.size w3 wr)) (fun _ i _ => dl - (intOf i).toNat)
    case atStart => exact ⟨0, by omega, rfl, by rw [HS0.out], Lib.hid (Below.refl _ _)⟩
    case round =>
      obtain ⟨k, hk, rfl, rfl, hBr⟩ := hrel
      rename World => wr
      have HBr := Lib.hid hBr.out
      clear hBr
      have HBA := Lib.hid (bl_step HBK.out HBr.out)
      have c2 : wr.cell? ⟨w0.heap.size, 2, none⟩ = some (.slice a dl dc) := (HBr.out.cell (p := ⟨w0.heap.size, 2, none⟩) HL3.out).trans HC2d.out
      by_cases hlt : k < dl
      · have l1 : k < ds.length := by omega
        obtain ⟨b, off, y, rfl, lt, hy, hI⟩ := HK.out.ks.at_ k l1
        obtain ⟨x, hx⟩ : ∃ x, ds[k] = x := ⟨_, rfl⟩
        rw [hx] at hI
        have hxm : x ∈ ds := by rw [← hx]; exact List.getElem_mem _
        have hxk : ds[k]? = some x := by rw [List.getElem?_eq_getElem l1, hx]
        have hch := HCH.out x hxm
        have hlen2 := xt_len n x (chk_zero hch)
        have htn := HK.out.tN x hxm
        have HA : Hid (Calls Tryd.prog 15 #[y.agg] wr (TxP (bs (xt n x)) wr)) := Lib.hid (rask_all w (rntext_any w) n y x wr hI (chk_zero hch) HBA.out (by omega))
        have hse : sexp n x = bs (xt n x) := by unfold sexp; rw [if_pos hch]
        rw [← hse] at HA
        have hss := sexp_len htn
        have hsn : bs (kText (kLines n nm (ds.take (k + 1)) fuel)) = bs (kText (kLines n nm (ds.take k) fuel)) ++ sexp n x ++ ⟨#[10]⟩ := by rw [lines_snoc hxk, bs_lines]
        have hl0 := (HLT k).out
        obtain ⟨S, hS⟩ : ∃ S, bs (kText (kLines n nm (ds.take k) fuel)) = S := ⟨_, rfl⟩
        have hSs : S.size ≤ 3000000 := by rw [← hS, Lx.bs_size]; exact hl0
        rw [hS] at hsn
        rw [hS]
        obtain ⟨tx, htx⟩ : ∃ tx, sexp n x = tx := ⟨_, rfl⟩
        rw [htx] at HA hss hsn
        have HSN := Lib.hid hsn
        have hye := hy.below HBA.out lt
        obtain ⟨op, nn, t, p, pl, pc, u, ul, uc, o, q, ql, qc⟩ := y
        obtain ⟨e0, e1, e2, e3, e4, e5, e6⟩ := hye
        dsimp only at e0 e1 e2 e3 e4 e5 e6
        unfold Hd.agg at HA
        dsimp only at HA
        have hk0 : (0 : Int) ≤ (k : Int) := by omega
        have hki : (k : Int) < (dl : Int) := by omega
        have hq1 : ¬ 9223372036854775807 < S.size + tx.size := by omega
        have hq2 : ¬ 9223372036854775807 < S.size + tx.size + 1 := by omega
        clear hy hI hx hxm hxk hch hlen2 htn hse hsn hS htx lt hl0
        go_wp2_with (go_at_call 15; refine HA.out.mono ?_; rintro e w5 ⟨rfl, hB5⟩; have HB5 := Lib.hid (bl_step HBr.out hB5); clear hB5)
        go_roundw
        case rel => exact ⟨k + 1, by omega, by go_num, by rw [HSN.out], HB5⟩
        case measure => simp [intOf]; omega
      · have hki : ¬ (k : Int) < (dl : Int) := by omega
        obtain rfl : k = dl := by omega
        have hE : ds.take k = ds := List.take_of_length_le (by omega)
        rw [hE]
        rw [← hyes.1]
        have HY := Lib.hid hyes
        clear hyes hE
        go_wp2
        go_ret2
        exact ⟨by rw [HY.out.2]; rfl, bl_step HBW.out HBr.out⟩
end Go.Proofs.YtlpilbghblbpbaaDoor.Ky
/- WALKS of the law's awake and of the law. -/
namespace Go.Proofs.YtlpilbghblbpbaaDoor.Ky
open Go.RowKit
open Sw (SE NText TxE TxP sexp chk xt Cp chk_zero xt_len)
open Lx (bs bl_alloc bl_step)
open Gr (okS Nd NdAt NodeRow OkN FewR few_nodes)
def exO (op m : Int) : Ex := .mk op m ⟨#[]⟩ [] [] false []
def awD : List Ex := [exO 1 1, exO 4 2]
theorem aw_text : kText (kLines 1 ⟨#[97]⟩ awD 9) = [97, 10, 57, 10, 49, 10, 105, 110, 116, 10] := by kernel_rfl
theorem aw_ok : okK 1 ⟨#[97]⟩ awD 9 = true := by kernel_rfl
def awO : Obj := .cells #[.int .i64 1, .int .i64 1, .string ⟨#[]⟩, .slice none 0 0, .slice none 0 0, .bool false, .slice none 0 0, .int .i64 4, .int .i64 2, .string ⟨#[]⟩, .slice none 0 0, .slice none 0 0, .bool false, .slice none 0 0] 38
theorem str0 (W : World) : Nm.StrRow W none 0 [] := ⟨rfl, by omega, fun i x h => by simp at h, fun h => absurd h (by omega)⟩
theorem aw_in {W : World} (op m : Int) : InX W 1 ⟨op, m, ⟨#[]⟩, none, 0, 0, none, 0, 0, false, none, 0, 0⟩ (exO op m) := ⟨rfl, rfl, rfl, rfl, by decide, str0 W, ps0 _ _, ks0 _ _⟩
theorem aw_kn {W : World} {d : Nat} (hE : SE W) (hd : W.heap[d]? = some awO) : KN W 1 ⟨#[97]⟩ (some ⟨d, 0, none⟩) 2 awD := by
  have ld := (Array.getElem?_eq_some_iff.1 hd).1
  unfold awO at hd
  have e0 : HdAt W d (0 + 0 * 7) ⟨1, 1, ⟨#[]⟩, none, 0, 0, none, 0, 0, false, none, 0, 0⟩ := ⟨by simp [World.cell?, hd], by simp [World.cell?, hd], by simp [World.cell?, hd], by simp [World.cell?, hd], by simp [World.cell?, hd], by simp [World.cell?, hd], by simp [World.cell?, hd]⟩
  have e1 : HdAt W d (0 + 1 * 7) ⟨4, 2, ⟨#[]⟩, none, 0, 0, none, 0, 0, false, none, 0, 0⟩ := ⟨by simp [World.cell?, hd], by simp [World.cell?, hd], by simp [World.cell?, hd], by simp [World.cell?, hd], by simp [World.cell?, hd], by simp [World.cell?, hd], by simp [World.cell?, hd]⟩
  refine ⟨hE, by decide, by decide, fun e he => ?_, ⟨rfl, by omega, fun i hi => ?_⟩, fun i hi b off y hq hy => ?_⟩
  · rcases List.mem_cons.1 he with rfl | he
    · decide
    rcases List.mem_cons.1 he with rfl | he
    · decide
    cases he
  · have h2 : i < 2 := hi
    rcases Nat.lt_or_ge i 1 with h | h
    · obtain rfl : i = 0 := by omega
      exact ⟨d, 0, _, rfl, ld, e0, aw_in 1 1⟩
    · obtain rfl : i = 1 := by omega
      exact ⟨d, 0, _, rfl, ld, e1, aw_in 4 2⟩
  · have h2 : i < 2 := hi
    injection hq with hq
    injection hq with hb ho
    subst hb; subst ho
    rcases Nat.lt_or_ge i 1 with h | h
    · obtain rfl : i = 0 := by omega
      obtain rfl := Sw.hd_eq hy e0
      exact ⟨Nat.le_refl _, fun i hi => absurd hi (by simp), fun i hi => absurd hi (by simp)⟩
    · obtain rfl : i = 1 := by omega
      obtain rfl := Sw.hd_eq hy e1
      exact ⟨Nat.le_refl _, fun i hi => absurd hi (by simp), fun i hi => absurd hi (by simp)⟩
set_option maxRecDepth 100000 in
set_option maxHeartbeats 4000000 in
theorem awake_any (w : World) (hE : SE w) : Calls Tryd.prog 5 #[] w (BoolP true w) := by
  obtain ⟨W1, hW1⟩ : ∃ W1, W1 = w.alloc awO := ⟨_, rfl⟩
  have d1 : W1.heap[w.heap.size]? = some awO := by rw [hW1]; exact World.alloc_heap_new _ _
  have hB1 : Below w.heap.size w W1 := by rw [hW1]; exact bl_alloc (Below.refl _ _)
  have HO := Lib.hid (of_any W1 1 ⟨#[97]⟩ true (some ⟨w.heap.size, 0, none⟩) 2 2 awD 9 (aw_kn (hE.below hB1) d1) (by omega) (by omega))
  rw [(key_yes aw_ok).1, (key_yes aw_ok).2, aw_text] at HO
  have HB1 := Lib.hid hB1
  have HW1 := Lib.hid hW1
  clear d1 hB1 hW1
  go_enter Tryd.func5, Tryd.ntmps5
  go_wp2_with fail
  change Calls Tryd.prog 6 #[.agg #[.string ⟨#[97]⟩, .bool true, .slice (some ⟨w.heap.size, 0, none⟩) 2 2], .int .i64 9] (w.alloc awO) _
  rw [← HW1.out]
  refine HO.out.mono ?_; rintro e w2 ⟨rfl, hB2⟩
  have HB2 := Lib.hid (bl_step HB1.out hB2)
  have hl : (bs [97, 10, 57, 10, 49, 10, 105, 110, 116, 10]).toList = [97, 10, 57, 10, 49, 10, 105, 110, 116, 10] := by rw [Lib.toList_data]; rfl
  have hl2 : ([97, 10, 57, 10, 49, 10, 105, 110, 116, 10] == ([97, 10, 57, 10, 49, 10, 105, 110, 116, 10] : List UInt8)) = true := by rfl
  clear hB2
  go_wp2
  go_ret
  exact ⟨by first | rfl | (simp only [hl, hl2]; rfl), HB2.out⟩
theorem row_one {W : World} {d n : Nat} {nm : ByteArray} {rs : Bool} {a : Option Addr} {dl dc : Nat} {ds : List Ex} (hs : okS nm) (hk : InKs (InX W n) W a dl ds) (hd : W.heap[d]? = some (.cells #[.string nm, .bool rs, .slice a dl dc] 24)) : NodeRow W n (some ⟨d, 0, none⟩) 1 [⟨nm, rs, ds⟩] := by
  have ld := (Array.getElem?_eq_some_iff.1 hd).1
  refine ⟨rfl, by omega, fun _ => ⟨d, 0, rfl, ld, fun i x hx => ?_⟩⟩
  match i, hx with
  | 0, hx =>
    injection hx with hx
    subst hx
    exact ⟨a, dl, dc, ⟨by simp [World.cell?, hd], by simp [World.cell?, hd], by simp [World.cell?, hd], hs, hk⟩⟩
set_option maxRecDepth 100000 in
set_option maxHeartbeats 4000000 in
theorem keyTexts_walk (w : World) (n : Nat) (nm : ByteArray) (rs : Bool) (a : Option Addr) (dl dc : Nat) (ds : List Ex) (fuel : Int) (hE : SE w) (hs : okS nm) (hk : InKs (InX w n) w a dl ds) (hc : CKs w n a ds) (lo : -9223372036854775808 ≤ fuel) (hi0 : fuel ≤ 9223372036854775807) :
    Calls Tryd.prog 3 #[.agg #[.string nm, .bool rs, .slice a dl dc], .int .i64 fuel] w (BoolP true w) := by
  obtain ⟨W0, hW0⟩ : ∃ W0, W0 = w.alloc (.cells #[.string nm, .bool rs, .slice a dl dc] 24) := ⟨_, rfl⟩
  have d0 : W0.heap[w.heap.size]? = some (.cells #[.string nm, .bool rs, .slice a dl dc] 24) := by rw [hW0]; exact World.alloc_heap_new _ _
  have hz0 : W0.heap.size = w.heap.size + 1 := by rw [hW0]; simp
  have hB0 : Below w.heap.size w W0 := by rw [hW0]; exact bl_alloc (Below.refl _ _)
  obtain ⟨W1, hW1⟩ : ∃ W1, W1 = W0.alloc (.cells #[.string nm, .bool rs, .slice a dl dc] 24) := ⟨_, rfl⟩
  have d1 : W1.heap[W0.heap.size]? = some (.cells #[.string nm, .bool rs, .slice a dl dc] 24) := by rw [hW1]; exact World.alloc_heap_new _ _
  have hB01 : Below W0.heap.size W0 W1 := by rw [hW1]; exact bl_alloc (Below.refl _ _)
  have hB1 : Below w.heap.size w W1 := bl_step hB0 hB01
  rw [hz0] at d1
  have HF := Lib.hid (few_nodes (some ⟨w.heap.size + 1, 0, none⟩) 1 1 n [⟨nm, rs, ds⟩] W1 (row_one hs (hk.below (fun _ _ h => h.below hB1) hB1) d1))
  have HC := Lib.hid (show W0.cell? ⟨w.heap.size, 0, none⟩ = some (.string nm) ∧ W0.cell? ⟨w.heap.size, 1, none⟩ = some (.bool rs) ∧ W0.cell? ⟨w.heap.size, 2, none⟩ = some (.slice a dl dc) by refine ⟨?_, ?_, ?_⟩ <;> simp [World.cell?, d0])
  have HBX := Lib.hid (show ∀ W, Below W0.heap.size W0 W → W.cell? ⟨w.heap.size, 0, none⟩ = some (.string nm) ∧ W.cell? ⟨w.heap.size, 1, none⟩ = some (.bool rs) ∧ W.cell? ⟨w.heap.size, 2, none⟩ = some (.slice a dl dc) from fun W hb => ⟨(hb.cell (p := ⟨w.heap.size, 0, none⟩) (by simp; omega)).trans HC.out.1, (hb.cell (p := ⟨w.heap.size, 1, none⟩) (by simp; omega)).trans HC.out.2.1, (hb.cell (p := ⟨w.heap.size, 2, none⟩) (by simp; omega)).trans HC.out.2.2⟩)
  have HB0 := Lib.hid hB0
  have HB01 := Lib.hid hB01
  have HB1 := Lib.hid hB1
  have HW1 : Hid (W1 = (w.alloc (.cells #[.string nm, .bool rs, .slice a dl dc] 24)).alloc (.cells #[.string nm, .bool rs, .slice a dl dc] 24)) := Lib.hid (by rw [hW1, hW0])
  have HE := Lib.hid hE
  have HKs := Lib.hid (And.intro hk hc)
  clear d0 d1 hB0 hB01 hB1 hW0 hW1 hE hk hc hz0
  go_enter Tryd.func3, Tryd.ntmps3
  go_wp2_with fail
  rw [← HW1.out]
  refine HF.out.mono ?_; rintro e w2 ⟨b, rfl, hB2, hF⟩
  have HD2 := Lib.hid (bl_step HB01.out hB2)
  have HB2 := Lib.hid (bl_step HB0.out HD2.out)
  have HFE := Lib.hid hF
  clear hB2 hF HF
  cases b
  · have HA := Lib.hid (awake_any w2 (HE.out.below HB2.out))
    go_wp2_with (go_at_call 5; refine HA.out.mono ?_; rintro e w3 ⟨rfl, hB3⟩; have HB3 := Lib.hid (bl_step HB2.out hB3); clear hB3)
    go_ret
    exact ⟨by rfl, HB3.out⟩
  · have hfe := (HFE.out rfl).2 _ (List.mem_singleton.2 rfl)
    have HN := Lib.hid (show KN w n nm a dl ds from ⟨HE.out, hfe.1, hfe.2.1, hfe.2.2, HKs.out.1, HKs.out.2⟩)
    have HO := Lib.hid (of_any w2 n nm rs a dl dc ds fuel (HN.out.below HB2.out) lo hi0)
    have HRO := fun W h => Lib.hid (rof_any w n nm rs a dl dc ds fuel HN.out W h lo hi0)
    have HAW := fun W (h : Below w.heap.size w W) => Lib.hid (awake_any W (HE.out.below h))
    obtain ⟨KT, hKT⟩ : ∃ KT, keyT n nm ds fuel = KT := ⟨_, rfl⟩
    obtain ⟨KE, hKE⟩ : ∃ KE, keyE n nm ds fuel = KE := ⟨_, rfl⟩
    have hke : -9223372036854775808 ≤ KE ∧ KE ≤ 9223372036854775807 := by rw [← hKE]; unfold keyE; split <;> omega
    rw [hKT, hKE] at HO HRO
    clear hKT hKE hfe HFE hke
    obtain ⟨k0, k1, k2⟩ := HBX.out _ HD2.out
    go_wp2_with fail
    go_at_call 6; refine HO.out.mono ?_; rintro e w3 ⟨rfl, hB3⟩
    have HD3 := Lib.hid (bl_step HD2.out hB3)
    have HB3 := Lib.hid (bl_step HB0.out HD3.out)
    clear hB3 HO k0 k1 k2
    obtain ⟨k0, k1, k2⟩ := HBX.out _ HD3.out
    go_wp2_with fail
    go_at_call 7; refine (HRO _ HB3.out).out.mono ?_; rintro e w4 ⟨rfl, hB4⟩
    have HB4 := Lib.hid (bl_step HB3.out hB4)
    clear hB4 HRO k0 k1 k2
    go_wp2_with fail
    go_at_call 5; refine (HAW _ HB4.out).out.mono ?_; rintro e w5 ⟨rfl, hB5⟩
    have HB5 := Lib.hid (bl_step HB4.out hB5)
    clear hB5 HAW
    go_wp2
    go_ret
    exact ⟨by rfl, HB5.out⟩
end Go.Proofs.YtlpilbghblbpbaaDoor.Ky
