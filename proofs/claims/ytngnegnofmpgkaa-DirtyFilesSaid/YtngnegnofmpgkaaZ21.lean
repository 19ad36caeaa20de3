/- Iq, Ir, Is -/
import Derived.Test.YtngnegnofmpgkaaZ19
import Derived.Test.YtngnegnofmpgkaaZ20
/- WALKS of the reference's Reads, Touched. -/
namespace Go.Proofs.Ytngnegnofmpgkaa.Gr
open Go.RowKit Go.Maps Go.Sort
open Go.Proofs.Ytngnegnofmpgkaa.Nm (StrRow)
theorem PG_pts {n : Nat} {xs : List Nd} (h : Fine n xs) : (fun s => inB s (npL n xs)) = PG (xs.map Nd.name) (lnL n xs) := by
  funext s
  have hs := npL_fine h
  rw [Bool.eq_iff_iff, inB_iff, hs.2 s]
  refine ⟨fun h => h.2, fun hp => ⟨?_, hp⟩⟩
  unfold PG at hp
  rw [Bool.or_eq_true, inB_iff, List.any_eq_true] at hp
  rcases hp with hp | ⟨y, hy, hp⟩
  · exact h.names s hp
  · rw [of_decide_eq_true hp]; exact (h.lines y hy).2
theorem ends_in {n : Nat} {xs : List Nd} (h : Fine n xs) : ∀ y ∈ lnL n xs, y.1 ∈ npL n xs ∧ y.2 ∈ npL n xs := by
  intro y hy
  have hp := PG_ends (lnL_from (n := n) (xs := xs)) y hy
  rw [← PG_pts h] at hp
  exact ⟨inB_iff.1 hp.1, inB_iff.1 hp.2⟩
theorem only_false (xs : List Nd) (l : List ByteArray) : onlyL false xs l = l.filter fun s => inB s (xs.map Nd.name) := by
  unfold onlyL
  congr 1
  funext s
  cases inB s (xs.map Nd.name) <;> rfl
/-- What the reference's Reads hands back. -/
theorem readp_of {n : Nat} {xs : List Nd} (h : Fine n xs) {ls : List Ln2} (hls : ∀ y ∈ ls, y.2 ∈ npL n xs) (l : List ByteArray) {w w0 w' : World} {e : Ending} (hT : TxtsP (onlyL false xs (reachL (npL n xs) ls l)) w0 e w') (hb : Below w.heap.size w w0) : ReadP ls (PG (xs.map Nd.name) (lnL n xs)) (xs.map Nd.name) l w e w' := by
  obtain ⟨v, rfl, hr, hB⟩ := hT
  obtain ⟨h1, h2⟩ := reach_set (pts := npL n xs) (l := l) (ls := ls) (fun y hy => inB_iff.2 (hls y hy))
  have hg : ∀ k ∈ reachL (npL n xs) ls l, k ∈ npL n xs := fun k hk => by
    have := (h2 k).1 hk
    cases this with
    | base _ h => exact inB_iff.1 h
    | step _ h => exact hls _ (inL_iff.1 h)
  rw [only_false] at hr
  have hpl := npL_len n xs
  have hlx := h.few.lines
  have hxl := h.len
  refine ⟨_, ⟨v, rfl, owns_up hr hb.size, below_step hb hB⟩, h1.sublist List.filter_sublist, fun k => ?_, fun k hk => npL_small h k (hg k (List.mem_filter.1 hk).1), ?_⟩
  · rw [List.mem_filter, h2, inB_iff, PG_pts h]
  · refine Nat.le_trans (List.length_filter_le _ _) (Nat.le_trans (nodup_le _ _ h1.nodup hg) (by omega))
set_option maxRecDepth 100000 in
set_option maxHeartbeats 16000000 in
theorem rtouched_any (a : Option Addr) (len cap n : Nat) (xs : List Nd) (a2 : Option Addr) (cap2 : Nat) (l : List ByteArray) (w : World) (hX : NodeRow w n a len xs) (hF : Fine n xs) (hS : StrRow w a2 l.length l) :
    Calls Try.prog 33 #[.slice a len cap, .slice a2 l.length cap2] w (ReadP (turnL (lnL n xs)) (PG (xs.map Nd.name) (lnL n xs)) (xs.map Nd.name) l w) := by
  have hcx := hX.count
  have HX := Lib.hid hX
  have HS := Lib.hid hS
  have HF := Lib.hid hF
  have hl : len ≤ 40 := by have := hF.len; omega
  have hpl := npL_len n xs
  have hlx := hF.few.lines
  have HEI := Lib.hid (show ∀ y ∈ turnL (lnL n xs), y.2 ∈ npL n xs from fun y hy => by
    obtain ⟨z, hz, rfl⟩ := List.mem_map.1 hy
    exact (ends_in hF z hz).1)
  have HTO := Lib.hid (turn_ok (P := okS) hF.lines)
  obtain ⟨pts, hpts⟩ : ∃ pts, npL n xs = pts := ⟨_, rfl⟩
  obtain ⟨ls, hls⟩ : ∃ ls, lnL n xs = ls := ⟨_, rfl⟩
  have HNP := Lib.hid (npoints_any a len cap n xs w hX (by omega) hF.few hF.tN)
  have HRO := Lib.hid (fun (W W' : World) (e : Ending) (hT : TxtsP (onlyL false xs (reachL (npL n xs) (turnL (lnL n xs)) l)) W e W') (hb : Below w.heap.size w W) => readp_of hF HEI.out l hT hb)
  rw [hpts, hls] at hpl HEI HRO
  rw [hls] at HTO
  have htl : (turnL ls).length = ls.length := by unfold turnL; rw [List.length_map]
  have HTL := Lib.hid htl
  rw [hls] at hlx
  have HPT := Lib.hid hpts
  have HLS := Lib.hid hls
  clear hX hS hF hpts hls hcx htl
  go_enter Try.func33, Try.ntmps33
  go_wp2_with fail
  go_at_call 52; refine HNP.out.mono ?_; rw [HPT.out]; rintro e w1 ⟨a1, c1, rfl, hS1, hB1⟩
  have HS1 := Lib.hid hS1
  have HB1 := Lib.hid hB1
  clear hS1 hB1 HNP
  go_wp2_with fail
  go_at_call 54; refine (rlines_any a len cap n xs w1 (HX.out.below HB1.out) (by omega) HF.out.few HF.out.tN).mono ?_; rw [HLS.out]; rintro e w2 ⟨v2, rfl, hr2, hB2⟩
  obtain ⟨a3, c3, rfl, hR2⟩ := line_row hr2 (by omega) (by rw [← HLS.out]; exact HF.out.lines)
  have HB2 := Lib.hid (below_step HB1.out hB2)
  have HP2 := Lib.hid (HS1.out.below hB2)
  have HR2 := Lib.hid hR2
  clear hr2 hB2 hR2 HS1 HB1
  go_wp2_with fail
  go_at_call 53; refine (rturned_any a3 ls.length c3 ls w2 HR2.out (by omega)).mono ?_; rintro e w5 ⟨v5, rfl, hr5, hB5⟩
  obtain ⟨a5, c5, rfl, hR5⟩ := line_row hr5 (by have := HTL.out; omega) HTO.out
  have HB5 := Lib.hid (below_step HB2.out hB5)
  have HP5 := Lib.hid (HP2.out.below hB5)
  have HR5 := Lib.hid hR5
  obtain ⟨tl, htle⟩ : ∃ tl, turnL ls = tl := ⟨_, rfl⟩
  rw [htle] at HEI HRO HTL HR5
  rw [htle]
  have HTE := Lib.hid htle
  clear hr5 hB5 hR5 HP2 HR2 HB2 htle
  go_wp2_with fail
  go_at_call 51; refine (rreach_any a1 a5 a2 c1 c5 cap2 pts l tl w5 HP5.out HR5.out (HS.out.below HB5.out) HEI.out (by have := HF.out.len; omega)).mono ?_; rintro e w3 ⟨a4, c4, rfl, hS3, hB3⟩
  have HB3 := Lib.hid (below_step HB5.out hB3)
  have HS3 := Lib.hid hS3
  have HLN := Lib.hid (show (reachL pts tl l).length ≤ 1000000 by
    obtain ⟨h1, h2⟩ := reach_set (pts := pts) (l := l) (ls := tl) (fun y hy => inB_iff.2 (HEI.out y hy))
    refine Nat.le_trans (nodup_le _ pts h1.nodup fun k hk => ?_) (by have := HF.out.len; omega)
    have := (h2 k).1 hk
    cases this with
    | base _ h => exact inB_iff.1 h
    | step _ h => exact HEI.out _ (inL_iff.1 h))
  clear hS3 hB3 HP5 HR5
  go_wp2_with fail
  go_at_call 50; refine (ronly_any a a4 len cap _ c4 n xs _ false w3 (HX.out.below HB3.out) HS3.out HLN.out).mono ?_; rintro e w4 hT4
  obtain ⟨r, ⟨v, rfl, hr, hB⟩, rest⟩ := HRO.out w3 w4 e hT4 HB3.out
  have HZ := Lib.hid (And.intro hr (And.intro hB rest))
  clear hT4 hr hB rest
  go_wp2_with fail
  go_ret
  rw [HLS.out, HTE.out]
  exact ⟨r, ⟨v, rfl, HZ.out.1, HZ.out.2.1⟩, HZ.out.2.2⟩
end Go.Proofs.Ytngnegnofmpgkaa.Gr
/- WALK of RefsHang. -/
namespace Go.Proofs.Ytngnegnofmpgkaa.Gr
open Go.RowKit Go.Maps Go.Sort
open Go.Proofs.Ytngnegnofmpgkaa.Nm (StrRow)
theorem dp_line {ls : List Ln2} {T : ByteArray → Bool} {s k : ByteArray} (h : Dp (inL ls) T s k) : ∃ y ∈ ls, y.2 = k := by
  cases h with
  | base h => exact ⟨_, inL_iff.1 h, rfl⟩
  | step _ _ _ h => exact ⟨_, inL_iff.1 h, rfl⟩
/-- A row that Deps hands back. -/
theorem deps_row {n : Nat} {xs : List Nd} (h : Fine n xs) {s : ByteArray} {w w' : World} {e : Ending} (hd : DepsP (inL (lnL n xs)) (fun t => inB t (resL xs)) s w e w') : ∃ r, RowR r w e w' ∧ Rise r ∧ (∀ k, k ∈ r ↔ (Dp (inL (lnL n xs)) (fun t => inB t (resL xs)) s k ∧ k ≠ s ∧ inB k (resL xs) = true)) ∧ (∀ k ∈ r, okS k) ∧ r.length ≤ 300000 := by
  obtain ⟨r, hT, hr, hm⟩ := hd
  have hok : ∀ k ∈ r, okS k := fun k hk => by
    obtain ⟨y, hy, e⟩ := dp_line ((hm k).1 hk).1
    rw [← e]
    exact (h.lines y hy).2
  have hl : r.length ≤ 300000 := by
    refine Nat.le_trans (nodup_le r ((lnL n xs).map (·.2)) hr.nodup fun k hk => ?_) (by rw [List.length_map]; exact h.few.lines)
    obtain ⟨y, hy, e⟩ := dp_line ((hm k).1 hk).1
    exact List.mem_map.2 ⟨y, hy, e⟩
  exact ⟨r, row_of hT (by omega) hok, hr, hm, hok, hl⟩
theorem reads_row {ls : List Ln2} {P : ByteArray → Bool} {ns l : List ByteArray} {w w' : World} {e : Ending} (h : ReadP ls P ns l w e w') : ∃ r, RowR r w e w' ∧ Rise r ∧ (∀ k, k ∈ r ↔ Rc (inL ls) P l k ∧ k ∈ ns) ∧ (∀ k ∈ r, okS k) ∧ r.length ≤ 1000000 := by
  obtain ⟨r, hT, hr, hm, hok, hl⟩ := h
  exact ⟨r, row_of hT (by omega) hok, hr, hm, hok, hl⟩
/-- What the law holds. -/
structure HW (n : Nat) (xs : List Nd) (a : Option Addr) (len : Nat) (l : List ByteArray) (a2 : Option Addr) (w wr : World) : Prop where
  below : Below w.heap.size w wr
  nodes : NodeRow wr n a len xs
  names : StrRow wr a2 l.length l
theorem HW.step {n : Nat} {xs : List Nd} {a : Option Addr} {len : Nat} {l : List ByteArray} {a2 : Option Addr} {w wr w' : World} (h : HW n xs a len l a2 w wr) (hb : Below wr.heap.size wr w') : HW n xs a len l a2 w w' :=
  ⟨below_step h.below hb, h.nodes.below hb, h.names.below hb⟩
end Go.Proofs.Ytngnegnofmpgkaa.Gr
/- WALK of RefsApart. -/
namespace Go.Proofs.Ytngnegnofmpgkaa.Gr
open Go.RowKit Go.Maps Go.Sort
open Go.Proofs.Ytngnegnofmpgkaa.Nm (StrRow)
theorem rc_trans {L : ByteArray → ByteArray → Bool} {P : ByteArray → Bool} {l : List ByteArray} {j m : ByteArray} (h : Rc L P l j) (k : Rc L P [j] m) : Rc L P l m := by
  induction k with
  | base h1 _ => rw [List.mem_singleton.1 h1]; exact h
  | step _ h2 ih => exact .step ih h2
theorem rc_turn {ls : List Ln2} {P : ByteArray → Bool} (hP : ∀ y ∈ ls, P y.1 = true ∧ P y.2 = true) {a k : ByteArray} (ha : P a = true) (h : Rc (inL ls) P [a] k) : Rc (inL (turnL ls)) P [k] a := by
  induction h with
  | base h1 _ => rw [List.mem_singleton.1 h1]; exact .base (by simp) ha
  | step _ h2 ih =>
    have hy := inL_iff.1 h2
    exact rc_trans (.step (.base (by simp) (hP _ hy).2) (inL_iff.2 (List.mem_map.2 ⟨_, hy, rfl⟩))) ih
theorem turn_turn (ls : List Ln2) : turnL (turnL ls) = ls := by
  unfold turnL
  rw [List.map_map]
  exact List.map_id _
theorem dp_rc {ls : List Ln2} {T P : ByteArray → Bool} {a k : ByteArray} (ha : P a = true) (h : Dp (inL ls) T a k) : Rc (inL ls) P [a] k := by
  induction h with
  | base h => exact .step (.base (by simp) ha) h
  | step _ _ _ h ih => exact .step ih h
theorem PG_of_name {ns : List ByteArray} {ls : List Ln2} {s : ByteArray} (h : s ∈ ns) : PG ns ls s = true := by
  unfold PG
  rw [inB_iff.2 h]
  rfl
theorem res_name {xs : List Nd} {k : ByteArray} (h : inB k (resL xs) = true) : k ∈ xs.map Nd.name := by
  have h := inB_iff.1 h
  unfold resL at h
  obtain ⟨y, hy, e⟩ := List.mem_map.1 h
  exact List.mem_map.2 ⟨y, (List.mem_filter.1 hy).1, e⟩
/-- What the law holds. -/
structure AW (n : Nat) (xs : List Nd) (a : Option Addr) (len : Nat) (rd : List ByteArray) (a5 : Option Addr) (dp : List ByteArray) (a6 : Option Addr) (w wr : World) : Prop where
  below : Below w.heap.size w wr
  nodes : NodeRow wr n a len xs
  reads : StrRow wr a5 rd.length rd
  deps : StrRow wr a6 dp.length dp
theorem AW.step {n : Nat} {xs : List Nd} {a : Option Addr} {len : Nat} {rd dp : List ByteArray} {a5 a6 : Option Addr} {w wr w' : World} (h : AW n xs a len rd a5 dp a6 w wr) (hb : Below wr.heap.size wr w') : AW n xs a len rd a5 dp a6 w w' :=
  ⟨below_step h.below hb, h.nodes.below hb, h.reads.below hb, h.deps.below hb⟩
/-- Has(reads, b) and Has(touched, a) are the same. -/
theorem touch_iff {n : Nat} {xs : List Nd} {s t : ByteArray} (hs : s ∈ xs.map Nd.name) (ht : t ∈ xs.map Nd.name) {rd tc : List ByteArray} (h1 : ∀ k, k ∈ rd ↔ Rc (inL (lnL n xs)) (PG (xs.map Nd.name) (lnL n xs)) [s] k ∧ k ∈ xs.map Nd.name)
    (h2 : ∀ k, k ∈ tc ↔ Rc (inL (turnL (lnL n xs))) (PG (xs.map Nd.name) (lnL n xs)) [t] k ∧ k ∈ xs.map Nd.name) : inB t rd = inB s tc := by
  have he := PG_ends (lnL_from (n := n) (xs := xs))
  rw [Bool.eq_iff_iff, inB_iff, inB_iff, h1, h2]
  constructor
  · rintro ⟨h, -⟩
    exact ⟨rc_turn he (PG_of_name hs) h, hs⟩
  · rintro ⟨h, -⟩
    have := rc_turn (ls := turnL (lnL n xs)) (turn_ok (P := fun s => PG (xs.map Nd.name) (lnL n xs) s = true) he) (PG_of_name ht) h
    rw [turn_turn] at this
    exact ⟨this, ht⟩
end Go.Proofs.Ytngnegnofmpgkaa.Gr
