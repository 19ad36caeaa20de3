/- WALKS of dirty's Nodes and the reference's. -/
import Derived.Test.YtngnegnofmpgkaaAf
import Derived.Test.YtngnegnofmpgkaaZ19
import Derived.Test.YtngnegnofmpgkaaZ21
namespace Go.Proofs.Ytngnegnofmpgkaa.Gr
open Go.RowKit Go.Maps Go.Sort
open Go.Proofs.Ytngnegnofmpgkaa.Nm (StrRow)
/-- What has changed, as the reference lists it, is handed back. -/
theorem namesN_row (w0 : World) (a : Option Addr) (len cap : Nat) (a2 : Option Addr) (len2 cap2 n : Nat) (xs ys : List Nd) (w : World) (hX : NodeRow w0 n a len xs) (hY : NodeRow w0 n a2 len2 ys) (hl : len ≤ 100000) (hl2 : len2 ≤ 100000)
    (hnx : (xs.map Nd.name).Nodup) (hny : (ys.map Nd.name).Nodup) (hB : Below w0.heap.size w0 w) : Calls Try.prog 13 #[.slice a len cap, .slice a2 len2 cap2] w (RowR (rcL Nd.name qN xs ys) w) := by
  refine (namesN_any w0 a len cap a2 len2 cap2 n xs ys w hX hY hl hl2 hnx hny hB).mono ?_
  rintro e w' ⟨l, hT, hs, hm⟩
  exact set_row hT hs (rcL_set (row_of_mem hX) (row_of_mem hY)) (by omega)
set_option maxRecDepth 100000 in
set_option maxHeartbeats 1000000 in
theorem nodesN_any (a : Option Addr) (len cap : Nat) (a2 : Option Addr) (len2 cap2 n : Nat) (xs ys : List Nd) (w : World) (hX : NodeRow w n a len xs) (hY : NodeRow w n a2 len2 ys) (hl : len ≤ 40) (hl2 : len2 ≤ 40) (hnx : (xs.map Nd.name).Nodup) (hny : (ys.map Nd.name).Nodup)
    (hF : FewN n ys) (hLn : ∀ y ∈ lnL n ys, okS y.1 ∧ okS y.2) : Calls Try.prog 15 #[.slice a len cap, .slice a2 len2 cap2] w (ReadP (turnL (lnL n ys)) (PG (ys.map Nd.name) (lnL n ys)) (ys.map Nd.name) (rcL Nd.name qN xs ys) w) := by
  have HN := Lib.hid (namesN_row w a len cap a2 len2 cap2 n xs ys w hX hY (by omega) (by omega) hnx hny (Below.refl _ _))
  have HY := Lib.hid hY
  have HF := Lib.hid hF
  have HL := Lib.hid hLn
  have HLN := Lib.hid (show (rcL Nd.name qN xs ys).length ≤ 80 by
    have := rcL_len Nd.name qN xs ys
    have := hX.count
    have := hY.count
    omega)
  obtain ⟨l, hlq⟩ : ∃ l, rcL Nd.name qN xs ys = l := ⟨_, rfl⟩
  rw [hlq] at HN HLN
  rw [hlq]
  clear hX hY hnx hny hF hLn hlq
  go_enter Try.func15, Try.ntmps15
  go_wp2_with fail
  go_at_call 13; refine HN.out.mono ?_; rintro e w2 ⟨a3, c3, rfl, hS2, hB2⟩
  have HB2 := Lib.hid hB2
  have HT := Lib.hid (touched_any a2 len2 cap2 n ys a3 l.length c3 l w2 (HY.out.below hB2) (by omega) HF.out HL.out hS2 (by have := HLN.out; omega))
  clear hS2 hB2 HN
  go_wp2_with fail
  go_at_call 32; refine HT.out.mono ?_; rintro e w3 hR
  obtain ⟨r, ⟨v, rfl, hr, hB3⟩, rest⟩ := hR
  have HR := Lib.hid (And.intro hr (And.intro hB3 rest))
  clear hr hB3 rest HT
  go_wp2_with fail
  go_ret
  exact ⟨r, ⟨v, rfl, owns_up HR.out.1 HB2.out.size, below_step HB2.out HR.out.2.1⟩, HR.out.2.2⟩
set_option maxRecDepth 100000 in
set_option maxHeartbeats 1000000 in
theorem rnodesN_any (a : Option Addr) (len cap : Nat) (a2 : Option Addr) (len2 cap2 n : Nat) (xs ys : List Nd) (w : World) (hX : NodeRow w n a len xs) (hY : NodeRow w n a2 len2 ys) (hl : len ≤ 40) (hF : Fine n ys) :
    Calls Try.prog 16 #[.slice a len cap, .slice a2 len2 cap2] w (ReadP (turnL (lnL n ys)) (PG (ys.map Nd.name) (lnL n ys)) (ys.map Nd.name) (rcL Nd.name qN xs ys) w) := by
  have hl2 : len2 ≤ 40 := by have := hF.len; have := hY.count; omega
  have HN := Lib.hid (rnamesN_any a len cap a2 len2 cap2 n xs ys w hX hY (by omega) (by omega) hF.nodup)
  have HY := Lib.hid hY
  have HF := Lib.hid hF
  obtain ⟨l, hlq⟩ : ∃ l, rcL Nd.name qN xs ys = l := ⟨_, rfl⟩
  rw [hlq] at HN
  rw [hlq]
  clear hX hY hF hlq
  go_enter Try.func16, Try.ntmps16
  go_wp2_with fail
  go_at_call 14; refine HN.out.mono ?_; rintro e w2 ⟨a3, c3, rfl, hS2, hB2⟩
  have HB2 := Lib.hid hB2
  have HT := Lib.hid (rtouched_any a2 len2 cap2 n ys a3 c3 l w2 (HY.out.below hB2) HF.out hS2)
  clear hS2 hB2 HN
  go_wp2_with fail
  go_at_call 33; refine HT.out.mono ?_; rintro e w3 hR
  obtain ⟨r, ⟨v, rfl, hr, hB3⟩, rest⟩ := hR
  have HR := Lib.hid (And.intro hr (And.intro hB3 rest))
  clear hr hB3 rest HT
  go_wp2_with fail
  go_ret
  exact ⟨r, ⟨v, rfl, owns_up HR.out.1 HB2.out.size, below_step HB2.out HR.out.2.1⟩, HR.out.2.2⟩
/-- Of the same nodes none is dirty. -/
theorem rcL_same {xs : List Nd} (h : ∀ x ∈ xs, okS x.name) : rcL Nd.name qN xs xs = [] := by
  have hs := rcL_set (q := qN) h h
  refine List.eq_nil_iff_forall_not_mem.2 fun s hm => ?_
  have := ((hs.2 s).1 hm).2
  rw [chS_none qN_refl] at this
  cases this
theorem rc_none {L : ByteArray → ByteArray → Bool} {P : ByteArray → Bool} {k : ByteArray} (h : Rc L P [] k) : False := by
  induction h with
  | base h _ => cases h
  | step _ _ ih => exact ih
end Go.Proofs.Ytngnegnofmpgkaa.Gr
