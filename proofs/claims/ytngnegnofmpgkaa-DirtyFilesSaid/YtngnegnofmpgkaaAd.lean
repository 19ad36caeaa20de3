/- WALKS of dirty's Names; of the reference's Same of nodes. -/
import Derived.Test.YtngnegnofmpgkaaAc
import Derived.Test.YtngnegnofmpgkaaTh
namespace Go.Proofs.Ytngnegnofmpgkaa.Gr
open Go.RowKit Go.Maps Go.Sort
open Go.Proofs.Ytngnegnofmpgkaa.Nm (StrRow)
set_option maxRecDepth 100000 in
theorem namesN_any (w0 : World) (a : Option Addr) (len cap : Nat) (a2 : Option Addr) (len2 cap2 n : Nat) (xs ys : List Nd) (w : World) (hX : NodeRow w0 n a len xs) (hY : NodeRow w0 n a2 len2 ys) (hl : len ≤ 100000) (hl2 : len2 ≤ 100000)
    (hnx : (xs.map Nd.name).Nodup) (hny : (ys.map Nd.name).Nodup) (hB : Below w0.heap.size w0 w) : Calls Try.prog 13 #[.slice a len cap, .slice a2 len2 cap2] w (SetR (chS Nd.name qN xs ys) 200000 w) := by
  have HC := Lib.hid (changedN_any w0 a len cap a2 len2 cap2 n xs ys w hX hY hl hl2 hnx hny hB)
  clear hX hY hnx hny hB
  go_enter Try.func13, Try.ntmps13
  go_wp2_with fail
  go_at_call 25; refine HC.out.mono ?_; rintro e w2 ⟨l, ⟨v, rfl, hr, hB2⟩, hs, hm⟩
  have HR := Lib.hid (And.intro hr (And.intro hB2 (And.intro hs hm)))
  clear hr hB2 hs hm HC
  go_wp2_with fail
  go_ret
  exact ⟨l, ⟨v, rfl, HR.out.1, HR.out.2.1⟩, HR.out.2.2⟩
end Go.Proofs.Ytngnegnofmpgkaa.Gr
