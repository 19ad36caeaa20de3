/- The law VintReads: too long an input; the loop. -/
import Derived.Test.YtmfikjpmieoikaaEa
import Derived.Test.YtmfikjpmieoikaaL
import Derived.Test.YtmfikjpmieoikaaFa
namespace Go.Proofs.Ytmfikjpmieoikaa
open Go.RowKit
set_option maxRecDepth 100000 in
set_option maxHeartbeats 1000000 in
theorem reads_long (s : ByteArray) (a : Option Addr) (len cap : Nat) (w : World) (hl : 400 < s.size ∨ 60 < len) (hs : s.size ≤ maxLen) (hlen : len ≤ maxLen) :
    Calls Try.prog 4 #[.string s, .slice a len cap] w fun e w' => e = .returned (.bool true) ∧ Below w.heap.size w w' := by
  unfold maxLen at hs hlen
  by_cases h1 : 400 < s.size
  all_goals by_cases h2 : 60 < len
  all_goals first
    | (exfalso; omega)
    | (go_enter Try.func4, Try.ntmps4
       go_wp2_with (go_at_call 9; refine (vawake_any _).mono ?_; rintro e w' ⟨rfl, hB⟩)
       go_ret
       exact ⟨rfl, hB⟩)
end Go.Proofs.Ytmfikjpmieoikaa
