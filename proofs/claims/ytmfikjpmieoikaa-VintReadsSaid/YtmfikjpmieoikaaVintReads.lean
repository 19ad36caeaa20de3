/- VintReads: for every text and every list of calls the law returns true and nothing that was there is changed; no condition. -/
import Derived.Test.YtmfikjpmieoikaaGa
import Derived.Test.YtmfikjpmieoikaaIa
namespace Go.Proofs.Ytmfikjpmieoikaa
open Go.RowKit
theorem reads_all : ReadsWalk := fun s a len cap w hs hI => by
  by_cases h : 400 < s.size ∨ 60 < len
  · refine reads_long s a len cap w h hs ?_
    rcases hI with ⟨_, h1, _⟩ | ⟨y, hy, h1, h2, _⟩
    · rw [h1]; exact Nat.zero_le _
    · exact Nat.le_trans h1 h2
  · refine reads_walk s a len cap w (by omega) (by omega) ?_ ?_
    · rintro x rfl h0
      rcases hI with ⟨h1, _, _⟩ | ⟨y, hy, _, _, hc⟩
      · cases h1
      · obtain rfl : x = y := Option.some.inj hy
        obtain ⟨k, n, e0, _⟩ := hc 0 h0
        have := World.block_lt_of_cell? w _ e0
        rw [show 0 * 2 = 0 from rfl] at this
        exact this
    · intro i hi
      rcases hI with ⟨_, h1, _⟩ | ⟨y, hy, _, _, hc⟩
      · omega
      · exact ⟨y, hy, hc i hi⟩
theorem vintReads_holds : Rows.VintReadsSaid := reads_of reads_all
end Go.Proofs.Ytmfikjpmieoikaa
