/- WALK of first. -/
import Derived.Test.YtkmbhjcedkojjaaPb
namespace Go.Proofs.Ytkmbhjcedkojjaa
open Go.RowKit
theorem firstL_at : ∀ (l : List Int) (k : Nat) (h : k < l.length), (∀ j (hj : j < k), l[j] = 0) → l[k] ≠ 0 → firstL l = l[k]
  | c :: l, 0, _, _, hc => by
    have hc' : c ≠ 0 := hc
    show (if c ≠ 0 then c else firstL l) = c
    rw [if_pos hc']
  | c :: l, k + 1, h, hz, hc => by
    have h0 : c = 0 := hz 0 (by omega)
    show (if c ≠ 0 then c else firstL l) = _
    rw [if_neg (by simpa using h0)]
    exact firstL_at l k (by simpa using h) (fun j hj => hz (j + 1) (by omega)) hc
theorem firstL_end : ∀ (l : List Int), (∀ j (hj : j < l.length), l[j] = 0) → firstL l = 0
  | [], _ => rfl
  | c :: l, hz => by
    have h0 : c = 0 := hz 0 (by simp)
    show (if c ≠ 0 then c else firstL l) = 0
    rw [if_neg (by simpa using h0)]
    exact firstL_end l (fun j hj => hz (j + 1) (by simpa using hj))
theorem ret_int {a b : Int} (h : a = b) : Ending.returned (.int .i64 a) = .returned (.int .i64 b) := by rw [h]
set_option maxRecDepth 100000 in
set_option maxHeartbeats 1000000 in
theorem first_any (l : List Int) (b cap : Nat) (w : World) (hl : (l.length : Int) ≤ 140737488355328) (hc : ∀ i (h : i < l.length), w.cell? ⟨b, i, none⟩ = some (.int .i64 l[i])) :
    Calls Try.prog 50 #[.slice (some ⟨b, 0, none⟩) l.length cap] w fun e w' => e = .returned (.int .i64 (firstL l)) ∧ w' = w := by
  have HC := Lib.hid hc
  clear hc
  go_enter Try.func50, Try.ntmps50
  go_wp2_with fail
  go_loop [7] (fun i => ∃ k : Nat, k ≤ l.length ∧ i = .int .i64 k ∧ Hid (∀ j (h : j < l.length), j < k → l[j] = 0)) (fun i => l.length - (intOf i).toNat)
  case atStart => exact ⟨0, Nat.zero_le _, rfl, fun j h hj => absurd hj (Nat.not_lt_zero _)⟩
  case round =>
    obtain ⟨k, hk, rfl, hz⟩ := hrel
    by_cases hlt : k < l.length
    · have hcell := HC.out k hlt
      have hki : (k : Int) < (l.length : Int) := by omega
      generalize hx : l[k] = x at *
      have HX := Lib.hid hx
      clear hx
      by_cases h0 : x = 0
      · have hx0 := Lib.hid h0
        subst h0
        go_wp2_with fail
        go_round
        case rel => exact ⟨k + 1, by omega, by go_num, fun j h hj => by
          by_cases e : j = k
          · subst e; exact HX.out
          · exact hz.out j h (by omega)⟩
        case measure => simp [intOf]; omega
      · have hb : (x != 0) = true := by simpa using h0
        have HN := Lib.hid h0
        clear h0
        go_wp2_with fail
        go_ret
        exact ⟨ret_int (by rw [firstL_at l k hlt (fun j hj => hz.out j (by omega) hj) (by rw [HX.out]; exact HN.out), HX.out]), rfl⟩
    · go_wp2_with fail
      go_ret
      exact ⟨ret_int (by rw [firstL_end l (fun j hj => hz.out j hj (by omega))]), rfl⟩

end Go.Proofs.Ytkmbhjcedkojjaa
