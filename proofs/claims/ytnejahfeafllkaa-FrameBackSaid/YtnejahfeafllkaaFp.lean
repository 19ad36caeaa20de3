/- frame.All over records one behind the other. -/
import Derived.Test.YtnejahfeafllkaaFl
import Derived.Test.YtnejahfeafllkaaFn
import Derived.Test.YtnejahfeafllkaaFo
namespace Go.Proofs.Ytnejahfeafllkaa
open Go.RowKit
theorem endOf_places (l : List ByteArray) : endOf (places 0 l) = (catL l).length := by
  have h := places_end 0 l
  unfold endOf
  by_cases e : l = []
  · subst e; rfl
  · rw [if_neg e] at h
    cases hg : (places 0 l).getLast? with
    | none => rw [hg] at h; cases h
    | some x => rw [hg] at h; simp at h; simpa using h
theorem txtsV_places (l : List ByteArray) : txtsV (places 0 l) = l.map Value.string := by
  unfold txtsV
  conv => rhs; rw [← places_txt 0 l, List.map_map]
  rfl
/-- A slice that the call made, as a row of texts. -/
theorem row_of_own {w : World} {base n : Nat} {v : Value} {l : List ByteArray} (h : w.ownsRow base 9 1 v n (l.map Value.string)) (hf : ∀ x ∈ l, x.size ≤ 65536) (hn : n ≤ 1000000) : ∃ a cap, v = .slice a n cap ∧ n ≤ cap ∧ StrRow w a n l := by
  have hl : l.length = n := by have := h.1; simpa using this
  have hfit : ∀ (i : Nat) (x : ByteArray), l[i]? = some x → x.size ≤ 140737488355328 := fun i x hx => by have := hf x (List.mem_of_getElem? hx); omega
  rcases h.2 with ⟨rfl, rfl⟩ | ⟨g, cap, cur, rfl, _, hg, hc, _, hs, ht⟩
  · exact ⟨none, 0, rfl, Nat.le_refl _, hl, by omega, hfit, fun h0 => absurd h0 (by omega)⟩
  · refine ⟨_, cap, rfl, hc, hl, by omega, hfit, fun _ => ⟨g, 0, rfl, (Array.getElem?_eq_some_iff.1 hg).1, fun i x hx => ?_⟩⟩
    rw [Nat.zero_add, cell_of_row w g i cur 9 (0, 0) hg]
    have hi : i < n := by have := (List.getElem?_eq_some_iff.1 hx).1; omega
    have h1 : (cur.toList.take (n * 1))[i]? = some (.string x) := by rw [ht]; simp [hx]
    rw [List.getElem?_take_of_lt (by omega)] at h1
    simpa using h1
theorem all_row (t : ByteArray) (l : List ByteArray) (e : Nat) (w : World) (ht : t.size ≤ 1000000) (h : recsP t 0 = places 0 l) (hf : ∀ x ∈ l, x.size ≤ 65536) (he : (catL l).length = e) :
    Calls Try.prog 28 #[.string t] w fun en w' => ∃ a cap, en = .returned (.tuple #[.slice a l.length cap, .int .i64 (e : Int)]) ∧ StrRow w' a l.length l ∧ Below w.heap.size w w' := by
  have hlen : l.length ≤ 1000000 := by have := recsP_len t; rw [h, places_len] at this; omega
  refine (all_any t w ht).mono fun en w' ⟨v, h1, h2, h3⟩ => ?_
  rw [h, places_len, txtsV_places] at h2
  obtain ⟨a, cap, rfl, _, hr⟩ := row_of_own h2 hf hlen
  exact ⟨a, cap, by rw [h1, h, endOf_places, he], hr, h3⟩
end Go.Proofs.Ytnejahfeafllkaa
