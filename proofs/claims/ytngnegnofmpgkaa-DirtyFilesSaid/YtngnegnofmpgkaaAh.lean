/- WALK of the law's awake: the page's example. -/
import Derived.Test.YtngnegnofmpgkaaAg
namespace Go.Proofs.Ytngnegnofmpgkaa.Gr
open Go.RowKit Go.Maps Go.Sort
open Go.Proofs.Ytngnegnofmpgkaa.Nm (StrRow)
def exI (m : Int) : Ex := .mk 1 m ⟨#[]⟩ [] [] false []
def ndO (m : Int) : List Nd := [⟨tA, false, [exR tB]⟩, ⟨tB, false, [exI m]⟩]
theorem exI_ne : ¬ ([exI 1] : List Ex) = [exI 2] := fun h => by
  injection h with h _
  injection h with _ h
  exact absurd h (by decide)
theorem ndO_nodup (m : Int) : ((ndO m).map Nd.name).Nodup := by
  show [tA, tB].Nodup
  simp [tAB]
theorem ndO_lines (m : Int) : lnL 2 (ndO m) = [(tA, tB)] := by rfl
theorem ndO_ch (s : ByteArray) : chS Nd.name qN (ndO 1) (ndO 2) s = decide (tB = s) := by
  have e1 : chB Nd.name qN (ndO 2) ⟨tA, false, [exR tB]⟩ = false := by
    rw [chB_in (ndO_nodup 2) (y := ⟨tA, false, [exR tB]⟩) (by simp [ndO]) rfl]
    show (!eqB _ _) = false
    rw [eqB_yes rfl]
    rfl
  have e2 : chB Nd.name qN (ndO 2) ⟨tB, false, [exI 1]⟩ = true := by
    rw [chB_in (x := ⟨tB, false, [exI 1]⟩) (ndO_nodup 2) (y := ⟨tB, false, [exI 2]⟩) (by simp [ndO]) rfl]
    show (!eqB _ _) = true
    rw [eqB_no exI_ne]
    rfl
  unfold chS
  rw [show (ndO 1).any (fun x => decide (x.name = s) && chB Nd.name qN (ndO 2) x) = (decide (tA = s) && chB Nd.name qN (ndO 2) ⟨tA, false, [exR tB]⟩ || (decide (tB = s) && chB Nd.name qN (ndO 2) ⟨tB, false, [exI 1]⟩ || false)) from rfl, e1, e2]
  rw [show (ndO 2).map Nd.name = (ndO 1).map Nd.name from rfl]
  cases inB s ((ndO 1).map Nd.name) <;> simp
theorem ndO_names (m : Int) : ∀ x ∈ ndO m, okS x.name := by
  intro x hx
  simp [ndO] at hx
  rcases hx with rfl | rfl
  · exact okA
  · exact okB
theorem ndO_rc : rcL Nd.name qN (ndO 1) (ndO 2) = [tB] := by
  have hs := rcL_set (q := qN) (ndO_names 1) (ndO_names 2)
  refine one_of hs.1 fun k => ?_
  rw [hs.2 k, ndO_ch, decide_eq_true_eq]
  exact ⟨fun h => h.2.symm, fun h => ⟨by rw [h]; exact okB, h.symm⟩⟩
theorem ndO_few (m : Int) : FewN 2 (ndO m) := by
  refine ⟨by rw [ndO_lines]; decide, fun x hx => ?_, fun x hx e he => ?_⟩
  · simp [ndO] at hx
    rcases hx with rfl | rfl
    · show (rL 2 [exR tB]).length ≤ _
      rw [show (rL 2 [exR tB]).length = 1 by kernel_rfl]; omega
    · show (rL 2 [exI m]).length ≤ _
      rw [show (rL 2 [exI m]).length = 0 from rfl]; omega
  · simp [ndO] at hx
    rcases hx with rfl | rfl <;> simp at he <;> subst he
    · rw [show (allN 2 (exR tB)).length = 1 by kernel_rfl]; omega
    · rw [show (allN 2 (exI m)).length = 1 from rfl]; omega
theorem ndO_ok (m : Int) : ∀ y ∈ lnL 2 (ndO m), okS y.1 ∧ okS y.2 := by
  rw [ndO_lines]
  intro y hy
  simp at hy
  rw [hy]
  exact ⟨okA, okB⟩
theorem ndO_reach {r : List ByteArray} (hr : Rise r) (h : ∀ k, k ∈ r ↔ Rc (inL (turnL (lnL 2 (ndO 2)))) (PG ((ndO 2).map Nd.name) (lnL 2 (ndO 2))) [tB] k ∧ k ∈ (ndO 2).map Nd.name) : r = [tA, tB] := by
  refine rise_unique hr ?_ fun k => ?_
  · unfold Rise
    simp [tA, tB]
    decide
  · rw [h k]
    show _ ↔ k ∈ (ndO 2).map Nd.name
    refine ⟨fun h => h.2, fun hk => ⟨?_, hk⟩⟩
    have hb : Rc (inL (turnL (lnL 2 (ndO 2)))) (PG ((ndO 2).map Nd.name) (lnL 2 (ndO 2))) [tB] tB := .base (by simp) (by rfl)
    rcases (show k = tA ∨ k = tB by simpa [ndO] using hk) with rfl | rfl
    · exact .step hb (by rw [ndO_lines]; decide)
    · exact hb
def defI (m : Int) : Obj := .cells #[.int .i64 1, .int .i64 m, .string ⟨#[]⟩, .slice none 0 0, .slice none 0 0, .bool false, .slice none 0 0] 38
theorem str0 (W : World) : StrRow W none 0 [] := ⟨rfl, by omega, fun i x h => by simp at h, fun h => absurd h (by omega)⟩
theorem ks_int {W : World} {d : Nat} {m : Int} (hd : W.heap[d]? = some (defI m)) : InKs (InX W 2) W (some ⟨d, 0, none⟩) 1 [exI m] := by
  have ld := (Array.getElem?_eq_some_iff.1 hd).1
  have hx : InX W 2 ⟨1, m, ⟨#[]⟩, none, 0, 0, none, 0, 0, false, none, 0, 0⟩ (exI m) := ⟨rfl, rfl, rfl, rfl, by decide, str0 W, ps0 _ _, ks0 _ _⟩
  unfold defI at hd
  refine ⟨rfl, by omega, fun i hi => ?_⟩
  obtain rfl : i = 0 := by simpa using hi
  exact ⟨d, 0, _, rfl, ld, ⟨by simp [World.cell?, hd], by simp [World.cell?, hd], by simp [World.cell?, hd], by simp [World.cell?, hd], by simp [World.cell?, hd], by simp [World.cell?, hd], by simp [World.cell?, hd]⟩, hx⟩
def ndD (d1 d2 : Nat) : Obj := .cells #[.string ⟨#[97]⟩, .bool false, .slice (some ⟨d1, 0, none⟩) 1 1, .string ⟨#[98]⟩, .bool false, .slice (some ⟨d2, 0, none⟩) 1 1] 40
theorem ndO_row {W : World} {b1 d1 d2 nd : Nat} {m : Int} (h1 : W.heap[b1]? = some (.cells #[.string ⟨#[98]⟩] 9)) (k1 : W.heap[d1]? = some (defR b1)) (k2 : W.heap[d2]? = some (defI m)) (hn : W.heap[nd]? = some (ndD d1 d2)) : NodeRow W 2 (some ⟨nd, 0, none⟩) 2 (ndO m) := by
  have ln := (Array.getElem?_eq_some_iff.1 hn).1
  have e1 := ks_one (s := tB) (by decide) h1 k1
  have e2 := ks_int k2
  unfold ndD at hn
  refine ⟨rfl, by omega, fun _ => ⟨nd, 0, rfl, ln, fun i x hx => ?_⟩⟩
  match i, hx with
  | 0, hx =>
    injection hx with hx
    subst hx
    exact ⟨_, 1, 1, ⟨by simp [World.cell?, hn]; rfl, by simp [World.cell?, hn], by simp [World.cell?, hn], okA, e1⟩⟩
  | 1, hx =>
    injection hx with hx
    subst hx
    exact ⟨_, 1, 1, ⟨by simp [World.cell?, hn]; rfl, by simp [World.cell?, hn], by simp [World.cell?, hn], okB, e2⟩⟩
  | _ + 2, hx => simp [ndO] at hx
theorem str_two {W : World} {b : Nat} (hb : W.heap[b]? = some (.cells #[.string tA, .string tB] 9)) : StrRow W (some ⟨b, 0, none⟩) 2 [tA, tB] := by
  have lb := (Array.getElem?_eq_some_iff.1 hb).1
  refine ⟨rfl, by omega, fun i x h => ?_, fun _ => ⟨b, 0, rfl, lb, fun i x h => ?_⟩⟩
  · have := List.mem_of_getElem? h
    simp at this
    rcases this with rfl | rfl
    · exact okA
    · exact okB
  · match i, h with
    | 0, h => injection h with h; subst h; simp [World.cell?, hb]
    | 1, h => injection h with h; subst h; simp [World.cell?, hb]
    | _ + 2, h => simp at h
end Go.Proofs.Ytngnegnofmpgkaa.Gr
