/- THE NAMES THAT ARE READ are texts that came in; a row of texts, read. -/
import Derived.Test.YtngikbimlhoigaaDoorUc
import Derived.Test.YtngikbimlhoigaaDoorTj
namespace Go.Proofs.YtngikbimlhoigaaDoor
open Go.RowKit
theorem allN_in {w : World} : ∀ {n : Nat} {h : Hd} {x : Ex}, InX w n h x → ∀ y ∈ allN n x, ∃ m h', InX w m h' y
  | 0, _, _, h, _, _ => h.elim
  | n + 1, h, .mk op nn s pa ps o ks, hx, y, hy => by
    rcases List.mem_cons.1 hy with rfl | hy
    · exact ⟨n + 1, h, hx⟩
    · obtain ⟨z, hz, hyz⟩ := List.mem_flatMap.1 hy
      obtain ⟨-, -, -, -, -, -, hps, hks⟩ := hx
      unfold Ex.parts at hz
      split at hz
      · obtain ⟨p, hp, rfl⟩ := List.mem_map.1 hz
        obtain ⟨i, hi, rfl⟩ := List.getElem_of_mem hp
        obtain ⟨_, _, x', _, _, _, _, _, hI⟩ := hps.at_ i hi
        exact allN_in hI y hyz
      · obtain ⟨i, hi, rfl⟩ := List.getElem_of_mem hz
        obtain ⟨_, _, x', _, _, _, hI⟩ := hks.at_ i hi
        exact allN_in hI y hyz
theorem refs_small {w : World} {n : Nat} {h : Hd} {x : Ex} (hx : InX w n h x) : ∀ y ∈ refsL (allN n x), y.size ≤ 140737488355328 := fun y hy => by
  obtain ⟨z, hz, hyz⟩ := List.mem_flatMap.1 hy
  obtain ⟨m, h', hI⟩ := allN_in hx z hz
  obtain ⟨m, rfl⟩ := InX.pos hI
  obtain ⟨op, nn, s, pa, ps, o, ks⟩ := z
  obtain ⟨-, -, -, -, -, hpa, -, -⟩ := hI
  unfold ref1 at hyz
  split at hyz
  · have h1 : y ∈ pa := List.mem_of_mem_take hyz
    obtain ⟨i, hi, rfl⟩ := List.getElem_of_mem h1
    exact hpa.each i _ (List.getElem?_eq_getElem hi)
  · cases hyz
theorem str_row {w : World} {base : Nat} {v : Value} {l : List ByteArray} (h : w.ownsRow base 9 1 v l.length (l.map Value.string)) (hl : l.length ≤ 140737488355328) (hs : ∀ y ∈ l, y.size ≤ 140737488355328) :
    ∃ a c, v = .slice a l.length c ∧ Nm.StrRow w a l.length l := by
  rcases h.2 with ⟨rfl, hn0⟩ | ⟨g, cap, cur, rfl, hb, hg, hcap, hm, hsz, htake⟩
  · have h0 : l.length = 0 := hn0
    refine ⟨none, 0, by rw [h0], rfl, hl, fun i x hx => hs x (List.mem_of_getElem? hx), fun h1 => by omega⟩
  · refine ⟨_, cap, rfl, rfl, hl, fun i x hx => hs x (List.mem_of_getElem? hx), fun h1 => ⟨g, 0, rfl, (Array.getElem?_eq_some_iff.1 hg).1, fun i x hx => ?_⟩⟩
    have h2 := h.cells (g := g) rfl i (.string x) (by rw [List.getElem?_map, hx]; rfl)
    rwa [show (⟨g, 0, none⟩ : Addr).add i = ⟨g, 0 + i, none⟩ by unfold Addr.add; split <;> simp_all] at h2
end Go.Proofs.YtngikbimlhoigaaDoor
