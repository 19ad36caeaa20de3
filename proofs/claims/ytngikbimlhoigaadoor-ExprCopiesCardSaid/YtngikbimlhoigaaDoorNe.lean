/- WALKS of name.Path, of the reference's Path, and of few. -/
import Derived.Test.YtngikbimlhoigaaDoorNd
namespace Go.Proofs.YtngikbimlhoigaaDoor.Nm
open Go.RowKit

/-- A slice of texts in memory: xs are its elements. -/
structure StrRow (w : World) (a : Option Addr) (len : Nat) (xs : List ByteArray) : Prop where
  count : xs.length = len
  max : len ≤ 140737488355328
  each : ∀ (i : Nat) (x : ByteArray), xs[i]? = some x → x.size ≤ 140737488355328
  at_ : 0 < len → ∃ b off, a = some ⟨b, off, none⟩ ∧ b < w.heap.size ∧ ∀ (i : Nat) (x : ByteArray), xs[i]? = some x → w.cell? ⟨b, off + i, none⟩ = some (.string x)
theorem StrRow.below {w w' : World} {a : Option Addr} {len : Nat} {xs : List ByteArray} (h : StrRow w a len xs) (hb : Below w.heap.size w w') : StrRow w' a len xs := by
  obtain ⟨h1, h2, h3, h4⟩ := h
  refine ⟨h1, h2, h3, fun h0 => ?_⟩
  obtain ⟨b, off, e, hlt, hc⟩ := h4 h0
  exact ⟨b, off, e, Nat.lt_of_lt_of_le hlt hb.size, fun i x hx => by rw [hb.cell (p := ⟨b, off + i, none⟩) hlt]; exact hc i x hx⟩
theorem right_as (s : ByteArray) (b : Bool) (w : World) (hE : Env w) (hs : s.size ≤ 140737488355328) (hb : Hid (rightL s.toList = b)) : Calls Tryd.prog 54 #[.string s] w fun e w' => e = .returned (.bool b) ∧ Below w.heap.size w w' := by
  rw [← hb.out]; exact right_any s w hE (by unfold maxLen; omega)
theorem rright_as (s : ByteArray) (b : Bool) (w : World) (hs : s.size ≤ 140737488355328) (hb : Hid (rightL s.toList = b)) : Calls Tryd.prog 49 #[.string s] w fun e w' => e = .returned (.bool b) ∧ w = w' := by
  rw [← hb.out]; exact rright_any s w (by unfold maxLen; omega)
end Go.Proofs.YtngikbimlhoigaaDoor.Nm
