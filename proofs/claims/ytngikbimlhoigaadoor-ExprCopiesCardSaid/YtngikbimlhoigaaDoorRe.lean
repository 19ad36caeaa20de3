/- WALKS of expr's parts and inOrder: which iterators they hand back. -/
import Derived.Test.YtngikbimlhoigaaDoorRd
namespace Go.Proofs.YtngikbimlhoigaaDoor
open Go.RowKit Go.Shelf
theorem grown_below {w X : World} (h : Below w.heap.size w X) : w.grownBy X none := ⟨h.os, h.tape, h.output, h.size, fun i hi _ => h.block i hi⟩
theorem heap_new1 (w : World) (o o2 : Obj) : ((w.alloc o).alloc o2).heap[w.heap.size + 1]? = some o2 := by
  have := World.alloc_heap_new (w.alloc o) o2
  rwa [World.size_alloc] at this
theorem below_alloc {w X : World} (h : Below w.heap.size w X) (o : Obj) : Below w.heap.size w (X.alloc o) := h.alloc h.size o
theorem below_step {w X Y : World} (h : Below w.heap.size w X) (k : Below X.heap.size X Y) : Below w.heap.size w Y := h.trans (k.mono h.size)
set_option maxHeartbeats 400000 in
theorem values_any (a : Option Addr) (l c : Nat) (w : World) : Calls Tryd.prog 51 #[.slice a l c] w fun e w' => e = .returned (.func (.func 57) #[] #[.pointer (some ⟨w.heap.size, 0, none⟩)]) ∧ w' = w.alloc (.cells #[.slice a l c] 24) := by
  go_enter Tryd.func51, Tryd.ntmps51
  go_wp2
  go_ret
  exact ⟨rfl, rfl⟩
/-- An iterator over an expression's parts, which lies in a box of its own. -/
def PartsPost (w0 : World) (n : Nat) (x : Ex) (w : World) (e : Ending) (w' : World) : Prop := ∃ (gf be : Nat) (ob : Obj), e = .returned (.func (.func gf) #[] #[.pointer (some ⟨be, 0, none⟩)]) ∧ w.heap.size ≤ be ∧ w'.heap[be]? = some ob ∧
  Below w.heap.size w w' ∧ (∀ args W, (callFunc gf args).run Tryd.prog W = .ok (.enter gf args) W) ∧
  FitSeq Tryd.prog gf #[.pointer (some ⟨be, 0, none⟩)] encX (fun X => Below w0.heap.size w0 X ∧ X.heap[be]? = some ob) (FitP w0 n x.parts) (fun xs => xs.map (·.2) = x.parts) (fun pre => pre.map (·.2) <+: x.parts)
set_option maxHeartbeats 1000000 in
theorem parts_any (w0 : World) (n : Nat) (h : Hd) (x : Ex) (w : World) (hx : InX w0 (n + 1) h x) : Calls Tryd.prog 35 #[h.agg] w (PartsPost w0 n x w) := by
  obtain ⟨xop, xn, xs, xpath, xps, xo, xks⟩ := x
  have hV := fun a l c W => Lib.hid (values_any a l c W)
  obtain ⟨op, nn, s, p, pl, pc, q, ql, qc, o, k, kl, kc⟩ := h
  obtain ⟨rfl, rfl, rfl, rfl, _, _, hps, hks⟩ := hx
  dsimp only at hps hks
  have HP := Lib.hid (pairs_fit w0 n w.heap.size ⟨op, nn, s, p, pl, pc, q, ql, qc, o, k, kl, kc⟩ xps hps)
  have HK := Lib.hid (vals_fit w0 n (w.heap.size + 1) k kl kc xks hks)
  clear hps hks
  unfold Hd.agg
  by_cases h10 : op = 10
  · subst h10
    go_enter Tryd.func35, Tryd.ntmps35
    go_wp2_with fail
    go_ret
    refine ⟨52, w.heap.size, _, rfl, Nat.le_refl _, World.alloc_heap_new w _, below_alloc (Below.refl _ _) _, enters_of Tryd.func52 (by kernel_rfl) rfl, HP.out⟩
  · have e1 : (op == 10) = false := by simpa using h10
    have e2 : (op != 10) = true := by simpa using h10
    have H10 := Lib.hid h10
    clear h10
    go_enter Tryd.func35, Tryd.ntmps35
    go_wp2_with (go_at_call 51; refine (hV _ _ _ _).out.mono ?_; rintro e w' ⟨rfl, rfl⟩)
    go_ret
    refine ⟨57, w.heap.size + 1, _, by simp, by omega, heap_new1 _ _ _, below_alloc (below_alloc (Below.refl _ _) _) _, enters_of Tryd.func57 (by kernel_rfl) rfl, ?_⟩
    have e3 : (Ex.mk op nn s xpath xps o xks).parts = xks := if_neg H10.out
    rw [e3]; exact HK.out
set_option maxHeartbeats 400000 in
theorem inOrder_any (h : Hd) (w : World) : Calls Tryd.prog 27 #[h.agg] w fun e w' => e = .returned (.func (.func 43) #[] #[.pointer (some ⟨w.heap.size, 0, none⟩)]) ∧ w' = w.alloc (.cells h.vals 26) := by
  obtain ⟨op, nn, s, p, pl, pc, q, ql, qc, o, k, kl, kc⟩ := h
  unfold Hd.agg Hd.vals
  go_enter Tryd.func27, Tryd.ntmps27
  go_wp2
  go_ret
  exact ⟨rfl, rfl⟩
end Go.Proofs.YtngikbimlhoigaaDoor
