/- WALK of the law RankTotal, by contracts. -/
import Derived.Test.YtkmbhjcedkojjaaPi
import Derived.Test.YtkmbhjcedkojjaaPj
import Derived.Deep.DeepCutAuto
import Derived.Deep.CutBlock
import Derived.Deep.QuietTactic
import Derived.BigQuiet
namespace Go.Proofs.Ytkmbhjcedkojjaa
open Go.RowKit
/-- A comparison's contract from a world on. -/
def CmpC (w : World) (u v : Value) (r : Int) : Prop := ∀ W, Below w.heap.size w W → Calls Try.prog 33 #[u, v] W fun e w' => e = .returned (.int .i64 r) ∧ Below W.heap.size W w'
def FewC (w : World) (u : Value) : Prop := ∀ W, Below w.heap.size w W → Calls Try.prog 29 #[u] W (FewPost W)
theorem box3v (w : World) (t1 t2 t3 : Option Addr) (tl1 tc1 tl2 tc2 tl3 tc3 : Nat) :
    Below w.heap.size w (((w.alloc (.cells #[.slice t1 tl1 tc1] 41)).alloc (.cells #[.slice t2 tl2 tc2] 41)).alloc (.cells #[.slice t3 tl3 tc3] 41)) := bl_alloc (bl_alloc (bl_alloc (Below.refl _ _)))
abbrev w3b (w : World) (t1 t2 t3 : Option Addr) (tl1 tc1 tl2 tc2 tl3 tc3 : Nat) : World := ((w.alloc (.cells #[.slice t1 tl1 tc1] 41)).alloc (.cells #[.slice t2 tl2 tc2] 41)).alloc (.cells #[.slice t3 tl3 tc3] 41)
theorem box3c (w : World) (t1 t2 t3 : Option Addr) (tl1 tc1 tl2 tc2 tl3 tc3 : Nat) {w1 : World} (h : Below (w3b w t1 t2 t3 tl1 tc1 tl2 tc2 tl3 tc3).heap.size (w3b w t1 t2 t3 tl1 tc1 tl2 tc2 tl3 tc3) w1) :
    (w1.cell? ⟨w.heap.size, 0, none⟩ = some (.slice t1 tl1 tc1) ∧ w.heap.size < w1.heap.size) ∧ (w1.cell? ⟨w.heap.size + 1, 0, none⟩ = some (.slice t2 tl2 tc2) ∧ w.heap.size + 1 < w1.heap.size) ∧ (w1.cell? ⟨w.heap.size + 1 + 1, 0, none⟩ = some (.slice t3 tl3 tc3) ∧ w.heap.size + 1 + 1 < w1.heap.size) := by
  have hz := h.size
  have e : (w3b w t1 t2 t3 tl1 tc1 tl2 tc2 tl3 tc3).heap.size = w.heap.size + 1 + 1 + 1 := by simp
  rw [e] at hz
  have g : ∀ b, b < w.heap.size + 1 + 1 + 1 → w1.cell? ⟨b, 0, none⟩ = (w3b w t1 t2 t3 tl1 tc1 tl2 tc2 tl3 tc3).cell? ⟨b, 0, none⟩ := fun b hb => h.cell (p := ⟨b, 0, none⟩) (by rw [e]; exact hb)
  refine ⟨⟨(g _ (by omega)).trans (by simp [go_sem]), by omega⟩, ⟨(g _ (by omega)).trans (by simp [go_sem]), by omega⟩, ⟨(g _ (by omega)).trans (by simp [go_sem]), by omega⟩⟩
set_option maxRecDepth 100000 in
set_option maxHeartbeats 8000000 in
theorem rtotal_gen (t1 t2 t3 : Option Addr) (tl1 tc1 tl2 tc2 tl3 tc3 : Nat) (x y z : Int) (w : World)
    (F1 : FewC w (.agg #[.slice t1 tl1 tc1])) (F2 : FewC w (.agg #[.slice t2 tl2 tc2])) (F3 : FewC w (.agg #[.slice t3 tl3 tc3])) (Kab : CmpC w (.agg #[.slice t1 tl1 tc1]) (.agg #[.slice t2 tl2 tc2]) x) (Kbc : CmpC w (.agg #[.slice t2 tl2 tc2]) (.agg #[.slice t3 tl3 tc3]) y) (Kac : CmpC w (.agg #[.slice t1 tl1 tc1]) (.agg #[.slice t3 tl3 tc3]) z) (Kba : CmpC w (.agg #[.slice t2 tl2 tc2]) (.agg #[.slice t1 tl1 tc1]) (-x)) (Kaa : CmpC w (.agg #[.slice t1 tl1 tc1]) (.agg #[.slice t1 tl1 tc1]) 0)
    (hx : -1 ≤ x ∧ x ≤ 1) (hy : -1 ≤ y ∧ y ≤ 1) (hz : -1 ≤ z ∧ z ≤ 1) (ht : x ≤ 0 → y ≤ 0 → z ≤ 0 ∧ (z = 0 → x = 0 ∧ y = 0)) :
    Calls Try.prog 8 #[.agg #[.slice t1 tl1 tc1], .agg #[.slice t2 tl2 tc2], .agg #[.slice t3 tl3 tc3]] w fun e w' => e = .returned (.bool true) ∧ Below w.heap.size w w' := by
  have HA := fun W => Lib.hid (rawake_any W)
  have F1 := Lib.hid F1
  have F2 := Lib.hid F2
  have F3 := Lib.hid F3
  have Kab := Lib.hid Kab
  have Kbc := Lib.hid Kbc
  have Kac := Lib.hid Kac
  have Kba := Lib.hid Kba
  have Kaa := Lib.hid Kaa
  obtain ⟨hx1, hx2⟩ := hx
  obtain ⟨hy1, hy2⟩ := hy
  obtain ⟨hz1', hz2'⟩ := hz
  have HT := Lib.hid ht
  have HW0 := Lib.hid (box3v w t1 t2 t3 tl1 tc1 tl2 tc2 tl3 tc3)
  clear ht
  go_enter Try.func8, Try.ntmps8
  go_upto_region 3 with (first
    | (go_at_call 29; (first | refine (F1.out _ (bl_step HW0.out HB.out)).mono ?_ | refine (F1.out _ HW0.out).mono ?_); rintro e w1 ⟨b, rfl, hB⟩; (try clear hc hf); (first | (replace HB := Lib.hid (bl_step HB.out hB)) | (have HB := Lib.hid hB)); obtain ⟨hc, hf⟩ := bcell HB.out; clear hB; have hz := HB.out.size; simp at hz; have hz2 : w.heap.size + 1 + 1 < w1.heap.size := (by omega); have hz1 : w.heap.size + 1 < w1.heap.size := (by omega); have hz0 : w.heap.size < w1.heap.size := (by omega); clear hz)
    | (go_at_call 29; (first | refine (F2.out _ (bl_step HW0.out HB.out)).mono ?_ | refine (F2.out _ HW0.out).mono ?_); rintro e w1 ⟨b, rfl, hB⟩; (try clear hc hf); (first | (replace HB := Lib.hid (bl_step HB.out hB)) | (have HB := Lib.hid hB)); obtain ⟨hc, hf⟩ := bcell HB.out; clear hB; have hz := HB.out.size; simp at hz; have hz2 : w.heap.size + 1 + 1 < w1.heap.size := (by omega); have hz1 : w.heap.size + 1 < w1.heap.size := (by omega); have hz0 : w.heap.size < w1.heap.size := (by omega); clear hz)
    | (go_at_call 29; (first | refine (F3.out _ (bl_step HW0.out HB.out)).mono ?_ | refine (F3.out _ HW0.out).mono ?_); rintro e w1 ⟨b, rfl, hB⟩; (try clear hc hf); (first | (replace HB := Lib.hid (bl_step HB.out hB)) | (have HB := Lib.hid hB)); obtain ⟨hc, hf⟩ := bcell HB.out; clear hB; have hz := HB.out.size; simp at hz; have hz2 : w.heap.size + 1 + 1 < w1.heap.size := (by omega); have hz1 : w.heap.size + 1 < w1.heap.size := (by omega); have hz0 : w.heap.size < w1.heap.size := (by omega); clear hz)
    | (go_at_call 30; (with_reducible refine (HA _).out.mono ?_); rintro e w4 ⟨rfl, hB⟩; have HB4 := Lib.hid hB; clear hB))
  all_goals first
    | (go_ret; exact ⟨rfl, bl_step (bl_step HW0.out HB.out) HB4.out⟩)
    | skip
  have HC := Lib.hid (bl_step HW0.out HB.out)
  obtain ⟨⟨p1, l1⟩, ⟨p2, l2⟩, ⟨p3, l3⟩⟩ := box3c w t1 t2 t3 tl1 tc1 tl2 tc2 tl3 tc3 HB.out
  have s1 : ∀ W, Below w1.heap.size w1 W → W.cell? ⟨w.heap.size, 0, none⟩ = some (.slice t1 tl1 tc1) := fun W hW => (hW.cell (p := ⟨w.heap.size, 0, none⟩) l1).trans p1
  have s2 : ∀ W, Below w1.heap.size w1 W → W.cell? ⟨w.heap.size + 1, 0, none⟩ = some (.slice t2 tl2 tc2) := fun W hW => (hW.cell (p := ⟨w.heap.size + 1, 0, none⟩) l2).trans p2
  have s3 : ∀ W, Below w1.heap.size w1 W → W.cell? ⟨w.heap.size + 1 + 1, 0, none⟩ = some (.slice t3 tl3 tc3) := fun W hW => (hW.cell (p := ⟨w.heap.size + 1 + 1, 0, none⟩) l3).trans p3
  clear p1 p2 p3 l1 l2 l3
  have S1 := Lib.hid s1
  have S2 := Lib.hid s2
  have S3 := Lib.hid s3
  clear s1 s2 s3 hc hf HB
  have up : ∀ {u v : Value} {r : Int}, Hid (CmpC w u v r) → Hid (∀ W, Below w1.heap.size w1 W → Calls Try.prog 33 #[u, v] W fun e w' => e = .returned (.int .i64 r) ∧ Below w1.heap.size w1 w') :=
    fun h W hW => (h.out W (bl_step HC.out hW)).mono fun _ _ ⟨a, b⟩ => ⟨a, bl_step hW b⟩
  have Lab := up Kab
  have Lbc := up Kbc
  have Lac := up Kac
  have Lba := up Kba
  have Laa := up Kaa
  clear up Kab Kbc Kac Kba Kaa F1 F2 F3
  refine region_class (C := fun W => Below w1.heap.size w1 W) (by kernel_rfl) (by kernel_rfl) ((Below.refl _ _).drew) ?_
  repeat (first | go_big_quiet_skip | (go_big_quiet_want; go_big_quiet_op; first | go_big_quiet_on | (apply Exists.intro; refine ⟨fun W hW => ?_, ?_⟩; (first | rfl | exact Lab.out W hW | exact Lbc.out W hW | exact Lac.out W hW | (have q0 := S1.out W hW; go_simp; first | done | rfl | exact ⟨rfl, rfl⟩) | (have q0 := S2.out W hW; go_simp; first | done | rfl | exact ⟨rfl, rfl⟩) | (have q0 := S3.out W hW; go_simp; first | done | rfl | exact ⟨rfl, rfl⟩)); go_big_quiet_on)))
  refine wpQuiet_nil ?_
  intro w9 hW9
  have KW := Lib.hid hW9
  have q1 := S1.out _ hW9
  have q2 := S2.out _ hW9
  have q3 := S3.out _ hW9
  clear hW9 Lab Lbc Lac
  have cs : 0 < x ∨ (x ≤ 0 ∧ 0 < y) ∨ (x ≤ 0 ∧ y ≤ 0 ∧ z < 0) ∨ (x = 0 ∧ y = 0 ∧ z = 0) := by
    have := HT.out
    omega
  clear HT
  rcases cs with h1 | ⟨h1, h2⟩ | ⟨h1, h2, h3⟩ | ⟨rfl, rfl, rfl⟩
  all_goals
    go_wp2_with (first
      | (go_at_call 33; (with_reducible refine (Lba.out _ KW.out).mono ?_); rintro e w10 ⟨rfl, hB⟩; have q1 := S1.out _ hB; have q2 := S2.out _ hB; replace KW := Lib.hid hB; clear hB)
      | (go_at_call 33; (with_reducible refine (Laa.out _ KW.out).mono ?_); rintro e w11 ⟨rfl, hB⟩; replace KW := Lib.hid hB; clear hB)
      | (go_at_call 30; (with_reducible refine (HA _).out.mono ?_); rintro e w4 ⟨rfl, hB⟩; have HB4 := Lib.hid hB; clear hB))
    go_ret
    exact ⟨rfl, bl_step (bl_step HC.out KW.out) HB4.out⟩

end Go.Proofs.Ytkmbhjcedkojjaa
