/- WALK of expr's rising. -/
import Derived.Test.YtngikbimlhoigaaDoorSa
import Derived.Test.YtngikbimlhoigaaDoorNf
import Derived.Test.YtngikbimlhoigaaDoorRe
import Derived.Lib.AppendZeros
import Derived.Maps.AppendAt
namespace Go.Proofs.YtngikbimlhoigaaDoor
open Go.RowKit
theorem own_base {w : World} {base e size n : Nat} {v : Value} {xs : List Value} (h : w.ownsRow base e size v n xs) : ∀ k, v.ownBlock = some k → base ≤ k := by
  intro k hk
  rcases h.2 with ⟨rfl, _⟩ | ⟨g, cap, cur, rfl, hb, _⟩
  · simp [Value.ownBlock] at hk
  · simp [Value.ownBlock] at hk; omega
/-- A row that the call owns, as a slice of texts. -/
theorem row_own {w : World} {base n : Nat} {v : Value} {xs : List ByteArray} (h : w.ownsRow base 9 1 v n (xs.map Value.string)) (hn : n ≤ 140737488355328) (hx : ∀ x ∈ xs, x.size ≤ 140737488355328) : ∃ a cap, v = .slice a n cap ∧ Nm.StrRow w a n xs := by
  have hl := h.1
  rw [List.length_map, Nat.mul_one] at hl
  rcases h.2 with ⟨rfl, hn0⟩ | ⟨g, cap, cur, rfl, hb, hg, hcap, hm, hsz, htake⟩
  · obtain rfl : n = 0 := hn0
    exact ⟨none, 0, rfl, hl, by omega, fun i x hi => hx x (List.mem_of_getElem? hi), fun h => absurd h (by omega)⟩
  · refine ⟨_, cap, rfl, hl, hn, fun i x hi => hx x (List.mem_of_getElem? hi), fun _ => ⟨g, 0, rfl, ?_, fun i x hi => ?_⟩⟩
    · exact (Array.getElem?_eq_some_iff.1 hg).1
    · have hi2 := (List.getElem?_eq_some_iff.1 hi).1
      have h1 : (xs.map Value.string)[i]? = some (.string x) := by simp [hi]
      rw [← htake, Nat.mul_one, List.getElem?_take_of_lt (by omega)] at h1
      simp only [World.cell?, hg, Nat.zero_add]
      simpa using h1
theorem info9 : (Tryd.prog.info? 9).map (fun i => (i.zero, i.size, i.bytes)) = some (some (.string ByteArray.empty), 1, 16) := by kernel_rfl
/-- A bool, and nothing that was there has changed. -/
def BoolP (b : Bool) (w : World) (e : Ending) (w' : World) : Prop := e = .returned (.bool b) ∧ Below w.heap.size w w'
noncomputable def risP (ps : List (ByteArray × Ex)) : Bool := decide (ps.length ≤ 32) && Nm.risB (ps.map (·.1))
set_option maxRecDepth 100000 in
set_option maxHeartbeats 4000000 in
theorem rising_any (I : Hd → Ex → Prop) (w0 w : World) (f : Option Addr) (fl fc : Nat) (ps : List (ByteArray × Ex)) (h : InPs I w0 f fl ps) (hb0 : Below w0.heap.size w0 w) (hE : Nm.Env w) :
    Calls Tryd.prog 45 #[.slice f fl fc] w (BoolP (risP ps) w) := by
  have hmax := h.max
  obtain rfl := h.count
  have hnm : ∀ x ∈ ps, x.1.size ≤ 140737488355328 := fun x hx => by
    obtain ⟨i, hi, rfl⟩ := List.mem_iff_getElem.1 hx
    obtain ⟨b, off, y, _, _, h3, _⟩ := h.at_ i hi
    exact h3
  obtain ⟨i0, hi, hx⟩ := Option.map_eq_some_iff.1 info9
  simp only [Prod.mk.injEq] at hx
  obtain ⟨hz0, hz1, hz2⟩ := hx
  have HNM := Lib.hid hnm
  have HK := Lib.hid h
  have HB0 := Lib.hid hb0
  have HE := Lib.hid hE
  clear h hnm hb0 hE
  by_cases h32 : 32 < ps.length
  · have hl : (32 : Int) < (ps.length : Int) := by omega
    have HB := Lib.hid (show risP ps = false by unfold risP; rw [decide_eq_false (by omega)]; rfl)
    go_enter Tryd.func45, Tryd.ntmps45
    go_wp2_with fail
    go_ret
    exact ⟨ret_bool (by rw [HB.out]), Below.refl _ _⟩
  · have hl : ¬ (32 : Int) < (ps.length : Int) := by omega
    obtain ⟨r, hr⟩ : ∃ r, Nm.risB (ps.map (·.1)) = r := ⟨_, rfl⟩
    have HB := Lib.hid (show risP ps = r by unfold risP; rw [decide_eq_true (by omega), hr]; rfl)
    have HR := Lib.hid hr
    clear hr
    go_enter Tryd.func45, Tryd.ntmps45
    go_wp2_with fail
    go_loopw [3, 11] (fun v i wr => ∃ k : Nat, k ≤ ps.length ∧ i = .int .i64 k ∧ Hid (wr.ownsRow w.heap.size 9 1 v k (((ps.take k).map (·.1)).map Value.string)) ∧ Hid (Below w.heap.size w wr)) (fun _ i _ => ps.length - (intOf i).toNat)
    case atStart => exact ⟨0, Nat.zero_le _, rfl, World.ownsRow_nil _ _ _ _, Below.refl _ _⟩
    case round =>
      obtain ⟨k, hk, rfl, hO, hB⟩ := hrel
      rename World => wr
      by_cases hlt : k < ps.length
      · have hki : (k : Int) < (ps.length : Int) := by omega
        have hk0 : (0 : Int) ≤ (k : Int) := by omega
        obtain ⟨b, off, x, rfl, lt, hz, hc, hx, -⟩ := HK.out.at_ k hlt
        have hbw := below_step HB0.out hB.out
        have hx2 := HdAt.below hx hbw lt
        have hc2 := (hbw.cell (p := ⟨b, off + k * 8, none⟩) lt).trans hc
        have hT : Hid (((ps.take (k + 1)).map (·.1)).map Value.string = ((ps.take k).map (·.1)).map Value.string ++ [.string ps[k].1]) := by
          rw [List.take_succ_eq_append_getElem hlt, List.map_append, List.map_append]; rfl
        have hsz : w.heap.size ≤ wr.heap.size := hB.out.size
        generalize (ps[k]).1 = nm at *
        obtain ⟨op, nn, s, p, pl, pc, q, ql, qc, o, ka, kl, kc⟩ := x
        obtain ⟨c0, c1, c2, c3, c4, c5, c6⟩ := hx2
        dsimp only at c0 c1 c2 c3 c4 c5 c6
        clear hx hbw hc hz lt
        have HCN : Hid (∀ j u, [Value.string nm][j]? = some u → ((wr.alloc (.cells #[.string nm, .int .i64 op, .int .i64 nn, .string s, .slice p pl pc, .slice q ql qc, .bool o, .slice ka kl kc] 51)).alloc (.cells #[.string nm] 9)).cell? ((⟨wr.heap.size + 1, 0, none⟩ : Addr).add j) = some u) := by
          have h := cell_one_new (wr.alloc (.cells #[.string nm, .int .i64 op, .int .i64 nn, .string s, .slice p pl pc, .slice q ql qc, .bool o, .slice ka kl kc] 51)) (.string nm) 9
          rw [World.size_alloc] at h; exact h
        go_wp2_with (at_builtin; refine wpList_append_own _ rfl _ _ 22 rfl w.heap.size 9 i0 (.string ByteArray.empty) 1 16 Tryd.underlying22 hi hz0 hz1 hz2 rfl (by decide) _ _ _ rfl ((hO.out.alloc _).alloc _) ⟨wr.heap.size + 1, 0, none⟩ 1 1 [.string nm] rfl rfl HCN.out (fun x hx => by simp at hx; subst hx; rfl) (by unfold maxLen; omega) (by omega) (by simp; omega) ?_; intro v' w3 hown' hgrow3 hnil3; have OW3 := Lib.hid hown'; have G3 := Lib.hid hgrow3; clear hown' hgrow3 hnil3)
        go_roundw
        case rel => exact ⟨k + 1, by omega, by go_num, (by rw [hT.out]; exact OW3.out), (((hB.out.alloc hsz _).alloc (by simp; omega) _).grown G3.out (by simp; omega) (own_base hO.out))⟩
        case measure => simp [intOf]; omega
      · obtain rfl : k = ps.length := by omega
        have hT : Hid (((ps.take ps.length).map (·.1)).map Value.string = (ps.map (·.1)).map Value.string) := by rw [List.take_length]; rfl
        rw [hT.out] at hO
        obtain ⟨a1, cap1, rfl, hS1⟩ := row_own (xs := ps.map (·.1)) hO.out (by omega) (fun x hx => by obtain ⟨y, hy, rfl⟩ := List.mem_map.1 hx; exact HNM.out y hy)
        have S1 := Lib.hid hS1
        clear hS1 hT
        have HRC : Hid (Calls Tryd.prog 53 #[.slice a1 ps.length cap1] wr (BoolP r wr)) := by rw [← HR.out]; exact Nm.rising_any _ _ _ _ _ (HE.out.below hB.out) S1.out
        go_wp2_with (go_at_call 53; refine HRC.out.mono ?_; rintro e w4 ⟨rfl, hB4⟩; have HB4 := Lib.hid hB4; clear hB4)
        go_ret
        exact ⟨ret_bool (by rw [HB.out]), below_step hB.out HB4.out⟩
end Go.Proofs.YtngikbimlhoigaaDoor
