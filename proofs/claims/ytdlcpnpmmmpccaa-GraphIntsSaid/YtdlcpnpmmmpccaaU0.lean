/- Lg, Lh -/
import Derived.Test.YtdlcpnpmmmpccaaV0
import Derived.Test.YtdlcpnpmmmpccaaZ11
import Derived.Test.YtdlcpnpmmmpccaaZ16
/- WALKS of graph at a nil receiver. -/
namespace Go.Proofs.Ytdlcpnpmmmpccaa.Gr
open Go.RowKit Go.Maps Go.Sort
open Go.Proofs.Ytdlcpnpmmmpccaa.Nm (StrRow)
theorem look_nil74 (k : ByteArray) (w : World) : (Instr.lookup 74 (.map none) (.string k) false).run Try.prog w = .ok (.map none) w := by kernel_rfl
theorem bin_nil74 (w : World) : (binOp .neq 74 (.map none) (.map none)).run Try.prog w = .ok (.bool false) w := neq_nil74 w none
theorem bin_nil77 (w : World) : (binOp .neq 77 (.map none) (.map none)).run Try.prog w = .ok (.bool false) w := neq_nil77 w none
set_option maxRecDepth 100000 in
set_option maxHeartbeats 600000 in
theorem has_nil (k : ByteArray) (w : World) : Calls Try.prog 19 #[.pointer none, .string k] w fun e w' => e = .returned (.bool false) ∧ w' = w := by
  have hq := bin_nil77
  have hq2 := bin_nil74
  have hq3 := look_nil74
  go_enter Try.func19, Try.ntmps19
  go_wp2_with (go_at_call 52; refine (held_nil _).mono ?_; rintro e w1 ⟨rfl, rfl⟩)
  go_ret
  exact ⟨rfl, rfl⟩
set_option maxRecDepth 100000 in
set_option maxHeartbeats 600000 in
theorem add_nil (k : ByteArray) (w : World) : Calls Try.prog 23 #[.pointer none, .string k] w fun e w' => e = .returned (.tuple #[]) ∧ w' = w := by
  have hq := bin_nil77
  have hq2 := bin_nil74
  have hq3 := look_nil74
  go_enter Try.func23, Try.ntmps23
  go_wp2_with (go_at_call 52; refine (held_nil _).mono ?_; rintro e w1 ⟨rfl, rfl⟩)
  go_end0
  exact ⟨rfl, rfl⟩
set_option maxRecDepth 100000 in
set_option maxHeartbeats 600000 in
theorem link_nil (s t : ByteArray) (w : World) : Calls Try.prog 24 #[.pointer none, .string s, .string t] w fun e w' => e = .returned (.tuple #[]) ∧ w' = w := by
  have hq := bin_nil77
  have hq2 := bin_nil74
  have hq3 := look_nil74
  go_enter Try.func24, Try.ntmps24
  go_wp2_with (first
    | (go_at_call 23; refine (add_nil _ _).mono ?_; rintro e w1 ⟨rfl, rfl⟩)
    | (go_at_call 52; refine (held_nil _).mono ?_; rintro e w1 ⟨rfl, rfl⟩))
  go_end0
  exact ⟨rfl, rfl⟩
set_option maxRecDepth 100000 in
set_option maxHeartbeats 600000 in
theorem len_nil (w : World) : Calls Try.prog 16 #[.pointer none] w fun e w' => e = .returned (.int .i64 0) ∧ w' = w := by
  go_enter Try.func16, Try.ntmps16
  go_wp2_with (go_at_call 52; refine (held_nil _).mono ?_; rintro e w1 ⟨rfl, rfl⟩)
  go_ret
  exact ⟨rfl, rfl⟩
theorem sort_nil (w : World) : Calls Try.prog 53 #[.slice none 0 0] w fun e w' => e = .returned (.tuple #[]) ∧ Below w.heap.size w w' := by
  refine (sort_own (l := []) (World.ownsRow_nil w w.heap.size 9 1) List.Pairwise.nil (fun s h => by simp at h) (by simp)).mono ?_
  rintro e w' ⟨rfl, r, -, -, -, hg⟩
  exact ⟨rfl, below_none hg⟩
set_option maxRecDepth 100000 in
set_option maxHeartbeats 600000 in
theorem points_nil (w : World) : Calls Try.prog 18 #[.pointer none] w fun e w' => e = .returned (.slice none 0 0) ∧ Below w.heap.size w w' := by
  have hrg := run_range_nilMap (P := Try.prog) w 74 9 77 Try.underlying74
  have hnx : ∀ ty, (Instr.next (.pointer (some ⟨w.heap.size, 0, none⟩)) false ty).run Try.prog (w.alloc (.mapIter none 0 #[] 0)) = _ := fun ty => run_next_nilMap _ ty 0 0 #[]
  go_enter Try.func18, Try.ntmps18
  go_wp2_with (go_at_call 52; refine (held_nil _).mono ?_; rintro e w1 ⟨rfl, rfl⟩)
  go_loopg [3] 1 (fun _ v wr => v = .slice none 0 0 ∧ wr = w1.alloc (.mapIter none 0 #[] 0))
  case atStart => exact ⟨rfl, rfl⟩
  case round =>
    obtain ⟨rfl, rfl⟩ := hrel
    have HS := Lib.hid (sort_nil (w1.alloc (.mapIter none 0 #[] 0)))
    have HB1 := Lib.hid ((Below.refl w1.heap.size w1).alloc (Nat.le_refl _) (.mapIter none 0 #[] 0))
    go_wp2_with fail
    go_at_call 53; refine HS.out.mono ?_; rintro e w2 ⟨rfl, hB⟩
    have HB := Lib.hid (below_step HB1.out hB)
    clear hB HS HB1
    go_wp2_with fail
    go_ret
    exact ⟨rfl, HB.out⟩
set_option maxRecDepth 100000 in
set_option maxHeartbeats 600000 in
theorem to_nil (k : ByteArray) (w : World) : Calls Try.prog 21 #[.pointer none, .string k] w fun e w' => e = .returned (.slice none 0 0) ∧ Below w.heap.size w w' := by
  have hq3 := look_nil74
  have hrg := run_range_nilMap (P := Try.prog) w 77 9 4 Try.underlying77
  have hnx : ∀ ty, (Instr.next (.pointer (some ⟨w.heap.size, 0, none⟩)) false ty).run Try.prog (w.alloc (.mapIter none 0 #[] 0)) = _ := fun ty => run_next_nilMap _ ty 0 0 #[]
  go_enter Try.func21, Try.ntmps21
  go_wp2_with (go_at_call 52; refine (held_nil _).mono ?_; rintro e w1 ⟨rfl, rfl⟩)
  go_loopg [5] 1 (fun _ v wr => v = .slice none 0 0 ∧ wr = w1.alloc (.mapIter none 0 #[] 0))
  case atStart => exact ⟨rfl, rfl⟩
  case round =>
    obtain ⟨rfl, rfl⟩ := hrel
    have HS := Lib.hid (sort_nil (w1.alloc (.mapIter none 0 #[] 0)))
    have HB1 := Lib.hid ((Below.refl w1.heap.size w1).alloc (Nat.le_refl _) (.mapIter none 0 #[] 0))
    go_wp2_with fail
    go_at_call 53; refine HS.out.mono ?_; rintro e w2 ⟨rfl, hB⟩
    have HB := Lib.hid (below_step HB1.out hB)
    clear hB HS HB1
    go_wp2_with fail
    go_ret
    exact ⟨rfl, HB.out⟩
def TNilP (w : World) (e : Ending) (w' : World) : Prop := ∃ G, e = .returned (.pointer (some ⟨G, 0, none⟩)) ∧ (∃ b, GR w' b G 0 (fun _ => false) (fun _ _ => false)) ∧ Below w.heap.size w w'
set_option maxRecDepth 100000 in
set_option maxHeartbeats 600000 in
theorem turned_nil (w : World) : Calls Try.prog 14 #[.pointer none] w (TNilP w) := by
  go_enter Try.func14, Try.ntmps14
  go_wp2_with fail
  go_at_call 18; refine (points_nil _).mono ?_; rintro e w1 ⟨rfl, hB⟩
  have HN := Lib.hid (new_any none 0 0 [] w1 (str0 _) (by simp))
  have HB := Lib.hid hB
  clear hB
  go_wp2_with fail
  go_at_call 50; refine HN.out.mono ?_; rintro e w2 ⟨G, rfl, hG, hB⟩
  have HG := Lib.hid (hG.iff (P' := fun _ => false) (fun s => rfl) (fun _ _ => rfl))
  have HB2 := Lib.hid (below_step HB.out hB)
  clear hG hB HN HB
  go_wp2_with fail
  go_loopg [15] 1 (fun _ i wr => i = .int .i64 0 ∧ wr = w2)
  case atStart => exact ⟨rfl, rfl⟩
  case round =>
    obtain ⟨rfl, rfl⟩ := hrel
    go_wp2_with fail
    go_ret
    exact ⟨G, rfl, ⟨_, HG.out⟩, HB2.out⟩
theorem len_none {w : World} {b G : Nat} (h : GR w b G 0 (fun _ => false) (fun _ _ => false)) : Calls Try.prog 16 #[.pointer (some ⟨G, 0, none⟩)] w fun e w' => e = .returned (.int .i64 0) ∧ w' = w :=
  len_any h (l := []) ⟨List.Pairwise.nil, fun s => by simp⟩
set_option maxRecDepth 100000 in
set_option maxHeartbeats 600000 in
theorem reach_nil {w : World} {a : Option Addr} {c : Nat} (hS : StrRow w a 1 [tA]) : Calls Try.prog 26 #[.pointer none, .slice a 1 c] w fun e w' => e = .returned (.slice none 0 0) ∧ Below w.heap.size w w' := by
  have hB0 : Below w.heap.size w (w.alloc (.map #[] 0)) := (Below.refl _ _).alloc (Nat.le_refl _) _
  have HCL := Lib.hid (clone_any (cap := c) (hS.below hB0) (by omega))
  have HB0 := Lib.hid hB0
  have hmm := @run_makeMap Try.prog
  clear hS hB0
  go_enter Try.func26, Try.ntmps26
  go_wp2_with fail
  go_at_call 59; refine HCL.out.mono ?_; rintro e w5 ⟨v7, rfl, hr7, hB5⟩
  obtain ⟨g, cap', rfl, -, -⟩ := hr7.form (by simp)
  have hcell : w5.cell? ⟨g, 0, none⟩ = some (.string tA) := by
    rw [hr7.cellAt 0 (by simp)]
    rfl
  have hcap : 0 ≤ cap' := Nat.zero_le _
  have hcut := run_cut w5 g 1 0 cap' hcap
  have HB5 := Lib.hid (below_step HB0.out hB5)
  rw [show [tA].length = 1 from rfl]
  clear hr7 hB5 HCL HB0
  go_wp2_with fail
  go_loopg [5, 7] 2 (fun gk s5 s7 wr => s5 = .slice none 0 0 ∧ wr = w5 ∧ ((s7 = .slice (some ⟨g, 0, none⟩) 1 cap' ∧ 0 < gk) ∨ s7 = .slice (some ⟨g, 0, none⟩) 0 cap'))
  case atStart => exact ⟨rfl, rfl, .inl ⟨rfl, by omega⟩⟩
  case round =>
    obtain ⟨rfl, rfl, ⟨rfl, hgk⟩ | rfl⟩ := hrel
    · go_wp2_with (go_at_call 19; refine (has_nil _ _).mono ?_; rintro e w8 ⟨rfl, rfl⟩)
      go_roundg 0
      case measure => exact hgk
      case rel => exact ⟨rfl, rfl, .inr rfl⟩
    · clear hcell hcut
      go_wp2_with fail
      go_at_call 53; refine (sort_nil _).mono ?_; rintro e w8 ⟨rfl, hB⟩
      have HB := Lib.hid (below_step HB5.out hB)
      clear hB HB5
      go_wp2_with fail
      go_ret
      exact ⟨rfl, HB.out⟩
def ONilP (w : World) (e : Ending) (w' : World) : Prop := ∃ a c, e = .returned (.tuple #[.slice none 0 0, .slice a 0 c]) ∧ Below w.heap.size w w'
set_option maxRecDepth 100000 in
set_option maxHeartbeats 1600000 in
theorem order_nil (w : World) : Calls Try.prog 25 #[.pointer none] w (ONilP w) := by
  have hmm := @run_makeMap Try.prog
  go_enter Try.func25, Try.ntmps25
  go_wp2_with fail
  go_at_call 18; refine (points_nil _).mono ?_; rintro e w1 ⟨rfl, hB⟩
  have hB1 : Below w1.heap.size w1 (w1.alloc (.map #[] 0)) := (Below.refl _ _).alloc (Nat.le_refl _) _
  have HM := Lib.hid (OM.begin (w := w) (ls := []) (pts := []) (a := none) (c := 0) (show AB w w1.heap.size [] [] (.slice none 0 0) 0 (fun _ => nilS) (w1.alloc (.map #[] 0)) from
    ⟨below_step hB hB1, hB.size, by simp, World.ownsRow_nil _ _ _ _, by simp [Value.ownBlock], MS.made w1 [], fun j x hx _ => by simp at hx⟩) (fun x h => by simp at h) (by simp))
  have HB := Lib.hid (below_step hB hB1)
  have HLE := Lib.hid hB.size
  clear hB hB1
  go_wp2_with fail
  go_loopg [21] 1 (fun _ i wr => i = .int .i64 0 ∧ wr = w1.alloc (.map #[] 0))
  case atStart => exact ⟨rfl, rfl⟩
  case round =>
    obtain ⟨rfl, rfl⟩ := hrel
    obtain ⟨w2, hw2⟩ : ∃ w2, w1.alloc (.map #[] 0) = w2 := ⟨_, rfl⟩
    rw [hw2] at HM HB ⊢
    clear hw2
    go_wp2_with fail
    go_loopg [2, 11] 1 (fun _ u2 u11 wr => u2 = .slice none 0 0 ∧ u11 = .slice none 0 0 ∧ wr = wOr w2)
    case atStart => exact ⟨rfl, rfl, rfl⟩
    case round =>
      obtain ⟨rfl, rfl, rfl⟩ := hrel
      have hcH := HM.out.heap.cell
      have HB2 := Lib.hid (show Below w.heap.size w (wOr w2) from HB.out.trans (below_of HM.out.base HB.out.size HLE.out))
      have HD := Lib.hid (delete_any 58 enters58 (v := .slice none 0 0) (xs := []) (World.ownsRow_nil (wOr w2) (wOr w2).heap.size 9 1) (fun x h => by simp at h) HM.out.ins (tells58 _ _ _ _) (by simp [Value.ownBlock]) (by simp [Value.ownBlock]))
      obtain ⟨w3, hw3⟩ : ∃ w3, wOr w2 = w3 := ⟨_, rfl⟩
      rw [hw3] at hcH HB2 HD ⊢
      clear hw3 HM HB HLE
      go_wp2_with fail
      go_step3
      go_wp2_with fail
      go_step3
      go_wp2_with fail
      go_loopg [38] 1 (fun _ i wr => i = .int .i64 0 ∧ wr = w3)
      case atStart => exact ⟨rfl, rfl⟩
      case round =>
        obtain ⟨rfl, rfl⟩ := hrel
        go_wp2_with fail
        go_at_call 55; refine (hlen_any _ _ _ _).mono ?_; rintro e w6 ⟨rfl, rfl⟩
        go_wp2_with fail
        rw [Exit.noGoto_exit]
        go_wp2_with fail
        go_at_call 57; refine HD.out.mono ?_; rintro e w6 ⟨v6, rfl, hr6, hg6⟩
        obtain ⟨a6, c6, rfl⟩ := (qrow_of hr6).slice
        have HZ := Lib.hid hg6
        clear hr6 hg6 HD
        go_wp2_with fail
        go_ret2
        exact ⟨a6, c6, rfl, below_step HB2.out (below_none HZ.out)⟩
end Go.Proofs.Ytdlcpnpmmmpccaa.Gr
/- WALK of GraphTells. -/
namespace Go.Proofs.Ytdlcpnpmmmpccaa.Gr
open Go.RowKit Go.Maps Go.Sort
open Go.Proofs.Ytdlcpnpmmmpccaa.Nm (StrRow)
/-- What the law holds. -/
structure TL (pp : List ByteArray) (ls : List Ln2) (P : ByteArray → Bool) (a7 a2 a10 : Option Addr) (bG G m bT T : Nat) (w wr : World) : Prop where
  below : Below w.heap.size w wr
  pts : StrRow wr a7 pp.length pp
  lines : LineRow wr a2 ls.length ls
  back : LineRow wr a10 (turnL ls).length (turnL ls)
  graph : GR wr bG G m P (inL ls)
  turned : GR wr bT T m P (inL (turnL ls))
theorem TL.step {pp : List ByteArray} {ls : List Ln2} {P : ByteArray → Bool} {a7 a2 a10 : Option Addr} {bG G m bT T : Nat} {w wr w' : World} (h : TL pp ls P a7 a2 a10 bG G m bT T w wr) (hb : Below wr.heap.size wr w') : TL pp ls P a7 a2 a10 bG G m bT T w w' :=
  ⟨below_step h.below hb, h.pts.below hb, h.lines.below hb, h.back.below hb, h.graph.below hb, h.turned.below hb⟩
theorem turnL_ok {ls : List Ln2} (h : ∀ y ∈ ls, okS y.1 ∧ okS y.2) : ∀ y ∈ turnL ls, okS y.1 ∧ okS y.2 := by
  intro y hy
  unfold turnL at hy
  obtain ⟨x, hx, rfl⟩ := List.mem_map.1 hy
  exact ⟨(h x hx).2, (h x hx).1⟩
theorem spoil_at {w : World} {base g n m c : Nat} {xs : List Value} (h : w.ownsRow base 9 1 (.slice (some ⟨g, 0, none⟩) n c) m xs) (h0 : 0 < m) : (∃ v, w.cell? ⟨g, 0, none⟩ = some v) ∧ w.frozen? ⟨g, 0, none⟩ = false := by
  have hl := h.1
  refine ⟨⟨xs[0]'(by omega), ?_⟩, ?_⟩
  · have := h.cells rfl 0 _ (List.getElem?_eq_getElem (by omega))
    rw [Addr.add_lit] at this
    exact this
  · rcases h.2 with ⟨h1, -⟩ | ⟨g', cap, cur, e, -, hg, -⟩
    · cases h1
    · injection e with e1
      injection e1 with e1
      injection e1 with e1
      subst e1
      simp [World.frozen?, hg]
set_option maxRecDepth 100000 in
set_option maxHeartbeats 4000000 in
theorem tellsg_walk (a a2 : Option Addr) (len cap len2 cap2 : Nat) (l : List ByteArray) (ls : List Ln2) (s : ByteArray) (w : World) (hX : StrRow w a len l) (hL : LineRow w a2 len2 ls) (hs : okS s) : Calls Try.prog 3 #[.slice a len cap, .slice a2 len2 cap2, .string s] w (BoolP true w) := by
  have hcx := hX.count
  have hcl := hL.count
  subst hcx hcl
  have HH := Lib.hid (show GW l a ls a2 w w from ⟨Below.refl _ _, hX, hL⟩)
  have H10 := Lib.hid (gfew_any a l.length cap l a2 ls.length cap2 ls w hX hL)
  have HAW := fun W => Lib.hid (gawake_any W)
  have HPN := Lib.hid (rows_ok hX)
  have HPL := Lib.hid (lines_ok hL)
  have HSET := Lib.hid (ptsG_set HPN.out HPL.out)
  have HOKS := Lib.hid hs
  clear hX hL hs
  go_enter Try.func3, Try.ntmps3
  go_wp2_with fail
  go_at_call 10; refine H10.out.mono ?_; rintro e w1 ⟨b, rfl, hb, hw⟩; subst hw
  cases b with
  | false =>
    have HAW := HAW w
    clear H10 hb
    go_wp2_with fail
    go_at_call 11; refine HAW.out.mono ?_; rintro e w2 ⟨rfl, hB⟩
    go_wp2_with fail
    go_ret
    exact ⟨rfl, hB⟩
  | true =>
    obtain ⟨hl, hls⟩ := hb rfl
    have HLN := Lib.hid (show l.length ≤ 30 ∧ ls.length ≤ 60 from ⟨hl, hls⟩)
    have H12 := Lib.hid (ofg_any a l.length cap l a2 ls.length cap2 ls w HH.out.pts HH.out.lines (by omega) (by omega))
    clear hb hl hls H10
    by_cases h100 : s.size ≤ 100
    · have k100 : ¬ (100 : Int) < (s.size : Int) := by omega
      go_wp2_with fail
      go_at_call 12; refine H12.out.mono ?_; rintro e w4 ⟨G, m, rfl, hm, hG, hB⟩
      have HH4 := Lib.hid (HH.out.step hB)
      have HG := Lib.hid hG
      have HM := Lib.hid (show m ≤ 300 by have := HLN.out; omega)
      have H13 := Lib.hid (rpoints_any a l.length cap l a2 ls.length cap2 ls w4 HH4.out.pts HH4.out.lines (by have := HLN.out; omega) (by have := HLN.out; omega))
      have HPP := Lib.hid (show (ptsL l ls).length ≤ 300 by have := ptsL_len l ls; have := HLN.out; omega)
      clear hB hm hG HH H12
      generalize ptsL l ls = pp at *
      go_wp2_with fail
      go_at_call 13; refine H13.out.mono ?_; rintro e w5 ⟨a7, c7, rfl, hR, hB⟩
      have HR5 := Lib.hid hR
      have HH5 := Lib.hid (HH4.out.step hB)
      have HG5 := Lib.hid (HG.out.below hB)
      have H14 := Lib.hid (turned_any HG5.out (by have := HM.out; omega))
      clear hR hB HH4 HG H13
      go_wp2_with fail
      go_at_call 14; refine H14.out.mono ?_; rintro e w6 ⟨T, rfl, hT, hB⟩
      rw [lt_inL HPL.out] at hT
      have HT6 := Lib.hid hT
      have HR6 := Lib.hid (HR5.out.below hB)
      have HH6 := Lib.hid (HH5.out.step hB)
      have HG6 := Lib.hid (HG5.out.below hB)
      have H15 := Lib.hid (rturned_any a2 ls.length cap2 ls w6 HH6.out.lines (by have := HLN.out; omega))
      clear hT hB HR5 HH5 HG5 H14
      go_wp2_with fail
      go_at_call 15; refine H15.out.mono ?_; rintro e w7 ⟨v10, rfl, hO, hB⟩
      have hbl : (turnL ls).length ≤ 60 := by unfold turnL; rw [List.length_map]; exact HLN.out.2
      obtain ⟨a10, c10, rfl, hL10⟩ := line_row hO (by omega) (turnL_ok HPL.out)
      have HBL := Lib.hid hbl
      have HD7 := Lib.hid (show TL pp ls (QG l ls) a7 a2 a10 _ G m _ T w w7 from ⟨below_step HH6.out.below hB, HR6.out.below hB, HH6.out.lines.below hB, hL10, HG6.out.below hB, HT6.out.below hB⟩)
      clear hO hB hbl hL10 HT6 HR6 HH6 HG6 H15
      -- Len, Points, Points of the turned one
      have H16 := Lib.hid (len_any HD7.out.graph HSET.out)
      have H18 := Lib.hid (points_any HD7.out.graph (by have := HM.out; omega))
      go_wp2_with fail
      go_at_call 16; refine H16.out.mono ?_; rintro e w8 ⟨rfl, hw⟩; subst hw
      go_wp2_with fail
      go_at_call 18; refine H18.out.mono ?_; rintro e w8 ⟨r, hT, hS, hrl⟩
      obtain ⟨a11, c11, rfl, hR11, hB⟩ := set_row hT hS HSET.out (by have := HM.out; omega)
      have HD8 := Lib.hid (HD7.out.step hB)
      have H17 := Lib.hid (same_yes (cap := c11) (cap' := c7) hR11 HD8.out.pts)
      clear hT hS hrl hR11 hB H16 H18 HD7
      go_wp2_with fail
      go_at_call 17; refine H17.out.mono ?_; rintro e w9 ⟨rfl, hB⟩
      have HD9 := Lib.hid (HD8.out.step hB)
      have H18 := Lib.hid (points_any HD9.out.turned (by have := HM.out; omega))
      clear hB H17 HD8
      go_wp2_with fail
      go_at_call 18; refine H18.out.mono ?_; rintro e w10 ⟨r, hT, hS, hrl⟩
      obtain ⟨a12, c12, rfl, hR12, hB⟩ := set_row hT hS HSET.out (by have := HM.out; omega)
      have HD10 := Lib.hid (HD9.out.step hB)
      have H17 := Lib.hid (same_yes (cap := c12) (cap' := c7) hR12 HD10.out.pts)
      clear hT hS hrl hR12 hB H18 HD9
      go_wp2_with fail
      go_at_call 17; refine H17.out.mono ?_; rintro e w11 ⟨rfl, hB⟩
      have HD11 := Lib.hid (HD10.out.step hB)
      have hqs : QG l ls s = inB s pp := by
        rw [Bool.eq_iff_iff, inB_iff, HSET.out.2]
        exact ⟨fun h => ⟨HOKS.out, h⟩, fun h => h.2⟩
      have H19 := Lib.hid (has_any HD11.out.graph HOKS.out)
      have H20 := Lib.hid (rhas_any a7 pp.length c7 pp s w11 HD11.out.pts)
      rw [hqs] at H19
      have H21 := Lib.hid (to_any HD11.out.graph (by have := HM.out; omega) HOKS.out)
      have HTS := Lib.hid (toL_set (k := s) HPL.out)
      have hq4 : ∀ (x : Bool) (W : World), (binOp .neq 4 (.bool x) (.bool x)).run Try.prog W = .ok (.bool false) W := fun x W => by cases x <;> kernel_rfl
      clear hB hqs H17 HD10
      generalize inB s pp = q at *
      go_wp2_with fail
      go_at_call 19; refine H19.out.mono ?_; rintro e w12 ⟨rfl, hw⟩; subst hw
      go_wp2_with fail
      go_at_call 20; refine H20.out.mono ?_; rintro e w12 ⟨rfl, hw⟩; subst hw
      go_wp2_with fail
      go_at_call 21; refine H21.out.mono ?_; rintro e w12 ⟨r, hT, hS, hrl⟩
      obtain ⟨a13, c13, rfl, hR13, hB⟩ := set_row hT hS HTS.out (by have := HM.out; omega)
      have HD12 := Lib.hid (HD11.out.step hB)
      have HR13 := Lib.hid hR13
      have H22 := Lib.hid (rto_any a2 ls.length cap2 ls s w12 HD12.out.lines (by have := HLN.out; omega))
      clear hT hS hrl hR13 hB H21 HD11
      go_wp2_with fail
      go_at_call 22; refine H22.out.mono ?_; rintro e w13 ⟨a14, c14, rfl, hR14, hB⟩
      have HD13 := Lib.hid (HD12.out.step hB)
      have H17 := Lib.hid (same_yes (cap := c13) (cap' := c14) (HR13.out.below hB) hR14)
      clear hR14 hB HR13 HD12 H22
      go_wp2_with fail
      go_at_call 17; refine H17.out.mono ?_; rintro e w14 ⟨rfl, hB⟩
      have HD := Lib.hid (HD13.out.step hB)
      clear hB H17 HD13
      have hppl := HPP.out
      go_wp2_with fail
      go_loopw [11] (fun i wr => ∃ k : Nat, k ≤ pp.length ∧ i = .int .i64 k ∧ Hid (TL pp ls (QG l ls) a7 a2 a10 _ G m _ T w wr)) (fun i _ => pp.length - (intOf i).toNat)
      case atStart => exact ⟨0, by omega, rfl, HD⟩
      case round =>
        clear HD
        obtain ⟨k, hk, rfl, hD⟩ := hrel
        rename World => wr
        have HD := Lib.hid hD.out
        clear hD
        by_cases hlt : k < pp.length
        · obtain ⟨b0, off, p, e1, hb, hc, hx, hok⟩ := str_at HD.out.pts hlt
          subst e1
          have HPM := Lib.hid (List.mem_of_getElem? hx)
          have hq : QG l ls p = true := ((HSET.out.2 p).1 (List.mem_of_getElem? hx)).2
          have HTP := Lib.hid (toL_set (k := p) HPL.out)
          have HTB := Lib.hid (toL_set (k := p) (turnL_ok HPL.out))
          have htl := to_len p ls []
          have htb := to_len p (turnL ls) []
          rw [List.length_nil, show ls.foldl (to1 p) [] = toL ls p from rfl] at htl
          rw [List.length_nil, show (turnL ls).foldl (to1 p) [] = toL (turnL ls) p from rfl] at htb
          have H21 := Lib.hid (to_any HD.out.graph (by have := HM.out; omega) hok)
          have HTo := fun W (hW : Below wr.heap.size wr W) => Lib.hid (to_any (HD.out.graph.below hW) (by have := HM.out; omega) hok)
          have HTt := fun W (hW : Below wr.heap.size wr W) => Lib.hid (to_any (HD.out.turned.below hW) (by have := HM.out; omega) hok)
          have HRT := fun W (hW : Below wr.heap.size wr W) => Lib.hid (rto_any a2 ls.length cap2 ls p W (HD.out.lines.below hW) (by have := HLN.out; omega))
          have HRB := fun W (hW : Below wr.heap.size wr W) => Lib.hid (rto_any a10 (turnL ls).length c10 (turnL ls) p W (HD.out.back.below hW) (by have := HBL.out; omega))
          have HHG := fun W (hW : Below wr.heap.size wr W) => Lib.hid (has_any (HD.out.graph.below hW) hok)
          rw [hq] at HHG
          generalize htle : toL ls p = tl at *
          generalize htbe : toL (turnL ls) p = tb at *
          clear hx hok hq htle htbe
          have hbw : b0 < wr.heap.size := hb
          clear hb
          go_wp2_with fail
          go_at_call 21; refine H21.out.mono ?_; rintro e wx ⟨r, hT, hS, hrl⟩
          obtain rfl := (set_unique hS HTP.out fun _ _ => rfl).symm
          obtain ⟨vx, rfl, hrx, hBx⟩ := hT
          obtain ⟨ax, cx, rfl, hSx⟩ := str_row hrx (by have := HLN.out; omega) (fun y hy => ((hS.2 y).1 hy).1)
          have HSX := Lib.hid hSx
          have HRX := Lib.hid hrx
          have HBX := Lib.hid hBx
          have hcx0 : wx.cell? ⟨b0, off + k, none⟩ = some (.string p) := (hBx.cell (p := ⟨b0, off + k, none⟩) hbw).trans hc
          have hbwx : b0 < wx.heap.size := Nat.lt_of_lt_of_le hbw hBx.size
          have HCP := Lib.hid (show ∀ W, Below wr.heap.size wr W → W.cell? ⟨b0, off + k, none⟩ = some (.string p) from fun W hW => (hW.cell (p := ⟨b0, off + k, none⟩) hbw).trans hc)
          have HBW := Lib.hid hbw
          clear hS hrl hrx hSx hBx H21 hc hbw
          go_wp2_with fail
          go_region_held3 (fun w' => ∀ bb o, bb < wx.heap.size → w'.cell? ⟨bb, o, none⟩ = wx.cell? ⟨bb, o, none⟩)
            (exact fun bb o h => (show RowKit.Below wx.heap.size wx _ from by first
              | exact (Below.refl _ _).drew
              | exact KW6.out
              | exact KW5.out
              | exact KW4.out
              | exact KW3.out
              | exact KW2.out
              | exact KW1.out).cell (p := ⟨bb, o, none⟩) h)
            (first
              | (go_at_call 22; (with_reducible refine (HRT _ (below_step HBX.out (Below.refl _ _).drew)).out.mono ?_); rintro en w2 ⟨a15, c15, rfl, hR2, hB2⟩; have KW1 := Lib.hid (show RowKit.Below wx.heap.size wx w2 from below_step ((Below.refl _ _).drew) hB2); have KR1 := Lib.hid hR2; clear hR2 hB2)
              | (go_at_call 17; (with_reducible refine (same_yes (HSX.out.below KW1.out) KR1.out).mono ?_); rintro en w3 ⟨rfl, hB3⟩; have KW2 := Lib.hid (show RowKit.Below wx.heap.size wx w3 from below_step KW1.out hB3); clear hB3)
              | (go_at_call 21; (with_reducible refine (HTt _ (below_step HBX.out KW2.out)).out.mono ?_); rintro en w4 ⟨r4, hT4, hS4, hl4⟩; obtain ⟨a16, c16, rfl, hR4, hB4⟩ := set_row hT4 hS4 HTB.out (by have := HM.out; omega); have KW3 := Lib.hid (show RowKit.Below wx.heap.size wx w4 from below_step KW2.out hB4); have KR3 := Lib.hid hR4; clear hT4 hS4 hl4 hR4 hB4)
              | (go_at_call 22; (with_reducible refine (HRB _ (below_step HBX.out KW3.out)).out.mono ?_); rintro en w5 ⟨a17, c17, rfl, hR5, hB5⟩; have KW4 := Lib.hid (show RowKit.Below wx.heap.size wx w5 from below_step KW3.out hB5); have KR4 := Lib.hid hR5; have KR5 := Lib.hid (KR3.out.below hB5); clear hR5 hB5)
              | (go_at_call 17; (with_reducible refine (same_yes KR5.out KR4.out).mono ?_); rintro en w6 ⟨rfl, hB6⟩; have KW5 := Lib.hid (show RowKit.Below wx.heap.size wx w6 from below_step KW4.out hB6); clear hB6)
              | (go_at_call 19; (with_reducible refine (HHG _ (below_step HBX.out KW5.out)).out.mono ?_); rintro en w7 ⟨rfl, hw⟩; subst hw; have KW6 := KW5))
          have HCP : Hid (∀ W, Below wr.heap.size wr W → W.cell? ⟨b0, off + k, none⟩ = some (.string p)) := HCP
          by_cases hx0 : 0 < tl.length
          · obtain ⟨gx, cx', ex, hgx, -⟩ := HRX.out.form (by simpa using hx0)
            injection ex with ex1 ex2 ex3
            subst ex1 ex3
            obtain ⟨⟨vv, hv⟩, hf⟩ := spoil_at ((chg_of (grow_of KW6.out)).row HRX.out (fun _ _ => by simp)) hx0
            have hpx : (0 : Int) < (tl.length : Int) := by omega
            have hBY := (below_step HBX.out KW6.out).setCell (p := ⟨gx, 0, none⟩) hgx (.string ⟨#[115, 112, 111, 105, 108, 116]⟩)
            go_wp2_with fail
            generalize hwy : World.setCell _ _ _ = wy at *
            clear hwy hv hf
            have HBY := Lib.hid hBY
            clear hBY
            have hcy0 : wy.cell? ⟨b0, off + k, none⟩ = some (.string p) := HCP.out wy HBY.out
            have hbwy : b0 < wy.heap.size := Nat.lt_of_lt_of_le HBW.out HBY.out.size
            go_region_held3 (fun w' => ∀ bb o, bb < wy.heap.size → w'.cell? ⟨bb, o, none⟩ = wy.cell? ⟨bb, o, none⟩)
              (exact fun bb o h => (show RowKit.Below wy.heap.size wy _ from by first
                | exact (Below.refl _ _).drew
                | exact KZ3.out
                | exact KZ2.out
                | exact KZ1.out).cell (p := ⟨bb, o, none⟩) h)
              (first
                | (go_at_call 21; (with_reducible refine (HTo _ (below_step HBY.out (Below.refl _ _).drew)).out.mono ?_); rintro en w2 ⟨r2, hT2, hS2, hl2⟩; obtain ⟨a2, c2, rfl, hR2, hB2⟩ := set_row hT2 hS2 HTP.out (by have := HM.out; omega); have KZ1 := Lib.hid (show RowKit.Below wy.heap.size wy w2 from below_step ((Below.refl _ _).drew) hB2); have KQ1 := Lib.hid hR2; clear hT2 hS2 hl2 hR2 hB2)
                | (go_at_call 22; (with_reducible refine (HRT _ (below_step HBY.out KZ1.out)).out.mono ?_); rintro en w3 ⟨a5, c5, rfl, hR3, hB3⟩; have KZ2 := Lib.hid (show RowKit.Below wy.heap.size wy w3 from below_step KZ1.out hB3); have KQ2 := Lib.hid (KQ1.out.below hB3); have KQ3 := Lib.hid hR3; clear hR3 hB3)
                | (go_at_call 17; (with_reducible refine (same_yes KQ2.out KQ3.out).mono ?_); rintro en w4 ⟨rfl, hB4⟩; have KZ3 := Lib.hid (show RowKit.Below wy.heap.size wy w4 from below_step KZ2.out hB4); clear hB4))
            go_wp2_with fail
            go_roundw
            case rel => exact ⟨k + 1, by omega, by go_num, Lib.hid (HD.out.step (below_step HBY.out KZ3.out))⟩
            case measure => simp [intOf]; omega
          · have hpx : ¬ (0 : Int) < (tl.length : Int) := by omega
            have hBY := below_step HBX.out KW6.out
            go_wp2_with fail
            generalize hwy : w7 = wy at *
            have HBY := Lib.hid hBY
            clear hBY
            have hcy0 : wy.cell? ⟨b0, off + k, none⟩ = some (.string p) := HCP.out wy HBY.out
            have hbwy : b0 < wy.heap.size := Nat.lt_of_lt_of_le HBW.out HBY.out.size
            go_region_held3 (fun w' => ∀ bb o, bb < wy.heap.size → w'.cell? ⟨bb, o, none⟩ = wy.cell? ⟨bb, o, none⟩)
              (exact fun bb o h => (show RowKit.Below wy.heap.size wy _ from by first
                | exact (Below.refl _ _).drew
                | exact KZ3.out
                | exact KZ2.out
                | exact KZ1.out).cell (p := ⟨bb, o, none⟩) h)
              (first
                | (go_at_call 21; (with_reducible refine (HTo _ (below_step HBY.out (Below.refl _ _).drew)).out.mono ?_); rintro en w2 ⟨r2, hT2, hS2, hl2⟩; obtain ⟨a2, c2, rfl, hR2, hB2⟩ := set_row hT2 hS2 HTP.out (by have := HM.out; omega); have KZ1 := Lib.hid (show RowKit.Below wy.heap.size wy w2 from below_step ((Below.refl _ _).drew) hB2); have KQ1 := Lib.hid hR2; clear hT2 hS2 hl2 hR2 hB2)
                | (go_at_call 22; (with_reducible refine (HRT _ (below_step HBY.out KZ1.out)).out.mono ?_); rintro en w3 ⟨a5, c5, rfl, hR3, hB3⟩; have KZ2 := Lib.hid (show RowKit.Below wy.heap.size wy w3 from below_step KZ1.out hB3); have KQ2 := Lib.hid (KQ1.out.below hB3); have KQ3 := Lib.hid hR3; clear hR3 hB3)
                | (go_at_call 17; (with_reducible refine (same_yes KQ2.out KQ3.out).mono ?_); rintro en w4 ⟨rfl, hB4⟩; have KZ3 := Lib.hid (show RowKit.Below wy.heap.size wy w4 from below_step KZ2.out hB4); clear hB4))
            go_wp2_with fail
            go_roundw
            case rel => exact ⟨k + 1, by omega, by go_num, Lib.hid (HD.out.step (below_step HBY.out KZ3.out))⟩
            case measure => simp [intOf]; omega
        · have hki : ¬ (k : Int) < (pp.length : Int) := by omega
          obtain rfl : k = pp.length := by omega
          have HB := Lib.hid HD.out.below
          clear HD
          go_wp2_with fail
          go_at_call 23; refine (add_nil _ _).mono ?_; rintro e wq ⟨rfl, hw⟩; subst hw
          go_wp2_with fail
          go_at_call 24; refine (link_nil _ _ _).mono ?_; rintro e wq ⟨rfl, hw⟩; subst hw
          go_wp2_with fail
          go_at_call 25; refine (order_nil _).mono ?_; rintro e w20 ⟨a20, c20, rfl, hB⟩
          have HB20 := Lib.hid (below_step HB.out hB)
          have HAW := HAW w20
          clear hB HB
          go_wp2_with fail
          go_at_call 11; refine HAW.out.mono ?_; rintro e w21 ⟨rfl, hB⟩
          have HB21 := Lib.hid (below_step HB20.out hB)
          clear hB HB20
          go_wp2_with fail
          go_at_call 16; refine (len_nil _).mono ?_; rintro e wq ⟨rfl, hw⟩; subst hw
          go_wp2_with fail
          go_at_call 18; refine (points_nil _).mono ?_; rintro e w22 ⟨rfl, hB⟩
          have HB22 := Lib.hid (below_step HB21.out hB)
          clear hB HB21
          go_wp2_with fail
          go_at_call 21; refine (to_nil _ _).mono ?_; rintro e w23 ⟨rfl, hB⟩
          have HB23 := Lib.hid (below_step HB22.out hB)
          have HRN := Lib.hid (reach_nil (c := 1) (str_lit (w := w23) okA))
          have HA := Lib.hid (show Below w23.heap.size w23 (w23.alloc (.cells #[.string tA] 9)) from (Below.refl _ _).alloc (Nat.le_refl _) _)
          clear hB HB22
          go_wp2_with fail
          go_at_call 26; refine HRN.out.mono ?_; rintro e w24 ⟨rfl, hB⟩
          have HB24 := Lib.hid (below_step (below_step HB23.out HA.out) hB)
          clear hB HB23 HRN HA
          go_wp2_with fail
          go_at_call 14; refine (turned_nil _).mono ?_; rintro e w25 ⟨T2, rfl, ⟨bT2, hT2⟩, hB⟩
          have HB25 := Lib.hid (below_step HB24.out hB)
          have HLN2 := Lib.hid (len_none hT2)
          clear hB HB24 hT2
          go_wp2_with fail
          go_at_call 16; refine HLN2.out.mono ?_; rintro e wq ⟨rfl, hw⟩; subst hw
          go_wp2_with fail
          go_at_call 19; refine (has_nil _ _).mono ?_; rintro e wq ⟨rfl, hw⟩; subst hw
          go_wp2_with fail
          go_ret
          exact ⟨rfl, HB25.out⟩
    · have k100 : (100 : Int) < (s.size : Int) := by omega
      have HAW := HAW w
      go_wp2_with fail
      go_at_call 11; refine HAW.out.mono ?_; rintro e w2 ⟨rfl, hB⟩
      go_wp2_with fail
      go_ret
      exact ⟨rfl, hB⟩
end Go.Proofs.Ytdlcpnpmmmpccaa.Gr
