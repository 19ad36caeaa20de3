/- LYc, Vh, Vi, Vj, Vk, Vl, Vm -/
import Derived.Deep.QuietTactic
import Derived.BigQuiet
import Derived.Lib.Join
import Derived.Test.YtlpilbghblbpbaaDoorY9
import Derived.Test.YtlpilbghblbpbaaDoorY10
import Derived.Test.YtlpilbghblbpbaaDoorY1
import Derived.Test.YtlpilbghblbpbaaDoorY8
/- WALK of the reference's Quote. -/
namespace Go.Proofs.YtlpilbghblbpbaaDoor.Lx
open Go.RowKit
theorem hex_cut : ∀ n, n < 16 → (⟨#[48, 49, 50, 51, 52, 53, 54, 55, 56, 57, 97, 98, 99, 100, 101, 102]⟩ : ByteArray).extract n (n + 1) = bs [hexC n] := by
  intro n hn
  rcases (by omega : n = 0 ∨ n = 1 ∨ n = 2 ∨ n = 3 ∨ n = 4 ∨ n = 5 ∨ n = 6 ∨ n = 7 ∨ n = 8 ∨ n = 9 ∨ n = 10 ∨ n = 11 ∨ n = 12 ∨ n = 13 ∨ n = 14 ∨ n = 15) with rfl | rfl | rfl | rfl | rfl | rfl | rfl | rfl | rfl | rfl | rfl | rfl | rfl | rfl | rfl | rfl <;> rfl
theorem one_of {s : ByteArray} {k : Nat} (h : k < s.size) : s.extract k (k + 1) = bs [s[k]] := by
  have e : (s.extract k (k + 1)).toList = [s[k]] := by rw [ext_cut, drop_at s k h]; rfl
  rw [← bs_of (s.extract k (k + 1)), e]
theorem below_dn {w W : World} {n : Nat} (h : Below w.heap.size w W) : Below w.heap.size w (W.drewN n) := bl_step h (bl_drewN _ _)
theorem bs2 (a b : List UInt8) : bs a ++ bs b = bs (a ++ b) := bs_app a b
set_option maxRecDepth 100000 in
set_option maxHeartbeats 4000000 in
theorem rquote_any (s : ByteArray) (w : World) (hs : s.size ≤ 4096) : Calls Tryd.prog 28 #[.string s] w fun e w' => e = .returned (.string (bs (quoteL s.toList))) ∧ Below w.heap.size w w' := by
  go_enter Tryd.func28, Tryd.ntmps28
  go_wp2_with fail
  go_loopw [4, 5] (fun v i wr => ∃ (k : Nat), k ≤ s.size ∧ i = .int .i64 k ∧ v = .string (bs (qL s.toList k)) ∧ Hid (Below (w.heap.size) w wr)) (fun _ i _ => s.size - (intOf i).toNat)
  case atStart => exact ⟨0, by omega, rfl, rfl, Lib.hid (Below.refl _ _)⟩
  case round =>
    obtain ⟨k, hk, rfl, rfl, hB⟩ := hrel
    rename World => wr
    by_cases hlt : k < s.size
    · have HQ := Lib.hid (qL_step hlt)
      have hi1 : (k : Int) < (s.size : Int) := by omega
      have hi0 : (0 : Int) ≤ (k : Int) := by omega
      have hlen : (bs (qL s.toList k)).size ≤ 4 * k + 1 := by rw [bs_size]; exact qL_len _ _
      have H1 := Lib.hid (one_of hlt)
      rcases q_cases s[k] with ⟨h1, hq⟩ | ⟨h1, hq⟩ | ⟨h1, h2, h3, hq⟩ | ⟨h1, h2, h3, h4, hq⟩ | ⟨h1, h2, h3, h4, hq⟩
      · have HQQ := Lib.hid hq
        clear hq
        go_wp2_with fail
        go_roundw
        case rel => exact ⟨k + 1, by omega, by go_num, by rw [HQ.out, HQQ.out, H1.out]; show Value.string (bs _ ++ bs [92] ++ bs [s[k]]) = _; rw [bs2, bs2, List.append_assoc]; rfl, hB⟩
        case measure => simp [intOf]; omega
      · have HQQ := Lib.hid hq
        clear hq
        go_wp2_with fail
        go_roundw
        case rel => exact ⟨k + 1, by omega, by go_num, by rw [HQ.out, HQQ.out, H1.out]; show Value.string (bs _ ++ bs [92] ++ bs [s[k]]) = _; rw [bs2, bs2, List.append_assoc]; rfl, hB⟩
        case measure => simp [intOf]; omega
      · have HQQ := Lib.hid hq
        clear hq
        go_wp2_with fail
        go_roundw
        case rel => exact ⟨k + 1, by omega, by go_num, by rw [HQ.out, HQQ.out]; show Value.string (bs _ ++ bs [92, 110]) = _; rw [bs2], hB⟩
        case measure => simp [intOf]; omega
      · have HQQ := Lib.hid hq
        have hp := of_decide_eq_false h4
        clear hq h4
        have hb := byte_lt s[k]
        obtain ⟨n1, hn1⟩ : ∃ n1, s[k].toNat / 16 = n1 := ⟨_, rfl⟩
        obtain ⟨n2, hn2⟩ : ∃ n2, s[k].toNat % 16 = n2 := ⟨_, rfl⟩
        have l1 : n1 < 16 := by omega
        have l2 : n2 < 16 := by omega
        go_wp2_with fail
        · go_quiet (fail)
          go_wp2_with fail
          go_roundw
          case rel => exact ⟨k + 1, by omega, by go_num, by rw [HQ.out, HQQ.out, hex_cut _ l1, hex_cut _ l2, hn1, hn2]; show Value.string (bs _ ++ bs [92, 120] ++ bs _ ++ bs _) = _; rw [bs2, bs2, bs2, List.append_assoc, List.append_assoc]; rfl, Lib.hid (below_dn hB.out)⟩
          case measure => simp [intOf]; omega
        · go_quiet (fail)
          go_wp2_with fail
          go_roundw
          case rel => exact ⟨k + 1, by omega, by go_num, by rw [HQ.out, HQQ.out, hex_cut _ l1, hex_cut _ l2, hn1, hn2]; show Value.string (bs _ ++ bs [92, 120] ++ bs _ ++ bs _) = _; rw [bs2, bs2, bs2, List.append_assoc, List.append_assoc]; rfl, Lib.hid (below_dn hB.out)⟩
          case measure => simp [intOf]; omega
      · have HQQ := Lib.hid hq
        have hp := of_decide_eq_true h4
        obtain ⟨hp1, hp2⟩ := hp
        clear hq h4
        go_wp2_with fail
        go_roundw
        case rel => exact ⟨k + 1, by omega, by go_num, by rw [HQ.out, HQQ.out, H1.out, bs2], hB⟩
        case measure => simp [intOf]; omega
    · have HA := Lib.hid (qL_all hlt)
      have hlen : (bs (qL s.toList k)).size ≤ 4 * k + 1 := by rw [bs_size]; exact qL_len _ _
      go_wp2_with fail
      go_ret
      exact ⟨by rw [← HA.out, ← bs2]; rfl, hB.out⟩
end Go.Proofs.YtlpilbghblbpbaaDoor.Lx
/- PLAIN MATHEMATICS: an expression's text. -/
namespace Go.Proofs.YtlpilbghblbpbaaDoor.Sw
open Go.RowKit
def bnd (op : Int) : Int := if op = 12 then 1 else if op = 11 then 2 else if op = 13 ∨ op = 14 then 3 else if op = 15 then 4 else 5
def sgn (op : Int) : UInt8 := if op = 11 then 38 else if op = 12 then 124 else if op = 13 then 43 else if op = 14 then 45 else 42
def kindT (n : Int) : List UInt8 := if n = 1 then [98, 111, 111, 108] else if n = 2 then [105, 110, 116] else if n = 3 then [115, 116, 114, 105, 110, 103] else [97, 110, 121]
def boolT (n : Int) : List UInt8 := if n = 1 then [116, 114, 117, 101] else [102, 97, 108, 115, 101]
def pathT (p : List ByteArray) : List UInt8 := Lib.join (p.map (·.data.toList)) [46]
def ex0 : Ex := .mk 0 0 ⟨#[]⟩ [] [] false []
/-- How much the place of the i-th kid asks for. -/
def lst (op : Int) (i : Nat) : Int := if i = 0 then (if bnd op = 1 ∨ bnd op = 2 then bnd op + 1 else bnd op) else bnd op + 1
def br (f : Ex → List UInt8) (least : Int) (x : Ex) : List UInt8 := if bnd x.op < least then [40] ++ f x ++ [41] else f x
def kp (f : Ex → List UInt8) (op : Int) (i : Nat) (x : Ex) : List UInt8 := (if i = 0 then [] else [32, sgn op, 32]) ++ br f (lst op i) x
def kT (f : Ex → List UInt8) (op : Int) (ks : List Ex) (j : Nat) : List UInt8 := (List.range j).flatMap fun i => kp f op i (ks.getD i ex0)
def pp (f : Ex → List UInt8) (i : Nat) (p : ByteArray × Ex) : List UInt8 := (if i = 0 then [] else [32]) ++ (p.1.toList ++ [58, 32] ++ f p.2 ++ [59])
def pT (f : Ex → List UInt8) (ps : List (ByteArray × Ex)) (j : Nat) : List UInt8 := (List.range j).flatMap fun i => pp f i (ps.getD i (⟨#[]⟩, ex0))
theorem kT_zero (f : Ex → List UInt8) (op : Int) (ks : List Ex) : kT f op ks 0 = [] := rfl
theorem pT_zero (f : Ex → List UInt8) (ps : List (ByteArray × Ex)) : pT f ps 0 = [] := rfl
theorem kT_step (f : Ex → List UInt8) (op : Int) {ks : List Ex} {j : Nat} (h : j < ks.length) : kT f op ks (j + 1) = kT f op ks j ++ kp f op j ks[j] := by
  unfold kT
  rw [List.range_succ, List.flatMap_append, List.flatMap_singleton, List.getD_eq_getElem?_getD, List.getElem?_eq_getElem h]
  rfl
theorem pT_step (f : Ex → List UInt8) {ps : List (ByteArray × Ex)} {j : Nat} (h : j < ps.length) : pT f ps (j + 1) = pT f ps j ++ pp f j ps[j] := by
  unfold pT
  rw [List.range_succ, List.flatMap_append, List.flatMap_singleton, List.getD_eq_getElem?_getD, List.getElem?_eq_getElem h]
  rfl
theorem kT_le (f : Ex → List UInt8) (op : Int) (ks : List Ex) {i j : Nat} (h : i ≤ j) : (kT f op ks i).length ≤ (kT f op ks j).length := by
  induction j with
  | zero => rw [Nat.le_zero.1 h]; exact Nat.le_refl _
  | succ j ih =>
    rcases Nat.lt_or_ge i (j + 1) with hl | hg
    · refine Nat.le_trans (ih (Nat.le_of_lt_succ hl)) ?_
      unfold kT
      rw [List.range_succ, List.flatMap_append, List.length_append]
      exact Nat.le_add_right _ _
    · rw [Nat.le_antisymm h hg]; exact Nat.le_refl _
theorem pT_le (f : Ex → List UInt8) (ps : List (ByteArray × Ex)) {i j : Nat} (h : i ≤ j) : (pT f ps i).length ≤ (pT f ps j).length := by
  induction j with
  | zero => rw [Nat.le_zero.1 h]; exact Nat.le_refl _
  | succ j ih =>
    rcases Nat.lt_or_ge i (j + 1) with hl | hg
    · refine Nat.le_trans (ih (Nat.le_of_lt_succ hl)) ?_
      unfold pT
      rw [List.range_succ, List.flatMap_append, List.length_append]
      exact Nat.le_add_right _ _
    · rw [Nat.le_antisymm h hg]; exact Nat.le_refl _
/-- A struct's text. -/
def fT (f : Ex → List UInt8) (ps : List (ByteArray × Ex)) (o : Bool) : List UInt8 := [123] ++ pT f ps ps.length ++ (if o = true then (if ps.length = 0 then [] else [32]) ++ [46, 46, 46] else []) ++ [125]
/-- What has no rule of its own. -/
def uT (f : Ex → List UInt8) : Ex → List UInt8
  | .mk op m s p ps o _ =>
    if op = 1 then Nt.textL m else if op = 2 then Lx.quoteL s.toList else if op = 3 then boolT m else if op = 4 then kindT m
    else if op = 5 then [110, 111, 110, 101] else if op = 6 then [99, 111, 109, 112, 117, 116, 101, 100]
    else if op = 7 then [62, 61] ++ Nt.textL m else if op = 8 then [60, 61] ++ Nt.textL m
    else if op = 9 then pathT p else fT f ps o
/-- The text, without brackets around it. -/
def xt : Nat → Ex → List UInt8
  | 0, _ => []
  | n + 1, x => if bnd x.op = 5 then uT (xt n) x else kT (xt n) x.op x.ks x.ks.length
end Go.Proofs.YtlpilbghblbpbaaDoor.Sw
/- WHAT SHOW's WALKS ASK: its tables, right expressions; pieces that are put. -/
namespace Go.Proofs.YtlpilbghblbpbaaDoor.Sw
open Go.RowKit
open Lx (bs bl_alloc)
/-- show's tables as they lie. -/
structure SE (w : World) : Prop where
  env : Nm.Env w
  bi : ∀ r : Nat, 1 ≤ r → r ≤ 15 → w.cell? ⟨1, r, none⟩ = some (.int .i64 (bnd r))
  si : ∀ r : Nat, 11 ≤ r → r ≤ 15 → w.cell? ⟨4, r, none⟩ = some (.string (bs [sgn r]))
  b0 : w.cell? ⟨2, 0, none⟩ = some (.string (bs (boolT 0)))
  b1 : w.cell? ⟨2, 1, none⟩ = some (.string (bs (boolT 1)))
  ki : ∀ r : Nat, r = 1 ∨ r = 2 ∨ r = 3 ∨ r = 5 → w.cell? ⟨3, r, none⟩ = some (.string (bs (kindT r)))
theorem SE.below {w w' : World} (h : SE w) (hb : Below w.heap.size w w') : SE w' := by
  have h7 := h.env.one
  have hc : ∀ k r, k < 5 → w'.cell? ⟨k, r, none⟩ = w.cell? ⟨k, r, none⟩ := fun k r hk => hb.cell (p := ⟨k, r, none⟩) (by simp; omega)
  exact ⟨h.env.below hb, fun r h1 h2 => (hc 1 r (by omega)).trans (h.bi r h1 h2), fun r h1 h2 => (hc 4 r (by omega)).trans (h.si r h1 h2), (hc 2 0 (by omega)).trans h.b0, (hc 2 1 (by omega)).trans h.b1, fun r h1 => (hc 3 r (by omega)).trans (h.ki r h1)⟩
theorem right_step {n : Nat} {x : Ex} (h : rightB (n + 1) x = true) : ownB x = true ∧ ∀ y ∈ x.parts, rightB n y = true := by
  unfold rightB at h
  rw [allN, List.all_cons, Bool.and_eq_true] at h
  refine ⟨h.1, fun y hy => ?_⟩
  unfold rightB
  rw [List.all_eq_true] at h ⊢
  exact fun z hz => h.2 z (List.mem_flatMap.2 ⟨y, hy, hz⟩)
/-- What a right expression is. -/
theorem own_ops {op m : Int} {s : ByteArray} {p : List ByteArray} {ps : List (ByteArray × Ex)} {o : Bool} {ks : List Ex} (h : ownB (.mk op m s p ps o ks) = true) :
    ((op = 1 ∨ op = 7 ∨ op = 8) ∧ inB m = true) ∨ (op = 2 ∧ s.size ≤ 256) ∨ (op = 3 ∧ (m = 0 ∨ m = 1)) ∨ (op = 4 ∧ (m = 1 ∨ m = 2 ∨ m = 3 ∨ m = 5)) ∨ op = 5 ∨ op = 6 ∨ (op = 9 ∧ Nm.pathB p = true) ∨ (op = 10 ∧ ps.length ≤ 32 ∧ Nm.risB (ps.map (·.1)) = true) ∨ ((op = 11 ∨ op = 12 ∨ op = 13 ∨ op = 14 ∨ op = 15) ∧ ks.length ≤ 32) := by
  rw [ownB_eq] at h
  by_cases h10 : op = 10
  · rw [if_pos h10] at h
    simp only [risP, Bool.and_eq_true, decide_eq_true_eq] at h
    exact .inr (.inr (.inr (.inr (.inr (.inr (.inr (.inl ⟨h10, h.1.1, h.1.2⟩)))))))
  rw [if_neg h10] at h
  by_cases h11 : op = 11 ∨ op = 12
  · rw [if_pos h11] at h
    simp only [Bool.and_eq_true, decide_eq_true_eq] at h
    exact .inr (.inr (.inr (.inr (.inr (.inr (.inr (.inr ⟨by omega, h.1.2⟩)))))))
  rw [if_neg h11] at h
  by_cases h13 : op = 13 ∨ op = 14 ∨ op = 15
  · rw [if_pos h13] at h
    simp only [Bool.and_eq_true, decide_eq_true_eq] at h
    exact .inr (.inr (.inr (.inr (.inr (.inr (.inr (.inr ⟨by omega, by omega⟩)))))))
  rw [if_neg h13] at h
  by_cases h9 : op = 9
  · rw [if_pos h9] at h
    simp only [Bool.and_eq_true, decide_eq_true_eq] at h
    exact .inr (.inr (.inr (.inr (.inr (.inr (.inl ⟨h9, h.1.1⟩))))))
  rw [if_neg h9] at h
  by_cases h2 : op = 2
  · rw [if_pos h2] at h
    simp only [Bool.and_eq_true, decide_eq_true_eq] at h
    exact .inr (.inl ⟨h2, h.1⟩)
  rw [if_neg h2] at h
  by_cases h1 : op = 1 ∨ op = 7 ∨ op = 8 ∨ op = 3 ∨ op = 4 ∨ op = 5 ∨ op = 6
  · rw [if_pos h1, Bool.and_eq_true] at h
    have hn := h.1
    unfold numB at hn
    by_cases ha : op = 1 ∨ op = 7 ∨ op = 8
    · rw [if_pos ha] at hn; exact .inl ⟨ha, hn⟩
    · rw [if_neg ha] at hn
      by_cases hb : op = 3
      · rw [if_pos hb] at hn
        simp only [Bool.or_eq_true, decide_eq_true_eq] at hn
        exact .inr (.inr (.inl ⟨hb, hn⟩))
      · rw [if_neg hb] at hn
        by_cases hc : op = 4
        · rw [if_pos hc] at hn
          simp only [Bool.or_eq_true, decide_eq_true_eq] at hn
          exact .inr (.inr (.inr (.inl ⟨hc, by omega⟩)))
        · rcases (by omega : op = 5 ∨ op = 6) with e | e
          · exact .inr (.inr (.inr (.inr (.inl e))))
          · exact .inr (.inr (.inr (.inr (.inr (.inl e)))))
  · rw [if_neg h1] at h; cases h
theorem bs_list (l : List UInt8) : (bs l).toList = l := by rw [Lib.toList_data]; rfl
theorem put1 {B b : Nat} {T : List UInt8} {t : ByteArray} {w : World} {n : Nat} (hn : w.heap.size = n) (h : WB B b T w) (hl : T.length + t.toList.length ≤ 140737488355328) :
    Calls Tryd.prog 35 #[.pointer (some ⟨b, 0, none⟩), .slice (some ⟨n, 0, none⟩) 1 1] (w.alloc (.cells #[.string t] 9)) (WP B b (T ++ t.toList) w) := by
  subst hn
  have hb := bl_alloc (o := .cells #[.string t] 9) (Below.refl w.heap.size w)
  have e : cat [t] = t.toList := by simp [cat]
  have h1 := put_any B b w.heap.size T [t] _ (h.below hb) (World.alloc_heap_new w _) (by rw [e]; exact hl) (by simp)
  rw [e] at h1
  exact h1.mono fun _ _ ⟨a, c, d⟩ => ⟨a, c, (Wr.of hb (by have := h.lt; omega)).trans d⟩
theorem put2 {B b : Nat} {T : List UInt8} {t u : ByteArray} {w : World} {n : Nat} (hn : w.heap.size = n) (h : WB B b T w) (hl : T.length + (t.toList ++ u.toList).length ≤ 140737488355328) :
    Calls Tryd.prog 35 #[.pointer (some ⟨b, 0, none⟩), .slice (some ⟨n, 0, none⟩) 2 2] (w.alloc (.cells #[.string t, .string u] 9)) (WP B b (T ++ (t.toList ++ u.toList)) w) := by
  subst hn
  have hb := bl_alloc (o := .cells #[.string t, .string u] 9) (Below.refl w.heap.size w)
  have e : cat [t, u] = t.toList ++ u.toList := by simp [cat]
  have h1 := put_any B b w.heap.size T [t, u] _ (h.below hb) (World.alloc_heap_new w _) (by rw [e]; exact hl) (by simp)
  rw [e] at h1
  exact h1.mono fun _ _ ⟨a, c, d⟩ => ⟨a, c, (Wr.of hb (by have := h.lt; omega)).trans d⟩
theorem put3 {B b : Nat} {T : List UInt8} {t u v : ByteArray} {w : World} {n : Nat} (hn : w.heap.size = n) (h : WB B b T w) (hl : T.length + (t.toList ++ (u.toList ++ v.toList)).length ≤ 140737488355328) :
    Calls Tryd.prog 35 #[.pointer (some ⟨b, 0, none⟩), .slice (some ⟨n, 0, none⟩) 3 3] (w.alloc (.cells #[.string t, .string u, .string v] 9)) (WP B b (T ++ (t.toList ++ (u.toList ++ v.toList))) w) := by
  subst hn
  have hb := bl_alloc (o := .cells #[.string t, .string u, .string v] 9) (Below.refl w.heap.size w)
  have e : cat [t, u, v] = t.toList ++ (u.toList ++ v.toList) := by simp [cat]
  have h1 := put_any B b w.heap.size T [t, u, v] _ (h.below hb) (World.alloc_heap_new w _) (by rw [e]; exact hl) (by simp)
  rw [e] at h1
  exact h1.mono fun _ _ ⟨a, c, d⟩ => ⟨a, c, (Wr.of hb (by have := h.lt; omega)).trans d⟩
end Go.Proofs.YtlpilbghblbpbaaDoor.Sw
/- WALKS of show's pair and fields, given what expr writes. -/
namespace Go.Proofs.YtlpilbghblbpbaaDoor.Sw
open Go.RowKit
open Lx (bs bl_alloc bl_step)
/-- Each path's slice has room for its names. -/
def Cp (w : World) : Nat → Hd → Ex → Prop
  | 0, _, _ => True
  | n + 1, h, .mk _ _ _ _ ps _ ks => h.pl ≤ h.pc ∧ (∀ (i : Nat) (hi : i < ps.length) (b off : Nat) (y : Hd), h.q = some ⟨b, off, none⟩ → HdAt w b (off + i * 8 + 1) y → Cp w n y ps[i].2) ∧ (∀ (i : Nat) (hi : i < ks.length) (b off : Nat) (y : Hd), h.k = some ⟨b, off, none⟩ → HdAt w b (off + i * 7) y → Cp w n y ks[i])
/-- expr writes an expression of so many levels. -/
def Ask (w0 : World) (B b n : Nat) : Prop := ∀ (h : Hd) (x : Ex) (least : Int) (T : List UInt8) (w : World), InX w0 n h x → Cp w0 n h x → rightB n x = true → 1 ≤ least → Below w0.heap.size w0 w → WB B b T w → T.length + (br (xt n) least x).length ≤ 140737488355328 → Calls Tryd.prog 22 #[.pointer (some ⟨b, 0, none⟩), h.agg, .int .i64 least] w (WP B b (T ++ br (xt n) least x) w)
theorem bxc {w : World} {k : Nat} {cs : Array Value} {t : TypeId} (h : w.heap[k]? = some (Obj.cells cs t (0, 0))) : ∀ o, w.cell? ⟨k, o, none⟩ = cs[o]? := fun o => by simp [World.cell?, h]
theorem br_one (f : Ex → List UInt8) (x : Ex) : br f 1 x = f x := by
  unfold br
  rw [if_neg]
  unfold bnd
  split
  · omega
  · split
    · omega
    · split
      · omega
      · split <;> omega
theorem Wr.keep {B k : Nat} {w w' : World} {cs : Array Value} {t : TypeId} (h : Wr B w w') (hk : w.heap[k]? = some (Obj.cells cs t (0, 0))) (h1 : t ≠ 57) (h2 : t ≠ 5) : w'.heap[k]? = some (Obj.cells cs t (0, 0)) := (h.oth k cs t _ hk h1 h2).trans hk
theorem Wr.low {B : Nat} {w0 w w' : World} (hb : Below w0.heap.size w0 w) (h : Wr B w w') (hB : w0.heap.size ≤ B) : Below w0.heap.size w0 w' := hb.trans (h.bl.mono hB)
set_option maxRecDepth 100000 in
set_option maxHeartbeats 4000000 in
theorem pair_any (w0 : World) (B b n : Nat) (hB : w0.heap.size ≤ B) (hA : Ask w0 B b n) (nm : ByteArray) (h : Hd) (x : Ex) (T : List UInt8) (w : World) (hx : InX w0 n h x) (hcx : Cp w0 n h x) (hr : rightB n x = true) (hb : Below w0.heap.size w0 w) (hw : WB B b T w) (hl : T.length + (nm.toList ++ [58, 32] ++ xt n x ++ [59]).length ≤ 140737488355328) :
    Calls Tryd.prog 66 #[.pointer (some ⟨b, 0, none⟩), .string nm, h.agg] w (WP B b (T ++ (nm.toList ++ [58, 32] ++ xt n x ++ [59])) w) := by
  simp only [Lib.toList_data, List.length_append, List.length_cons, List.length_nil] at hl
  have HA := Lib.hid (hA h x 1)
  have HX := Lib.hid hx
  have HCX := Lib.hid hcx
  have HR := Lib.hid hr
  have HW := Lib.hid hw
  have HB0 := Lib.hid hb
  have hbs := hw.lt
  obtain ⟨op, nn, s, p, pl, pc, q, ql, qc, o, k, kl, kc⟩ := h
  have HE := Lib.hid (World.alloc_heap_new w (.cells #[.int .i64 op, .int .i64 nn, .string s, .slice p pl pc, .slice q ql qc, .bool o, .slice k kl kc] 38))
  have HB1 := Lib.hid (bl_alloc (o := .cells #[.int .i64 op, .int .i64 nn, .string s, .slice p pl pc, .slice q ql qc, .bool o, .slice k kl kc] 38) (Below.refl w.heap.size w))
  have P1 := Lib.hid (Nat.le_refl 0)
  clear hA hx hcx hr hb hw
  go_enter Tryd.func66, Tryd.ntmps66
  go_wp2_with (first
    | (go_at_call 35; clear P1; refine (put2 (World.size_alloc _ _) (HW.out.below HB1.out) (by simp only [Lib.toList_data, List.length_append, List.length_cons, List.length_nil]; omega)).mono ?_; rintro e w2 ⟨rfl, hw2, hr2⟩; have HW2 := Lib.hid hw2; have HR2 := Lib.hid ((Wr.of HB1.out (by omega)).trans hr2); have HE2 := Lib.hid (hr2.keep HE.out (by decide) (by decide)); have f := bxc HE2.out; clear hw2 hr2)
    | (go_at_call 22; refine (HA.out _ _ HX.out HCX.out HR.out (Int.le_refl _) (Wr.low HB0.out HR2.out hB) HW2.out (by rw [br_one]; simp only [Lib.toList_data, List.length_append, List.length_cons, List.length_nil]; omega)).mono ?_; rintro e w3 ⟨rfl, hw3, hr3⟩; rw [br_one] at hw3; have HW3 := Lib.hid hw3; have HR3 := Lib.hid (HR2.out.trans hr3); clear hw3 hr3 f)
    | (go_at_call 35; refine (put1 rfl HW3.out (by simp only [Lib.toList_data, List.length_append, List.length_cons, List.length_nil]; omega)).mono ?_; rintro e w4 ⟨rfl, hw4, hr4⟩; have HW4 := Lib.hid hw4; have HR4 := Lib.hid (HR3.out.trans hr4); clear hw4 hr4))
  go_end0
  refine ⟨rfl, ?_, HR4.out⟩
  have h4 := HW4.out
  simp only [Lib.toList_data, List.append_assoc] at h4 ⊢
  exact h4
end Go.Proofs.YtlpilbghblbpbaaDoor.Sw
/- WALK of show's fields, given what expr writes. -/
namespace Go.Proofs.YtlpilbghblbpbaaDoor.Sw
open Go.RowKit
open Lx (bs bl_alloc bl_step)
/-- What stands between two pairs. -/
def btw (j : Nat) : ByteArray := if j = 0 then ⟨#[]⟩ else ⟨#[32]⟩
theorem btw_list (j : Nat) : (if j = 0 then ([] : List UInt8) else [32]) = (btw j).data.toList := by unfold btw; split <;> rfl
theorem pp_is (f : Ex → List UInt8) (j : Nat) (p : ByteArray × Ex) : pp f j p = (btw j).data.toList ++ (p.1.toList ++ [58, 32] ++ f p.2 ++ [59]) := by
  unfold pp btw
  split <;> rfl
set_option maxRecDepth 100000 in
set_option maxHeartbeats 8000000 in
theorem fields_any (w0 : World) (B b n : Nat) (hB : w0.heap.size ≤ B) (hA : Ask w0 B b n) (op nn : Int) (s : ByteArray) (p : Option Addr) (pl pc : Nat) (q : Option Addr) (ql qc : Nat) (o : Bool) (k : Option Addr) (kl kc : Nat) (ps : List (ByteArray × Ex)) (T : List UInt8) (w : World) (hp : InPs (InX w0 n) w0 q ql ps) (hcp : ∀ (i : Nat) (hi : i < ps.length) (b off : Nat) (y : Hd), q = some ⟨b, off, none⟩ → HdAt w0 b (off + i * 8 + 1) y → Cp w0 n y ps[i].2) (hr : ∀ y ∈ ps, rightB n y.2 = true) (h32 : ps.length ≤ 32) (hb : Below w0.heap.size w0 w) (hw : WB B b T w) (hl : T.length + (fT (xt n) ps o).length ≤ 140737488355328) :
    Calls Tryd.prog 49 #[.pointer (some ⟨b, 0, none⟩), .agg #[.int .i64 op, .int .i64 nn, .string s, .slice p pl pc, .slice q ql qc, .bool o, .slice k kl kc]] w (WP B b (T ++ fT (xt n) ps o) w) := by
  obtain ⟨m, hm⟩ : ∃ m, ps.length = m := ⟨_, rfl⟩
  have hq := hp.count
  rw [hm] at hq h32
  subst hq
  have hl3 : T.length + 1 + (pT (xt n) ps m).length + (if o = true then (btw m).data.toList.length + 3 else 0) + 1 ≤ 140737488355328 := by
    unfold fT at hl
    rw [hm, btw_list] at hl
    cases o with
    | true => simp only [if_true, List.length_append, List.length_cons, List.length_nil] at hl ⊢; omega
    | false => simp only [Bool.false_eq_true, if_false, List.length_append, List.length_cons, List.length_nil] at hl ⊢; omega
  have HA := Lib.hid hA
  have HP := Lib.hid hp
  have HCP := Lib.hid hcp
  have HR := Lib.hid hr
  have HW := Lib.hid hw
  have HB0 := Lib.hid hb
  have HM := Lib.hid hm
  have hbs := hw.lt
  have HE := Lib.hid (World.alloc_heap_new w (.cells #[.int .i64 op, .int .i64 nn, .string s, .slice p pl pc, .slice q m qc, .bool o, .slice k kl kc] 38))
  have HB1 := Lib.hid (bl_alloc (o := .cells #[.int .i64 op, .int .i64 nn, .string s, .slice p pl pc, .slice q m qc, .bool o, .slice k kl kc] 38) (Below.refl w.heap.size w))
  have P1 := Lib.hid (Nat.le_refl 0)
  clear hA hp hcp hr hb hw hm hl
  go_enter Tryd.func49, Tryd.ntmps49
  go_wp2_with (go_at_call 35; refine (put1 (World.size_alloc _ _) (HW.out.below HB1.out) (by simp only [Lib.toList_data]; show T.length + 1 ≤ _; omega)).mono ?_; rintro e w2 ⟨rfl, hw2, hr2⟩; have HW2 := Lib.hid hw2; have HR2 := Lib.hid ((Wr.of HB1.out (by omega)).trans hr2); have HE2 := Lib.hid (hr2.keep HE.out (by decide) (by decide)); have f := bxc HE2.out; clear hw2 hr2)
  go_loopw [13, 4] (fun i t wr => ∃ j : Nat, j ≤ m ∧ i = .int .i64 j ∧ t = .string (btw j) ∧ Hid (WB B b (T ++ [123] ++ pT (xt n) ps j) wr) ∧ Hid (Wr B w2 wr)) (fun i _ _ => m - (intOf i).toNat)
  case atStart => exact ⟨0, Nat.zero_le _, rfl, rfl, Lib.hid (by rw [pT_zero, List.append_nil]; have h2 := HW2.out; simp only [Lib.toList_data] at h2; exact h2), Lib.hid (Wr.refl _ _)⟩
  case round =>
    obtain ⟨j, hj, rfl, rfl, hW, hR⟩ := hrel
    rename World => wr
    clear f
    by_cases hlt : j < m
    · have hki : (j : Int) < (m : Int) := by omega
      have hk0 : (0 : Int) ≤ (j : Int) := by omega
      have hjx : j < ps.length := by rw [HM.out]; exact hlt
      have HBr := Lib.hid (Wr.low HB0.out (HR2.out.trans hR.out) hB)
      obtain ⟨b1, off, hd, rfl, lt1, -, hn1, hx1, hI1⟩ := HP.out.at_ j hjx
      have hstep := pT_step (xt n) hjx
      have hle : (pT (xt n) ps (j + 1)).length ≤ (pT (xt n) ps m).length := pT_le (xt n) ps hlt
      have hry := HR.out _ (List.getElem_mem hjx)
      have hcx := HCP.out j hjx b1 off hd rfl hx1
      rw [hstep, pp_is] at hle
      obtain ⟨⟨nm, x⟩, hpx⟩ : ∃ y, ps[j] = y := ⟨_, rfl⟩
      rw [hpx] at hn1 hI1 hstep hle hry hcx
      dsimp only at hn1 hI1 hle hry hcx
      have HCX := Lib.hid hcx
      obtain ⟨yo, yn, ys, yp, ypl, ypc, yq, yql, yqc, yoo, yk, ykl, ykc⟩ := hd
      obtain ⟨x0, x1, x2, x3, x4, x5, x6⟩ := hx1.below HBr.out lt1
      dsimp only at x0 x1 x2 x3 x4 x5 x6
      have xn := (HBr.out.cell (p := ⟨b1, off + j * 8, none⟩) lt1).trans hn1
      have HST := Lib.hid hstep
      have HRY := Lib.hid hry
      have HI1 := Lib.hid hI1
      simp only [Lib.toList_data, List.length_append, List.length_cons, List.length_nil] at hle
      have HBOX := Lib.hid (World.alloc_heap_new wr (.cells #[.string nm, .int .i64 yo, .int .i64 yn, .string ys, .slice yp ypl ypc, .slice yq yql yqc, .bool yoo, .slice yk ykl ykc] 69))
      have HBA := Lib.hid (bl_alloc (o := .cells #[.string nm, .int .i64 yo, .int .i64 yn, .string ys, .slice yp ypl ypc, .slice yq yql yqc, .bool yoo, .slice yk ykl ykc] 69) (Below.refl wr.heap.size wr))
      have hbz := hW.out.lt
      clear hn1 hx1 hI1 hstep hry hcx hpx lt1
      go_wp2_with (first
        | (go_at_call 35; refine (put1 (World.size_alloc _ _) (hW.out.below HBA.out) (by simp only [Lib.toList_data, List.length_append, List.length_cons, List.length_nil]; omega)).mono ?_; rintro e w3 ⟨rfl, hw3, hr3⟩; have HW3 := Lib.hid hw3; have HR3 := Lib.hid ((Wr.of HBA.out (by omega)).trans hr3); have HX3 := Lib.hid (hr3.keep HBOX.out (by decide) (by decide)); have f := bxc HX3.out; clear hw3 hr3)
        | (go_at_call 66; refine (pair_any w0 B b n hB HA.out nm ⟨yo, yn, ys, yp, ypl, ypc, yq, yql, yqc, yoo, yk, ykl, ykc⟩ x _ _ HI1.out HCX.out HRY.out (Wr.low HBr.out HR3.out hB) HW3.out (by simp only [Lib.toList_data, List.length_append, List.length_cons, List.length_nil]; omega)).mono ?_; rintro e w4 ⟨rfl, hw4, hr4⟩; have HW4 := Lib.hid hw4; have HR4 := Lib.hid (HR3.out.trans hr4); clear hw4 hr4 f))
      go_roundw
      case rel => exact ⟨j + 1, by omega, by go_num, rfl, Lib.hid (by rw [HST.out, pp_is]; have h4 := HW4.out; simp only [Lib.toList_data, List.append_assoc] at h4 ⊢; exact h4), Lib.hid (hR.out.trans HR4.out)⟩
      case measure => simp [intOf]; omega
    · obtain rfl : j = m := by omega
      have hki : ¬ ((j : Int) < (j : Int)) := by omega
      have HE3 := Lib.hid (hR.out.keep HE2.out (by decide) (by decide))
      have f := bxc HE3.out
      cases o with
      | true =>
        simp only [if_true] at hl3
        go_wp2_with (first
          | (go_at_call 35; clear P1; refine (put2 rfl hW.out (by simp only [Lib.toList_data, List.length_append, List.length_cons, List.length_nil]; omega)).mono ?_; rintro e w5 ⟨rfl, hw5, hr5⟩; have HW5 := Lib.hid hw5; have HR5 := Lib.hid hr5; clear hw5 hr5 f)
          | (go_at_call 35; refine (put1 rfl HW5.out (by simp only [Lib.toList_data, List.length_append, List.length_cons, List.length_nil]; omega)).mono ?_; rintro e w6 ⟨rfl, hw6, hr6⟩; have HW6 := Lib.hid hw6; have HR6 := Lib.hid hr6; clear hw6 hr6))
        go_end0
        refine ⟨rfl, ?_, HR2.out.trans (hR.out.trans (HR5.out.trans HR6.out))⟩
        have h6 := HW6.out
        have hT : fT (xt n) ps true = [123] ++ pT (xt n) ps j ++ ((btw j).data.toList ++ [46, 46, 46]) ++ [125] := by unfold fT; rw [HM.out, btw_list, if_pos rfl]
        rw [hT]
        simp only [Lib.toList_data, List.append_assoc] at h6 ⊢
        exact h6
      | false =>
        simp only [Bool.false_eq_true, if_false] at hl3
        go_wp2_with (go_at_call 35; refine (put1 rfl hW.out (by simp only [Lib.toList_data, List.length_append, List.length_cons, List.length_nil]; omega)).mono ?_; rintro e w6 ⟨rfl, hw6, hr6⟩; have HW6 := Lib.hid hw6; have HR6 := Lib.hid hr6; clear hw6 hr6 f)
        go_end0
        refine ⟨rfl, ?_, HR2.out.trans (hR.out.trans HR6.out)⟩
        have h6 := HW6.out
        have hT : fT (xt n) ps false = [123] ++ pT (xt n) ps j ++ [] ++ [125] := by unfold fT; rw [HM.out, if_neg (by decide)]
        rw [hT]
        simp only [Lib.toList_data, List.append_assoc, List.nil_append] at h6 ⊢
        exact h6
end Go.Proofs.YtlpilbghblbpbaaDoor.Sw
/- WALK of show's kids, given what expr writes. -/
namespace Go.Proofs.YtlpilbghblbpbaaDoor.Sw
open Go.RowKit
open Lx (bs bl_alloc bl_step)
theorem lst_zero (op : Int) : lst op 0 = if bnd op = 1 ∨ bnd op = 2 then bnd op + 1 else bnd op := rfl
theorem lst_succ (op : Int) {j : Nat} (h : ¬ j = 0) : lst op j = bnd op + 1 := by unfold lst; rw [if_neg h]
theorem bnd_pos (op : Int) : 1 ≤ bnd op ∧ bnd op ≤ 5 := by
  unfold bnd
  split
  · omega
  · split
    · omega
    · split
      · omega
      · split <;> omega
def lv (y y1 : Int) (j : Nat) : Int := if j ≤ 1 then y else y1
theorem kp_zero (f : Ex → List UInt8) (op : Int) (x : Ex) : kp f op 0 x = br f (lst op 0) x := rfl
theorem kp_succ (f : Ex → List UInt8) (op : Int) {j : Nat} (x : Ex) (h : ¬ j = 0) : kp f op j x = [32, sgn op, 32] ++ br f (bnd op + 1) x := by unfold kp; rw [if_neg h, lst_succ op h]
set_option maxRecDepth 100000 in
set_option maxHeartbeats 8000000 in
theorem kids_any (w0 : World) (B b n : Nat) (hB : w0.heap.size ≤ B) (hS : SE w0) (hA : Ask w0 B b n) (r : Nat) (hr1 : 11 ≤ r) (hr2 : r ≤ 15) (nn : Int) (s : ByteArray) (p : Option Addr) (pl pc : Nat) (q : Option Addr) (ql qc : Nat) (o : Bool) (k : Option Addr) (m kc : Nat) (ks : List Ex) (T : List UInt8) (w : World) (hk : InKs (InX w0 n) w0 k m ks) (hcp : ∀ (i : Nat) (hi : i < ks.length) (b off : Nat) (y : Hd), k = some ⟨b, off, none⟩ → HdAt w0 b (off + i * 7) y → Cp w0 n y ks[i]) (hr : ∀ y ∈ ks, rightB n y = true) (h32 : ks.length ≤ 32) (hb : Below w0.heap.size w0 w) (hw : WB B b T w) (hl : T.length + (kT (xt n) r ks ks.length).length ≤ 140737488355328) :
    Calls Tryd.prog 37 #[.pointer (some ⟨b, 0, none⟩), .agg #[.int .i64 r, .int .i64 nn, .string s, .slice p pl pc, .slice q ql qc, .bool o, .slice k m kc]] w (WP B b (T ++ kT (xt n) r ks ks.length) w) := by
  have hm := hk.count
  rw [hm] at h32 hl ⊢
  have HA := Lib.hid hA
  have HK := Lib.hid hk
  have HCP := Lib.hid hcp
  have HR := Lib.hid hr
  have HW := Lib.hid hw
  have HB0 := Lib.hid hb
  have HM := Lib.hid hm
  have HS := Lib.hid hS
  have hbs := hw.lt
  have HL := Lib.hid hl
  have HE := Lib.hid (World.alloc_heap_new w (.cells #[.int .i64 r, .int .i64 nn, .string s, .slice p pl pc, .slice q ql qc, .bool o, .slice k m kc] 38))
  have HB1 := Lib.hid (bl_alloc (o := .cells #[.int .i64 r, .int .i64 nn, .string s, .slice p pl pc, .slice q ql qc, .bool o, .slice k m kc] 38) (Below.refl w.heap.size w))
  have hg0 : (w.alloc (.cells #[.int .i64 r, .int .i64 nn, .string s, .slice p pl pc, .slice q ql qc, .bool o, .slice k m kc] 38)).cell? ⟨1, r, none⟩ = some (.int .i64 (bnd r)) := (hS.below (hb.trans (HB1.out.mono hb.size))).bi r (by omega) hr2
  have hr0 : (0 : Int) ≤ (r : Int) := by omega
  have hr16 : (r : Int) < 16 := by omega
  obtain ⟨z, hz⟩ : ∃ z, bnd (r : Int) = z := ⟨_, rfl⟩
  obtain ⟨y, hy⟩ : ∃ y, lst (r : Int) 0 = y := ⟨_, rfl⟩
  have hyz := lst_zero (r : Int)
  have hzp := bnd_pos (r : Int)
  rw [hy, hz] at hyz
  rw [hz] at hg0 hzp
  have HZ := Lib.hid hz
  have HY := Lib.hid hy
  have hyp : 1 ≤ y := by rw [hyz]; split <;> omega
  have hcase : (((z == 1) = true ∧ (z == 2) = false ∨ (z == 1) = false ∧ (z == 2) = true) ∧ y = z + 1) ∨ ((z == 1) = false ∧ (z == 2) = false ∧ y = z) := by
    rw [hyz]
    by_cases h1 : z = 1
    · subst h1; exact .inl ⟨.inl ⟨rfl, rfl⟩, rfl⟩
    · by_cases h2 : z = 2
      · subst h2; exact .inl ⟨.inr ⟨rfl, rfl⟩, rfl⟩
      · refine .inr ⟨by simpa using h1, by simpa using h2, ?_⟩
        rw [if_neg (by omega)]
  clear hA hk hcp hr hb hw hm hS hl hz hy hyz
  rcases hcase with ⟨⟨ht1, ht2⟩ | ⟨ht1, ht2⟩, hyz⟩ | ⟨ht1, ht2, hyz⟩
  all_goals
    have HYZ := Lib.hid hyz
    clear hyz
    go_enter Tryd.func37, Tryd.ntmps37
    go_wp2_with fail
    clear ht1 ht2 hg0
    go_loopw [22, 4] (fun i t wr => ∃ j : Nat, j ≤ m ∧ i = .int .i64 j ∧ t = .int .i64 (lv y (z + 1) j) ∧ Hid (WB B b (T ++ kT (xt n) r ks j) wr) ∧ Hid (Wr B (w.alloc (.cells #[.int .i64 r, .int .i64 nn, .string s, .slice p pl pc, .slice q ql qc, .bool o, .slice k m kc] 38)) wr)) (fun i _ _ => m - (intOf i).toNat)
    case atStart => exact ⟨0, Nat.zero_le _, rfl, by rw [HYZ.out]; rfl, Lib.hid (by rw [kT_zero, List.append_nil]; exact HW.out.below HB1.out), Lib.hid (Wr.refl _ _)⟩
    case round =>
      obtain ⟨j, hj, rfl, rfl, hW, hR⟩ := hrel
      rename World => wr
      by_cases hlt : j < m
      · have hki : (j : Int) < (m : Int) := by omega
        have hk0 : (0 : Int) ≤ (j : Int) := by omega
        have hjx : j < ks.length := by rw [HM.out]; exact hlt
        have HBr := Lib.hid (Wr.low (HB0.out.trans (HB1.out.mono HB0.out.size)) hR.out hB)
        obtain ⟨b1, off, hd, rfl, lt1, hx1, hI1⟩ := HK.out.at_ j hjx
        have hstep := kT_step (xt n) r hjx
        have hle : (kT (xt n) r ks (j + 1)).length ≤ (kT (xt n) r ks m).length := kT_le (xt n) r ks hlt
        have hry := HR.out _ (List.getElem_mem hjx)
        have hcx := HCP.out j hjx b1 off hd rfl hx1
        rw [hstep] at hle
        generalize ks[j] = x at hI1 hstep hle hry hcx
        have HCX := Lib.hid hcx
        obtain ⟨yo, yn, ys, yp, ypl, ypc, yq, yql, yqc, yoo, yk, ykl, ykc⟩ := hd
        obtain ⟨x0, x1, x2, x3, x4, x5, x6⟩ := hx1.below HBr.out lt1
        dsimp only at x0 x1 x2 x3 x4 x5 x6
        have HST := Lib.hid hstep
        have HRY := Lib.hid hry
        have HI1 := Lib.hid hI1
        have hll := HL.out
        have HBOX := Lib.hid (World.alloc_heap_new wr (.cells #[.int .i64 yo, .int .i64 yn, .string ys, .slice yp ypl ypc, .slice yq yql yqc, .bool yoo, .slice yk ykl ykc] 38))
        have HBA := Lib.hid (bl_alloc (o := .cells #[.int .i64 yo, .int .i64 yn, .string ys, .slice yp ypl ypc, .slice yq yql yqc, .bool yoo, .slice yk ykl ykc] 38) (Below.refl wr.heap.size wr))
        have hbz := hW.out.lt
        clear hx1 hI1 hstep hry hcx lt1
        by_cases hj0 : j = 0
        · have hkp : kp (xt n) r j x = br (xt n) y x := by rw [hj0, kp_zero, HY.out]
          have hlv : lv y (z + 1) j = y := by unfold lv; rw [if_pos (by omega)]
          have hlv2 : lv y (z + 1) (j + 1) = y := by unfold lv; rw [if_pos (by omega)]
          have hj1 : ¬ (0 : Int) < (j : Int) := by omega
          rw [hkp, List.length_append] at hle
          have HKP := Lib.hid hkp
          have HLV := Lib.hid hlv2
          rw [hlv]
          have f := bxc HBOX.out
          clear hkp hlv hlv2 hj0
          go_wp2_with (go_at_call 22; refine (HA.out ⟨yo, yn, ys, yp, ypl, ypc, yq, yql, yqc, yoo, yk, ykl, ykc⟩ x y _ _ HI1.out HCX.out HRY.out hyp (Wr.low HBr.out (Wr.of HBA.out (by omega)) hB) (hW.out.below HBA.out) (by rw [List.length_append]; omega)).mono ?_; rintro e w4 ⟨rfl, hw4, hr4⟩; have HW4 := Lib.hid hw4; have HR4 := Lib.hid ((Wr.of HBA.out (by omega)).trans hr4); clear hw4 hr4 f)
          go_roundw
          case rel => exact ⟨j + 1, by omega, by go_num, by rw [HLV.out], Lib.hid (by rw [HST.out, HKP.out, ← List.append_assoc]; exact HW4.out), Lib.hid (hR.out.trans HR4.out)⟩
          case measure => simp [intOf]; omega
        · have hj1 : (0 : Int) < (j : Int) := by omega
          rw [kp_succ _ _ _ hj0, HZ.out] at hle
          simp only [List.length_append, List.length_cons, List.length_nil] at hle
          have HE2 := Lib.hid (hR.out.keep HE.out (by decide) (by decide))
          have HE3 := Lib.hid ((HBA.out.block _ (Array.getElem?_eq_some_iff.1 HE2.out).1).trans HE2.out)
          have f := bxc HE3.out
          have hsg := (HS.out.below (HBr.out.trans (HBA.out.mono HBr.out.size))).si r hr1 hr2
          have hbl : (bs [sgn (r : Int)]).data.toList.length = 1 := rfl
          have hne : ¬ w.heap.size = wr.heap.size := by have := (Array.getElem?_eq_some_iff.1 HE2.out).1; omega
          go_wp2_with (first
            | (go_at_call 35; refine (put3 (World.size_alloc _ _) (hW.out.below HBA.out) (by simp only [Lib.toList_data, List.length_append, List.length_cons, List.length_nil, hbl]; omega)).mono ?_; rintro e w3 ⟨rfl, hw3, hr3⟩; have HW3 := Lib.hid hw3; have HR3 := Lib.hid ((Wr.of HBA.out (by omega)).trans hr3); have HX3 := Lib.hid (hr3.keep HBOX.out (by decide) (by decide)); have HE4 := Lib.hid (hr3.keep HE3.out (by decide) (by decide)); clear f; have f := bxc HX3.out; have g := bxc HE4.out; have hbi := (HS.out.below (Wr.low HBr.out HR3.out hB)).bi r (by omega) hr2; rw [HZ.out] at hbi; clear hw3 hr3)
            | (go_at_call 22; refine (HA.out ⟨yo, yn, ys, yp, ypl, ypc, yq, yql, yqc, yoo, yk, ykl, ykc⟩ x (z + 1) _ _ HI1.out HCX.out HRY.out (by omega) (Wr.low HBr.out HR3.out hB) HW3.out (by simp only [Lib.toList_data, List.length_append, List.length_cons, List.length_nil, hbl]; omega)).mono ?_; rintro e w4 ⟨rfl, hw4, hr4⟩; have HW4 := Lib.hid hw4; have HR4 := Lib.hid (HR3.out.trans hr4); clear hw4 hr4 f g))
          go_roundw
          case rel => exact ⟨j + 1, by omega, by go_num, by unfold lv; rw [if_neg (by omega)], Lib.hid (by rw [HST.out, kp_succ _ _ _ hj0, HZ.out]; have h4 := HW4.out; simp only [Lib.toList_data, List.append_assoc] at h4 ⊢; exact h4), Lib.hid (hR.out.trans HR4.out)⟩
          case measure => simp [intOf]; omega
      · obtain rfl : j = m := by omega
        have hki : ¬ ((j : Int) < (j : Int)) := by omega
        go_wp2_with fail
        go_end0
        exact ⟨rfl, hW.out, (Wr.of HB1.out (by omega)).trans hR.out⟩
end Go.Proofs.YtlpilbghblbpbaaDoor.Sw
/- WALK of show's unit, given what expr writes. -/
namespace Go.Proofs.YtlpilbghblbpbaaDoor.Sw
open Go.RowKit
open Lx (bs bl_alloc bl_step)
theorem text_as (n : Int) (t : ByteArray) (w : World) (hn : inB n = true) (ht : Hid (Nt.textS n = t)) : Calls Tryd.prog 10 #[.int .i64 n] w fun e w' => e = .returned (.string t) ∧ Below w.heap.size w w' := by
  rw [← ht.out]
  unfold inB at hn
  simp only [Bool.and_eq_true, decide_eq_true_eq] at hn
  have h := hn
  exact Nt.text_any n w (by omega) (by omega)
set_option maxRecDepth 100000 in
set_option maxHeartbeats 4000000 in
theorem unit_int (B b : Nat) (nn : Int) (s : ByteArray) (p : Option Addr) (pl pc : Nat) (q : Option Addr) (ql qc : Nat) (o : Bool) (k : Option Addr) (kl kc : Nat) (T : List UInt8) (w : World) (hn : inB nn = true) (hw : WB B b T w) (hl : T.length + (Nt.textL nn).length ≤ 140737488355328) :
    Calls Tryd.prog 36 #[.pointer (some ⟨b, 0, none⟩), .agg #[.int .i64 1, .int .i64 nn, .string s, .slice p pl pc, .slice q ql qc, .bool o, .slice k kl kc]] w (WP B b (T ++ Nt.textL nn) w) := by
  have HW := Lib.hid hw
  have hbs := hw.lt
  have HE := Lib.hid (World.alloc_heap_new w (.cells #[.int .i64 1, .int .i64 nn, .string s, .slice p pl pc, .slice q ql qc, .bool o, .slice k kl kc] 38))
  have HB1 := Lib.hid (bl_alloc (o := .cells #[.int .i64 1, .int .i64 nn, .string s, .slice p pl pc, .slice q ql qc, .bool o, .slice k kl kc] 38) (Below.refl w.heap.size w))
  have f := bxc HE.out
  obtain ⟨t, ht⟩ : ∃ t, Nt.textS nn = t := ⟨_, rfl⟩
  have htl : t.toList = Nt.textL nn := by rw [← ht, Lib.toList_data]; exact Nt.textS_list nn
  have HTX := Lib.hid ht
  rw [← htl] at hl ⊢
  clear ht htl
  clear hw  
  go_enter Tryd.func36, Tryd.ntmps36
  go_wp2_with (first
    | (go_at_call 10; refine (text_as nn t _ hn HTX).mono ?_; rintro e w3 ⟨rfl, hb3⟩; have HB3 := Lib.hid hb3; clear hb3 f)
    | (go_at_call 35; refine (put1 rfl ((HW.out.below HB1.out).below HB3.out) hl).mono ?_; rintro e w4 ⟨rfl, hw4, hr4⟩; have HW4 := Lib.hid hw4; have HR4 := Lib.hid hr4; clear hw4 hr4))
  go_end0
  refine ⟨rfl, ?_, (Wr.of (bl_step HB1.out HB3.out) (by omega)).trans HR4.out⟩
  exact HW4.out
set_option maxRecDepth 100000 in
set_option maxHeartbeats 4000000 in
theorem unit_least (B b : Nat) (nn : Int) (s : ByteArray) (p : Option Addr) (pl pc : Nat) (q : Option Addr) (ql qc : Nat) (o : Bool) (k : Option Addr) (kl kc : Nat) (T : List UInt8) (w : World) (hn : inB nn = true) (hw : WB B b T w) (hl : T.length + (([62, 61] ++ Nt.textL nn)).length ≤ 140737488355328) :
    Calls Tryd.prog 36 #[.pointer (some ⟨b, 0, none⟩), .agg #[.int .i64 7, .int .i64 nn, .string s, .slice p pl pc, .slice q ql qc, .bool o, .slice k kl kc]] w (WP B b (T ++ ([62, 61] ++ Nt.textL nn)) w) := by
  have HW := Lib.hid hw
  have hbs := hw.lt
  have HE := Lib.hid (World.alloc_heap_new w (.cells #[.int .i64 7, .int .i64 nn, .string s, .slice p pl pc, .slice q ql qc, .bool o, .slice k kl kc] 38))
  have HB1 := Lib.hid (bl_alloc (o := .cells #[.int .i64 7, .int .i64 nn, .string s, .slice p pl pc, .slice q ql qc, .bool o, .slice k kl kc] 38) (Below.refl w.heap.size w))
  have f := bxc HE.out
  obtain ⟨t, ht⟩ : ∃ t, Nt.textS nn = t := ⟨_, rfl⟩
  have htl : t.toList = Nt.textL nn := by rw [← ht, Lib.toList_data]; exact Nt.textS_list nn
  have HTX := Lib.hid ht
  rw [← htl] at hl ⊢
  clear ht htl
  clear hw  
  go_enter Tryd.func36, Tryd.ntmps36
  go_wp2_with (first
    | (go_at_call 10; refine (text_as nn t _ hn HTX).mono ?_; rintro e w3 ⟨rfl, hb3⟩; have HB3 := Lib.hid hb3; clear hb3 f)
    | (go_at_call 35; refine (put2 rfl ((HW.out.below HB1.out).below HB3.out) (by rw [show (⟨#[62, 61]⟩ : ByteArray).toList = [62, 61] by rw [Lib.toList_data]]; exact hl)).mono ?_; rintro e w4 ⟨rfl, hw4, hr4⟩; have HW4 := Lib.hid hw4; have HR4 := Lib.hid hr4; clear hw4 hr4))
  go_end0
  refine ⟨rfl, ?_, (Wr.of (bl_step HB1.out HB3.out) (by omega)).trans HR4.out⟩
  have h4 := HW4.out
  rw [show (⟨#[62, 61]⟩ : ByteArray).toList = [62, 61] by rw [Lib.toList_data]] at h4
  exact h4
set_option maxRecDepth 100000 in
set_option maxHeartbeats 4000000 in
theorem unit_most (B b : Nat) (nn : Int) (s : ByteArray) (p : Option Addr) (pl pc : Nat) (q : Option Addr) (ql qc : Nat) (o : Bool) (k : Option Addr) (kl kc : Nat) (T : List UInt8) (w : World) (hn : inB nn = true) (hw : WB B b T w) (hl : T.length + (([60, 61] ++ Nt.textL nn)).length ≤ 140737488355328) :
    Calls Tryd.prog 36 #[.pointer (some ⟨b, 0, none⟩), .agg #[.int .i64 8, .int .i64 nn, .string s, .slice p pl pc, .slice q ql qc, .bool o, .slice k kl kc]] w (WP B b (T ++ ([60, 61] ++ Nt.textL nn)) w) := by
  have HW := Lib.hid hw
  have hbs := hw.lt
  have HE := Lib.hid (World.alloc_heap_new w (.cells #[.int .i64 8, .int .i64 nn, .string s, .slice p pl pc, .slice q ql qc, .bool o, .slice k kl kc] 38))
  have HB1 := Lib.hid (bl_alloc (o := .cells #[.int .i64 8, .int .i64 nn, .string s, .slice p pl pc, .slice q ql qc, .bool o, .slice k kl kc] 38) (Below.refl w.heap.size w))
  have f := bxc HE.out
  obtain ⟨t, ht⟩ : ∃ t, Nt.textS nn = t := ⟨_, rfl⟩
  have htl : t.toList = Nt.textL nn := by rw [← ht, Lib.toList_data]; exact Nt.textS_list nn
  have HTX := Lib.hid ht
  rw [← htl] at hl ⊢
  clear ht htl
  clear hw  
  go_enter Tryd.func36, Tryd.ntmps36
  go_wp2_with (first
    | (go_at_call 10; refine (text_as nn t _ hn HTX).mono ?_; rintro e w3 ⟨rfl, hb3⟩; have HB3 := Lib.hid hb3; clear hb3 f)
    | (go_at_call 35; refine (put2 rfl ((HW.out.below HB1.out).below HB3.out) (by rw [show (⟨#[60, 61]⟩ : ByteArray).toList = [60, 61] by rw [Lib.toList_data]]; exact hl)).mono ?_; rintro e w4 ⟨rfl, hw4, hr4⟩; have HW4 := Lib.hid hw4; have HR4 := Lib.hid hr4; clear hw4 hr4))
  go_end0
  refine ⟨rfl, ?_, (Wr.of (bl_step HB1.out HB3.out) (by omega)).trans HR4.out⟩
  have h4 := HW4.out
  rw [show (⟨#[60, 61]⟩ : ByteArray).toList = [60, 61] by rw [Lib.toList_data]] at h4
  exact h4
set_option maxRecDepth 100000 in
set_option maxHeartbeats 4000000 in
theorem unit_text (B b : Nat) (nn : Int) (s : ByteArray) (p : Option Addr) (pl pc : Nat) (q : Option Addr) (ql qc : Nat) (o : Bool) (k : Option Addr) (kl kc : Nat) (T : List UInt8) (w : World) (hn : s.size ≤ 256) (hw : WB B b T w) (hl : T.length + (Lx.quoteL s.toList).length ≤ 140737488355328) :
    Calls Tryd.prog 36 #[.pointer (some ⟨b, 0, none⟩), .agg #[.int .i64 2, .int .i64 nn, .string s, .slice p pl pc, .slice q ql qc, .bool o, .slice k kl kc]] w (WP B b (T ++ Lx.quoteL s.toList) w) := by
  have HW := Lib.hid hw
  have hbs := hw.lt
  have HE := Lib.hid (World.alloc_heap_new w (.cells #[.int .i64 2, .int .i64 nn, .string s, .slice p pl pc, .slice q ql qc, .bool o, .slice k kl kc] 38))
  have HB1 := Lib.hid (bl_alloc (o := .cells #[.int .i64 2, .int .i64 nn, .string s, .slice p pl pc, .slice q ql qc, .bool o, .slice k kl kc] 38) (Below.refl w.heap.size w))
  have f := bxc HE.out
  obtain ⟨t, ht⟩ : ∃ t, bs (Lx.quoteL s.toList) = t := ⟨_, rfl⟩
  have htl : t.toList = Lx.quoteL s.toList := by rw [← ht, bs_list]
  have HTX : ∀ W, Hid (Calls Tryd.prog 47 #[.string s] W fun e w' => e = .returned (.string t) ∧ Below W.heap.size W w') := fun W => Lib.hid (by rw [← ht]; exact Lx.quote_any s W (by omega))
  rw [← htl] at hl ⊢
  clear ht htl
  clear hw  
  go_enter Tryd.func36, Tryd.ntmps36
  go_wp2_with (first
    | (go_at_call 47; refine (HTX _).out.mono ?_; rintro e w3 ⟨rfl, hb3⟩; have HB3 := Lib.hid hb3; clear hb3 f)
    | (go_at_call 35; refine (put1 rfl ((HW.out.below HB1.out).below HB3.out) hl).mono ?_; rintro e w4 ⟨rfl, hw4, hr4⟩; have HW4 := Lib.hid hw4; have HR4 := Lib.hid hr4; clear hw4 hr4))
  go_end0
  exact ⟨rfl, HW4.out, (Wr.of (bl_step HB1.out HB3.out) (by omega)).trans HR4.out⟩
set_option maxRecDepth 100000 in
set_option maxHeartbeats 4000000 in
theorem unit_path (w0 : World) (B b : Nat) (nn : Int) (s : ByteArray) (p : Option Addr) (pl pc : Nat) (q : Option Addr) (ql qc : Nat) (o : Bool) (k : Option Addr) (kl kc : Nat) (T : List UInt8) (w : World) (path : List ByteArray) (hn : ∀ W, Below w0.heap.size w0 W → Calls Tryd.prog 48 #[.slice p pl pc] W fun e w' => e = .returned (.tuple #[.string (bs (pathT path)), .bool true]) ∧ Below W.heap.size W w') (hb : Below w0.heap.size w0 w) (hw : WB B b T w) (hl : T.length + (pathT path).length ≤ 140737488355328) :
    Calls Tryd.prog 36 #[.pointer (some ⟨b, 0, none⟩), .agg #[.int .i64 9, .int .i64 nn, .string s, .slice p pl pc, .slice q ql qc, .bool o, .slice k kl kc]] w (WP B b (T ++ pathT path) w) := by
  have HW := Lib.hid hw
  have hbs := hw.lt
  have HE := Lib.hid (World.alloc_heap_new w (.cells #[.int .i64 9, .int .i64 nn, .string s, .slice p pl pc, .slice q ql qc, .bool o, .slice k kl kc] 38))
  have HB1 := Lib.hid (bl_alloc (o := .cells #[.int .i64 9, .int .i64 nn, .string s, .slice p pl pc, .slice q ql qc, .bool o, .slice k kl kc] 38) (Below.refl w.heap.size w))
  have f := bxc HE.out
  obtain ⟨t, ht⟩ : ∃ t, bs (pathT path) = t := ⟨_, rfl⟩
  have htl : t.toList = pathT path := by rw [← ht, bs_list]
  have HTX : Hid (∀ W, Below w0.heap.size w0 W → Calls Tryd.prog 48 #[.slice p pl pc] W fun e w' => e = .returned (.tuple #[.string t, .bool true]) ∧ Below W.heap.size W w') := Lib.hid (by rw [← ht]; exact hn)
  have HB0 := Lib.hid (hb.trans (HB1.out.mono hb.size))
  rw [← htl] at hl ⊢
  clear ht htl hn
  clear hw hb 
  go_enter Tryd.func36, Tryd.ntmps36
  go_wp2_with (first
    | (go_at_call 48; refine (HTX.out _ HB0.out).mono ?_; rintro e w3 ⟨rfl, hb3⟩; have HB3 := Lib.hid hb3; clear hb3 f)
    | (go_at_call 35; refine (put1 rfl ((HW.out.below HB1.out).below HB3.out) hl).mono ?_; rintro e w4 ⟨rfl, hw4, hr4⟩; have HW4 := Lib.hid hw4; have HR4 := Lib.hid hr4; clear hw4 hr4))
  go_end0
  exact ⟨rfl, HW4.out, (Wr.of (bl_step HB1.out HB3.out) (by omega)).trans HR4.out⟩
set_option maxRecDepth 100000 in
set_option maxHeartbeats 4000000 in
theorem unit_none (B b : Nat) (nn : Int) (s : ByteArray) (p : Option Addr) (pl pc : Nat) (q : Option Addr) (ql qc : Nat) (o : Bool) (k : Option Addr) (kl kc : Nat) (T : List UInt8) (w : World)  (hw : WB B b T w) (hl : T.length + ([110, 111, 110, 101]).length ≤ 140737488355328) :
    Calls Tryd.prog 36 #[.pointer (some ⟨b, 0, none⟩), .agg #[.int .i64 5, .int .i64 nn, .string s, .slice p pl pc, .slice q ql qc, .bool o, .slice k kl kc]] w (WP B b (T ++ [110, 111, 110, 101]) w) := by
  have HW := Lib.hid hw
  have hbs := hw.lt
  have HE := Lib.hid (World.alloc_heap_new w (.cells #[.int .i64 5, .int .i64 nn, .string s, .slice p pl pc, .slice q ql qc, .bool o, .slice k kl kc] 38))
  have HB1 := Lib.hid (bl_alloc (o := .cells #[.int .i64 5, .int .i64 nn, .string s, .slice p pl pc, .slice q ql qc, .bool o, .slice k kl kc] 38) (Below.refl w.heap.size w))
  have f := bxc HE.out
  clear hw  
  go_enter Tryd.func36, Tryd.ntmps36
  go_wp2_with (first
    | (go_at_call 35; refine (put1 (World.size_alloc _ _) (HW.out.below HB1.out) (by rw [show (⟨#[110, 111, 110, 101]⟩ : ByteArray).toList = [110, 111, 110, 101] by rw [Lib.toList_data]]; exact hl)).mono ?_; rintro e w4 ⟨rfl, hw4, hr4⟩; have HW4 := Lib.hid hw4; have HR4 := Lib.hid hr4; clear hw4 hr4))
  go_end0
  refine ⟨rfl, ?_, (Wr.of HB1.out (by omega)).trans HR4.out⟩
  have h4 := HW4.out
  rw [show (⟨#[110, 111, 110, 101]⟩ : ByteArray).toList = [110, 111, 110, 101] by rw [Lib.toList_data]] at h4
  exact h4
set_option maxRecDepth 100000 in
set_option maxHeartbeats 4000000 in
theorem unit_later (B b : Nat) (nn : Int) (s : ByteArray) (p : Option Addr) (pl pc : Nat) (q : Option Addr) (ql qc : Nat) (o : Bool) (k : Option Addr) (kl kc : Nat) (T : List UInt8) (w : World)  (hw : WB B b T w) (hl : T.length + ([99, 111, 109, 112, 117, 116, 101, 100]).length ≤ 140737488355328) :
    Calls Tryd.prog 36 #[.pointer (some ⟨b, 0, none⟩), .agg #[.int .i64 6, .int .i64 nn, .string s, .slice p pl pc, .slice q ql qc, .bool o, .slice k kl kc]] w (WP B b (T ++ [99, 111, 109, 112, 117, 116, 101, 100]) w) := by
  have HW := Lib.hid hw
  have hbs := hw.lt
  have HE := Lib.hid (World.alloc_heap_new w (.cells #[.int .i64 6, .int .i64 nn, .string s, .slice p pl pc, .slice q ql qc, .bool o, .slice k kl kc] 38))
  have HB1 := Lib.hid (bl_alloc (o := .cells #[.int .i64 6, .int .i64 nn, .string s, .slice p pl pc, .slice q ql qc, .bool o, .slice k kl kc] 38) (Below.refl w.heap.size w))
  have f := bxc HE.out
  clear hw  
  go_enter Tryd.func36, Tryd.ntmps36
  go_wp2_with (first
    | (go_at_call 35; refine (put1 (World.size_alloc _ _) (HW.out.below HB1.out) (by rw [show (⟨#[99, 111, 109, 112, 117, 116, 101, 100]⟩ : ByteArray).toList = [99, 111, 109, 112, 117, 116, 101, 100] by rw [Lib.toList_data]]; exact hl)).mono ?_; rintro e w4 ⟨rfl, hw4, hr4⟩; have HW4 := Lib.hid hw4; have HR4 := Lib.hid hr4; clear hw4 hr4))
  go_end0
  refine ⟨rfl, ?_, (Wr.of HB1.out (by omega)).trans HR4.out⟩
  have h4 := HW4.out
  rw [show (⟨#[99, 111, 109, 112, 117, 116, 101, 100]⟩ : ByteArray).toList = [99, 111, 109, 112, 117, 116, 101, 100] by rw [Lib.toList_data]] at h4
  exact h4
set_option maxRecDepth 100000 in
set_option maxHeartbeats 4000000 in
theorem unit_bool (w0 : World) (B b : Nat) (hS : SE w0) (nn : Int) (s : ByteArray) (p : Option Addr) (pl pc : Nat) (q : Option Addr) (ql qc : Nat) (o : Bool) (k : Option Addr) (kl kc : Nat) (T : List UInt8) (w : World) (hn : nn = 0 ∨ nn = 1) (hb : Below w0.heap.size w0 w) (hw : WB B b T w) (hl : T.length + (boolT nn).length ≤ 140737488355328) :
    Calls Tryd.prog 36 #[.pointer (some ⟨b, 0, none⟩), .agg #[.int .i64 3, .int .i64 nn, .string s, .slice p pl pc, .slice q ql qc, .bool o, .slice k kl kc]] w (WP B b (T ++ boolT nn) w) := by
  have HW := Lib.hid hw
  have hbs := hw.lt
  have HE := Lib.hid (World.alloc_heap_new w (.cells #[.int .i64 3, .int .i64 nn, .string s, .slice p pl pc, .slice q ql qc, .bool o, .slice k kl kc] 38))
  have HB1 := Lib.hid (bl_alloc (o := .cells #[.int .i64 3, .int .i64 nn, .string s, .slice p pl pc, .slice q ql qc, .bool o, .slice k kl kc] 38) (Below.refl w.heap.size w))
  have f := bxc HE.out
  have h := hS.below (hb.trans (HB1.out.mono hb.size))
  obtain ⟨t, ht⟩ : ∃ t, bs (boolT nn) = t := ⟨_, rfl⟩
  have htl : t.toList = boolT nn := by rw [← ht, bs_list]
  rw [← htl] at hl ⊢
  obtain ⟨r, rfl⟩ : ∃ r : Nat, nn = (r : Int) := ⟨nn.toNat, by omega⟩
  have hr : r < 2 := by omega
  have hr0 : (0 : Int) ≤ (r : Int) := by omega
  have hr9 : (r : Int) < 2 := by omega
  have hc : (w.alloc (.cells #[.int .i64 3, .int .i64 (r : Int), .string s, .slice p pl pc, .slice q ql qc, .bool o, .slice k kl kc] 38)).cell? ⟨2, r, none⟩ = some (.string t) := by
    rw [← ht]
    rcases (by omega : r = 0 ∨ r = 1) with rfl | rfl
    · exact h.b0
    · exact h.b1
  clear ht htl h hn hr
  clear hw hb hS
  go_enter Tryd.func36, Tryd.ntmps36
  go_wp2_with (first
    | (go_at_call 35; refine (put1 (World.size_alloc _ _) (HW.out.below HB1.out) hl).mono ?_; rintro e w4 ⟨rfl, hw4, hr4⟩; have HW4 := Lib.hid hw4; have HR4 := Lib.hid hr4; clear hw4 hr4))
  go_end0
  exact ⟨rfl, HW4.out, (Wr.of HB1.out (by omega)).trans HR4.out⟩
set_option maxRecDepth 100000 in
set_option maxHeartbeats 4000000 in
theorem unit_kind (w0 : World) (B b : Nat) (hS : SE w0) (nn : Int) (s : ByteArray) (p : Option Addr) (pl pc : Nat) (q : Option Addr) (ql qc : Nat) (o : Bool) (k : Option Addr) (kl kc : Nat) (T : List UInt8) (w : World) (hn : nn = 1 ∨ nn = 2 ∨ nn = 3 ∨ nn = 5) (hb : Below w0.heap.size w0 w) (hw : WB B b T w) (hl : T.length + (kindT nn).length ≤ 140737488355328) :
    Calls Tryd.prog 36 #[.pointer (some ⟨b, 0, none⟩), .agg #[.int .i64 4, .int .i64 nn, .string s, .slice p pl pc, .slice q ql qc, .bool o, .slice k kl kc]] w (WP B b (T ++ kindT nn) w) := by
  have HW := Lib.hid hw
  have hbs := hw.lt
  have HE := Lib.hid (World.alloc_heap_new w (.cells #[.int .i64 4, .int .i64 nn, .string s, .slice p pl pc, .slice q ql qc, .bool o, .slice k kl kc] 38))
  have HB1 := Lib.hid (bl_alloc (o := .cells #[.int .i64 4, .int .i64 nn, .string s, .slice p pl pc, .slice q ql qc, .bool o, .slice k kl kc] 38) (Below.refl w.heap.size w))
  have f := bxc HE.out
  have h := hS.below (hb.trans (HB1.out.mono hb.size))
  obtain ⟨t, ht⟩ : ∃ t, bs (kindT nn) = t := ⟨_, rfl⟩
  have htl : t.toList = kindT nn := by rw [← ht, bs_list]
  rw [← htl] at hl ⊢
  obtain ⟨r, rfl⟩ : ∃ r : Nat, nn = (r : Int) := ⟨nn.toNat, by omega⟩
  have hr : r < 6 := by omega
  have hr0 : (0 : Int) ≤ (r : Int) := by omega
  have hr9 : (r : Int) < 6 := by omega
  have hc : (w.alloc (.cells #[.int .i64 4, .int .i64 (r : Int), .string s, .slice p pl pc, .slice q ql qc, .bool o, .slice k kl kc] 38)).cell? ⟨3, r, none⟩ = some (.string t) := by
    rw [← ht]
    rcases (by omega : r = 1 ∨ r = 2 ∨ r = 3 ∨ r = 5) with rfl | rfl | rfl | rfl
    · exact h.ki 1 (by omega)
    · exact h.ki 2 (by omega)
    · exact h.ki 3 (by omega)
    · exact h.ki 5 (by omega)
  clear ht htl h hn hr
  clear hw hb hS
  go_enter Tryd.func36, Tryd.ntmps36
  go_wp2_with (first
    | (go_at_call 35; refine (put1 (World.size_alloc _ _) (HW.out.below HB1.out) hl).mono ?_; rintro e w4 ⟨rfl, hw4, hr4⟩; have HW4 := Lib.hid hw4; have HR4 := Lib.hid hr4; clear hw4 hr4))
  go_end0
  exact ⟨rfl, HW4.out, (Wr.of HB1.out (by omega)).trans HR4.out⟩
set_option maxRecDepth 100000 in
set_option maxHeartbeats 4000000 in
theorem unit_struct (w0 : World) (B b n : Nat) (hB : w0.heap.size ≤ B) (hA : Ask w0 B b n) (nn : Int) (s : ByteArray) (p : Option Addr) (pl pc : Nat) (q : Option Addr) (ql qc : Nat) (o : Bool) (k : Option Addr) (kl kc : Nat) (ps : List (ByteArray × Ex)) (T : List UInt8) (w : World) (hp : InPs (InX w0 n) w0 q ql ps) (hcp : ∀ (i : Nat) (hi : i < ps.length) (b off : Nat) (y : Hd), q = some ⟨b, off, none⟩ → HdAt w0 b (off + i * 8 + 1) y → Cp w0 n y ps[i].2) (hr : ∀ y ∈ ps, rightB n y.2 = true) (h32 : ps.length ≤ 32) (hb : Below w0.heap.size w0 w) (hw : WB B b T w) (hl : T.length + (fT (xt n) ps o).length ≤ 140737488355328) :
    Calls Tryd.prog 36 #[.pointer (some ⟨b, 0, none⟩), .agg #[.int .i64 10, .int .i64 nn, .string s, .slice p pl pc, .slice q ql qc, .bool o, .slice k kl kc]] w (WP B b (T ++ fT (xt n) ps o) w) := by
  have hbs := hw.lt
  have HB1 := Lib.hid (bl_alloc (o := .cells #[.int .i64 10, .int .i64 nn, .string s, .slice p pl pc, .slice q ql qc, .bool o, .slice k kl kc] 38) (Below.refl w.heap.size w))
  have HF := Lib.hid (fields_any w0 B b n hB hA 10 nn s p pl pc q ql qc o k kl kc ps T _ hp hcp hr h32 (hb.trans (HB1.out.mono hb.size)) (hw.below HB1.out) hl)
  have f := bxc (World.alloc_heap_new w (.cells #[.int .i64 10, .int .i64 nn, .string s, .slice p pl pc, .slice q ql qc, .bool o, .slice k kl kc] 38))
  clear hA hp hcp hr hb hw
  go_enter Tryd.func36, Tryd.ntmps36
  go_wp2_with (go_at_call 49; refine HF.out.mono ?_; rintro e w4 ⟨rfl, hw4, hr4⟩; have HW4 := Lib.hid hw4; have HR4 := Lib.hid hr4; clear hw4 hr4)
  go_end0
  exact ⟨rfl, HW4.out, (Wr.of HB1.out (by omega)).trans HR4.out⟩
end Go.Proofs.YtlpilbghblbpbaaDoor.Sw
