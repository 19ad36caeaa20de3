/- A LIST OF TOKENS OF THE CALL's OWN; all tokens of a text; WALK of Lex. -/
import Derived.Test.YtfhknnldkfngdaaDoorXf
import Derived.Deep.AppendLies
namespace Go.Proofs.YtfhknnldkfngdaaDoor
open Go.RowKit
/-- All tokens from a place on, behind others. -/
def lexF : Nat → List UInt8 → Nat → List Tok → List Tok × Nat × Int
  | 0, _, _, _ => ([], 0, 0)
  | f + 1, L, p, acc =>
    if (nextL L p).1 ≠ 0 then ([], (nextL L p).2.2, (nextL L p).1)
    else if (nextL L p).2.1.x.k = 0 then (acc, 0, 0)
    else lexF f L (nextL L p).2.2 (acc ++ [(nextL L p).2.1])
def lexL (L : List UInt8) : List Tok × Nat × Int := lexF (L.length + 1) L 0 []
def LxAt (s : ByteArray) (R : List Tok × Nat × Int) (p : Nat) (acc : List Tok) : Prop := ∃ f, s.size - p < f ∧ lexF f s.toList p acc = R
theorem LxAt.first {s : ByteArray} : LxAt s (lexL s.toList) 0 [] := ⟨s.toList.length + 1, by rw [← Nm.size_list]; omega, rfl⟩
section
variable {s : ByteArray} {R : List Tok × Nat × Int} {p n : Nat} {acc : List Tok} {E : Int} {t : Tok} (h : LxAt s R p acc) (hn : nextL s.toList p = (E, t, n))
include h hn
theorem LxAt.bad (hE : E ≠ 0) : R = ([], n, E) := by
  obtain ⟨f, hf, h⟩ := h
  cases f
  · omega
  · rw [← h, lexF, hn, if_pos hE]
theorem LxAt.end_ (hE : E = 0) (hk : t.x.k = 0) : R = (acc, 0, 0) := by
  obtain ⟨f, hf, h⟩ := h
  cases f
  · omega
  · rw [← h, lexF, hn, if_neg (by simpa using hE), if_pos hk]
theorem LxAt.step (hp : p ≤ s.size) (hE : E = 0) (hk : t.x.k ≠ 0) : p + 1 ≤ n ∧ n ≤ s.size ∧ LxAt s R n (acc ++ [t]) := by
  have hle := nextL_le (L := s.toList) (p := p) (by rw [← Nm.size_list]; exact hp)
  rw [hn, ← Nm.size_list] at hle
  have h1 := hle.2 hE hk
  have h2 := hle.1
  obtain ⟨f, hf, h⟩ := h
  cases f
  · omega
  · rename_i f
    refine ⟨h1, h2, f, by dsimp only at h1 h2; omega, ?_⟩
    rw [← h, lexF, hn, if_neg (by simpa using hE), if_neg hk]
end
/-- A token's cells. -/
def Tok.enc (t : Tok) : List Value := [.int .i64 t.x.k, .int .i64 t.x.n, .string (bs t.x.t), .int .i64 t.at_]
theorem flat_get {α : Type} {s : Nat} : ∀ (L : List (List α)) (i r : Nat) (_ : ∀ x ∈ L, x.length = s) (_ : r < s) (hi : i < L.length), L.flatten[i * s + r]? = L[i][r]?
  | x :: L, 0, r, hs, hr, _ => by
    have : x.length = s := hs x (by simp)
    rw [Nat.zero_mul, Nat.zero_add, List.flatten_cons, List.getElem?_append_left (by omega)]
    rfl
  | x :: L, i + 1, r, hs, hr, hi => by
    have hx : x.length = s := hs x (by simp)
    rw [List.flatten_cons, List.getElem?_append_right (by rw [hx, Nat.add_mul]; omega)]
    have e : (i + 1) * s + r - x.length = i * s + r := by rw [hx, Nat.add_mul]; omega
    rw [e, flat_get L i r (fun y hy => hs y (by simp [hy])) hr (by simpa using hi)]
    rfl
def encs (L : List Tok) : List Value := (L.map Tok.enc).flatten
theorem encs_app (L : List Tok) (t : Tok) : encs (L ++ [t]) = encs L ++ t.enc := by unfold encs; rw [List.map_append, List.flatten_append]; simp
/-- A row of tokens that can be read. -/
def TRow (w : World) (a : Option Addr) (L : List Tok) : Prop := ∀ j, (hj : j < L.length) → ∃ b off, a = some ⟨b, off, none⟩ ∧ b < w.heap.size ∧ w.cell? ⟨b, off + j * 4, none⟩ = some (.int .i64 L[j].x.k) ∧ w.cell? ⟨b, off + j * 4 + 1, none⟩ = some (.int .i64 L[j].x.n) ∧ w.cell? ⟨b, off + j * 4 + 2, none⟩ = some (.string (bs L[j].x.t)) ∧ w.cell? ⟨b, off + j * 4 + 3, none⟩ = some (.int .i64 L[j].at_)
theorem TRow.below {w w' : World} {a : Option Addr} {L : List Tok} (h : TRow w a L) (hb : Below w.heap.size w w') : TRow w' a L := fun j hj => by
  obtain ⟨b, off, e, lt, h0, h1, h2, h3⟩ := h j hj
  exact ⟨b, off, e, Nat.lt_of_lt_of_le lt hb.size, (hb.cell (p := ⟨b, _, none⟩) lt).trans h0, (hb.cell (p := ⟨b, _, none⟩) lt).trans h1, (hb.cell (p := ⟨b, _, none⟩) lt).trans h2, (hb.cell (p := ⟨b, _, none⟩) lt).trans h3⟩
theorem trow_own {w : World} {base n : Nat} {E : TypeId} {v : Value} {L : List Tok} (h : w.ownsRow base E 4 v n (encs L)) (hn : n = L.length) : ∃ a cap, v = .slice a n cap ∧ TRow w a L := by
  rcases h.2 with ⟨rfl, hn0⟩ | ⟨g, cap, cur, rfl, hb, hg, hcap, hm, hsz, htake⟩
  · exact ⟨none, 0, by rw [hn0], fun j hj => by omega⟩
  · refine ⟨_, cap, rfl, fun j hj => ?_⟩
    have hl : ∀ r, r < 4 → w.cell? ⟨g, j * 4 + r, none⟩ = L[j].enc[r]? := fun r hr => by
      have e1 := flat_get (L.map Tok.enc) j r (fun x hx => by obtain ⟨t, -, rfl⟩ := List.mem_map.1 hx; rfl) hr (by simpa using hj)
      rw [List.getElem_map] at e1
      rw [← e1]
      show _ = (encs L)[j * 4 + r]?
      rw [← htake, List.getElem?_take_of_lt (by omega), cell_of_row _ _ _ _ E (0, 0) hg]
      simp
    have z : ∀ r, (0 + j * 4 + r : Nat) = j * 4 + r := fun r => by omega
    refine ⟨g, 0, rfl, (Array.getElem?_eq_some_iff.1 hg).1, ?_, ?_, ?_, ?_⟩
    · rw [show (0 + j * 4 : Nat) = j * 4 + 0 by omega, hl 0 (by decide)]; rfl
    · rw [z, hl 1 (by decide)]; rfl
    · rw [z, hl 2 (by decide)]; rfl
    · rw [z, hl 3 (by decide)]; rfl
theorem Tryd.info24 : (Tryd.prog.info? 24).map (fun i => (i.zero, i.size, i.bytes)) = some (some (.agg #[.int .i64 0, .int .i64 0, .string ByteArray.empty, .int .i64 0]), 4, 40) := by kernel_rfl
theorem Tryd.info28 : (Tryd.prog.info? 28).map (fun i => (i.zero, i.size, i.bytes)) = some (some (.agg #[.int .i64 0, .int .i64 0, .string ByteArray.empty, .int .i64 0]), 4, 40) := by kernel_rfl
theorem heap_new (w : World) (o : Obj) : (w.alloc o).heap[w.heap.size]? = some o := by show (w.heap.push o)[w.heap.size]? = _; simp
theorem new4 (W : World) {x0 x1 x2 x3 : Value} {ty : TypeId} {i : Nat} {u : Value} (h : [x0, x1, x2, x3][i]? = some u) : (W.alloc (.cells #[x0, x1, x2, x3] ty)).cell? ((⟨W.heap.size, 0, none⟩ : Addr).add i) = some u :=
  World.news_of_block (cs := #[x0, x1, x2, x3]) (t := ty) (fr := (0, 0)) (heap_new W _) i u h
/-- What Lex answers. -/
def LexP (R : List Tok × Nat × Int) (w : World) (e : Ending) (w' : World) : Prop := ∃ a n cap, n = R.1.length ∧ e = .returned (.tuple #[.slice a n cap, .int .i64 (R.2.1 : Int), .int .i64 R.2.2]) ∧ TRow w' a R.1 ∧ Below w.heap.size w w'
theorem next_as (s : ByteArray) (p : Nat) (E : Int) (k n a : Int) (t : ByteArray) (z : Nat) (w : World) (hE : Ent w) (hs : s.size ≤ 140737488355328) (hp : p ≤ s.size) (hr : Hid (nextL s.toList p = (E, ⟨⟨k, n, t.toList⟩, a⟩, z))) :
    Calls Tryd.prog 7 #[.string s, .int .i64 (p : Int)] w fun e w' => e = .returned (.tuple #[.agg #[.int .i64 k, .int .i64 n, .string t, .int .i64 a], .int .i64 (z : Int), .int .i64 E]) ∧ Below w.heap.size w w' := by
  have h := next_any s p w hE hs hp
  rw [hr.out] at h
  refine h.mono fun e w' ⟨he, hb⟩ => ⟨?_, hb⟩
  rw [he]; dsimp only [Tok.v]; rw [bs_of]
set_option maxRecDepth 100000 in
set_option maxHeartbeats 4000000 in
theorem lex_any (s : ByteArray) (w : World) (hE : Ent w) (hs : s.size ≤ 4096) : Calls Tryd.prog 10 #[.string s] w (LexP (lexL s.toList) w) := by
  obtain ⟨R, hR⟩ : ∃ R, lexL s.toList = R := ⟨_, rfl⟩
  have HX : Hid (LxAt s R 0 []) := Lib.hid (by rw [← hR]; exact LxAt.first)
  rw [hR]
  clear hR
  have HE := Lib.hid hE
  clear hE
  obtain ⟨i0, hi, hz0, hz1, hz2⟩ := info_parts Tryd.info24
  have HI := Lib.hid hi
  have HZ0 := Lib.hid hz0
  have HZ1 := Lib.hid hz1
  have HZ2 := Lib.hid hz2
  clear hi hz0 hz1 hz2
  go_enter Tryd.func10, Tryd.ntmps10
  go_wp2_with fail
  go_loopw [2, 3] (fun v i wr => ∃ (k : Nat) (acc : List Tok) (a : Option Addr) (cp : Nat), k ≤ s.size ∧ i = .int .i64 k ∧ acc.length ≤ k ∧ v = .slice a acc.length cp ∧ Hid (wr.ownsRow w.heap.size 24 4 (.slice a acc.length cp) acc.length (encs acc)) ∧ Hid (LxAt s R k acc) ∧ Hid (Below (w.heap.size) w wr)) (fun _ i _ => s.size - (intOf i).toNat)
  case atStart => exact ⟨0, [], none, 0, by omega, rfl, by decide, rfl, Lib.hid (World.ownsRow_nil _ _ _ _), HX, Lib.hid (Below.refl _ _)⟩
  case round =>
    obtain ⟨k, acc, a, cp, hk, rfl, hak, rfl, hO, hX, hB⟩ := hrel
    rename World => wr
    obtain ⟨⟨E, ⟨⟨tk, tn, tt⟩, ta⟩, z⟩, hr⟩ : ∃ r, nextL s.toList k = r := ⟨_, rfl⟩
    have HR : Hid (nextL s.toList k = (E, ⟨⟨tk, tn, (bs tt).toList⟩, ta⟩, z)) := Lib.hid (by rw [bs_list]; exact hr)
    by_cases hE0 : E = 0
    · subst hE0
      by_cases hk0 : tk = 0
      · subst hk0
        have HRR := Lib.hid (hX.out.end_ hr rfl rfl)
        clear hr
        go_wp2_with (go_at_call 7; ((with_reducible refine (next_as s k 0 0 tn ta (bs tt) z _ (HE.out.below hB.out) (by omega) hk HR).mono ?_); rintro e w1 ⟨rfl, hb⟩; have HO := Lib.hid (owns_below hO.out hb); have HB := Lib.hid (bl_step hB.out hb); clear hb))
        obtain ⟨a', c', e1, hT⟩ := trow_own HO.out rfl
        cases e1
        go_ret3
        rw [HRR.out]
        exact ⟨a, acc.length, cp, rfl, rfl, hT.below (bl_alloc (Below.refl _ _)), bl_alloc HB.out⟩
      · have hk1 : (tk == 0) = false := by simpa using hk0
        obtain ⟨s1, s2, s3⟩ := hX.out.step hr hk rfl hk0
        have HXS := Lib.hid s3
        have HU := Lib.hid (encs_app acc ⟨⟨tk, tn, tt⟩, ta⟩)
        have HLL : Hid ((acc ++ [(⟨⟨tk, tn, tt⟩, ta⟩ : Tok)]).length = acc.length + 1) := Lib.hid (by rw [List.length_append]; rfl)
        have hacc : acc.length ≤ 4096 := by omega
        clear hr hk0 s3
        generalize hL : acc.length = m at *
        have HL := Lib.hid hL
        clear hL
        go_wp2_with (first | (go_at_call 7; ((with_reducible refine (next_as s k 0 tk tn ta (bs tt) z _ (HE.out.below hB.out) (by omega) hk HR).mono ?_); rintro e w1 ⟨rfl, hb⟩; have HO := Lib.hid (owns_below hO.out (bl_alloc (o := .cells #[.int .i64 tk, .int .i64 tn, .string (bs tt), .int .i64 ta] 24) hb)); have HB := Lib.hid (bl_step hB.out hb); clear hb)) | (at_builtin; refine wpList_append_own _ rfl _ _ 33 rfl w.heap.size 24 i0 (.agg #[.int .i64 0, .int .i64 0, .string ByteArray.empty, .int .i64 0]) 4 40 Tryd.underlying33 HI.out HZ0.out HZ1.out HZ2.out rfl (by decide) _ _ _ rfl (HO.out.alloc _) ⟨w1.heap.size + 1, 0, none⟩ 1 1 [.int .i64 tk, .int .i64 tn, .string (bs tt), .int .i64 ta] rfl rfl ?q2 ?q3 (by unfold maxLen; omega) (by omega) ?q5 ?_))
        case q2 =>
          intro i u hu
          have e : (w1.alloc (.cells #[.int .i64 tk, .int .i64 tn, .string (bs tt), .int .i64 ta] 24)).heap.size = w1.heap.size + 1 := by simp
          rw [← e]
          exact new4 _ hu
        case q3 =>
          intro u hu
          simp only [List.mem_cons, List.not_mem_nil, or_false] at hu
          rcases hu with rfl | rfl | rfl | rfl <;> rfl
        case q5 => have := HB.out.size; simp; omega
        intro v' w4 hown' hgrow4 hnil4
        have hOW : w4.ownsRow w.heap.size 24 4 v' (m + 1) (encs (acc ++ [⟨⟨tk, tn, tt⟩, ta⟩])) := by rw [HU.out]; exact hown'
        have hB4 := (bl_alloc (bl_alloc HB.out)).grown hgrow4 (by have := HB.out.size; simp; omega) (own_base HO.out)
        obtain ⟨a', c', e1, hT⟩ := trow_own hOW HLL.out.symm
        subst e1
        have HOW := Lib.hid hOW
        have HB4 := Lib.hid hB4
        clear hOW hB4 hT hown' hgrow4 hnil4
        go_wp2_with fail
        go_roundw
        case rel => exact ⟨z, acc ++ [⟨⟨tk, tn, tt⟩, ta⟩], a', c', s2, rfl, by rw [HLL.out]; omega, by rw [HLL.out], by rw [HLL.out]; exact HOW, HXS, HB4⟩
        case measure => simp [intOf]; omega
    · have hE1 : (E != 0) = true := by simpa using hE0
      have HRR := Lib.hid (hX.out.bad hr hE0)
      clear hr hE0
      go_wp2_with (go_at_call 7; ((with_reducible refine (next_as s k E tk tn ta (bs tt) z _ (HE.out.below hB.out) (by omega) hk HR).mono ?_); rintro e w1 ⟨rfl, hb⟩; have HB := Lib.hid (bl_step hB.out hb); clear hb))
      go_ret3
      rw [HRR.out]
      exact ⟨none, 0, 0, rfl, rfl, fun j hj => absurd hj (Nat.not_lt_zero _), bl_alloc HB.out⟩
end Go.Proofs.YtfhknnldkfngdaaDoor
