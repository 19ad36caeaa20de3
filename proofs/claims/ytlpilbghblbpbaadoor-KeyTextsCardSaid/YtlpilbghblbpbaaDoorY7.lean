/- Sc -/
import Derived.Test.YtlpilbghblbpbaaDoorY3
import Derived.Test.YtlpilbghblbpbaaDoorY5
/- WALK of expr's own. -/
namespace Go.Proofs.YtlpilbghblbpbaaDoor
open Go.RowKit
theorem bcell {W w1 : World} (hb : Below W.heap.size W w1) : (∀ b o, b < W.heap.size → w1.cell? ⟨b, o, none⟩ = W.cell? ⟨b, o, none⟩) ∧ (∀ b o, b < W.heap.size → w1.frozen? ⟨b, o, none⟩ = W.frozen? ⟨b, o, none⟩) :=
  ⟨fun b o h => hb.cell (p := ⟨b, o, none⟩) h, fun b o h => hb.frozen (p := ⟨b, o, none⟩) h⟩
noncomputable def ownB : Ex → Bool
  | .mk op n s path ps o ks =>
    if op = 10 then risP ps && emB n s.size false path.length 0 ks.length
    else if op = 11 ∨ op = 12 then (decide (2 ≤ ks.length) && decide (ks.length ≤ 32)) && emB n s.size o path.length ps.length 0
    else if op = 13 ∨ op = 14 ∨ op = 15 then decide (ks.length = 2) && emB n s.size o path.length ps.length 0
    else if op = 9 then (Nm.pathB path && decide (s.size = 0)) && (numB 9 n && emB 0 0 o 0 ps.length ks.length)
    else if op = 2 then decide (s.size ≤ 256) && (numB 2 n && emB 0 0 o path.length ps.length ks.length)
    else if op = 1 ∨ op = 7 ∨ op = 8 ∨ op = 3 ∨ op = 4 ∨ op = 5 ∨ op = 6 then numB op n && emB 0 s.size o path.length ps.length ks.length
    else false
theorem ownB_eq (op n : Int) (s : ByteArray) (path : List ByteArray) (ps : List (ByteArray × Ex)) (o : Bool) (ks : List Ex) : ownB (.mk op n s path ps o ks) = if op = 10 then risP ps && emB n s.size false path.length 0 ks.length
    else if op = 11 ∨ op = 12 then (decide (2 ≤ ks.length) && decide (ks.length ≤ 32)) && emB n s.size o path.length ps.length 0
    else if op = 13 ∨ op = 14 ∨ op = 15 then decide (ks.length = 2) && emB n s.size o path.length ps.length 0
    else if op = 9 then (Nm.pathB path && decide (s.size = 0)) && (numB 9 n && emB 0 0 o 0 ps.length ks.length)
    else if op = 2 then decide (s.size ≤ 256) && (numB 2 n && emB 0 0 o path.length ps.length ks.length)
    else if op = 1 ∨ op = 7 ∨ op = 8 ∨ op = 3 ∨ op = 4 ∨ op = 5 ∨ op = 6 then numB op n && emB 0 s.size o path.length ps.length ks.length
    else false := rfl
theorem empty_x (op n : Int) (s : ByteArray) (p : Option Addr) (pl pc : Nat) (q : Option Addr) (ql qc : Nat) (o : Bool) (k : Option Addr) (kl kc : Nat) (b : Bool) (w : World) (h1 : pl ≤ 140737488355328) (h2 : ql ≤ 140737488355328) (h3 : kl ≤ 140737488355328) (hb : Hid (emB n s.size o pl ql kl = b)) :
    Calls Tryd.prog 62 #[.agg #[.int .i64 op, .int .i64 n, .string s, .slice p pl pc, .slice q ql qc, .bool o, .slice k kl kc]] w (BoolP b w) := by
  rw [← hb.out]; exact empty_any ⟨op, n, s, p, pl, pc, q, ql, qc, o, k, kl, kc⟩ w h1 h2 h3
/-- What is laid of an expression ahead of own's walk. -/
structure Lay (w : World) (h : Hd) (pa : List ByteArray) (ps : List (ByteArray × Ex)) (ks : List Ex) : Prop where
  pl : pa.length = h.pl
  ql : ps.length = h.ql
  kl : ks.length = h.kl
  pm : h.pl ≤ 140737488355328
  qm : h.ql ≤ 140737488355328
  km : h.kl ≤ 140737488355328
  sm : h.s.size ≤ 140737488355328
theorem lay_of {w : World} {n : Nat} {h : Hd} {op m : Int} {s : ByteArray} {pa : List ByteArray} {ps : List (ByteArray × Ex)} {o : Bool} {ks : List Ex} (hx : InX w (n + 1) h (.mk op m s pa ps o ks)) : Lay w h pa ps ks := by
  obtain ⟨h1, h2, h3, h4, hz, h5, h6, h7⟩ := hx
  exact ⟨h5.count, h6.count, h7.count, h5.max, h6.max, h7.max, by rw [h3]; exact hz⟩
set_option maxRecDepth 100000 in
set_option maxHeartbeats 4000000 in
theorem own_10 (w0 w : World) (n : Nat) (s : ByteArray) (p : Option Addr) (pl pc : Nat) (q : Option Addr) (ql qc : Nat) (o : Bool) (k : Option Addr) (kl kc : Nat) (m : Int) (pa : List ByteArray) (ps : List (ByteArray × Ex)) (ks : List Ex)
    (hx : InX w0 (n + 1) ⟨10, m, s, p, pl, pc, q, ql, qc, o, k, kl, kc⟩ (.mk 10 m s pa ps o ks)) (hb0 : Below w0.heap.size w0 w) (hE : Nm.Env w) :
    Calls Tryd.prog 45 #[.agg #[.int .i64 10, .int .i64 m, .string s, .slice p pl pc, .slice q ql qc, .bool o, .slice k kl kc]] w (BoolP (ownB (.mk 10 m s pa ps o ks)) w) := by
  obtain ⟨rfl, rfl, rfl, pm, qm, km, -⟩ := lay_of hx
  dsimp only at pm qm km
  have hO : ownB (.mk 10 m s pa ps o ks) = (risP ps && emB m s.size false pa.length 0 ks.length) := by rw [ownB_eq, if_pos rfl]
  rw [hO]
  obtain ⟨-, -, -, -, -, -, hps, -⟩ := hx
  dsimp only at hps
  obtain ⟨r, hr⟩ : ∃ r, risP ps = r := ⟨_, rfl⟩
  obtain ⟨r2, hr2⟩ : ∃ r, emB m s.size false pa.length 0 ks.length = r := ⟨_, rfl⟩
  have HR : Hid (∀ W, Below w.heap.size w W → Calls Tryd.prog 59 #[.slice q ps.length qc] W (BoolP r W)) := fun W hW => by rw [← hr]; exact rising_any _ w0 W q _ qc ps hps (below_step hb0 hW) (hE.below hW)
  have HE := fun W => Lib.hid (empty_x 10 m s p pa.length pc none 0 0 false k ks.length kc r2 W pm (by omega) km hr2)
  rw [hr, hr2]
  clear hr hr2 hO hps
  have HB1 : Hid (Below w.heap.size w (w.alloc (.cells #[.int .i64 10, .int .i64 m, .string s, .slice p pa.length pc, .slice q ps.length qc, .bool o, .slice k ks.length kc] 38))) := (Below.refl _ w).alloc (Nat.le_refl _) _
  cases r
  · go_enter Tryd.func45, Tryd.ntmps45
    go_wp2_with (go_at_call 59; refine (HR.out _ HB1.out).mono ?_; rintro e w2 ⟨rfl, hB2⟩; obtain ⟨hc, hf⟩ := bcell hB2; have hz : w.heap.size < w2.heap.size := by { have := hB2.size; simp at this; omega }; have HB2 := Lib.hid hB2; clear hB2)
    go_ret
    exact ⟨rfl, ((below_step HB1.out HB2.out).setCell (p := ⟨w.heap.size, 4, none⟩) (Nat.le_refl _) _).setCell (p := ⟨w.heap.size, 5, none⟩) (Nat.le_refl _) _⟩
  · go_enter Tryd.func45, Tryd.ntmps45
    go_wp2_with (first
      | (go_at_call 59; refine (HR.out _ HB1.out).mono ?_; rintro e w2 ⟨rfl, hB2⟩; obtain ⟨hc, hf⟩ := bcell hB2; have hz : w.heap.size < w2.heap.size := by { have := hB2.size; simp at this; omega }; have HB2 := Lib.hid hB2; clear hB2)
      | (go_at_call 62; refine (HE _).out.mono ?_; rintro e w3 ⟨rfl, hB3⟩; have HB3 := Lib.hid hB3; clear hB3))
    go_ret
    exact ⟨ret_bool (by simp), below_step (((below_step HB1.out HB2.out).setCell (p := ⟨w.heap.size, 4, none⟩) (Nat.le_refl _) _).setCell (p := ⟨w.heap.size, 5, none⟩) (Nat.le_refl _) _) HB3.out⟩
set_option maxRecDepth 100000 in
set_option maxHeartbeats 4000000 in
theorem own_11 (w0 w : World) (n : Nat) (s : ByteArray) (p : Option Addr) (pl pc : Nat) (q : Option Addr) (ql qc : Nat) (o : Bool) (k : Option Addr) (kl kc : Nat) (m : Int) (pa : List ByteArray) (ps : List (ByteArray × Ex)) (ks : List Ex)
    (hx : InX w0 (n + 1) ⟨11, m, s, p, pl, pc, q, ql, qc, o, k, kl, kc⟩ (.mk 11 m s pa ps o ks)) (_hb0 : Below w0.heap.size w0 w) (_hE : Nm.Env w) :
    Calls Tryd.prog 45 #[.agg #[.int .i64 11, .int .i64 m, .string s, .slice p pl pc, .slice q ql qc, .bool o, .slice k kl kc]] w (BoolP (ownB (.mk 11 m s pa ps o ks)) w) := by
  obtain ⟨rfl, rfl, rfl, pm, qm, km, sm⟩ := lay_of hx
  dsimp only at pm qm km sm
  have hO : ownB (.mk 11 m s pa ps o ks) = ((decide (2 ≤ ks.length) && decide (ks.length ≤ 32)) && emB m s.size o pa.length ps.length 0) := by rw [ownB_eq, if_neg (by decide), if_pos (by decide)]
  rw [hO]
  obtain ⟨r2, hr2⟩ : ∃ r, emB m s.size o pa.length ps.length 0 = r := ⟨_, rfl⟩
  have HE := fun W => Lib.hid (empty_x 11 m s p pa.length pc q ps.length qc o none 0 0 r2 W pm qm (by omega) hr2)
  rw [hr2]
  clear hr2 hO hx
  have HB1 : Hid (Below w.heap.size w (w.alloc (.cells #[.int .i64 11, .int .i64 m, .string s, .slice p pa.length pc, .slice q ps.length qc, .bool o, .slice k ks.length kc] 38))) := (Below.refl _ w).alloc (Nat.le_refl _) _
  by_cases h2 : 2 ≤ ks.length
  · have g2 : (2 : Int) ≤ (ks.length : Int) := by omega
    by_cases h32 : ks.length ≤ 32
    · have g32 : (ks.length : Int) ≤ 32 := by omega
      rw [decide_eq_true h2, decide_eq_true h32]
      clear h2 h32
      go_enter Tryd.func45, Tryd.ntmps45
      go_wp2_with (first
          | (go_at_call 62; refine (HE _).out.mono ?_; rintro e w3 ⟨rfl, hB3⟩; have HB3 := Lib.hid hB3; clear hB3)
          )
      go_ret
      exact ⟨ret_bool (by simp), below_step ((Below.refl _ w).alloc (Nat.le_refl _) _) HB3.out⟩
    · have g32 : ¬ (ks.length : Int) ≤ 32 := by omega
      rw [decide_eq_true h2, decide_eq_false h32]
      clear h2 h32
      go_enter Tryd.func45, Tryd.ntmps45
      go_wp2_with fail
      go_ret
      exact ⟨rfl, ((Below.refl _ w).alloc (Nat.le_refl _) _)⟩
  · have g2 : ¬ (2 : Int) ≤ (ks.length : Int) := by omega
    rw [decide_eq_false h2]
    clear h2
    go_enter Tryd.func45, Tryd.ntmps45
    go_wp2_with fail
    go_ret
    exact ⟨rfl, ((Below.refl _ w).alloc (Nat.le_refl _) _)⟩
set_option maxRecDepth 100000 in
set_option maxHeartbeats 4000000 in
theorem own_12 (w0 w : World) (n : Nat) (s : ByteArray) (p : Option Addr) (pl pc : Nat) (q : Option Addr) (ql qc : Nat) (o : Bool) (k : Option Addr) (kl kc : Nat) (m : Int) (pa : List ByteArray) (ps : List (ByteArray × Ex)) (ks : List Ex)
    (hx : InX w0 (n + 1) ⟨12, m, s, p, pl, pc, q, ql, qc, o, k, kl, kc⟩ (.mk 12 m s pa ps o ks)) (_hb0 : Below w0.heap.size w0 w) (_hE : Nm.Env w) :
    Calls Tryd.prog 45 #[.agg #[.int .i64 12, .int .i64 m, .string s, .slice p pl pc, .slice q ql qc, .bool o, .slice k kl kc]] w (BoolP (ownB (.mk 12 m s pa ps o ks)) w) := by
  obtain ⟨rfl, rfl, rfl, pm, qm, km, sm⟩ := lay_of hx
  dsimp only at pm qm km sm
  have hO : ownB (.mk 12 m s pa ps o ks) = ((decide (2 ≤ ks.length) && decide (ks.length ≤ 32)) && emB m s.size o pa.length ps.length 0) := by rw [ownB_eq, if_neg (by decide), if_pos (by decide)]
  rw [hO]
  obtain ⟨r2, hr2⟩ : ∃ r, emB m s.size o pa.length ps.length 0 = r := ⟨_, rfl⟩
  have HE := fun W => Lib.hid (empty_x 12 m s p pa.length pc q ps.length qc o none 0 0 r2 W pm qm (by omega) hr2)
  rw [hr2]
  clear hr2 hO hx
  have HB1 : Hid (Below w.heap.size w (w.alloc (.cells #[.int .i64 12, .int .i64 m, .string s, .slice p pa.length pc, .slice q ps.length qc, .bool o, .slice k ks.length kc] 38))) := (Below.refl _ w).alloc (Nat.le_refl _) _
  by_cases h2 : 2 ≤ ks.length
  · have g2 : (2 : Int) ≤ (ks.length : Int) := by omega
    by_cases h32 : ks.length ≤ 32
    · have g32 : (ks.length : Int) ≤ 32 := by omega
      rw [decide_eq_true h2, decide_eq_true h32]
      clear h2 h32
      go_enter Tryd.func45, Tryd.ntmps45
      go_wp2_with (first
          | (go_at_call 62; refine (HE _).out.mono ?_; rintro e w3 ⟨rfl, hB3⟩; have HB3 := Lib.hid hB3; clear hB3)
          )
      go_ret
      exact ⟨ret_bool (by simp), below_step ((Below.refl _ w).alloc (Nat.le_refl _) _) HB3.out⟩
    · have g32 : ¬ (ks.length : Int) ≤ 32 := by omega
      rw [decide_eq_true h2, decide_eq_false h32]
      clear h2 h32
      go_enter Tryd.func45, Tryd.ntmps45
      go_wp2_with fail
      go_ret
      exact ⟨rfl, ((Below.refl _ w).alloc (Nat.le_refl _) _)⟩
  · have g2 : ¬ (2 : Int) ≤ (ks.length : Int) := by omega
    rw [decide_eq_false h2]
    clear h2
    go_enter Tryd.func45, Tryd.ntmps45
    go_wp2_with fail
    go_ret
    exact ⟨rfl, ((Below.refl _ w).alloc (Nat.le_refl _) _)⟩
set_option maxRecDepth 100000 in
set_option maxHeartbeats 4000000 in
theorem own_13 (w0 w : World) (n : Nat) (s : ByteArray) (p : Option Addr) (pl pc : Nat) (q : Option Addr) (ql qc : Nat) (o : Bool) (k : Option Addr) (kl kc : Nat) (m : Int) (pa : List ByteArray) (ps : List (ByteArray × Ex)) (ks : List Ex)
    (hx : InX w0 (n + 1) ⟨13, m, s, p, pl, pc, q, ql, qc, o, k, kl, kc⟩ (.mk 13 m s pa ps o ks)) (_hb0 : Below w0.heap.size w0 w) (_hE : Nm.Env w) :
    Calls Tryd.prog 45 #[.agg #[.int .i64 13, .int .i64 m, .string s, .slice p pl pc, .slice q ql qc, .bool o, .slice k kl kc]] w (BoolP (ownB (.mk 13 m s pa ps o ks)) w) := by
  obtain ⟨rfl, rfl, rfl, pm, qm, km, sm⟩ := lay_of hx
  dsimp only at pm qm km sm
  have hO : ownB (.mk 13 m s pa ps o ks) = (decide (ks.length = 2) && emB m s.size o pa.length ps.length 0) := by rw [ownB_eq, if_neg (by decide), if_neg (by decide), if_pos (by decide)]
  rw [hO]
  obtain ⟨r2, hr2⟩ : ∃ r, emB m s.size o pa.length ps.length 0 = r := ⟨_, rfl⟩
  have HE := fun W => Lib.hid (empty_x 13 m s p pa.length pc q ps.length qc o none 0 0 r2 W pm qm (by omega) hr2)
  rw [hr2]
  clear hr2 hO hx
  have HB1 : Hid (Below w.heap.size w (w.alloc (.cells #[.int .i64 13, .int .i64 m, .string s, .slice p pa.length pc, .slice q ps.length qc, .bool o, .slice k ks.length kc] 38))) := (Below.refl _ w).alloc (Nat.le_refl _) _
  by_cases h2 : ks.length = 2
  · have g2 : ((ks.length : Int) == 2) = true := by rw [h2]; rfl
    rw [decide_eq_true h2]
    clear h2
    go_enter Tryd.func45, Tryd.ntmps45
    go_wp2_with (first
        | (go_at_call 62; refine (HE _).out.mono ?_; rintro e w3 ⟨rfl, hB3⟩; have HB3 := Lib.hid hB3; clear hB3)
        )
    go_ret
    exact ⟨ret_bool (by simp), below_step ((Below.refl _ w).alloc (Nat.le_refl _) _) HB3.out⟩
  · have g2 : ((ks.length : Int) == 2) = false := eq_no (by omega)
    rw [decide_eq_false h2]
    clear h2
    go_enter Tryd.func45, Tryd.ntmps45
    go_wp2_with fail
    go_ret
    exact ⟨rfl, ((Below.refl _ w).alloc (Nat.le_refl _) _)⟩
set_option maxRecDepth 100000 in
set_option maxHeartbeats 4000000 in
theorem own_14 (w0 w : World) (n : Nat) (s : ByteArray) (p : Option Addr) (pl pc : Nat) (q : Option Addr) (ql qc : Nat) (o : Bool) (k : Option Addr) (kl kc : Nat) (m : Int) (pa : List ByteArray) (ps : List (ByteArray × Ex)) (ks : List Ex)
    (hx : InX w0 (n + 1) ⟨14, m, s, p, pl, pc, q, ql, qc, o, k, kl, kc⟩ (.mk 14 m s pa ps o ks)) (_hb0 : Below w0.heap.size w0 w) (_hE : Nm.Env w) :
    Calls Tryd.prog 45 #[.agg #[.int .i64 14, .int .i64 m, .string s, .slice p pl pc, .slice q ql qc, .bool o, .slice k kl kc]] w (BoolP (ownB (.mk 14 m s pa ps o ks)) w) := by
  obtain ⟨rfl, rfl, rfl, pm, qm, km, sm⟩ := lay_of hx
  dsimp only at pm qm km sm
  have hO : ownB (.mk 14 m s pa ps o ks) = (decide (ks.length = 2) && emB m s.size o pa.length ps.length 0) := by rw [ownB_eq, if_neg (by decide), if_neg (by decide), if_pos (by decide)]
  rw [hO]
  obtain ⟨r2, hr2⟩ : ∃ r, emB m s.size o pa.length ps.length 0 = r := ⟨_, rfl⟩
  have HE := fun W => Lib.hid (empty_x 14 m s p pa.length pc q ps.length qc o none 0 0 r2 W pm qm (by omega) hr2)
  rw [hr2]
  clear hr2 hO hx
  have HB1 : Hid (Below w.heap.size w (w.alloc (.cells #[.int .i64 14, .int .i64 m, .string s, .slice p pa.length pc, .slice q ps.length qc, .bool o, .slice k ks.length kc] 38))) := (Below.refl _ w).alloc (Nat.le_refl _) _
  by_cases h2 : ks.length = 2
  · have g2 : ((ks.length : Int) == 2) = true := by rw [h2]; rfl
    rw [decide_eq_true h2]
    clear h2
    go_enter Tryd.func45, Tryd.ntmps45
    go_wp2_with (first
        | (go_at_call 62; refine (HE _).out.mono ?_; rintro e w3 ⟨rfl, hB3⟩; have HB3 := Lib.hid hB3; clear hB3)
        )
    go_ret
    exact ⟨ret_bool (by simp), below_step ((Below.refl _ w).alloc (Nat.le_refl _) _) HB3.out⟩
  · have g2 : ((ks.length : Int) == 2) = false := eq_no (by omega)
    rw [decide_eq_false h2]
    clear h2
    go_enter Tryd.func45, Tryd.ntmps45
    go_wp2_with fail
    go_ret
    exact ⟨rfl, ((Below.refl _ w).alloc (Nat.le_refl _) _)⟩
set_option maxRecDepth 100000 in
set_option maxHeartbeats 4000000 in
theorem own_15 (w0 w : World) (n : Nat) (s : ByteArray) (p : Option Addr) (pl pc : Nat) (q : Option Addr) (ql qc : Nat) (o : Bool) (k : Option Addr) (kl kc : Nat) (m : Int) (pa : List ByteArray) (ps : List (ByteArray × Ex)) (ks : List Ex)
    (hx : InX w0 (n + 1) ⟨15, m, s, p, pl, pc, q, ql, qc, o, k, kl, kc⟩ (.mk 15 m s pa ps o ks)) (_hb0 : Below w0.heap.size w0 w) (_hE : Nm.Env w) :
    Calls Tryd.prog 45 #[.agg #[.int .i64 15, .int .i64 m, .string s, .slice p pl pc, .slice q ql qc, .bool o, .slice k kl kc]] w (BoolP (ownB (.mk 15 m s pa ps o ks)) w) := by
  obtain ⟨rfl, rfl, rfl, pm, qm, km, sm⟩ := lay_of hx
  dsimp only at pm qm km sm
  have hO : ownB (.mk 15 m s pa ps o ks) = (decide (ks.length = 2) && emB m s.size o pa.length ps.length 0) := by rw [ownB_eq, if_neg (by decide), if_neg (by decide), if_pos (by decide)]
  rw [hO]
  obtain ⟨r2, hr2⟩ : ∃ r, emB m s.size o pa.length ps.length 0 = r := ⟨_, rfl⟩
  have HE := fun W => Lib.hid (empty_x 15 m s p pa.length pc q ps.length qc o none 0 0 r2 W pm qm (by omega) hr2)
  rw [hr2]
  clear hr2 hO hx
  have HB1 : Hid (Below w.heap.size w (w.alloc (.cells #[.int .i64 15, .int .i64 m, .string s, .slice p pa.length pc, .slice q ps.length qc, .bool o, .slice k ks.length kc] 38))) := (Below.refl _ w).alloc (Nat.le_refl _) _
  by_cases h2 : ks.length = 2
  · have g2 : ((ks.length : Int) == 2) = true := by rw [h2]; rfl
    rw [decide_eq_true h2]
    clear h2
    go_enter Tryd.func45, Tryd.ntmps45
    go_wp2_with (first
        | (go_at_call 62; refine (HE _).out.mono ?_; rintro e w3 ⟨rfl, hB3⟩; have HB3 := Lib.hid hB3; clear hB3)
        )
    go_ret
    exact ⟨ret_bool (by simp), below_step ((Below.refl _ w).alloc (Nat.le_refl _) _) HB3.out⟩
  · have g2 : ((ks.length : Int) == 2) = false := eq_no (by omega)
    rw [decide_eq_false h2]
    clear h2
    go_enter Tryd.func45, Tryd.ntmps45
    go_wp2_with fail
    go_ret
    exact ⟨rfl, ((Below.refl _ w).alloc (Nat.le_refl _) _)⟩
set_option maxRecDepth 100000 in
set_option maxHeartbeats 4000000 in
theorem own_9 (w0 w : World) (n : Nat) (s : ByteArray) (p : Option Addr) (pl pc : Nat) (q : Option Addr) (ql qc : Nat) (o : Bool) (k : Option Addr) (kl kc : Nat) (m : Int) (pa : List ByteArray) (ps : List (ByteArray × Ex)) (ks : List Ex)
    (hx : InX w0 (n + 1) ⟨9, m, s, p, pl, pc, q, ql, qc, o, k, kl, kc⟩ (.mk 9 m s pa ps o ks)) (hb0 : Below w0.heap.size w0 w) (hE : Nm.Env w) :
    Calls Tryd.prog 45 #[.agg #[.int .i64 9, .int .i64 m, .string s, .slice p pl pc, .slice q ql qc, .bool o, .slice k kl kc]] w (BoolP (ownB (.mk 9 m s pa ps o ks)) w) := by
  obtain ⟨rfl, rfl, rfl, pm, qm, km, sm⟩ := lay_of hx
  dsimp only at pm qm km sm
  have hO : ownB (.mk 9 m s pa ps o ks) = ((Nm.pathB pa && decide (s.size = 0)) && (numB 9 m && emB 0 0 o 0 ps.length ks.length)) := by rw [ownB_eq, if_neg (by decide), if_neg (by decide), if_neg (by decide), if_pos (by decide)]
  rw [hO]
  obtain ⟨-, -, -, -, -, hpa, -, -⟩ := hx
  dsimp only at hpa
  obtain ⟨r, hr⟩ : ∃ r, Nm.pathB pa = r := ⟨_, rfl⟩
  obtain ⟨r2, hr2⟩ : ∃ r, emB 0 0 o 0 ps.length ks.length = r := ⟨_, rfl⟩
  obtain ⟨r3, hr3⟩ : ∃ r, numB 9 m = r := ⟨_, rfl⟩
  have HP : Hid (∀ W, Below w.heap.size w W → Calls Tryd.prog 60 #[.slice p pa.length pc] W (BoolP r W)) := fun W hW => by rw [← hr]; exact Nm.path_any p _ pc pa W (hE.below hW) (hpa.below (below_step hb0 hW))
  have HN : ∀ W, Hid (Calls Tryd.prog 61 #[.int .i64 9, .int .i64 m] W fun e w' => e = .returned (.bool r3) ∧ W = w') := fun W => by rw [← hr3]; exact number_any 9 m W
  have HE := fun W => Lib.hid (empty_x 9 0 ⟨#[]⟩ none 0 0 q ps.length qc o k ks.length kc r2 W (by omega) qm km hr2)
  rw [hr, hr2, hr3]
  clear hr hr2 hr3 hO hpa
  have HB1 : Hid (Below w.heap.size w (w.alloc (.cells #[.int .i64 9, .int .i64 m, .string s, .slice p pa.length pc, .slice q ps.length qc, .bool o, .slice k ks.length kc] 38))) := (Below.refl _ w).alloc (Nat.le_refl _) _
  by_cases h0 : s.size = 0
  · obtain rfl := size_nil h0
    rw [decide_eq_true h0]
    clear h0 sm
    cases r
    · go_enter Tryd.func45, Tryd.ntmps45
      go_wp2_with (go_at_call 60; refine (HP.out _ HB1.out).mono ?_; rintro e w2 ⟨rfl, hB2⟩; obtain ⟨hc, hf⟩ := bcell hB2; have hz : w.heap.size < w2.heap.size := by { have := hB2.size; simp at this; omega }; have HB2 := Lib.hid hB2; clear hB2)
      go_ret
      exact ⟨rfl, below_step HB1.out HB2.out⟩
    · cases r3
      · go_enter Tryd.func45, Tryd.ntmps45
        go_wp2_with (first
          | (go_at_call 60; refine (HP.out _ HB1.out).mono ?_; rintro e w2 ⟨rfl, hB2⟩; obtain ⟨hc, hf⟩ := bcell hB2; have hz : w.heap.size < w2.heap.size := by { have := hB2.size; simp at this; omega }; have HB2 := Lib.hid hB2; clear hB2)
          | (go_at_call 61; refine (HN _).out.mono ?_; rintro e w5 ⟨rfl, rfl⟩))
        go_ret
        exact ⟨rfl, (((below_step HB1.out HB2.out).setCell (p := ⟨w.heap.size, 3, none⟩) (Nat.le_refl _) _).setCell (p := ⟨w.heap.size, 2, none⟩) (Nat.le_refl _) _).setCell (p := ⟨w.heap.size, 1, none⟩) (Nat.le_refl _) _⟩
      · go_enter Tryd.func45, Tryd.ntmps45
        go_wp2_with (first
          | (go_at_call 60; refine (HP.out _ HB1.out).mono ?_; rintro e w2 ⟨rfl, hB2⟩; obtain ⟨hc, hf⟩ := bcell hB2; have hz : w.heap.size < w2.heap.size := by { have := hB2.size; simp at this; omega }; have HB2 := Lib.hid hB2; clear hB2)
          | (go_at_call 61; refine (HN _).out.mono ?_; rintro e w5 ⟨rfl, rfl⟩)
          | (go_at_call 62; refine (HE _).out.mono ?_; rintro e w3 ⟨rfl, hB3⟩; have HB3 := Lib.hid hB3; clear hB3))
        go_ret
        exact ⟨ret_bool (by simp), below_step ((((below_step HB1.out HB2.out).setCell (p := ⟨w.heap.size, 3, none⟩) (Nat.le_refl _) _).setCell (p := ⟨w.heap.size, 2, none⟩) (Nat.le_refl _) _).setCell (p := ⟨w.heap.size, 1, none⟩) (Nat.le_refl _) _) HB3.out⟩
  · rw [decide_eq_false h0]
    have ne : ¬ s.toList = [] := Nm.list_ne s (by omega)
    have ne2 : (!s.toList.isEmpty) = true := by rw [Nm.list_isE s (by omega)]; rfl
    clear h0
    cases r
    · go_enter Tryd.func45, Tryd.ntmps45
      go_wp2_with (go_at_call 60; refine (HP.out _ HB1.out).mono ?_; rintro e w2 ⟨rfl, hB2⟩; obtain ⟨hc, hf⟩ := bcell hB2; have hz : w.heap.size < w2.heap.size := by { have := hB2.size; simp at this; omega }; have HB2 := Lib.hid hB2; clear hB2)
      go_ret
      exact ⟨rfl, below_step HB1.out HB2.out⟩
    · go_enter Tryd.func45, Tryd.ntmps45
      go_wp2_with (go_at_call 60; refine (HP.out _ HB1.out).mono ?_; rintro e w2 ⟨rfl, hB2⟩; obtain ⟨hc, hf⟩ := bcell hB2; have hz : w.heap.size < w2.heap.size := by { have := hB2.size; simp at this; omega }; have HB2 := Lib.hid hB2; clear hB2)
      go_ret
      exact ⟨rfl, below_step HB1.out HB2.out⟩
set_option maxRecDepth 100000 in
set_option maxHeartbeats 4000000 in
theorem own_2 (w0 w : World) (n : Nat) (s : ByteArray) (p : Option Addr) (pl pc : Nat) (q : Option Addr) (ql qc : Nat) (o : Bool) (k : Option Addr) (kl kc : Nat) (m : Int) (pa : List ByteArray) (ps : List (ByteArray × Ex)) (ks : List Ex)
    (hx : InX w0 (n + 1) ⟨2, m, s, p, pl, pc, q, ql, qc, o, k, kl, kc⟩ (.mk 2 m s pa ps o ks)) (_hb0 : Below w0.heap.size w0 w) (_hE : Nm.Env w) :
    Calls Tryd.prog 45 #[.agg #[.int .i64 2, .int .i64 m, .string s, .slice p pl pc, .slice q ql qc, .bool o, .slice k kl kc]] w (BoolP (ownB (.mk 2 m s pa ps o ks)) w) := by
  obtain ⟨rfl, rfl, rfl, pm, qm, km, sm⟩ := lay_of hx
  dsimp only at pm qm km sm
  have hO : ownB (.mk 2 m s pa ps o ks) = (decide (s.size ≤ 256) && (numB 2 m && emB 0 0 o pa.length ps.length ks.length)) := by rw [ownB_eq, if_neg (by decide), if_neg (by decide), if_neg (by decide), if_neg (by decide), if_pos (by decide)]
  rw [hO]
  obtain ⟨r2, hr2⟩ : ∃ r, emB 0 0 o pa.length ps.length ks.length = r := ⟨_, rfl⟩
  obtain ⟨r3, hr3⟩ : ∃ r, numB 2 m = r := ⟨_, rfl⟩
  have HN : ∀ W, Hid (Calls Tryd.prog 61 #[.int .i64 2, .int .i64 m] W fun e w' => e = .returned (.bool r3) ∧ W = w') := fun W => by rw [← hr3]; exact number_any 2 m W
  have HE := fun W => Lib.hid (empty_x 2 0 ⟨#[]⟩ p pa.length pc q ps.length qc o k ks.length kc r2 W pm qm km hr2)
  rw [hr2, hr3]
  clear hr2 hr3 hO hx
  have HB1 : Hid (Below w.heap.size w (w.alloc (.cells #[.int .i64 2, .int .i64 m, .string s, .slice p pa.length pc, .slice q ps.length qc, .bool o, .slice k ks.length kc] 38))) := (Below.refl _ w).alloc (Nat.le_refl _) _
  by_cases h2 : s.size ≤ 256
  · have g2 : (s.size : Int) ≤ 256 := by omega
    rw [decide_eq_true h2]
    clear h2
    cases r3
    · go_enter Tryd.func45, Tryd.ntmps45
      go_wp2_with (go_at_call 61; refine (HN _).out.mono ?_; rintro e w5 ⟨rfl, rfl⟩)
      go_ret
      exact ⟨rfl, ((Below.refl _ w).alloc (Nat.le_refl _) _)⟩
    · go_enter Tryd.func45, Tryd.ntmps45
      go_wp2_with (first
        | (go_at_call 61; refine (HN _).out.mono ?_; rintro e w5 ⟨rfl, rfl⟩)
        | (go_at_call 62; refine (HE _).out.mono ?_; rintro e w3 ⟨rfl, hB3⟩; have HB3 := Lib.hid hB3; clear hB3))
      go_ret
      exact ⟨ret_bool (by simp), below_step ((Below.refl _ w).alloc (Nat.le_refl _) _) HB3.out⟩
  · have g2 : (256 : Int) < (s.size : Int) := by omega
    rw [decide_eq_false h2]
    clear h2
    go_enter Tryd.func45, Tryd.ntmps45
    go_wp2_with fail
    go_ret
    exact ⟨rfl, HB1.out⟩
set_option maxRecDepth 100000 in
set_option maxHeartbeats 4000000 in
theorem own_1 (w0 w : World) (n : Nat) (s : ByteArray) (p : Option Addr) (pl pc : Nat) (q : Option Addr) (ql qc : Nat) (o : Bool) (k : Option Addr) (kl kc : Nat) (m : Int) (pa : List ByteArray) (ps : List (ByteArray × Ex)) (ks : List Ex)
    (hx : InX w0 (n + 1) ⟨1, m, s, p, pl, pc, q, ql, qc, o, k, kl, kc⟩ (.mk 1 m s pa ps o ks)) (_hb0 : Below w0.heap.size w0 w) (_hE : Nm.Env w) :
    Calls Tryd.prog 45 #[.agg #[.int .i64 1, .int .i64 m, .string s, .slice p pl pc, .slice q ql qc, .bool o, .slice k kl kc]] w (BoolP (ownB (.mk 1 m s pa ps o ks)) w) := by
  obtain ⟨rfl, rfl, rfl, pm, qm, km, sm⟩ := lay_of hx
  dsimp only at pm qm km sm
  have hO : ownB (.mk 1 m s pa ps o ks) = (numB 1 m && emB 0 s.size o pa.length ps.length ks.length) := by rw [ownB_eq, if_neg (by decide), if_neg (by decide), if_neg (by decide), if_neg (by decide), if_neg (by decide), if_pos (by decide)]
  rw [hO]
  obtain ⟨r2, hr2⟩ : ∃ r, emB 0 s.size o pa.length ps.length ks.length = r := ⟨_, rfl⟩
  obtain ⟨r3, hr3⟩ : ∃ r, numB 1 m = r := ⟨_, rfl⟩
  have HN : ∀ W, Hid (Calls Tryd.prog 61 #[.int .i64 1, .int .i64 m] W fun e w' => e = .returned (.bool r3) ∧ W = w') := fun W => by rw [← hr3]; exact number_any 1 m W
  have HE := fun W => Lib.hid (empty_x 1 0 s p pa.length pc q ps.length qc o k ks.length kc r2 W pm qm km hr2)
  rw [hr2, hr3]
  clear hr2 hr3 hO hx
  have HB1 : Hid (Below w.heap.size w (w.alloc (.cells #[.int .i64 1, .int .i64 m, .string s, .slice p pa.length pc, .slice q ps.length qc, .bool o, .slice k ks.length kc] 38))) := (Below.refl _ w).alloc (Nat.le_refl _) _
  cases r3
  · go_enter Tryd.func45, Tryd.ntmps45
    go_wp2_with (go_at_call 61; refine (HN _).out.mono ?_; rintro e w5 ⟨rfl, rfl⟩)
    go_ret
    exact ⟨rfl, ((Below.refl _ w).alloc (Nat.le_refl _) _)⟩
  · go_enter Tryd.func45, Tryd.ntmps45
    go_wp2_with (first
      | (go_at_call 61; refine (HN _).out.mono ?_; rintro e w5 ⟨rfl, rfl⟩)
      | (go_at_call 62; refine (HE _).out.mono ?_; rintro e w3 ⟨rfl, hB3⟩; have HB3 := Lib.hid hB3; clear hB3))
    go_ret
    exact ⟨ret_bool (by simp), below_step ((Below.refl _ w).alloc (Nat.le_refl _) _) HB3.out⟩
set_option maxRecDepth 100000 in
set_option maxHeartbeats 4000000 in
theorem own_7 (w0 w : World) (n : Nat) (s : ByteArray) (p : Option Addr) (pl pc : Nat) (q : Option Addr) (ql qc : Nat) (o : Bool) (k : Option Addr) (kl kc : Nat) (m : Int) (pa : List ByteArray) (ps : List (ByteArray × Ex)) (ks : List Ex)
    (hx : InX w0 (n + 1) ⟨7, m, s, p, pl, pc, q, ql, qc, o, k, kl, kc⟩ (.mk 7 m s pa ps o ks)) (_hb0 : Below w0.heap.size w0 w) (_hE : Nm.Env w) :
    Calls Tryd.prog 45 #[.agg #[.int .i64 7, .int .i64 m, .string s, .slice p pl pc, .slice q ql qc, .bool o, .slice k kl kc]] w (BoolP (ownB (.mk 7 m s pa ps o ks)) w) := by
  obtain ⟨rfl, rfl, rfl, pm, qm, km, sm⟩ := lay_of hx
  dsimp only at pm qm km sm
  have hO : ownB (.mk 7 m s pa ps o ks) = (numB 7 m && emB 0 s.size o pa.length ps.length ks.length) := by rw [ownB_eq, if_neg (by decide), if_neg (by decide), if_neg (by decide), if_neg (by decide), if_neg (by decide), if_pos (by decide)]
  rw [hO]
  obtain ⟨r2, hr2⟩ : ∃ r, emB 0 s.size o pa.length ps.length ks.length = r := ⟨_, rfl⟩
  obtain ⟨r3, hr3⟩ : ∃ r, numB 7 m = r := ⟨_, rfl⟩
  have HN : ∀ W, Hid (Calls Tryd.prog 61 #[.int .i64 7, .int .i64 m] W fun e w' => e = .returned (.bool r3) ∧ W = w') := fun W => by rw [← hr3]; exact number_any 7 m W
  have HE := fun W => Lib.hid (empty_x 7 0 s p pa.length pc q ps.length qc o k ks.length kc r2 W pm qm km hr2)
  rw [hr2, hr3]
  clear hr2 hr3 hO hx
  have HB1 : Hid (Below w.heap.size w (w.alloc (.cells #[.int .i64 7, .int .i64 m, .string s, .slice p pa.length pc, .slice q ps.length qc, .bool o, .slice k ks.length kc] 38))) := (Below.refl _ w).alloc (Nat.le_refl _) _
  cases r3
  · go_enter Tryd.func45, Tryd.ntmps45
    go_wp2_with (go_at_call 61; refine (HN _).out.mono ?_; rintro e w5 ⟨rfl, rfl⟩)
    go_ret
    exact ⟨rfl, ((Below.refl _ w).alloc (Nat.le_refl _) _)⟩
  · go_enter Tryd.func45, Tryd.ntmps45
    go_wp2_with (first
      | (go_at_call 61; refine (HN _).out.mono ?_; rintro e w5 ⟨rfl, rfl⟩)
      | (go_at_call 62; refine (HE _).out.mono ?_; rintro e w3 ⟨rfl, hB3⟩; have HB3 := Lib.hid hB3; clear hB3))
    go_ret
    exact ⟨ret_bool (by simp), below_step ((Below.refl _ w).alloc (Nat.le_refl _) _) HB3.out⟩
set_option maxRecDepth 100000 in
set_option maxHeartbeats 4000000 in
theorem own_8 (w0 w : World) (n : Nat) (s : ByteArray) (p : Option Addr) (pl pc : Nat) (q : Option Addr) (ql qc : Nat) (o : Bool) (k : Option Addr) (kl kc : Nat) (m : Int) (pa : List ByteArray) (ps : List (ByteArray × Ex)) (ks : List Ex)
    (hx : InX w0 (n + 1) ⟨8, m, s, p, pl, pc, q, ql, qc, o, k, kl, kc⟩ (.mk 8 m s pa ps o ks)) (_hb0 : Below w0.heap.size w0 w) (_hE : Nm.Env w) :
    Calls Tryd.prog 45 #[.agg #[.int .i64 8, .int .i64 m, .string s, .slice p pl pc, .slice q ql qc, .bool o, .slice k kl kc]] w (BoolP (ownB (.mk 8 m s pa ps o ks)) w) := by
  obtain ⟨rfl, rfl, rfl, pm, qm, km, sm⟩ := lay_of hx
  dsimp only at pm qm km sm
  have hO : ownB (.mk 8 m s pa ps o ks) = (numB 8 m && emB 0 s.size o pa.length ps.length ks.length) := by rw [ownB_eq, if_neg (by decide), if_neg (by decide), if_neg (by decide), if_neg (by decide), if_neg (by decide), if_pos (by decide)]
  rw [hO]
  obtain ⟨r2, hr2⟩ : ∃ r, emB 0 s.size o pa.length ps.length ks.length = r := ⟨_, rfl⟩
  obtain ⟨r3, hr3⟩ : ∃ r, numB 8 m = r := ⟨_, rfl⟩
  have HN : ∀ W, Hid (Calls Tryd.prog 61 #[.int .i64 8, .int .i64 m] W fun e w' => e = .returned (.bool r3) ∧ W = w') := fun W => by rw [← hr3]; exact number_any 8 m W
  have HE := fun W => Lib.hid (empty_x 8 0 s p pa.length pc q ps.length qc o k ks.length kc r2 W pm qm km hr2)
  rw [hr2, hr3]
  clear hr2 hr3 hO hx
  have HB1 : Hid (Below w.heap.size w (w.alloc (.cells #[.int .i64 8, .int .i64 m, .string s, .slice p pa.length pc, .slice q ps.length qc, .bool o, .slice k ks.length kc] 38))) := (Below.refl _ w).alloc (Nat.le_refl _) _
  cases r3
  · go_enter Tryd.func45, Tryd.ntmps45
    go_wp2_with (go_at_call 61; refine (HN _).out.mono ?_; rintro e w5 ⟨rfl, rfl⟩)
    go_ret
    exact ⟨rfl, ((Below.refl _ w).alloc (Nat.le_refl _) _)⟩
  · go_enter Tryd.func45, Tryd.ntmps45
    go_wp2_with (first
      | (go_at_call 61; refine (HN _).out.mono ?_; rintro e w5 ⟨rfl, rfl⟩)
      | (go_at_call 62; refine (HE _).out.mono ?_; rintro e w3 ⟨rfl, hB3⟩; have HB3 := Lib.hid hB3; clear hB3))
    go_ret
    exact ⟨ret_bool (by simp), below_step ((Below.refl _ w).alloc (Nat.le_refl _) _) HB3.out⟩
set_option maxRecDepth 100000 in
set_option maxHeartbeats 4000000 in
theorem own_3 (w0 w : World) (n : Nat) (s : ByteArray) (p : Option Addr) (pl pc : Nat) (q : Option Addr) (ql qc : Nat) (o : Bool) (k : Option Addr) (kl kc : Nat) (m : Int) (pa : List ByteArray) (ps : List (ByteArray × Ex)) (ks : List Ex)
    (hx : InX w0 (n + 1) ⟨3, m, s, p, pl, pc, q, ql, qc, o, k, kl, kc⟩ (.mk 3 m s pa ps o ks)) (_hb0 : Below w0.heap.size w0 w) (_hE : Nm.Env w) :
    Calls Tryd.prog 45 #[.agg #[.int .i64 3, .int .i64 m, .string s, .slice p pl pc, .slice q ql qc, .bool o, .slice k kl kc]] w (BoolP (ownB (.mk 3 m s pa ps o ks)) w) := by
  obtain ⟨rfl, rfl, rfl, pm, qm, km, sm⟩ := lay_of hx
  dsimp only at pm qm km sm
  have hO : ownB (.mk 3 m s pa ps o ks) = (numB 3 m && emB 0 s.size o pa.length ps.length ks.length) := by rw [ownB_eq, if_neg (by decide), if_neg (by decide), if_neg (by decide), if_neg (by decide), if_neg (by decide), if_pos (by decide)]
  rw [hO]
  obtain ⟨r2, hr2⟩ : ∃ r, emB 0 s.size o pa.length ps.length ks.length = r := ⟨_, rfl⟩
  obtain ⟨r3, hr3⟩ : ∃ r, numB 3 m = r := ⟨_, rfl⟩
  have HN : ∀ W, Hid (Calls Tryd.prog 61 #[.int .i64 3, .int .i64 m] W fun e w' => e = .returned (.bool r3) ∧ W = w') := fun W => by rw [← hr3]; exact number_any 3 m W
  have HE := fun W => Lib.hid (empty_x 3 0 s p pa.length pc q ps.length qc o k ks.length kc r2 W pm qm km hr2)
  rw [hr2, hr3]
  clear hr2 hr3 hO hx
  have HB1 : Hid (Below w.heap.size w (w.alloc (.cells #[.int .i64 3, .int .i64 m, .string s, .slice p pa.length pc, .slice q ps.length qc, .bool o, .slice k ks.length kc] 38))) := (Below.refl _ w).alloc (Nat.le_refl _) _
  cases r3
  · go_enter Tryd.func45, Tryd.ntmps45
    go_wp2_with (go_at_call 61; refine (HN _).out.mono ?_; rintro e w5 ⟨rfl, rfl⟩)
    go_ret
    exact ⟨rfl, ((Below.refl _ w).alloc (Nat.le_refl _) _)⟩
  · go_enter Tryd.func45, Tryd.ntmps45
    go_wp2_with (first
      | (go_at_call 61; refine (HN _).out.mono ?_; rintro e w5 ⟨rfl, rfl⟩)
      | (go_at_call 62; refine (HE _).out.mono ?_; rintro e w3 ⟨rfl, hB3⟩; have HB3 := Lib.hid hB3; clear hB3))
    go_ret
    exact ⟨ret_bool (by simp), below_step ((Below.refl _ w).alloc (Nat.le_refl _) _) HB3.out⟩
set_option maxRecDepth 100000 in
set_option maxHeartbeats 4000000 in
theorem own_4 (w0 w : World) (n : Nat) (s : ByteArray) (p : Option Addr) (pl pc : Nat) (q : Option Addr) (ql qc : Nat) (o : Bool) (k : Option Addr) (kl kc : Nat) (m : Int) (pa : List ByteArray) (ps : List (ByteArray × Ex)) (ks : List Ex)
    (hx : InX w0 (n + 1) ⟨4, m, s, p, pl, pc, q, ql, qc, o, k, kl, kc⟩ (.mk 4 m s pa ps o ks)) (_hb0 : Below w0.heap.size w0 w) (_hE : Nm.Env w) :
    Calls Tryd.prog 45 #[.agg #[.int .i64 4, .int .i64 m, .string s, .slice p pl pc, .slice q ql qc, .bool o, .slice k kl kc]] w (BoolP (ownB (.mk 4 m s pa ps o ks)) w) := by
  obtain ⟨rfl, rfl, rfl, pm, qm, km, sm⟩ := lay_of hx
  dsimp only at pm qm km sm
  have hO : ownB (.mk 4 m s pa ps o ks) = (numB 4 m && emB 0 s.size o pa.length ps.length ks.length) := by rw [ownB_eq, if_neg (by decide), if_neg (by decide), if_neg (by decide), if_neg (by decide), if_neg (by decide), if_pos (by decide)]
  rw [hO]
  obtain ⟨r2, hr2⟩ : ∃ r, emB 0 s.size o pa.length ps.length ks.length = r := ⟨_, rfl⟩
  obtain ⟨r3, hr3⟩ : ∃ r, numB 4 m = r := ⟨_, rfl⟩
  have HN : ∀ W, Hid (Calls Tryd.prog 61 #[.int .i64 4, .int .i64 m] W fun e w' => e = .returned (.bool r3) ∧ W = w') := fun W => by rw [← hr3]; exact number_any 4 m W
  have HE := fun W => Lib.hid (empty_x 4 0 s p pa.length pc q ps.length qc o k ks.length kc r2 W pm qm km hr2)
  rw [hr2, hr3]
  clear hr2 hr3 hO hx
  have HB1 : Hid (Below w.heap.size w (w.alloc (.cells #[.int .i64 4, .int .i64 m, .string s, .slice p pa.length pc, .slice q ps.length qc, .bool o, .slice k ks.length kc] 38))) := (Below.refl _ w).alloc (Nat.le_refl _) _
  cases r3
  · go_enter Tryd.func45, Tryd.ntmps45
    go_wp2_with (go_at_call 61; refine (HN _).out.mono ?_; rintro e w5 ⟨rfl, rfl⟩)
    go_ret
    exact ⟨rfl, ((Below.refl _ w).alloc (Nat.le_refl _) _)⟩
  · go_enter Tryd.func45, Tryd.ntmps45
    go_wp2_with (first
      | (go_at_call 61; refine (HN _).out.mono ?_; rintro e w5 ⟨rfl, rfl⟩)
      | (go_at_call 62; refine (HE _).out.mono ?_; rintro e w3 ⟨rfl, hB3⟩; have HB3 := Lib.hid hB3; clear hB3))
    go_ret
    exact ⟨ret_bool (by simp), below_step ((Below.refl _ w).alloc (Nat.le_refl _) _) HB3.out⟩
set_option maxRecDepth 100000 in
set_option maxHeartbeats 4000000 in
theorem own_5 (w0 w : World) (n : Nat) (s : ByteArray) (p : Option Addr) (pl pc : Nat) (q : Option Addr) (ql qc : Nat) (o : Bool) (k : Option Addr) (kl kc : Nat) (m : Int) (pa : List ByteArray) (ps : List (ByteArray × Ex)) (ks : List Ex)
    (hx : InX w0 (n + 1) ⟨5, m, s, p, pl, pc, q, ql, qc, o, k, kl, kc⟩ (.mk 5 m s pa ps o ks)) (_hb0 : Below w0.heap.size w0 w) (_hE : Nm.Env w) :
    Calls Tryd.prog 45 #[.agg #[.int .i64 5, .int .i64 m, .string s, .slice p pl pc, .slice q ql qc, .bool o, .slice k kl kc]] w (BoolP (ownB (.mk 5 m s pa ps o ks)) w) := by
  obtain ⟨rfl, rfl, rfl, pm, qm, km, sm⟩ := lay_of hx
  dsimp only at pm qm km sm
  have hO : ownB (.mk 5 m s pa ps o ks) = (numB 5 m && emB 0 s.size o pa.length ps.length ks.length) := by rw [ownB_eq, if_neg (by decide), if_neg (by decide), if_neg (by decide), if_neg (by decide), if_neg (by decide), if_pos (by decide)]
  rw [hO]
  obtain ⟨r2, hr2⟩ : ∃ r, emB 0 s.size o pa.length ps.length ks.length = r := ⟨_, rfl⟩
  obtain ⟨r3, hr3⟩ : ∃ r, numB 5 m = r := ⟨_, rfl⟩
  have HN : ∀ W, Hid (Calls Tryd.prog 61 #[.int .i64 5, .int .i64 m] W fun e w' => e = .returned (.bool r3) ∧ W = w') := fun W => by rw [← hr3]; exact number_any 5 m W
  have HE := fun W => Lib.hid (empty_x 5 0 s p pa.length pc q ps.length qc o k ks.length kc r2 W pm qm km hr2)
  rw [hr2, hr3]
  clear hr2 hr3 hO hx
  have HB1 : Hid (Below w.heap.size w (w.alloc (.cells #[.int .i64 5, .int .i64 m, .string s, .slice p pa.length pc, .slice q ps.length qc, .bool o, .slice k ks.length kc] 38))) := (Below.refl _ w).alloc (Nat.le_refl _) _
  cases r3
  · go_enter Tryd.func45, Tryd.ntmps45
    go_wp2_with (go_at_call 61; refine (HN _).out.mono ?_; rintro e w5 ⟨rfl, rfl⟩)
    go_ret
    exact ⟨rfl, ((Below.refl _ w).alloc (Nat.le_refl _) _)⟩
  · go_enter Tryd.func45, Tryd.ntmps45
    go_wp2_with (first
      | (go_at_call 61; refine (HN _).out.mono ?_; rintro e w5 ⟨rfl, rfl⟩)
      | (go_at_call 62; refine (HE _).out.mono ?_; rintro e w3 ⟨rfl, hB3⟩; have HB3 := Lib.hid hB3; clear hB3))
    go_ret
    exact ⟨ret_bool (by simp), below_step ((Below.refl _ w).alloc (Nat.le_refl _) _) HB3.out⟩
set_option maxRecDepth 100000 in
set_option maxHeartbeats 4000000 in
theorem own_6 (w0 w : World) (n : Nat) (s : ByteArray) (p : Option Addr) (pl pc : Nat) (q : Option Addr) (ql qc : Nat) (o : Bool) (k : Option Addr) (kl kc : Nat) (m : Int) (pa : List ByteArray) (ps : List (ByteArray × Ex)) (ks : List Ex)
    (hx : InX w0 (n + 1) ⟨6, m, s, p, pl, pc, q, ql, qc, o, k, kl, kc⟩ (.mk 6 m s pa ps o ks)) (_hb0 : Below w0.heap.size w0 w) (_hE : Nm.Env w) :
    Calls Tryd.prog 45 #[.agg #[.int .i64 6, .int .i64 m, .string s, .slice p pl pc, .slice q ql qc, .bool o, .slice k kl kc]] w (BoolP (ownB (.mk 6 m s pa ps o ks)) w) := by
  obtain ⟨rfl, rfl, rfl, pm, qm, km, sm⟩ := lay_of hx
  dsimp only at pm qm km sm
  have hO : ownB (.mk 6 m s pa ps o ks) = (numB 6 m && emB 0 s.size o pa.length ps.length ks.length) := by rw [ownB_eq, if_neg (by decide), if_neg (by decide), if_neg (by decide), if_neg (by decide), if_neg (by decide), if_pos (by decide)]
  rw [hO]
  obtain ⟨r2, hr2⟩ : ∃ r, emB 0 s.size o pa.length ps.length ks.length = r := ⟨_, rfl⟩
  obtain ⟨r3, hr3⟩ : ∃ r, numB 6 m = r := ⟨_, rfl⟩
  have HN : ∀ W, Hid (Calls Tryd.prog 61 #[.int .i64 6, .int .i64 m] W fun e w' => e = .returned (.bool r3) ∧ W = w') := fun W => by rw [← hr3]; exact number_any 6 m W
  have HE := fun W => Lib.hid (empty_x 6 0 s p pa.length pc q ps.length qc o k ks.length kc r2 W pm qm km hr2)
  rw [hr2, hr3]
  clear hr2 hr3 hO hx
  have HB1 : Hid (Below w.heap.size w (w.alloc (.cells #[.int .i64 6, .int .i64 m, .string s, .slice p pa.length pc, .slice q ps.length qc, .bool o, .slice k ks.length kc] 38))) := (Below.refl _ w).alloc (Nat.le_refl _) _
  cases r3
  · go_enter Tryd.func45, Tryd.ntmps45
    go_wp2_with (go_at_call 61; refine (HN _).out.mono ?_; rintro e w5 ⟨rfl, rfl⟩)
    go_ret
    exact ⟨rfl, ((Below.refl _ w).alloc (Nat.le_refl _) _)⟩
  · go_enter Tryd.func45, Tryd.ntmps45
    go_wp2_with (first
      | (go_at_call 61; refine (HN _).out.mono ?_; rintro e w5 ⟨rfl, rfl⟩)
      | (go_at_call 62; refine (HE _).out.mono ?_; rintro e w3 ⟨rfl, hB3⟩; have HB3 := Lib.hid hB3; clear hB3))
    go_ret
    exact ⟨ret_bool (by simp), below_step ((Below.refl _ w).alloc (Nat.le_refl _) _) HB3.out⟩
set_option maxRecDepth 100000 in
set_option maxHeartbeats 4000000 in
theorem own_any (w0 w : World) (n : Nat) (h : Hd) (x : Ex) (hx : InX w0 n h x) (hb0 : Below w0.heap.size w0 w) (hE : Nm.Env w) : Calls Tryd.prog 45 #[h.agg] w (BoolP (ownB x) w) := by
  obtain ⟨n, rfl⟩ := hx.pos
  obtain ⟨op, m, s, p, pl, pc, q, ql, qc, o, k, kl, kc⟩ := h
  obtain ⟨xop, xm, xs, pa, ps, xo, ks⟩ := x
  have hx' := hx
  obtain ⟨e1, e2, e3, e4, -⟩ := hx'
  dsimp only at e1 e2 e3 e4
  subst e1 e2 e3 e4
  unfold Hd.agg
  dsimp only
  by_cases h : op = 10 ∨ op = 11 ∨ op = 12 ∨ op = 13 ∨ op = 14 ∨ op = 15 ∨ op = 9 ∨ op = 2 ∨ op = 1 ∨ op = 7 ∨ op = 8 ∨ op = 3 ∨ op = 4 ∨ op = 5 ∨ op = 6
  · rcases h with rfl | rfl | rfl | rfl | rfl | rfl | rfl | rfl | rfl | rfl | rfl | rfl | rfl | rfl | rfl
    · exact own_10 w0 w n _ p pl pc q ql qc _ k kl kc _ pa ps ks hx hb0 hE
    · exact own_11 w0 w n _ p pl pc q ql qc _ k kl kc _ pa ps ks hx hb0 hE
    · exact own_12 w0 w n _ p pl pc q ql qc _ k kl kc _ pa ps ks hx hb0 hE
    · exact own_13 w0 w n _ p pl pc q ql qc _ k kl kc _ pa ps ks hx hb0 hE
    · exact own_14 w0 w n _ p pl pc q ql qc _ k kl kc _ pa ps ks hx hb0 hE
    · exact own_15 w0 w n _ p pl pc q ql qc _ k kl kc _ pa ps ks hx hb0 hE
    · exact own_9 w0 w n _ p pl pc q ql qc _ k kl kc _ pa ps ks hx hb0 hE
    · exact own_2 w0 w n _ p pl pc q ql qc _ k kl kc _ pa ps ks hx hb0 hE
    · exact own_1 w0 w n _ p pl pc q ql qc _ k kl kc _ pa ps ks hx hb0 hE
    · exact own_7 w0 w n _ p pl pc q ql qc _ k kl kc _ pa ps ks hx hb0 hE
    · exact own_8 w0 w n _ p pl pc q ql qc _ k kl kc _ pa ps ks hx hb0 hE
    · exact own_3 w0 w n _ p pl pc q ql qc _ k kl kc _ pa ps ks hx hb0 hE
    · exact own_4 w0 w n _ p pl pc q ql qc _ k kl kc _ pa ps ks hx hb0 hE
    · exact own_5 w0 w n _ p pl pc q ql qc _ k kl kc _ pa ps ks hx hb0 hE
    · exact own_6 w0 w n _ p pl pc q ql qc _ k kl kc _ pa ps ks hx hb0 hE
  · have hO : ownB (.mk op m s pa ps o ks) = false := by
      rw [ownB_eq, if_neg (by omega), if_neg (by omega), if_neg (by omega), if_neg (by omega), if_neg (by omega), if_neg (by omega)]
    rw [hO]
    have e10 := eq_no (show ¬ op = 10 by omega)
    have e11 := eq_no (show ¬ op = 11 by omega)
    have e12 := eq_no (show ¬ op = 12 by omega)
    have e13 := eq_no (show ¬ op = 13 by omega)
    have e14 := eq_no (show ¬ op = 14 by omega)
    have e15 := eq_no (show ¬ op = 15 by omega)
    have e9 := eq_no (show ¬ op = 9 by omega)
    have e2 := eq_no (show ¬ op = 2 by omega)
    have e1 := eq_no (show ¬ op = 1 by omega)
    have e7 := eq_no (show ¬ op = 7 by omega)
    have e8 := eq_no (show ¬ op = 8 by omega)
    have e3 := eq_no (show ¬ op = 3 by omega)
    have e4 := eq_no (show ¬ op = 4 by omega)
    have e5 := eq_no (show ¬ op = 5 by omega)
    have e6 := eq_no (show ¬ op = 6 by omega)
    clear h hO hx
    go_enter Tryd.func45, Tryd.ntmps45
    go_wp2_with fail
    go_ret
    exact ⟨rfl, (Below.refl _ w).alloc (Nat.le_refl _) _⟩
end Go.Proofs.YtlpilbghblbpbaaDoor
