/- La, Lb, Ld, Le, Lf, Lh, Li -/
import Derived.Test.YtddleeenlpigfaaGreatDoorZ2
import Derived.Test.YtddleeenlpigfaaGreatDoorZ1
import Derived.Test.YtddleeenlpigfaaGreatDoorY33
/- PLAIN MATHEMATICS: what is read of bytes, and what comes next of them. -/
namespace Go.Proofs.YtddleeenlpigfaaGreatDoor.Ec
open Go.RowKit
/-- From a place and an error to others: if there is none behind, these bytes were read. -/
structure Step (S : List UInt8) (p e p' e' : Nat) (b : List UInt8) : Prop where
  place : p' ≤ S.length
  ok : e' = 0 → e = 0 ∧ S.drop p = b ++ S.drop p'
theorem Step.refl {S : List UInt8} {p : Nat} (e : Nat) (h : p ≤ S.length) : Step S p e p e [] := ⟨h, fun h => ⟨h, rfl⟩⟩
theorem Step.trans {S : List UInt8} {p e p1 e1 p2 e2 : Nat} {a b : List UInt8} (h : Step S p e p1 e1 a) (k : Step S p1 e1 p2 e2 b) : Step S p e p2 e2 (a ++ b) :=
  ⟨k.place, fun h2 => by
    obtain ⟨h1, hb⟩ := k.ok h2
    obtain ⟨h0, ha⟩ := h.ok h1
    exact ⟨h0, by rw [ha, hb, List.append_assoc]⟩⟩
/-- These bytes come next. -/
def Wants (S : List UInt8) (p e : Nat) (b : List UInt8) : Prop := e = 0 ∧ ∃ T, S.drop p = b ++ T
theorem Wants.left {S : List UInt8} {p e : Nat} {a b : List UInt8} (h : Wants S p e (a ++ b)) : Wants S p e a := by
  obtain ⟨h0, T, h⟩ := h
  exact ⟨h0, b ++ T, by rw [h, List.append_assoc]⟩
/-- Behind what was read comes what came behind it. -/
theorem Wants.step {S : List UInt8} {p e p' e' : Nat} {a b : List UInt8} (h : Wants S p e (a ++ b)) (k : Step S p e p' e' a) (h' : e' = 0) : Wants S p' e' b := by
  obtain ⟨_, T, h⟩ := h
  have h2 := (k.ok h').2
  rw [h, List.append_assoc] at h2
  exact ⟨h', T, (List.append_cancel_left h2).symm⟩
def nR (M : Nat) (S : List UInt8) (p e : Nat) : Nat × Nat × Nat := Vn.nxt p e (Vn.mostR M (S.drop p))
theorem mostR_zero {M : Nat} {L : List UInt8} {b c : Nat} (h : Vn.mostR M L = (0, b, c)) : Vn.gets L = (0, b, c) ∧ b ≤ M := Vn.mostR_le h
theorem num_step {M : Nat} {S : List UInt8} {p e : Nat} (hp : p ≤ S.length) : Step S p e (nR M S p e).2.1 (nR M S p e).2.2 (Vn.nb (nR M S p e).1) := by
  unfold nR
  by_cases he : e = 0
  · subst he
    obtain ⟨⟨a, b, c⟩, hg⟩ : ∃ g, Vn.mostR M (S.drop p) = g := ⟨_, rfl⟩
    rw [hg]
    by_cases ha : a = 0
    · subst ha
      rw [Vn.nxt_ok rfl]
      obtain ⟨h1, h2, h3⟩ := Vn.gets_back (mostR_zero hg).1
      rw [List.length_drop] at h3
      refine ⟨by show p + c ≤ _; omega, fun _ => ⟨rfl, ?_⟩⟩
      show S.drop p = Vn.nb b ++ S.drop (p + c)
      rw [h1, ← List.drop_drop]
      exact (List.take_append_drop _ _).symm
    · rw [Vn.nxt_no ha]
      exact ⟨hp, fun h => absurd h ha⟩
  · rw [Vn.nxt_err he]
    exact ⟨hp, fun h => absurd h he⟩
theorem num_le {M : Nat} {S : List UInt8} {p e : Nat} : (nR M S p e).1 ≤ M ∧ (nR M S p e).1 < 18446744073709551616 := by
  unfold nR
  by_cases he : e = 0
  · subst he
    obtain ⟨⟨a, b, c⟩, hg⟩ : ∃ g, Vn.mostR M (S.drop p) = g := ⟨_, rfl⟩
    rw [hg]
    by_cases ha : a = 0
    · subst ha
      rw [Vn.nxt_ok rfl]
      obtain ⟨h1, h2⟩ := mostR_zero hg
      exact ⟨h2, (Vn.gets_back h1).2.1⟩
    · rw [Vn.nxt_no ha]; exact ⟨Nat.zero_le _, show 0 < 18446744073709551616 by decide⟩
  · rw [Vn.nxt_err he]; exact ⟨Nat.zero_le _, show 0 < 18446744073709551616 by decide⟩
theorem num_want {M n : Nat} {S : List UInt8} {p e : Nat} {R : List UInt8} (hp : p ≤ S.length) (h : Wants S p e (Vn.nb n ++ R)) (hn : n < 18446744073709551616) (hM : n ≤ M) : (nR M S p e).1 = n ∧ Wants S (nR M S p e).2.1 (nR M S p e).2.2 R := by
  have hs := num_step (M := M) (e := e) hp
  obtain ⟨rfl, T, h2⟩ := h
  have hg : Vn.mostR M (S.drop p) = (0, n, (Vn.nb n).length) := by
    rw [h2, List.append_assoc]
    exact Vn.mostR_ok (Vn.gets_nb hn _) hM
  have e1 : nR M S p 0 = (n, p + (Vn.nb n).length, 0) := by unfold nR; rw [hg, Vn.nxt_ok rfl]
  have hn1 : (nR M S p 0).1 = n := by rw [e1]
  rw [hn1] at hs
  exact ⟨hn1, Wants.step ⟨rfl, T, h2⟩ hs (by rw [e1])⟩
theorem sgn_usg {n : Nat} : Vn.sgn (Vn.usg n) = n := by
  unfold Vn.usg
  split
  · unfold Vn.sgn
    rw [if_pos (by omega)]
    omega
  · unfold Vn.sgn
    rw [if_neg (by omega)]
    omega
def tR (M : Int) (s : ByteArray) (p e : Nat) : ByteArray × Nat × Nat := Vn.nxtT p e (Vn.textR s p (Vn.mostR (Vn.mostOf M) (s.data.toList.drop p)))
theorem text_step {M : Int} {s : ByteArray} {p e : Nat} (hp : p ≤ s.size) : Step s.data.toList p e (tR M s p e).2.1 (tR M s p e).2.2 (Vn.txt (tR M s p e).1) := by
  have hlen : s.data.toList.length = s.size := rfl
  unfold tR
  by_cases he : e = 0
  · subst he
    obtain ⟨⟨a, b, c⟩, hg⟩ : ∃ g, Vn.mostR (Vn.mostOf M) (s.data.toList.drop p) = g := ⟨_, rfl⟩
    rw [hg]
    unfold Vn.textR
    dsimp only
    by_cases ha : a = 0
    · subst ha
      obtain ⟨g1, _⟩ := mostR_zero hg
      obtain ⟨h1, h2, h3⟩ := Vn.gets_back g1
      rw [List.length_drop] at h3
      rw [if_neg (by simp)]
      by_cases hl : s.size - (p + c) < b
      · rw [if_pos hl, Vn.nxtT_no (by decide)]
        exact ⟨by rw [hlen]; exact hp, fun h => absurd (show (3 : Nat) = 0 from h) (by decide)⟩
      · rw [if_neg hl, Vn.nxtT_ok rfl]
        refine ⟨by show p + (c + b) ≤ _; omega, fun _ => ⟨rfl, ?_⟩⟩
        show s.data.toList.drop p = Vn.txt (s.extract (p + c) (p + c + b)) ++ s.data.toList.drop (p + (c + b))
        have hz : (s.extract (p + c) (p + c + b)).size = b := by rw [ByteArray.size_extract]; omega
        unfold Vn.txt
        rw [hz, h1]
        have e2 : (s.extract (p + c) (p + c + b)).data.toList = (s.data.toList.drop (p + c)).take b := by
          rw [ByteArray.data_extract, Array.toList_extract, List.extract_eq_take_drop]
          congr 1
          omega
        rw [e2, List.append_assoc, show p + (c + b) = (p + c) + b by omega, ← List.drop_drop (i := b) (j := p + c), List.take_append_drop, ← List.drop_drop, List.take_append_drop]
    · rw [if_pos ha, Vn.nxtT_no ha]
      exact ⟨by rw [hlen]; exact hp, fun h => absurd h ha⟩
  · rw [Vn.nxtT_err he]
    exact ⟨by rw [hlen]; exact hp, fun h => absurd h he⟩
theorem text_le {M : Int} {s : ByteArray} {p e : Nat} : (tR M s p e).1.size ≤ s.size := by
  unfold tR
  by_cases he : e = 0
  · subst he
    unfold Vn.textR
    split
    · rename_i h; rw [Vn.nxtT_no h]; exact Nat.zero_le _
    · split
      · rw [Vn.nxtT_no (by decide)]; exact Nat.zero_le _
      · rw [Vn.nxtT_ok rfl]; rw [ByteArray.size_extract]; omega
  · rw [Vn.nxtT_err he]; exact Nat.zero_le _
theorem text_want {M : Int} {s t : ByteArray} {p e : Nat} {R : List UInt8} (hp : p ≤ s.size) (h : Wants s.data.toList p e (Vn.txt t ++ R)) (ht : (t.size : Int) ≤ M) (ht2 : t.size < 18446744073709551616) : (tR M s p e).1 = t ∧ Wants s.data.toList (tR M s p e).2.1 (tR M s p e).2.2 R := by
  have hs := text_step (M := M) (e := e) hp
  obtain ⟨rfl, T, h2⟩ := h
  have hlen : s.data.toList.length = s.size := rfl
  have h3 : s.data.toList.drop p = Vn.nb t.size ++ (t.data.toList ++ (R ++ T)) := by rw [h2]; unfold Vn.txt; simp [List.append_assoc]
  have hg : Vn.mostR (Vn.mostOf M) (s.data.toList.drop p) = (0, t.size, (Vn.nb t.size).length) := by
    rw [h3]
    exact Vn.mostR_ok (Vn.gets_nb ht2 _) (by unfold Vn.mostOf; omega)
  have hl := congrArg List.length h3
  simp only [List.length_drop, List.length_append] at hl
  have htl : t.data.toList.length = t.size := rfl
  have e1 : tR M s p 0 = (s.extract (p + (Vn.nb t.size).length) (p + (Vn.nb t.size).length + t.size), p + ((Vn.nb t.size).length + t.size), 0) := by
    unfold tR Vn.textR
    rw [hg]
    dsimp only
    rw [if_neg (by simp), if_neg (by omega), Vn.nxtT_ok rfl]
  have e2 : (s.extract (p + (Vn.nb t.size).length) (p + (Vn.nb t.size).length + t.size)) = t := by
    apply ByteArray.ext
    apply Array.toList_inj.1
    rw [ByteArray.data_extract, Array.toList_extract, List.extract_eq_take_drop, ← List.drop_drop, h3, List.drop_left, show p + (Vn.nb t.size).length + t.size - (p + (Vn.nb t.size).length) = t.data.toList.length by omega, List.take_left]
  have ht1 : (tR M s p 0).1 = t := by rw [e1]; exact e2
  rw [ht1] at hs
  exact ⟨ht1, Wants.step ⟨rfl, T, h2⟩ hs (by rw [e1])⟩
/-- The term that a head tells. -/
def hdT (n : Nat) : Int × Bool × Bool × Bool := (((n / 8 : Nat) : Int), decide (n / 2 % 2 = 1), decide (n % 2 = 1), decide (n / 4 % 2 = 1))
theorem b01_dec (P : Prop) [Decidable P] : b01 (decide P) = if P then 1 else 0 := by unfold b01; by_cases h : P <;> simp [h]
theorem hdN_of (n : Nat) (lo hi : Int) (s : ByteArray) (fs : List (ByteArray × List Tm)) : hdN (.mk (hdT n).1 lo hi s (hdT n).2.1 (hdT n).2.2.1 (hdT n).2.2.2 fs) = n := by
  unfold hdN hdT
  show 8 * ((n / 8 : Nat) : Int).toNat + b01 (decide (n % 2 = 1)) + 2 * b01 (decide (n / 2 % 2 = 1)) + 4 * b01 (decide (n / 4 % 2 = 1)) = n
  rw [b01_dec, b01_dec, b01_dec, Int.toNat_natCast]
  split <;> split <;> split <;> omega
theorem hdT_of {x : Tm} (h0 : 0 ≤ x.k) : hdT (hdN x) = (x.k, x.y, x.m, x.o) := by
  obtain ⟨k, lo, hi, s, y, m, o, fs⟩ := x
  have h0 : 0 ≤ k := h0
  unfold hdT hdN
  show ((((8 * k.toNat + b01 m + 2 * b01 y + 4 * b01 o) / 8 : Nat) : Int), decide ((8 * k.toNat + b01 m + 2 * b01 y + 4 * b01 o) / 2 % 2 = 1), decide ((8 * k.toNat + b01 m + 2 * b01 y + 4 * b01 o) % 2 = 1), decide ((8 * k.toNat + b01 m + 2 * b01 y + 4 * b01 o) / 4 % 2 = 1)) = (k, y, m, o)
  have e1 : (((8 * k.toNat + b01 m + 2 * b01 y + 4 * b01 o) / 8 : Nat) : Int) = k := by
    have := b01_le m; have := b01_le y; have := b01_le o
    omega
  rw [e1]
  cases m <;> cases y <;> cases o <;> simp [b01] <;> omega
end Go.Proofs.YtddleeenlpigfaaGreatDoor.Ec
/- WHAT A READER OF VALUES ANSWERS. -/
namespace Go.Proofs.YtddleeenlpigfaaGreatDoor.Ec
open Go.RowKit
/-- Terms that may be read. -/
def RdF (g : List Tm → Prop) (fs : List (ByteArray × List Tm)) : Prop := fs.length ≤ 32 ∧ ∀ f ∈ fs, f.1.size ≤ 16 ∧ g f.2
def RdT (g : List Tm → Prop) (x : Tm) : Prop :=
  0 ≤ x.k ∧ x.k ≤ 5 ∧ (¬ (x.k = 1 ∨ x.k = 2) → x.lo = 0 ∧ x.hi = 0) ∧ (¬ x.k = 3 → x.s = ⟨#[]⟩) ∧ (¬ x.k = 4 → x.fs = []) ∧ (x.k = 1 ∨ x.k = 2 → in64 x.lo ∧ in64 x.hi) ∧ x.s.size ≤ 256 ∧ (x.k = 4 → RdF g x.fs)
def RdV : Nat → List Tm → Prop
  | 0, _ => False
  | n + 1, A => A.length ≤ 512 ∧ ∀ x ∈ A, RdT (RdV n) x
/-- Old blocks but for two stand as they stood. -/
structure Kp2 (B R : Nat) (w w' : World) : Prop where
  os : w'.os = w.os
  tape : w'.tape = w.tape
  output : w'.output = w.output
  size : w.heap.size ≤ w'.heap.size
  block : ∀ k, k < w.heap.size → k ≠ B → k ≠ R → w'.heap[k]? = w.heap[k]?
variable {B R : Nat} {w w' w'' : World}
theorem Kp2.refl (B R : Nat) (w : World) : Kp2 B R w w := ⟨rfl, rfl, rfl, Nat.le_refl _, fun _ _ _ _ => rfl⟩
theorem Kp2.trans (h : Kp2 B R w w') (k : Kp2 B R w' w'') : Kp2 B R w w'' :=
  ⟨k.os.trans h.os, k.tape.trans h.tape, k.output.trans h.output, Nat.le_trans h.size k.size, fun i hi hB hR => (k.block i (Nat.lt_of_lt_of_le hi h.size) hB hR).trans (h.block i hi hB hR)⟩
theorem Kp2.of_below (h : Below w.heap.size w w') : Kp2 B R w w' := ⟨h.os, h.tape, h.output, h.size, fun k hk _ _ => h.block k hk⟩
theorem Kp2.of_keep (h : Vn.Keep B w w') : Kp2 B R w w' := ⟨h.os, h.tape, h.output, h.size, fun k hk hB _ => h.block k hk hB⟩
/-- A store into a new block, or into one of the two. -/
theorem Kp2.set {b o : Nat} {v : Value} (h : Kp2 B R w w') (hb : w.heap.size ≤ b ∨ b = B ∨ b = R) : Kp2 B R w (w'.setCell ⟨b, o, none⟩ v) :=
  ⟨h.os, h.tape, h.output, by rw [show (w'.setCell ⟨b, o, none⟩ v).heap.size = w'.heap.size by simp [World.setCell]]; exact h.size, fun k hk hB hR => by
    rw [Below.heap_setCell w' ⟨b, o, none⟩ v k (by intro e; rcases hb with h1 | h1 | h1 <;> simp at e <;> omega)]
    exact h.block k hk hB hR⟩
def RBox (w : World) (R B : Nat) (room : Nat) : Prop := w.heap[R]? = some (.cells #[.pointer (some ⟨B, 0, none⟩), .int .i64 (room : Int)] 81)
theorem RBox.lt {room : Nat} (h : RBox w R B room) : R < w.heap.size := (Array.getElem?_eq_some_iff.1 h).1
theorem RBox.cells {room : Nat} (h : RBox w R B room) : w.cell? ⟨R, 0, none⟩ = some (.pointer (some ⟨B, 0, none⟩)) ∧ w.cell? ⟨R, 1, none⟩ = some (.int .i64 (room : Int)) ∧ w.frozen? ⟨R, 1, none⟩ = false := by
  unfold RBox at h
  exact ⟨by simp [World.cell?, h], by simp [World.cell?, h], by simp [World.frozen?, h]⟩
/-- A reader of values stands there. -/
structure St (w : World) (B R : Nat) (s : ByteArray) (p e room : Nat) : Prop where
  rd : Vn.Rd w B s p e
  bx : RBox w R B room
  pl : p ≤ s.size
  ne : B ≠ R
theorem St.below {s : ByteArray} {p e room : Nat} (h : St w B R s p e room) (hb : Below w.heap.size w w') : St w' B R s p e room := ⟨(hb.block _ h.rd.lt).trans h.rd, (hb.block _ h.bx.lt).trans h.bx, h.pl, h.ne⟩
theorem St.set {s : ByteArray} {p e room b o : Nat} {v : Value} (h : St w B R s p e room) (hB : b ≠ B) (hR : b ≠ R) : St (w.setCell ⟨b, o, none⟩ v) B R s p e room :=
  ⟨(Below.heap_setCell w ⟨b, o, none⟩ v B (fun e => hB e.symm)).trans h.rd, (Below.heap_setCell w ⟨b, o, none⟩ v R (fun e => hR e.symm)).trans h.bx, h.pl, h.ne⟩
theorem St.lt {s : ByteArray} {p e room : Nat} (h : St w B R s p e room) : B < w.heap.size ∧ R < w.heap.size := ⟨h.rd.lt, h.bx.lt⟩
/-- What comes behind a call of the reader below. -/
theorem St.next {s : ByteArray} {p e room p' e' : Nat} (h : St w B R s p e room) (hr : Vn.Rd w' B s p' e') (hk : Vn.Keep B w w') (hp : p' ≤ s.size) : St w' B R s p' e' room :=
  ⟨hr, (hk.block _ h.bx.lt (fun e => h.ne e.symm)).trans h.bx, hp, h.ne⟩
/-- Names that memory has room for. -/
def NmF (l : Nat) (fs : List (ByteArray × List Tm)) : Prop := ∀ f ∈ fs, f.1.size ≤ 140737488355328 ∧ NmV l f.2
theorem nmF_nil (l : Nat) : NmF l [] := fun _ h => absurd h (by simp)
def FieldsP (l B R : Nat) (s : ByteArray) (p e room : Nat) (w : World) (en : Ending) (w' : World) : Prop :=
  ∃ (f : Option Addr) (fl fc : Nat) (fs : List (ByteArray × List Tm)) (p' e' room' : Nat), en = .returned (.slice f fl fc) ∧ St w' B R s p' e' room' ∧ room' ≤ room ∧ Kp2 B R w w' ∧ InFP (fun b => w.heap.size ≤ b) (fun t tl tc V => InVP (fun b => w.heap.size ≤ b) w' l t tl tc V) w' f fl fs ∧
    Step s.data.toList p e p' e' (bF (bV l) fs) ∧ (e' = 0 → room = room' + wF l fs) ∧ NmF l fs ∧ ∀ fs0 Q, Wants s.data.toList p e (bF (bV l) fs0 ++ Q) → RdF (RdV l) fs0 → wF l fs0 ≤ room → fs = fs0 ∧ e' = 0
def TermP (l B R : Nat) (s : ByteArray) (p e room : Nat) (w : World) (en : Ending) (w' : World) : Prop :=
  ∃ (h : Hr) (p' e' room' : Nat), en = .returned h.v ∧ St w' B R s p' e' room' ∧ room' ≤ room ∧ Kp2 B R w w' ∧ h.okP (fun b => w.heap.size ≤ b) l w' ∧
    Step s.data.toList p e p' e' (bT (bV l) h.x) ∧ (e' = 0 → room = room' + wF l h.x.fs) ∧ NmF l h.x.fs ∧ ∀ x0 Q, Wants s.data.toList p e (bT (bV l) x0 ++ Q) → RdT (RdV l) x0 → wF l x0.fs ≤ room → h.x = x0 ∧ e' = 0
def ValP (l B R : Nat) (s : ByteArray) (p e room : Nat) (w : World) (en : Ending) (w' : World) : Prop :=
  ∃ (t : Option Addr) (tl tc : Nat) (A : List Tm) (p' e' room' : Nat), en = .returned (.agg #[.slice t tl tc]) ∧ St w' B R s p' e' room' ∧ room' ≤ room ∧ Kp2 B R w w' ∧ InVP (fun b => w.heap.size ≤ b) w' l t tl tc A ∧
    Step s.data.toList p e p' e' (bV l A) ∧ (e' = 0 → room = room' + wN l A) ∧ NmV l A ∧ ∀ A0 Q, Wants s.data.toList p e (bV l A0 ++ Q) → RdV l A0 → wN l A0 ≤ room → A = A0 ∧ e' = 0
def FieldsH (l : Nat) : Prop := ∀ (w : World) (B R : Nat) (s : ByteArray) (p e room : Nat), St w B R s p e room → s.size ≤ 1000000 → room ≤ 512 → Calls Tryz.prog 135 #[.pointer (some ⟨R, 0, none⟩), .int .i64 (l : Int)] w (FieldsP l B R s p e room w)
def TermH (l : Nat) : Prop := ∀ (w : World) (B R : Nat) (s : ByteArray) (p e room : Nat), St w B R s p e room → s.size ≤ 1000000 → room ≤ 512 → Calls Tryz.prog 103 #[.pointer (some ⟨R, 0, none⟩), .int .i64 ((l + 1 : Nat) : Int)] w (TermP l B R s p e room w)
def ValH (l : Nat) : Prop := ∀ (w : World) (B R : Nat) (s : ByteArray) (p e room : Nat), St w B R s p e room → s.size ≤ 1000000 → room ≤ 512 → Calls Tryz.prog 60 #[.pointer (some ⟨R, 0, none⟩), .int .i64 (l : Int)] w (ValP l B R s p e room w)
end Go.Proofs.YtddleeenlpigfaaGreatDoor.Ec
/- THE READER's OWN CALLS, as what is read and what comes next. -/
namespace Go.Proofs.YtddleeenlpigfaaGreatDoor.Ec
open Go.RowKit
/-- A call of the reader below. -/
def SubP (v : Value) (B R : Nat) (s : ByteArray) (p' e' room : Nat) (W : World) (en : Ending) (W' : World) : Prop := en = .returned v ∧ St W' B R s p' e' room ∧ Vn.Keep B W W'
variable {W : World} {B R : Nat} {s : ByteArray} {p e room : Nat}
theorem sub_of {v : Value} {p' e' : Nat} (h : St W B R s p e room) (hp : p' ≤ s.size) : ∀ en W', Vn.RdPost B s v p' e' W en W' → SubP v B R s p' e' room W en W' := fun _ _ ⟨a, b, c⟩ => ⟨a, h.next b c hp, c⟩
theorem most_call (M : Nat) (hM : M < 18446744073709551616) (h : St W B R s p e room) (hs : s.size ≤ 1000000) : ∃ n p' e' : Nat, Calls Tryz.prog 101 #[.pointer (some ⟨B, 0, none⟩), .int .u64 (M : Int)] W (SubP (.int .u64 (n : Int)) B R s p' e' room W) ∧ n ≤ M ∧ Step s.data.toList p e p' e' (Vn.nb n) ∧ ∀ n0 Q, Wants s.data.toList p e (Vn.nb n0 ++ Q) → n0 ≤ M → n = n0 ∧ Wants s.data.toList p' e' Q := by
  have hst := num_step (M := M) (e := e) (S := s.data.toList) (p := p) h.pl
  exact ⟨_, _, _, (Vn.most_any B s p e M _ W h.rd rfl h.pl (by omega) hM).mono (sub_of h hst.place), num_le.1, hst, fun n0 Q hw hn => num_want h.pl hw (by omega) hn⟩
theorem int_call (h : St W B R s p e room) (hs : s.size ≤ 1000000) : ∃ n p' e' : Nat, Calls Tryz.prog 133 #[.pointer (some ⟨B, 0, none⟩)] W (SubP (.int .i64 (Vn.usg n)) B R s p' e' room W) ∧ Step s.data.toList p e p' e' (Vn.nb n) ∧ ∀ n0 Q, Wants s.data.toList p e (Vn.nb n0 ++ Q) → n0 < 18446744073709551616 → n = n0 ∧ Wants s.data.toList p' e' Q := by
  have hst := num_step (M := 18446744073709551615) (e := e) (S := s.data.toList) (p := p) h.pl
  have hc := Vn.getint_any B s p e _ W h.rd rfl h.pl (by omega)
  rw [← Vn.mostR_top] at hc
  exact ⟨_, _, _, hc.mono (sub_of h hst.place), hst, fun n0 Q hw hn => num_want h.pl hw hn (by omega)⟩
theorem text_call (M : Int) (hM : M ≤ 1000000) (h : St W B R s p e room) (hs : s.size ≤ 1000000) : ∃ (t : ByteArray) (p' e' : Nat), Calls Tryz.prog 134 #[.pointer (some ⟨B, 0, none⟩), .int .i64 M] W (SubP (.string t) B R s p' e' room W) ∧ t.size ≤ s.size ∧ Step s.data.toList p e p' e' (Vn.txt t) ∧ ∀ t0 Q, Wants s.data.toList p e (Vn.txt t0 ++ Q) → (t0.size : Int) ≤ M → t = t0 ∧ Wants s.data.toList p' e' Q := by
  have hst := text_step (M := M) (e := e) (p := p) h.pl
  exact ⟨_, _, _, (Vn.gettext_any B s p e M _ W h.rd rfl h.pl (by omega) (by omega)).mono (sub_of h hst.place), text_le, hst, fun t0 Q hw ht => text_want h.pl hw ht (by omega)⟩
end Go.Proofs.YtddleeenlpigfaaGreatDoor.Ec
/- PLAIN MATHEMATICS: how each kind of term is read. -/
namespace Go.Proofs.YtddleeenlpigfaaGreatDoor.Ec
open Go.RowKit
variable {S : List UInt8} {g : List Tm → List UInt8} {p e p1 e1 p2 e2 p3 e3 n : Nat} {k : Int} {y m o : Bool}
theorem usg_sgn {z : Int} (h : in64 z) : Vn.usg (Vn.sgn z) = z := by
  obtain ⟨h1, h2⟩ := h
  unfold Vn.sgn
  split
  · unfold Vn.usg; split <;> omega
  · unfold Vn.usg; split <;> omega
theorem sgn_lt {z : Int} (h : in64 z) : Vn.sgn z < 18446744073709551616 := by
  obtain ⟨h1, h2⟩ := h
  unfold Vn.sgn
  split <;> omega
theorem hd_n (hd : hdT n = (k, y, m, o)) (lo hi : Int) (t : ByteArray) (fs : List (ByteArray × List Tm)) : hdN (.mk k lo hi t y m o fs) = n := by
  have h := hdN_of n lo hi t fs
  rw [hd] at h
  exact h
/-- The head, then the rest. -/
theorem hd_step (h1 : Step S p e p1 e1 (Vn.nb n)) (hd : hdT n = (k, y, m, o)) {lo hi : Int} {t : ByteArray} {fs : List (ByteArray × List Tm)} (h2 : Step S p1 e1 p2 e2 (bB g (.mk k lo hi t y m o fs))) : Step S p e p2 e2 (bT g (.mk k lo hi t y m o fs)) := by
  unfold bT
  rw [hd_n hd]
  exact h1.trans h2
theorem hdN_47 {x : Tm} (h : x.k ≤ 5) : hdN x ≤ 47 := by
  unfold hdN
  have := b01_le x.m; have := b01_le x.y; have := b01_le x.o
  omega
theorem hd_want (hw : ∀ (n0 : Nat) (Q : List UInt8), Wants S p e (Vn.nb n0 ++ Q) → n0 ≤ 47 → n = n0 ∧ Wants S p1 e1 Q) (hd : hdT n = (k, y, m, o)) {x : Tm} {Q : List UInt8} (h : Wants S p e (bT g x ++ Q)) (h0 : 0 ≤ x.k) (h5 : x.k ≤ 5) : x.k = k ∧ x.y = y ∧ x.m = m ∧ x.o = o ∧ Wants S p1 e1 (bB g x ++ Q) := by
  unfold bT at h
  rw [List.append_assoc] at h
  obtain ⟨hn, h2⟩ := hw _ _ h (hdN_47 h5)
  rw [hn, hdT_of h0] at hd
  simp only [Prod.mk.injEq] at hd
  exact ⟨hd.1, hd.2.1, hd.2.2.1, hd.2.2.2, h2⟩
theorem bB_int {lo hi : Int} {t : ByteArray} {fs : List (ByteArray × List Tm)} (hk : k = 1 ∨ k = 2) : bB g (.mk k lo hi t y m o fs) = Vn.nb (Vn.sgn lo) ++ Vn.nb (Vn.sgn hi) := by unfold bB; exact if_pos hk
theorem bB_text {lo hi : Int} {t : ByteArray} {fs : List (ByteArray × List Tm)} : bB g (.mk 3 lo hi t y m o fs) = Vn.txt t := rfl
theorem bB_struct {lo hi : Int} {t : ByteArray} {fs : List (ByteArray × List Tm)} : bB g (.mk 4 lo hi t y m o fs) = bF g fs := rfl
theorem bB_else {lo hi : Int} {t : ByteArray} {fs : List (ByteArray × List Tm)} (h1 : k ≠ 1) (h2 : k ≠ 2) (h3 : k ≠ 3) (h4 : k ≠ 4) : bB g (.mk k lo hi t y m o fs) = [] := by
  unfold bB
  show (if k = 1 ∨ k = 2 then _ else if k = 3 then _ else if k = 4 then _ else _) = _
  rw [if_neg (by omega), if_neg h3, if_neg h4]
theorem int_step {a b : Nat} (hk : k = 1 ∨ k = 2) (h1 : Step S p e p1 e1 (Vn.nb n)) (hd : hdT n = (k, y, m, o)) (h2 : Step S p1 e1 p2 e2 (Vn.nb a)) (h3 : Step S p2 e2 p3 e3 (Vn.nb b)) {t : ByteArray} {fs : List (ByteArray × List Tm)} : Step S p e p3 e3 (bT g (.mk k (Vn.usg a) (Vn.usg b) t y m o fs)) :=
  hd_step h1 hd (by rw [bB_int hk, sgn_usg, sgn_usg]; exact h2.trans h3)
theorem int_want {G : List Tm → Prop} {a b : Nat} (hk : k = 1 ∨ k = 2) (hw : ∀ (n0 : Nat) (Q : List UInt8), Wants S p e (Vn.nb n0 ++ Q) → n0 ≤ 47 → n = n0 ∧ Wants S p1 e1 Q) (hd : hdT n = (k, y, m, o))
    (h2 : ∀ (n0 : Nat) (Q : List UInt8), Wants S p1 e1 (Vn.nb n0 ++ Q) → n0 < 18446744073709551616 → a = n0 ∧ Wants S p2 e2 Q) (h3 : ∀ (n0 : Nat) (Q : List UInt8), Wants S p2 e2 (Vn.nb n0 ++ Q) → n0 < 18446744073709551616 → b = n0 ∧ Wants S p3 e3 Q) {x : Tm} {Q : List UInt8} (h : Wants S p e (bT g x ++ Q)) (hr : RdT G x) : Tm.mk k (Vn.usg a) (Vn.usg b) ⟨#[]⟩ y m o [] = x ∧ e3 = 0 := by
  obtain ⟨r0, r5, -, r3, r4, ri, -, -⟩ := hr
  obtain ⟨q1, q2, q3, q4, hB⟩ := hd_want hw hd h r0 r5
  obtain ⟨k', lo, hi, t, y', m', o', fs⟩ := x
  dsimp only [Tm.k, Tm.lo, Tm.hi, Tm.s, Tm.y, Tm.m, Tm.o, Tm.fs] at q1 q2 q3 q4 r3 r4 ri
  subst q1; subst q2; subst q3; subst q4
  obtain ⟨i1, i2⟩ := ri hk
  rw [bB_int hk, List.append_assoc] at hB
  obtain ⟨ha, hB⟩ := h2 _ _ hB (sgn_lt i1)
  obtain ⟨hb, hB⟩ := h3 _ _ hB (sgn_lt i2)
  rw [ha, hb, usg_sgn i1, usg_sgn i2, r3 (by omega), r4 (by omega)]
  exact ⟨rfl, hB.1⟩
theorem text_want' {G : List Tm → Prop} {t : ByteArray} (hw : ∀ (n0 : Nat) (Q : List UInt8), Wants S p e (Vn.nb n0 ++ Q) → n0 ≤ 47 → n = n0 ∧ Wants S p1 e1 Q) (hd : hdT n = (3, y, m, o))
    (h2 : ∀ (t0 : ByteArray) (Q : List UInt8), Wants S p1 e1 (Vn.txt t0 ++ Q) → (t0.size : Int) ≤ 256 → t = t0 ∧ Wants S p2 e2 Q) {x : Tm} {Q : List UInt8} (h : Wants S p e (bT g x ++ Q)) (hr : RdT G x) : Tm.mk 3 0 0 t y m o [] = x ∧ e2 = 0 := by
  obtain ⟨r0, r5, r2, -, r4, -, rs, -⟩ := hr
  obtain ⟨q1, q2, q3, q4, hB⟩ := hd_want hw hd h r0 r5
  obtain ⟨k', lo, hi, t', y', m', o', fs⟩ := x
  dsimp only [Tm.k, Tm.lo, Tm.hi, Tm.s, Tm.y, Tm.m, Tm.o, Tm.fs] at q1 q2 q3 q4 r2 r4 rs
  subst q1; subst q2; subst q3; subst q4
  obtain ⟨l0, h0⟩ := r2 (by omega)
  rw [bB_text] at hB
  obtain ⟨ha, hB⟩ := h2 _ _ hB (by omega)
  rw [ha, l0, h0, r4 (by omega)]
  exact ⟨rfl, hB.1⟩
theorem else_want {G : List Tm → Prop} (h1 : k ≠ 1) (h2 : k ≠ 2) (h3 : k ≠ 3) (h4 : k ≠ 4) (hw : ∀ (n0 : Nat) (Q : List UInt8), Wants S p e (Vn.nb n0 ++ Q) → n0 ≤ 47 → n = n0 ∧ Wants S p1 e1 Q) (hd : hdT n = (k, y, m, o))
    {x : Tm} {Q : List UInt8} (h : Wants S p e (bT g x ++ Q)) (hr : RdT G x) : Tm.mk k 0 0 ⟨#[]⟩ y m o [] = x ∧ e1 = 0 := by
  obtain ⟨r0, r5, r2, r3, r4, -, -, -⟩ := hr
  obtain ⟨q1, q2, q3, q4, hB⟩ := hd_want hw hd h r0 r5
  obtain ⟨k', lo, hi, t', y', m', o', fs⟩ := x
  dsimp only [Tm.k, Tm.lo, Tm.hi, Tm.s, Tm.y, Tm.m, Tm.o, Tm.fs] at q1 q2 q3 q4 r2 r3 r4
  subst q1; subst q2; subst q3; subst q4
  obtain ⟨l0, h0⟩ := r2 (by omega)
  rw [l0, h0, r3 h3, r4 h4]
  exact ⟨rfl, hB.1⟩
theorem struct_want {l room : Nat} {fs : List (ByteArray × List Tm)} (hw : ∀ (n0 : Nat) (Q : List UInt8), Wants S p e (Vn.nb n0 ++ Q) → n0 ≤ 47 → n = n0 ∧ Wants S p1 e1 Q) (hd : hdT n = (4, y, m, o))
    (h2 : ∀ (fs0 : List (ByteArray × List Tm)) (Q : List UInt8), Wants S p1 e1 (bF (bV l) fs0 ++ Q) → RdF (RdV l) fs0 → wF l fs0 ≤ room → fs = fs0 ∧ e2 = 0) {x : Tm} {Q : List UInt8} (h : Wants S p e (bT (bV l) x ++ Q)) (hr : RdT (RdV l) x) (hz : wF l x.fs ≤ room) : Tm.mk 4 0 0 ⟨#[]⟩ y m o fs = x ∧ e2 = 0 := by
  obtain ⟨r0, r5, r2, r3, -, -, -, rf⟩ := hr
  obtain ⟨q1, q2, q3, q4, hB⟩ := hd_want hw hd h r0 r5
  obtain ⟨k', lo, hi, t', y', m', o', fs'⟩ := x
  dsimp only [Tm.k, Tm.lo, Tm.hi, Tm.s, Tm.y, Tm.m, Tm.o, Tm.fs] at q1 q2 q3 q4 r2 r3 rf hz
  subst q1; subst q2; subst q3; subst q4
  obtain ⟨l0, h0⟩ := r2 (by omega)
  rw [bB_struct] at hB
  obtain ⟨ha, he⟩ := h2 _ _ hB (rf rfl) hz
  rw [ha, l0, h0, r3 (by omega)]
  exact ⟨rfl, he⟩
end Go.Proofs.YtddleeenlpigfaaGreatDoor.Ec
/- BETWEEN TWO FIELDS THAT ARE READ. -/
namespace Go.Proofs.YtddleeenlpigfaaGreatDoor.Ec
open Go.RowKit
/-- So far, of n fields, these were read. -/
structure FI (l B R : Nat) (s : ByteArray) (p e room : Nat) (w : World) (n : Nat) (L : List Fh) (u : Value) (wr : World) (p' e' room' : Nat) : Prop where
  st : St wr B R s p' e' room'
  kp : Kp2 B R w wr
  rm : room' ≤ room
  own : OwnFh wr w.heap.size u L
  ok : ∀ h ∈ L, InVP (fun b => w.heap.size ≤ b ∧ u.ownBlock ≠ some b) wr l h.t h.tl h.tc h.V
  nm : ∀ h ∈ L, h.nm.size ≤ 140737488355328 ∧ NmV l h.V
  step : Step s.data.toList p e p' e' (Vn.nb n ++ (L.map Fh.f).flatMap (bF1 (bV l)))
  rooms : e' = 0 → room = room' + wF l (L.map Fh.f)
  want : ∀ fs0 Q, Wants s.data.toList p e (bF (bV l) fs0 ++ Q) → RdF (RdV l) fs0 → wF l fs0 ≤ room → n = fs0.length ∧ L.map Fh.f = fs0.take L.length ∧ Wants s.data.toList p' e' ((fs0.drop L.length).flatMap (bF1 (bV l)) ++ Q)
variable {l B R : Nat} {s : ByteArray} {p e room : Nat} {w : World} {n : Nat} {L : List Fh} {u : Value} {wr : World} {p' e' room' : Nat}
theorem wF_append (l : Nat) (a b : List (ByteArray × List Tm)) : wF l (a ++ b) = wF l a + wF l b := by
  unfold wF
  rw [List.map_append, List.sum_append]
theorem wF_one (l : Nat) (f : ByteArray × List Tm) : wF l [f] = wN l f.2 := by
  unfold wF
  simp
theorem FI.start {M p1 e1 : Nat} {w1 : World} (h : St w1 B R s p1 e1 room) (hk : Kp2 B R w w1) (hst : Step s.data.toList p e p1 e1 (Vn.nb n)) (hM : M = if l = 0 then 0 else 32) (hw : ∀ n0 Q, Wants s.data.toList p e (Vn.nb n0 ++ Q) → n0 ≤ M → n = n0 ∧ Wants s.data.toList p1 e1 Q) : FI l B R s p e room w n [] (.slice none 0 0) w1 p1 e1 room where
  st := h
  kp := hk
  rm := Nat.le_refl _
  own := OwnFh.nil _ _
  ok := fun h hh => absurd hh (by simp)
  nm := fun h hh => absurd hh (by simp)
  step := by simpa using hst
  rooms := fun _ => rfl
  want := fun fs0 Q h hr _ => by
    unfold bF at h
    rw [List.append_assoc] at h
    have hl : fs0.length ≤ M := by
      rw [hM]
      split
      · rename_i hl
        subst hl
        cases fs0 with
        | nil => exact Nat.le_refl _
        | cons a t => exact absurd (hr.2 a (by simp)).2 (by simp [RdV])
      · exact hr.1
    obtain ⟨h1, h2⟩ := hw _ _ h hl
    exact ⟨h1, by simp, by simpa using h2⟩
theorem FI.more {t : ByteArray} {p1 e1 p2 e2 room2 : Nat} {z : Fh} {u4 : Value} {w4 : World} (h : FI l B R s p e room w n L u wr p' e' room') (hlt : L.length < n) (hnz : z.nm.size ≤ 140737488355328 ∧ NmV l z.V) (hz : z.nm = t) (st1 : Step s.data.toList p' e' p1 e1 (Vn.txt t)) (wn1 : ∀ t0 Q, Wants s.data.toList p' e' (Vn.txt t0 ++ Q) → ((t0.size : Nat) : Int) ≤ 16 → t = t0 ∧ Wants s.data.toList p1 e1 Q)
    (hr2 : room2 ≤ room') (st2 : Step s.data.toList p1 e1 p2 e2 (bV l z.V)) (he2 : e2 = 0 → room' = room2 + wN l z.V) (wn2 : ∀ A0 Q, Wants s.data.toList p1 e1 (bV l A0 ++ Q) → RdV l A0 → wN l A0 ≤ room' → z.V = A0 ∧ e2 = 0)
    (hst : St w4 B R s p2 e2 room2) (hk : Kp2 B R w w4) (ho : OwnFh w4 w.heap.size u4 (L ++ [z])) (hok : ∀ h ∈ L ++ [z], InVP (fun b => w.heap.size ≤ b ∧ u4.ownBlock ≠ some b) w4 l h.t h.tl h.tc h.V) : FI l B R s p e room w n (L ++ [z]) u4 w4 p2 e2 room2 where
  st := hst
  kp := hk
  rm := Nat.le_trans hr2 h.rm
  own := ho
  ok := hok
  nm := fun x hx => by
    rcases List.mem_append.1 hx with hx | hx
    · exact h.nm x hx
    · rw [List.mem_singleton.1 hx]; exact hnz
  step := by
    have e1 : Vn.nb n ++ ((L ++ [z]).map Fh.f).flatMap (bF1 (bV l)) = (Vn.nb n ++ (L.map Fh.f).flatMap (bF1 (bV l))) ++ (Vn.txt t ++ bV l z.V) := by
      rw [List.map_append, List.flatMap_append, ← List.append_assoc, ← hz]
      congr 1
      simp [bF1, Fh.f]
    rw [e1]
    exact h.step.trans (st1.trans st2)
  rooms := fun h0 => by
    have h1 := (st1.trans st2).ok h0
    have h2 := h.rooms h1.1
    have h3 := he2 h0
    rw [List.map_append, wF_append]
    have : wF l (List.map Fh.f [z]) = wN l z.V := wF_one l z.f
    omega
  want := fun fs0 Q hw hr hm => by
    obtain ⟨a1, a2, a3⟩ := h.want fs0 Q hw hr hm
    have hl : L.length < fs0.length := by omega
    have h0 := a3.1
    rw [List.drop_eq_getElem_cons hl, List.flatMap_cons] at a3
    unfold bF1 at a3
    rw [List.append_assoc, List.append_assoc] at a3
    have hf := hr.2 fs0[L.length] (List.getElem_mem hl)
    obtain ⟨b1, b2⟩ := wn1 _ _ a3 (by have := hf.1; omega)
    have hz2 : wF l (fs0.take L.length) + wN l fs0[L.length].2 ≤ wF l fs0 := by
      have e1 : fs0 = fs0.take L.length ++ ([fs0[L.length]] ++ fs0.drop (L.length + 1)) := by
        rw [List.singleton_append, ← List.drop_eq_getElem_cons hl, List.take_append_drop]
      have e2 := congrArg (wF l) e1
      rw [wF_append, wF_append, wF_one] at e2
      omega
    have hrm := h.rooms h0
    rw [a2] at hrm
    obtain ⟨c1, c2⟩ := wn2 _ _ b2 hf.2 (by omega)
    rw [← c1] at b2
    have d := Wants.step b2 st2 c2
    refine ⟨a1, ?_, ?_⟩
    · rw [List.map_append, List.length_append, a2, show L.length + [z].length = L.length + 1 from rfl, List.take_succ_eq_append_getElem hl]
      congr 1
      show [z.f] = _
      rw [show z.f = fs0[L.length] from Prod.ext (by show z.nm = _; rw [hz, b1]) c1]
    · rw [List.length_append, show L.length + [z].length = L.length + 1 from rfl]
      exact d
/-- The fields lie in memory. -/
theorem FI.inF {a : Option Addr} {fl cap : Nat} (h : FI l B R s p e room w n L (.slice a fl cap) wr p' e' room') (hz : (L.length : Int) ≤ 9223372036854775807) : InFP (fun b => w.heap.size ≤ b) (fun t tl tc V => InVP (fun b => w.heap.size ≤ b) wr l t tl tc V) wr a fl (L.map Fh.f) := by
  obtain ⟨a', cap', ee, hrow⟩ := h.own.row
  cases ee
  refine ⟨by rw [List.length_map], hz, fun i hi => ?_⟩
  have hi' : i < L.length := by simpa using hi
  rcases hrow with h0 | ⟨g, ee, hg, hr⟩
  · rw [h0] at hi'; exact absurd hi' (by simp)
  · obtain ⟨r0, r1⟩ := hr.2.2 i hi'
    simp only [List.getElem_map]
    exact ⟨g, 0, L[i].tl, L[i].tc, L[i].t, ee, hg, hr.1, by rw [Nat.zero_add]; exact r0, by rw [Nat.zero_add]; exact r1, InVP.imp (fun _ hb _ => hb.1) (h.ok _ (List.getElem_mem hi'))⟩
/-- At the end, or as soon as there is an error. -/
theorem FI.done {a : Option Addr} {fl cap : Nat} (h : FI l B R s p e room w n L (.slice a fl cap) wr p' e' room') (hz : (L.length : Int) ≤ 9223372036854775807) (hd : L.length = n ∨ e' ≠ 0) : FieldsP l B R s p e room w (.returned (.slice a fl cap)) wr := by
  refine ⟨a, fl, cap, L.map Fh.f, p', e', room', rfl, h.st, h.rm, h.kp, h.inF hz, ?_, h.rooms, (fun f hf => by obtain ⟨x, hx, rfl⟩ := List.mem_map.1 hf; exact h.nm x hx), fun fs0 Q hw hr hm => ?_⟩
  · rcases hd with hd | hd
    · have := h.step
      rw [← hd] at this
      unfold bF
      rw [List.length_map]
      exact this
    · exact ⟨h.step.place, fun h0 => absurd h0 hd⟩
  · obtain ⟨a1, a2, a3⟩ := h.want fs0 Q hw hr hm
    rcases hd with hd | hd
    · refine ⟨?_, a3.1⟩
      rw [a2, hd, a1, List.take_length]
    · exact absurd a3.1 hd
end Go.Proofs.YtddleeenlpigfaaGreatDoor.Ec
/- BETWEEN TWO TERMS THAT ARE READ. -/
namespace Go.Proofs.YtddleeenlpigfaaGreatDoor.Ec
open Go.RowKit
def wTs (l : Nat) (A : List Tm) : Nat := (A.map fun x => wF l x.fs).sum
theorem wTs_append (l : Nat) (a b : List Tm) : wTs l (a ++ b) = wTs l a + wTs l b := by
  unfold wTs
  rw [List.map_append, List.sum_append]
theorem wTs_one (l : Nat) (x : Tm) : wTs l [x] = wF l x.fs := by
  unfold wTs
  simp
theorem wN_is (l : Nat) (A : List Tm) : wN (l + 1) A = A.length + wTs l A := rfl
/-- So far, of n terms, these were read. -/
structure VI (l B R : Nat) (s : ByteArray) (p e room : Nat) (w : World) (bs n : Nat) (L : List Hr) (u : Value) (wr : World) (p' e' room' : Nat) : Prop where
  st : St wr B R s p' e' room'
  kp : Kp2 B R w wr
  rm : room' ≤ room
  own : OwnH wr bs u L
  ok : ∀ h ∈ L, h.okP (fun b => bs ≤ b ∧ u.ownBlock ≠ some b) l wr
  nm : ∀ h ∈ L, NmF l h.x.fs
  step : Step s.data.toList p e p' e' (Vn.nb n ++ (L.map (·.x)).flatMap (bT (bV l)))
  rooms : e' = 0 → room = room' + n + wTs l (L.map (·.x))
  want : ∀ A0 Q, Wants s.data.toList p e (bV (l + 1) A0 ++ Q) → RdV (l + 1) A0 → wN (l + 1) A0 ≤ room → n = A0.length ∧ L.map (·.x) = A0.take L.length ∧ Wants s.data.toList p' e' ((A0.drop L.length).flatMap (bT (bV l)) ++ Q)
variable {bs l B R : Nat} {s : ByteArray} {p e room : Nat} {w : World} {n : Nat} {L : List Hr} {u : Value} {wr : World} {p' e' room' : Nat}
theorem VI.start {p1 e1 room1 : Nat} {w1 : World} (h : St w1 B R s p1 e1 room1) (hr1 : room = room1 + n) (hk : Kp2 B R w w1) (hst : Step s.data.toList p e p1 e1 (Vn.nb n)) (hw : ∀ n0 Q, Wants s.data.toList p e (Vn.nb n0 ++ Q) → n0 ≤ room → n = n0 ∧ Wants s.data.toList p1 e1 Q) : VI l B R s p e room w bs n [] (.slice none 0 0) w1 p1 e1 room1 where
  st := h
  kp := hk
  rm := by omega
  own := OwnH.nil _ _
  ok := fun h hh => absurd hh (by simp)
  nm := fun h hh => absurd hh (by simp)
  step := by simpa using hst
  rooms := fun _ => hr1
  want := fun A0 Q h hr hm => by
    unfold bV at h
    rw [List.append_assoc] at h
    rw [wN_is] at hm
    obtain ⟨h1, h2⟩ := hw _ _ h (by omega)
    exact ⟨h1, by simp, by simpa using h2⟩
theorem VI.more {p2 e2 room2 : Nat} {z : Hr} {u4 : Value} {w4 : World} (h : VI l B R s p e room w bs n L u wr p' e' room') (hlt : L.length < n) (hnz : NmF l z.x.fs)
    (hr2 : room2 ≤ room') (st2 : Step s.data.toList p' e' p2 e2 (bT (bV l) z.x)) (he2 : e2 = 0 → room' = room2 + wF l z.x.fs) (wn2 : ∀ x0 Q, Wants s.data.toList p' e' (bT (bV l) x0 ++ Q) → RdT (RdV l) x0 → wF l x0.fs ≤ room' → z.x = x0 ∧ e2 = 0)
    (hst : St w4 B R s p2 e2 room2) (hk : Kp2 B R w w4) (ho : OwnH w4 bs u4 (L ++ [z])) (hok : ∀ h ∈ L ++ [z], h.okP (fun b => bs ≤ b ∧ u4.ownBlock ≠ some b) l w4) : VI l B R s p e room w bs n (L ++ [z]) u4 w4 p2 e2 room2 where
  st := hst
  kp := hk
  rm := Nat.le_trans hr2 h.rm
  own := ho
  ok := hok
  nm := fun x hx => by
    rcases List.mem_append.1 hx with hx | hx
    · exact h.nm x hx
    · rw [List.mem_singleton.1 hx]; exact hnz
  step := by
    have e1 : Vn.nb n ++ ((L ++ [z]).map (·.x)).flatMap (bT (bV l)) = (Vn.nb n ++ (L.map (·.x)).flatMap (bT (bV l))) ++ bT (bV l) z.x := by
      rw [List.map_append, List.flatMap_append, ← List.append_assoc]
      congr 1
      simp
    rw [e1]
    exact h.step.trans st2
  rooms := fun h0 => by
    have h1 := st2.ok h0
    have h2 := h.rooms h1.1
    have h3 := he2 h0
    rw [List.map_append, wTs_append]
    have : wTs l (List.map (·.x) [z]) = wF l z.x.fs := wTs_one l z.x
    omega
  want := fun A0 Q hw hr hm => by
    obtain ⟨a1, a2, a3⟩ := h.want A0 Q hw hr hm
    have hl : L.length < A0.length := by omega
    have h0 := a3.1
    rw [List.drop_eq_getElem_cons hl, List.flatMap_cons, List.append_assoc] at a3
    have hf := hr.2 A0[L.length] (List.getElem_mem hl)
    have hz2 : wTs l (A0.take L.length) + wF l A0[L.length].fs ≤ wTs l A0 := by
      have e1 : A0 = A0.take L.length ++ ([A0[L.length]] ++ A0.drop (L.length + 1)) := by
        rw [List.singleton_append, ← List.drop_eq_getElem_cons hl, List.take_append_drop]
      have e2 := congrArg (wTs l) e1
      rw [wTs_append, wTs_append, wTs_one] at e2
      omega
    have hrm := h.rooms h0
    rw [a2] at hrm
    rw [wN_is] at hm
    obtain ⟨c1, c2⟩ := wn2 _ _ a3 hf (by omega)
    rw [← c1] at a3
    have d := Wants.step a3 st2 c2
    refine ⟨a1, ?_, ?_⟩
    · rw [List.map_append, List.length_append, a2, show L.length + [z].length = L.length + 1 from rfl, List.take_succ_eq_append_getElem hl]
      congr 1
      show [z.x] = _
      rw [c1]
    · rw [List.length_append, show L.length + [z].length = L.length + 1 from rfl]
      exact d
/-- At the end, or as soon as there is an error. -/
theorem VI.done {a : Option Addr} {fl cap : Nat} {w9 : World} (h : VI l B R s p e room w bs n L (.slice a fl cap) wr p' e' room') (hz : (L.length : Int) ≤ 9223372036854775807) (hd : L.length = n ∨ e' ≠ 0) (hst : St w9 B R s p' e' room') (hk : Kp2 B R w w9) (hV : InVP (fun b => bs ≤ b) wr (l + 1) a fl cap (L.map (·.x)) → InVP (fun b => w.heap.size ≤ b) w9 (l + 1) a fl cap (L.map (·.x))) : ValP (l + 1) B R s p e room w (.returned (.agg #[.slice a fl cap])) w9 := by
  refine ⟨a, fl, cap, L.map (·.x), p', e', room', rfl, hst, h.rm, hk, hV (h.own.inVP hz (fun _ hb => hb) fun x hx => Hr.okP.to (Nat.le_refl _) (fun b hb _ => ⟨hb.1, rfl⟩) (h.ok x hx)), ?_, fun h0 => ?_, (fun x hx => by obtain ⟨y, hy, rfl⟩ := List.mem_map.1 hx; exact h.nm y hy), fun A0 Q hw hr hm => ?_⟩
  · rcases hd with hd | hd
    · have := h.step
      rw [← hd] at this
      unfold bV
      rw [List.length_map]
      exact this
    · exact ⟨h.step.place, fun h0 => absurd h0 hd⟩
  · rcases hd with hd | hd
    · have := h.rooms h0
      rw [wN_is, List.length_map]
      omega
    · exact absurd h0 hd
  · obtain ⟨a1, a2, a3⟩ := h.want A0 Q hw hr hm
    rcases hd with hd | hd
    · refine ⟨?_, a3.1⟩
      rw [a2, hd, a1, List.take_length]
    · exact absurd a3.1 hd
end Go.Proofs.YtddleeenlpigfaaGreatDoor.Ec
/- PLAIN MATHEMATICS: a right value at another level; what is right may be read. -/
namespace Go.Proofs.YtddleeenlpigfaaGreatDoor.Ec
open Go.RowKit
theorem undT_congr {f g : List Tm → List Tm → Bool} {a b : Tm} (h : ∀ x ∈ a.fs, ∀ y ∈ b.fs, f x.2 y.2 = g x.2 y.2) : undT f a b = undT g a b := by
  have hF : ∀ y ∈ b.fs, undF f a.fs y = undF g a.fs y := fun y hy => by
    unfold undF
    cases hq : findF a.fs y.1 with
    | none => rfl
    | some V =>
      unfold findF at hq
      obtain ⟨x, hx, rfl⟩ := Option.map_eq_some_iff.1 hq
      exact h x (List.mem_of_find?_eq_some hx) y hy
  have hA : b.fs.all (undF f a.fs) = b.fs.all (undF g a.fs) := by
    rw [Bool.eq_iff_iff, List.all_eq_true, List.all_eq_true]
    exact ⟨fun k y hy => by rw [← hF y hy]; exact k y hy, fun k y hy => by rw [hF y hy]; exact k y hy⟩
  unfold undT undS
  rw [hA]
theorem undV_le : ∀ {n m : Nat} {A B : List Tm}, n ≤ m → Dv n A → Dv n B → undV m A B = undV n A B
  | 0, _, _, _, _, h, _ => h.elim
  | n + 1, 0, _, _, hnm, _, _ => absurd hnm (by omega)
  | n + 1, m + 1, A, B, hnm, hA, hB => by
    have hT : ∀ a ∈ A, ∀ b ∈ B, undT (undV m) a b = undT (undV n) a b := fun a ha b hb => undT_congr fun x hx y hy => undV_le (by omega) (hA a ha x hx) (hB b hb y hy)
    unfold undV
    rw [Bool.eq_iff_iff, List.all_eq_true, List.all_eq_true]
    refine ⟨fun k a ha => ?_, fun k a ha => ?_⟩
    · obtain ⟨b, hb, e⟩ := List.any_eq_true.1 (k a ha)
      exact List.any_eq_true.2 ⟨b, hb, by rw [← hT a ha b hb]; exact e⟩
    · obtain ⟨b, hb, e⟩ := List.any_eq_true.1 (k a ha)
      exact List.any_eq_true.2 ⟨b, hb, by rw [hT a ha b hb]; exact e⟩
theorem undT_le {n m : Nat} (hnm : n ≤ m) {a b : Tm} (ha : Dt n a) (hb : Dt n b) : undT (undV m) a b = undT (undV n) a b := undT_congr fun x hx y hy => undV_le hnm (ha x hx) (hb y hy)
theorem rv_dl : ∀ {n l : Nat} {A : List Tm}, RV n l A → Dv l A
  | 0, _, _, h => by unfold RV at h; exact h.elim
  | n + 1, 0, _, h => by unfold RV at h; exact h.elim
  | n + 1, l + 1, A, h => fun x hx _ hf => rv_dl (gt_f (h.1 x hx) hf).2.1
theorem RT_imp {f g : List Tm → Prop} {x : Tm} (h : RT f x) (k : ∀ y ∈ x.fs, f y.2 → g y.2) : RT g x := by
  unfold RT at h ⊢
  split
  · rw [if_pos (by assumption)] at h; exact h
  · rw [if_neg (by assumption)] at h
    split
    · rw [if_pos (by assumption)] at h
      obtain ⟨a, b, c, d, e, ⟨f1, f2, f3⟩, i⟩ := h
      exact ⟨a, b, c, d, e, ⟨f1, f2, fun y hy => k y hy (f3 y hy)⟩, i⟩
    · rw [if_neg (by assumption)] at h; exact h
/-- At another level, if that is not too low. -/
theorem rv_at : ∀ {n l m : Nat} {A : List Tm}, l ≤ m → RV n l A → RV m l A
  | 0, _, _, _, _, h => by unfold RV at h; exact h.elim
  | n + 1, 0, _, _, _, h => by unfold RV at h; exact h.elim
  | n + 1, l + 1, 0, _, hm, _ => absurd hm (by omega)
  | n + 1, l + 1, m + 1, A, hm, h => by
    have hd : ∀ x ∈ A, Dt (min n l) x := fun x hx f hf => by
      have h1 := (gt_f (h.1 x hx) hf).2.1
      have a1 := rv_dv h1
      have a2 := rv_dl h1
      by_cases e : n ≤ l
      · rw [Nat.min_eq_left e]; exact a1
      · rw [Nat.min_eq_right (by omega)]; exact a2
    refine ⟨fun x hx => RT_imp (h.1 x hx) fun _ _ hy => rv_at (by omega) hy, ?_, ?_⟩
    · refine List.Pairwise.imp_of_mem ?_ h.2.1
      intro a b ha hb hab
      rw [cmpT_le (n := min n l) (by omega) (hd a ha) (hd b hb), ← cmpT_le (n := min n l) (m := n) (by omega) (hd a ha) (hd b hb)]
      exact hab
    · refine List.Pairwise.imp_of_mem ?_ h.2.2
      intro a b ha hb hab
      rw [undT_le (n := min n l) (by omega) (hd a ha) (hd b hb), undT_le (n := min n l) (by omega) (hd b hb) (hd a ha), ← undT_le (n := min n l) (m := n) (by omega) (hd a ha) (hd b hb), ← undT_le (n := min n l) (m := n) (by omega) (hd b hb) (hd a ha)]
      exact hab
theorem flatMap_congr' {α β : Type} {f g : α → List β} : ∀ {l : List α}, (∀ x ∈ l, f x = g x) → l.flatMap f = l.flatMap g
  | [], _ => rfl
  | x :: l, h => by rw [List.flatMap_cons, List.flatMap_cons, h x (by simp), flatMap_congr' (fun y hy => h y (by simp [hy]))]
theorem bV_le : ∀ {n m : Nat} {A : List Tm}, n ≤ m → Dv n A → bV m A = bV n A
  | 0, _, _, _, h => h.elim
  | n + 1, 0, _, hnm, _ => absurd hnm (by omega)
  | n + 1, m + 1, A, hnm, hA => by
    unfold bV
    congr 1
    refine flatMap_congr' fun x hx => ?_
    unfold bT bB bF
    have e : x.fs.flatMap (bF1 (bV m)) = x.fs.flatMap (bF1 (bV n)) := flatMap_congr' fun f hf => by unfold bF1; rw [bV_le (by omega) (hA x hx f hf)]
    rw [e]
theorem rd_rv : ∀ (n l : Nat) (A : List Tm), RV n l A → wN n A ≤ 512 → RdV n A
  | 0, _, _, h, _ => h.elim
  | n + 1, 0, _, h, _ => h.elim
  | n + 1, l + 1, A, h, hw => by
    refine ⟨?_, fun x hx => ?_⟩
    · have : A.length ≤ wN (n + 1) A := by simp only [wN]; omega
      omega
    · have h1 := h.1 x hx
      have hw2 := wN_in (n := n) hx
      unfold RT at h1
      split at h1
      · rename_i h5
        subst h1
        exact ⟨by decide, by decide, fun _ => ⟨rfl, rfl⟩, fun _ => rfl, fun _ => rfl, fun h => by rcases h with h | h <;> exact absurd h (by decide), by decide, fun h => absurd h (by decide)⟩
      · split at h1
        · rename_i h4
          obtain ⟨e1, e2, e3, _, _, hf, _⟩ := h1
          refine ⟨by omega, by omega, fun _ => ⟨e1, e2⟩, fun _ => e3, fun h => absurd h4 h, fun h => by omega, by rw [e3]; decide, fun _ => ⟨hf.1, fun f hf2 => ⟨name_size hf.2.1 hf2, ?_⟩⟩⟩
          exact rd_rv n l f.2 (hf.2.2 f hf2) (by have := wF_le (n := n) hf2; omega)
        · rename_i h4
          obtain ⟨_, hfl, _, h2⟩ := h1
          have hfs : x.fs = [] := List.eq_nil_of_length_eq_zero hfl
          show RdT (RdV n) x
          unfold RdT in64
          rcases h2 with ⟨hk, hl, hh, hs, _⟩ | ⟨hk, hs, _, hl, hh, h6⟩ | ⟨hk, hs, _, hl, hh, h6⟩
          · exact ⟨by omega, by omega, fun _ => ⟨hl, hh⟩, fun h => absurd hk h, fun _ => hfs, fun h => by omega, by omega, fun h => by omega⟩
          · have e0 : x.s.size = 0 := by rw [Nm.size_list, hs]; rfl
            have e1 : x.s = ⟨#[]⟩ := ByteArray.ext (Array.eq_empty_of_size_eq_zero e0)
            exact ⟨by omega, by omega, fun h => absurd (Or.inl hk) h, fun _ => e1, fun _ => hfs, fun _ => ⟨⟨by omega, by omega⟩, by omega, by omega⟩, by omega, fun h => by omega⟩
          · have e0 : x.s.size = 0 := by rw [Nm.size_list, hs]; rfl
            have e1 : x.s = ⟨#[]⟩ := ByteArray.ext (Array.eq_empty_of_size_eq_zero e0)
            exact ⟨by omega, by omega, fun h => absurd (Or.inr hk) h, fun _ => e1, fun _ => hfs, fun _ => ⟨⟨by omega, by omega⟩, by omega, by omega⟩, by omega, fun h => by omega⟩
/-- A right value at sixteen levels. -/
theorem rg_at {n : Nat} {A : List Tm} (h : RG n A) : RG 16 A ∧ bV n A = bV 16 A ∧ RdV 16 A ∧ cmpV 16 A A = 0 := by
  have h1 : RV 16 16 A := rv_at (Nat.le_refl _) h.1
  have d1 := rv_dv h.1
  have d2 := rv_dl h.1
  have hd : Dv (min n 16) A := by
    by_cases e : n ≤ 16
    · rw [Nat.min_eq_left e]; exact d1
    · rw [Nat.min_eq_right (by omega)]; exact d2
  have hw : wN 16 A = wN n A := by rw [wN_le (n := min n 16) (m := 16) (by omega) hd, ← wN_le (n := min n 16) (m := n) (by omega) hd]
  have hb : bV n A = bV 16 A := by rw [bV_le (n := min n 16) (m := n) (by omega) hd, ← bV_le (n := min n 16) (m := 16) (by omega) hd]
  have hw2 : wN 16 A ≤ 512 := by rw [hw]; exact h.2
  exact ⟨⟨h1, hw2⟩, hb, rd_rv 16 16 A h1 hw2, (cmpV_cmp 16).refl A⟩
end Go.Proofs.YtddleeenlpigfaaGreatDoor.Ec
