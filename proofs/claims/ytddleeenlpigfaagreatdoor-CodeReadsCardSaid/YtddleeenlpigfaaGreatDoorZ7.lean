/- Lk, Lj, Ll -/
import Derived.Test.YtddleeenlpigfaaGreatDoorZ6
import Derived.Test.YtddleeenlpigfaaGreatDoorZ5
/- WHAT THE REFERENCE READS: between two fields, between two terms. -/
namespace Go.Proofs.YtddleeenlpigfaaGreatDoor.Ec
open Go.RowKit
theorem kp2_below {B R N : Nat} {w w0 w' : World} (hb : Below N w w0) (hk : Kp2 B R w0 w') (hN : N ≤ w0.heap.size) (hB : N ≤ B) (hR : N ≤ R) : Below N w w' where
  os := hk.os.trans hb.os
  tape := hk.tape.trans hb.tape
  output := hk.output.trans hb.output
  size := Nat.le_trans hb.size hk.size
  block := fun k h => (hk.block k (by omega) (by omega) (by omega)).trans (hb.block k h)
/-- The reference's reader in its box. -/
def RB (w : World) (g : Nat) (s : ByteArray) (p e : Nat) : Prop := w.heap[g]? = some (.cells #[.string s, .int .i64 (p : Int), .int .i64 (e : Int)] 85)
section
variable {B R g p e : Nat} {s : ByteArray} {w w' : World}
theorem RB.lt (k : RB w g s p e) : g < w.heap.size := (Array.getElem?_eq_some_iff.1 k).1
theorem RB.kp2 (k : RB w g s p e) (hk : Kp2 B R w w') (hB : g ≠ B) (hR : g ≠ R) : RB w' g s p e := (hk.block g k.lt hB hR).trans k
theorem RB.below (k : RB w g s p e) (hb : Below w.heap.size w w') : RB w' g s p e := (hb.block g k.lt).trans k
theorem RB.other {b o : Nat} {x : Value} (k : RB w g s p e) (hb : b ≠ g) : RB (w.setCell ⟨b, o, none⟩ x) g s p e := (Below.heap_setCell w ⟨b, o, none⟩ x g (fun e => hb e.symm)).trans k
theorem RB.cells (k : RB w g s p e) : w.cell? ⟨g, 0, none⟩ = some (.string s) ∧ w.cell? ⟨g, 1, none⟩ = some (.int .i64 (p : Int)) ∧ w.cell? ⟨g, 2, none⟩ = some (.int .i64 (e : Int)) := by
  unfold RB at k
  refine ⟨?_, ?_, ?_⟩ <;> simp [World.cell?, k]
theorem RB.fz (k : RB w g s p e) (i : Nat) : w.frozen? ⟨g, i, none⟩ = false := by
  unfold RB at k
  simp [World.frozen?, k]
/-- A reader is stored. -/
def putR (w : World) (g : Nat) (s : ByteArray) (p e : Nat) : World := ((w.setCell ⟨g, 0, none⟩ (.string s)).setCell ⟨g, 1, none⟩ (.int .i64 (p : Int))).setCell ⟨g, 2, none⟩ (.int .i64 (e : Int))
theorem RB.put (k : RB w g s p e) (p1 e1 : Nat) : RB (putR w g s p1 e1) g s p1 e1 := by
  have h1 := heap_set (i := 0) (v := .string s) k
  have h2 := heap_set (i := 1) (v := .int .i64 (p1 : Int)) h1
  have h3 := heap_set (i := 2) (v := .int .i64 (e1 : Int)) h2
  unfold RB putR
  rw [h3]
  simp
theorem putR_block (w : World) (g : Nat) (s : ByteArray) (p e : Nat) (k : Nat) (hk : k ≠ g) : (putR w g s p e).heap[k]? = w.heap[k]? := by
  unfold putR
  repeat rw [Below.heap_setCell _ _ _ _ hk]
theorem putR_size (w : World) (g : Nat) (s : ByteArray) (p e : Nat) : (putR w g s p e).heap.size = w.heap.size := by
  unfold putR
  simp [World.setCell]
theorem putR_kp2 (w : World) (g R : Nat) (s : ByteArray) (p e : Nat) : Kp2 g R w (putR w g s p e) :=
  (((Kp2.refl g R w).set (.inr (.inl rfl))).set (.inr (.inl rfl))).set (.inr (.inl rfl))
end
/-- The reference's calls. -/
def RSub (v : Value) (s : ByteArray) (p e : Nat) (w : World) (en : Ending) (w' : World) : Prop := en = .returned (.tuple #[Vn.refR s p e, v]) ∧ Below w.heap.size w w'
section
variable {s : ByteArray} {p e : Nat}
theorem rmost_call (M : Nat) (hM : M < 18446744073709551616) (hp : p ≤ s.size) (hs : s.size ≤ 1000000) : ∃ n p' e' : Nat, (∀ W, Calls Tryz.prog 105 #[Vn.refR s p e, .int .u64 (M : Int)] W (RSub (.int .u64 (n : Int)) s p' e' W)) ∧ n ≤ M ∧ Step s.data.toList p e p' e' (Vn.nb n) ∧ ∀ n0 Q, Wants s.data.toList p e (Vn.nb n0 ++ Q) → n0 ≤ M → n = n0 ∧ Wants s.data.toList p' e' Q :=
  ⟨_, _, _, fun W => Vn.rmost_any s p e M _ W rfl hp (by omega), num_le.1, num_step (M := M) hp, fun n0 Q hw hn => num_want hp hw (by omega) hn⟩
theorem rint_call (hp : p ≤ s.size) (hs : s.size ≤ 1000000) : ∃ n p' e' : Nat, (∀ W, Calls Tryz.prog 106 #[Vn.refR s p e] W (RSub (.int .i64 (Vn.usg n)) s p' e' W)) ∧ Step s.data.toList p e p' e' (Vn.nb n) ∧ ∀ n0 Q, Wants s.data.toList p e (Vn.nb n0 ++ Q) → n0 < 18446744073709551616 → n = n0 ∧ Wants s.data.toList p' e' Q := by
  have hc := fun W => Vn.rgetint_any s p e _ W rfl hp (by omega)
  rw [← Vn.mostR_top] at hc
  exact ⟨_, _, _, hc, num_step (M := 18446744073709551615) hp, fun n0 Q hw hn => num_want hp hw hn (by omega)⟩
theorem rtext_call (M : Int) (hM : M ≤ 1000000) (hp : p ≤ s.size) (hs : s.size ≤ 1000000) : ∃ (t : ByteArray) (p' e' : Nat), (∀ W, Calls Tryz.prog 107 #[Vn.refR s p e, .int .i64 M] W (RSub (.string t) s p' e' W)) ∧ t.size ≤ s.size ∧ Step s.data.toList p e p' e' (Vn.txt t) ∧ ∀ t0 Q, Wants s.data.toList p e (Vn.txt t0 ++ Q) → (t0.size : Int) ≤ M → t = t0 ∧ Wants s.data.toList p' e' Q :=
  ⟨_, _, _, fun W => Vn.rgettext_any s p e M _ W rfl hp (by omega) (by omega), text_le, text_step (M := M) hp, fun t0 Q hw ht => text_want hp hw ht (by omega)⟩
end
/-- What get tells. -/
def GetQ (l : Nat) (s : ByteArray) (p e : Nat) (w : World) (en : Ending) (w' : World) : Prop :=
  ∃ (t : Option Addr) (tl tc : Nat) (A : List Tm) (p' e' : Nat), en = .returned (.tuple #[Vn.refR s p' e', .agg #[.slice t tl tc]]) ∧ Below w.heap.size w w' ∧ InVP (fun b => w.heap.size ≤ b) w' (l + 1) t tl tc A ∧ NmV (l + 1) A ∧ LnV (l + 1) A ∧
    Step s.data.toList p e p' e' (bV l A) ∧ ∀ A0 Q, Wants s.data.toList p e (bV l A0 ++ Q) → RdV l A0 → A = A0 ∧ e' = 0
def GetH (l : Nat) : Prop := ∀ (w : World) (s : ByteArray) (p e : Nat), p ≤ s.size → s.size ≤ 1000000 → Calls Tryz.prog 62 #[Vn.refR s p e, .int .i64 (l : Int)] w (GetQ l s p e w)
/-- So far, of n fields, these were read. -/
structure FJ (l N T : Nat) (s : ByteArray) (p e : Nat) (w : World) (n : Nat) (L : List Fh) (u : Value) (wr : World) (p' e' : Nat) : Prop where
  rb : RB wr N s p' e'
  kp : Kp2 N T w wr
  own : OwnFh wr w.heap.size u L
  ok : ∀ h ∈ L, InVP (fun b => w.heap.size ≤ b ∧ u.ownBlock ≠ some b) wr (l + 1) h.t h.tl h.tc h.V
  nm : ∀ h ∈ L, (h.nm.size ≤ 140737488355328 ∧ NmV (l + 1) h.V) ∧ LnV (l + 1) h.V
  step : Step s.data.toList p e p' e' (Vn.nb n ++ (L.map Fh.f).flatMap (bF1 (bV l)))
  want : ∀ fs0 Q, Wants s.data.toList p e (bF (bV l) fs0 ++ Q) → RdF (RdV l) fs0 → n = fs0.length ∧ L.map Fh.f = fs0.take L.length ∧ Wants s.data.toList p' e' ((fs0.drop L.length).flatMap (bF1 (bV l)) ++ Q)
section
variable {l N T : Nat} {s : ByteArray} {p e : Nat} {w : World} {n : Nat} {L : List Fh} {u : Value} {wr : World} {p' e' : Nat}
theorem FJ.start (h : RB w N s p' e') (hst : Step s.data.toList p e p' e' (Vn.nb n)) (hw : ∀ n0 Q, Wants s.data.toList p e (Vn.nb n0 ++ Q) → n0 ≤ 32 → n = n0 ∧ Wants s.data.toList p' e' Q) : FJ l N T s p e w n [] (.slice none 0 0) w p' e' where
  rb := h
  kp := Kp2.refl _ _ _
  own := OwnFh.nil _ _
  ok := fun h hh => absurd hh (by simp)
  nm := fun h hh => absurd hh (by simp)
  step := by simpa using hst
  want := fun fs0 Q h hr => by
    unfold bF at h
    rw [List.append_assoc] at h
    obtain ⟨h1, h2⟩ := hw _ _ h hr.1
    exact ⟨h1, by simp, by simpa using h2⟩
theorem FJ.more {t : ByteArray} {p1 e1 p2 e2 : Nat} {z : Fh} {u4 : Value} {w4 : World} (h : FJ l N T s p e w n L u wr p' e') (hlt : L.length < n) (hnz : (z.nm.size ≤ 140737488355328 ∧ NmV (l + 1) z.V) ∧ LnV (l + 1) z.V) (hz : z.nm = t) (st1 : Step s.data.toList p' e' p1 e1 (Vn.txt t)) (wn1 : ∀ t0 Q, Wants s.data.toList p' e' (Vn.txt t0 ++ Q) → ((t0.size : Nat) : Int) ≤ 16 → t = t0 ∧ Wants s.data.toList p1 e1 Q)
    (st2 : Step s.data.toList p1 e1 p2 e2 (bV l z.V)) (wn2 : ∀ A0 Q, Wants s.data.toList p1 e1 (bV l A0 ++ Q) → RdV l A0 → z.V = A0 ∧ e2 = 0)
    (hrb : RB w4 N s p2 e2) (hk : Kp2 N T w w4) (ho : OwnFh w4 w.heap.size u4 (L ++ [z])) (hok : ∀ h ∈ L ++ [z], InVP (fun b => w.heap.size ≤ b ∧ u4.ownBlock ≠ some b) w4 (l + 1) h.t h.tl h.tc h.V) : FJ l N T s p e w n (L ++ [z]) u4 w4 p2 e2 where
  rb := hrb
  kp := hk
  own := ho
  ok := hok
  nm := fun x hx => by
    rcases List.mem_append.1 hx with hx | hx
    · exact h.nm x hx
    · rw [List.mem_singleton.1 hx]; exact hnz
  step := by
    have e1 : Vn.nb n ++ ((L ++ [z]).map Fh.f).flatMap (bF1 (bV l)) = (Vn.nb n ++ (L.map Fh.f).flatMap (bF1 (bV l))) ++ (Vn.txt t ++ bV l z.V) := by
      rw [List.map_append, List.flatMap_append, ← List.append_assoc, ← hz]
      congr 1
      simp [bF1, Fh.f]
    rw [e1]
    exact h.step.trans (st1.trans st2)
  want := fun fs0 Q hw hr => by
    obtain ⟨a1, a2, a3⟩ := h.want fs0 Q hw hr
    have hl : L.length < fs0.length := by omega
    rw [List.drop_eq_getElem_cons hl, List.flatMap_cons] at a3
    unfold bF1 at a3
    rw [List.append_assoc, List.append_assoc] at a3
    have hf := hr.2 fs0[L.length] (List.getElem_mem hl)
    obtain ⟨b1, b2⟩ := wn1 _ _ a3 (by have := hf.1; omega)
    obtain ⟨c1, c2⟩ := wn2 _ _ b2 hf.2
    rw [← c1] at b2
    have d := Wants.step b2 st2 c2
    refine ⟨a1, ?_, ?_⟩
    · rw [List.map_append, List.length_append, a2, show L.length + [z].length = L.length + 1 from rfl, List.take_succ_eq_append_getElem hl]
      congr 1
      show [z.f] = _
      rw [show z.f = fs0[L.length] from Prod.ext (by show z.nm = _; rw [hz, b1]) c1]
    · rw [List.length_append, show L.length + [z].length = L.length + 1 from rfl]
      exact d
/-- The fields lie in memory. -/
theorem FJ.inF {a : Option Addr} {fl cap : Nat} (h : FJ l N T s p e w n L (.slice a fl cap) wr p' e') (hz : (L.length : Int) ≤ 9223372036854775807) : InFP (fun b => w.heap.size ≤ b) (fun t tl tc V => InVP (fun b => w.heap.size ≤ b) wr (l + 1) t tl tc V) wr a fl (L.map Fh.f) := by
  obtain ⟨a', cap', ee, hrow⟩ := h.own.row
  cases ee
  refine ⟨by rw [List.length_map], hz, fun i hi => ?_⟩
  have hi' : i < L.length := by simpa using hi
  rcases hrow with h0 | ⟨g, ee, hg, hr⟩
  · rw [h0] at hi'; exact absurd hi' (by simp)
  · obtain ⟨r0, r1⟩ := hr.2.2 i hi'
    simp only [List.getElem_map]
    exact ⟨g, 0, L[i].tl, L[i].tc, L[i].t, ee, hg, hr.1, by rw [Nat.zero_add]; exact r0, by rw [Nat.zero_add]; exact r1, InVP.imp (fun _ hb _ => hb.1) (h.ok _ (List.getElem_mem hi'))⟩
/-- At the end, or as soon as there is an error. -/
theorem FJ.done (h : FJ l N T s p e w n L u wr p' e') (hd : L.length = n ∨ e' ≠ 0) : (NmF (l + 1) (L.map Fh.f) ∧ ∀ f ∈ L.map Fh.f, LnV (l + 1) f.2) ∧ Step s.data.toList p e p' e' (bF (bV l) (L.map Fh.f)) ∧ ∀ fs0 Q, Wants s.data.toList p e (bF (bV l) fs0 ++ Q) → RdF (RdV l) fs0 → L.map Fh.f = fs0 ∧ e' = 0 := by
  refine ⟨⟨fun f hf => ?_, fun f hf => ?_⟩, ?_, fun fs0 Q hw hr => ?_⟩
  · obtain ⟨x, hx, rfl⟩ := List.mem_map.1 hf; exact (h.nm x hx).1
  · obtain ⟨x, hx, rfl⟩ := List.mem_map.1 hf; exact (h.nm x hx).2
  · rcases hd with hd | hd
    · have := h.step
      rw [← hd] at this
      unfold bF
      rw [List.length_map]
      exact this
    · exact ⟨h.step.place, fun h0 => absurd h0 hd⟩
  · obtain ⟨a1, a2, a3⟩ := h.want fs0 Q hw hr
    rcases hd with hd | hd
    · refine ⟨?_, a3.1⟩
      rw [a2, hd, a1, List.take_length]
    · exact absurd a3.1 hd
/-- One field more: w4 ahead of the append, w5 behind it. -/
theorem FJ.round {t : ByteArray} {p1 e1 p2 e2 g cap : Nat} {z : Fh} {w4 w5 : World} (h : FJ l N T s p e w n L u wr p' e') (hlt : L.length < n) (hN : N < w.heap.size) (hT : T < w.heap.size) (hNT : N ≠ T) (hnz : (z.nm.size ≤ 140737488355328 ∧ NmV (l + 1) z.V) ∧ LnV (l + 1) z.V) (hz : z.nm = t) (st1 : Step s.data.toList p' e' p1 e1 (Vn.txt t)) (wn1 : ∀ t0 Q, Wants s.data.toList p' e' (Vn.txt t0 ++ Q) → ((t0.size : Nat) : Int) ≤ 16 → t = t0 ∧ Wants s.data.toList p1 e1 Q)
    (st2 : Step s.data.toList p1 e1 p2 e2 (bV l z.V)) (wn2 : ∀ A0 Q, Wants s.data.toList p1 e1 (bV l A0 ++ Q) → RdV l A0 → z.V = A0 ∧ e2 = 0)
    (hk4 : Kp2 N T wr w4) (hrb : RB w4 N s p2 e2) (hV : InVP (fun b => wr.heap.size ≤ b) w4 (l + 1) z.t z.tl z.tc z.V)
    (hb5 : Below w.heap.size w4 w5) (ho5 : OwnFh w5 w.heap.size (.slice (some ⟨g, 0, none⟩) (L.length + 1) cap) (L ++ [z])) (h5 : ∀ b, b < w4.heap.size → u.ownBlock ≠ some b → w5.heap[b]? = w4.heap[b]?) (hg5 : u.ownBlock = some g ∨ w4.heap.size ≤ g) (hs5 : w4.heap.size ≤ w5.heap.size) (v : Value) :
    FJ l N T s p e w n (L ++ [z]) (.slice (some ⟨g, 0, none⟩) (L.length + 1) cap) (w5.setCell ⟨T, 7, none⟩ v) p2 e2 := by
  have hset : ∀ b, b ≠ T → (w5.setCell ⟨T, 7, none⟩ v).heap[b]? = w5.heap[b]? := fun b hb => Below.heap_setCell w5 ⟨T, 7, none⟩ _ b hb
  have hz5 : (w5.setCell ⟨T, 7, none⟩ v).heap.size = w5.heap.size := by simp [World.setCell]
  have hl4 := hk4.size
  have hl0 := h.kp.size
  have hown := h.own
  refine h.more hlt hnz hz st1 wn1 st2 wn2 ?_ ?_ ?_ fun x hx => ?_
  · exact RB.other ((hb5.block _ hN).trans hrb) (by omega)
  · exact (kp_in (h.kp.trans hk4) hb5).set (.inr (.inr rfl))
  · exact owns_set ho5 hT
  · rcases List.mem_append.1 hx with hx | hx
    · refine (h.ok x hx).to (by omega) fun b hb lt => ?_
      refine ⟨⟨hb.1, fun ee => ?_⟩, (hset b (by omega)).trans ((h5 b (by omega) hb.2).trans (hk4.block b lt (by omega) (by omega)))⟩
      have ee : g = b := Option.some.inj ee
      rcases hg5 with h9 | h9
      · exact hb.2 (by rw [h9, ee])
      · omega
    · rw [List.mem_singleton] at hx
      subst hx
      refine hV.to (by omega) fun b hb lt => ?_
      have hn : u.ownBlock ≠ some b := fun ee => by have := (hown.lt b ee).2; omega
      refine ⟨⟨by omega, fun ee => ?_⟩, (hset b (by omega)).trans (h5 b lt hn)⟩
      have ee : g = b := Option.some.inj ee
      rcases hg5 with h9 | h9
      · exact hn (by rw [h9, ee])
      · omega
end
end Go.Proofs.YtddleeenlpigfaaGreatDoor.Ec
/- WALK of code's Decode. -/
namespace Go.Proofs.YtddleeenlpigfaaGreatDoor.Ec
open Go.RowKit
theorem bl_two {w a b : World} (h : Below w.heap.size w a) (k : Below a.heap.size a b) : Below w.heap.size w b := h.trans (k.mono h.size)
/-- What Decode tells: the right value whose bytes these are, or none. -/
def DecA (s : ByteArray) (E : Int) (A : List Tm) : Prop :=
  (E = 0 ∧ RG 16 A ∧ bV 16 A = s.data.toList ∧ ∀ A0 Q, RG 16 A0 → s.data.toList = bV 16 A0 ++ Q → A0 = A) ∨ (E = 2 ∧ A = [] ∧ ∀ A0, RG 16 A0 → bV 16 A0 ≠ s.data.toList)
def DecQ (s : ByteArray) (w : World) (en : Ending) (w' : World) : Prop :=
  ∃ (t : Option Addr) (tl tc : Nat) (A : List Tm) (E : Int), en = .returned (.tuple #[.agg #[.slice t tl tc], .int .i64 E]) ∧ Below w.heap.size w w' ∧ InV w' 17 t tl tc A ∧ DecA s E A
theorem end_zero {s : ByteArray} {p e : Nat} (hp : p ≤ s.size) (h : Vn.endE s p e = 0) : e = 0 ∧ p = s.size := by
  unfold Vn.endE at h
  split at h
  · contradiction
  · split at h
    · omega
    · omega
theorem wants_all {s : ByteArray} {A0 : List Tm} {Q : List UInt8} (h : s.data.toList = bV 16 A0 ++ Q) : Wants s.data.toList 0 0 (bV 16 A0 ++ Q) := ⟨rfl, [], by rw [List.append_nil]; exact h⟩
theorem dec_yes {s : ByteArray} {A : List Tm} {p' e' : Nat} (st : Step s.data.toList 0 0 p' e' (bV 16 A)) (wn : ∀ A0 Q, Wants s.data.toList 0 0 (bV 16 A0 ++ Q) → RdV 16 A0 → wN 16 A0 ≤ 512 → A = A0 ∧ e' = 0) (h : Vn.endE s p' e' = 0) (hp : p' ≤ s.size) (hR : RG 16 A) : DecA s 0 A := by
  obtain ⟨rfl, h1⟩ := end_zero hp h
  have h2 := (st.ok rfl).2
  rw [List.drop_zero, h1, (List.drop_eq_nil_of_le (Nat.le_of_eq rfl) : s.data.toList.drop s.size = []), List.append_nil] at h2
  exact .inl ⟨rfl, hR, h2.symm, fun A0 Q hA hq => ((wn A0 Q (wants_all hq) (rg_at hA).2.2.1 hA.2).1).symm⟩
theorem dec_no {s : ByteArray} {A : List Tm} {p' e' : Nat} (st : Step s.data.toList 0 0 p' e' (bV 16 A)) (wn : ∀ A0 Q, Wants s.data.toList 0 0 (bV 16 A0 ++ Q) → RdV 16 A0 → wN 16 A0 ≤ 512 → A = A0 ∧ e' = 0) (h : ¬ (Vn.endE s p' e' = 0 ∧ RG 16 A)) : DecA s 2 [] := by
  refine .inr ⟨rfl, rfl, fun A0 hA hq => h ?_⟩
  obtain ⟨rfl, rfl⟩ := wn A0 [] (wants_all (by rw [List.append_nil]; exact hq.symm)) (rg_at hA).2.2.1 hA.2
  refine ⟨?_, hA⟩
  have h2 := (st.ok rfl).2
  have h3 := congrArg List.length h2
  rw [List.drop_zero, List.length_append, ← hq, List.length_drop] at h3
  have h4 : (bV 16 A).length = s.size := by rw [hq]; rfl
  unfold Vn.endE
  rw [if_neg (by simp), if_neg]
  omega
set_option maxRecDepth 100000 in
set_option maxHeartbeats 8000000 in
theorem dec_any (w : World) (s : ByteArray) (hE : Nm.Env w) (hs : s.size ≤ 1000000) : Calls Tryz.prog 34 #[.string s] w (DecQ s w) := by
  have HE := Lib.hid hE
  clear hE
  go_enter Tryz.func34, Tryz.ntmps34
  go_wp2_with fail
  go_at_call 59; refine (Vn.new_any s _).mono ?_; rintro en w1 ⟨rfl, hR1, hB1, hl1⟩
  have hz0 : (w.alloc (.cells #[.slice none 0 0] 24)).heap.size = w.heap.size + 1 := by simp
  have HN1 := Lib.hid ((show BxS (w.alloc (.cells #[.slice none 0 0] 24)) w.heap.size (.slice none 0 0) from w_new w _).below hB1)
  have HB1 := Lib.hid (bl_two (bl_alloc (Below.refl _ w) (o := .cells #[.slice none 0 0] 24)) hB1)
  obtain ⟨B, hB⟩ : ∃ B, (w.alloc (.cells #[.slice none 0 0] 24)).heap.size = B := ⟨_, rfl⟩
  rw [hB] at hR1 hl1 hz0 ⊢
  have HR1 := Lib.hid hR1
  clear hR1 hB1 hB
  subst hz0
  go_upto_region 2 with fail
  obtain ⟨B, hB⟩ : ∃ B, w.heap.size + 1 = B := ⟨_, rfl⟩
  rw [hB] at HR1 hl1 ⊢
  obtain ⟨Z, hZ⟩ : ∃ Z, w1.alloc (.cells #[.pointer (some ⟨B, 0, none⟩), .int .i64 512] 81) = Z := ⟨_, rfl⟩
  have hbZ : Below w1.heap.size w1 Z := by rw [← hZ]; exact bl_alloc (Below.refl _ _)
  have HS2 : Hid (St Z B w1.heap.size s 0 0 512) := Lib.hid ⟨(hbZ.block _ HR1.out.lt).trans HR1.out, by rw [← hZ]; exact w_new w1 _, Nat.zero_le _, by omega⟩
  have HN2 := Lib.hid (HN1.out.below hbZ)
  have HB2 := Lib.hid (bl_two HB1.out hbZ)
  obtain ⟨R, hR⟩ : ∃ R, w1.heap.size = R := ⟨_, rfl⟩
  rw [hR] at HS2 hl1 ⊢
  rw [hZ]
  clear hZ hbZ hR HN1 HB1 HR1
  have HC := Lib.hid (read_value 15 (by omega) Z B R s 0 0 512 HS2.out hs (Nat.le_refl _))
  have hwZ : w.heap.size < Z.heap.size := HN2.out.lt
  have hBZ : B < Z.heap.size := HS2.out.lt.1
  go_wp2_with fail
  go_at_call 60; refine HC.out.mono ?_; rintro en w2 ⟨t, tl, tc, A, p', e', room', rfl, hS3, -, hK3, hV3, st3, -, nm3, wn3⟩
  have HS3 := Lib.hid hS3
  have HN3 := Lib.hid (HN2.out.kp2 hK3 (by omega) (by omega))
  have HB3 := Lib.hid (kp2_below HB2.out hK3 (by omega) (by omega) (by omega))
  have HV3 := Lib.hid hV3; have ST3 := Lib.hid st3; have NM3 := Lib.hid nm3; have WN3 := Lib.hid wn3
  clear hS3 hK3 hV3 st3 nm3 wn3 HC HS2 HN2 HB2
  go_upto_region 3 with fail
  obtain ⟨Y, hY⟩ : ∃ Y, w2.alloc (.cells #[.slice t tl tc] 24) = Y := ⟨_, rfl⟩
  have hbY : Below w2.heap.size w2 Y := by rw [← hY]; exact bl_alloc (Below.refl _ _)
  have HG4 : Hid (BxS Y w2.heap.size (.slice t tl tc)) := by rw [← hY]; exact w_new w2 _
  have HS4 := Lib.hid (HS3.out.below hbY)
  have HN4 := Lib.hid (HN3.out.below hbY)
  have HB4 := Lib.hid (bl_two HB3.out hbY)
  have HV4 := Lib.hid (HV3.out.below hbY)
  obtain ⟨G, hG⟩ : ∃ G, w2.heap.size = G := ⟨_, rfl⟩
  have hGw : w.heap.size < G := by rw [← hG]; exact HN3.out.lt
  have hGB : B < G := by rw [← hG]; exact HS3.out.lt.1
  rw [hG] at HG4 ⊢
  rw [hY]
  clear hY hbY hG HS3 HN3 HB3 HV3
  obtain ⟨q0, -, -⟩ := HS4.out.bx.cells
  have HEN := Lib.hid (Vn.end_any B s p' e' Y HS4.out.rd HS4.out.pl (by omega))
  have m0 := HN4.out.cell
  have mf := HN4.out.fz
  have g0 := HG4.out.cell
  by_cases h0 : Vn.endE s p' e' = 0
  · rw [h0] at HEN
    by_cases hR : RG 16 A
    · have HA := Lib.hid (dec_yes ST3.out WN3.out h0 HS4.out.pl hR)
      go_wp2_with fail
      go_at_call 61; refine HEN.out.mono ?_; rintro en w4 ⟨rfl, hR4, hK4⟩
      have HV5 := Lib.hid (HV4.out.to (Q := fun b => B < b) hK4.size fun b hb lt => ⟨by have := HS4.out.lt; omega, hK4.block b lt (by omega)⟩)
      have HN5 := Lib.hid (HN4.out.keep hK4 (by omega))
      have HG5 := Lib.hid (HG4.out.keep hK4 (by omega))
      have HB5 := Lib.hid (Vn.Keep.below HB4.out hK4 (by omega) (by have := HN4.out.lt; omega))
      clear hR4 hK4 HEN m0 mf g0 q0
      have m0 := HN5.out.cell
      have mf := HN5.out.fz
      have g0 := HG5.out.cell
      have HL := Lib.hid (lright_in 16 w4 t tl tc A ⟨HV5.out.inV, NM3.out, HE.out.below HB5.out⟩)
      rw [rgV_yes.2 hR] at HL
      go_wp2_with fail
      go_at_call 18; refine HL.out.mono ?_; rintro en w5 ⟨rfl, hB5⟩
      have HN6 := Lib.hid (HN5.out.below hB5)
      have HG6 := Lib.hid (HG5.out.below hB5)
      have HB6 := Lib.hid (bl_two HB5.out hB5)
      have HV6 := Lib.hid (HV5.out.below hB5)
      clear hB5 HL m0 mf g0
      have m0 := HN6.out.cell
      have mf := HN6.out.fz
      have g0 := HG6.out.cell
      go_wp2_with fail
      have e0 : (w5.setCell ⟨w.heap.size, 0, none⟩ (.slice t tl tc)).cell? ⟨w.heap.size, 0, none⟩ = some (.slice t tl tc) := (HN6.out.set _).cell
      refine bodyPost_ret (v := .tuple #[.agg #[.slice t tl tc], .int .i64 0]) (by simp [results, Tryz.results34, go_sem, e0]) rfl ?_
      exact ⟨t, tl, tc, A, 0, rfl, bl_set HB6.out (Nat.le_refl _), (InVP.up (HV6.out.to (Q := fun _ => True) (by simp [World.setCell]) fun b hb _ => ⟨trivial, Below.heap_setCell w5 ⟨w.heap.size, 0, none⟩ _ b (by intro e; simp at e; omega)⟩)).inV, HA.out⟩
    · have HA := Lib.hid (dec_no (A := A) ST3.out WN3.out (fun h => hR h.2))
      go_wp2_with fail
      go_at_call 61; refine HEN.out.mono ?_; rintro en w4 ⟨rfl, hR4, hK4⟩
      have HV5 := Lib.hid (HV4.out.to (Q := fun b => B < b) hK4.size fun b hb lt => ⟨by have := HS4.out.lt; omega, hK4.block b lt (by omega)⟩)
      have HN5 := Lib.hid (HN4.out.keep hK4 (by omega))
      have HG5 := Lib.hid (HG4.out.keep hK4 (by omega))
      have HB5 := Lib.hid (Vn.Keep.below HB4.out hK4 (by omega) (by have := HN4.out.lt; omega))
      clear hR4 hK4 HEN m0 mf g0 q0
      have m0 := HN5.out.cell
      have mf := HN5.out.fz
      have g0 := HG5.out.cell
      have HL := Lib.hid (lright_in 16 w4 t tl tc A ⟨HV5.out.inV, NM3.out, HE.out.below HB5.out⟩)
      rw [rgV_no.2 hR] at HL
      go_wp2_with fail
      go_at_call 18; refine HL.out.mono ?_; rintro en w5 ⟨rfl, hB5⟩
      have HN6 := Lib.hid (HN5.out.below hB5)
      have HG6 := Lib.hid (HG5.out.below hB5)
      have HB6 := Lib.hid (bl_two HB5.out hB5)
      have HV6 := Lib.hid (HV5.out.below hB5)
      clear hB5 HL m0 mf g0
      have m0 := HN6.out.cell
      have mf := HN6.out.fz
      have g0 := HG6.out.cell
      go_wp2_with fail
      have e0 : (w5.setCell ⟨w.heap.size, 0, none⟩ (.slice none 0 0)).cell? ⟨w.heap.size, 0, none⟩ = some (.slice none 0 0) := (HN6.out.set _).cell
      refine bodyPost_ret (v := .tuple #[.agg #[.slice none 0 0], .int .i64 2]) (by simp [results, Tryz.results34, go_sem, e0]) rfl ?_
      exact ⟨none, 0, 0, [], 2, rfl, bl_set HB6.out (Nat.le_refl _), inV_nil, HA.out⟩
  · have h0i : ((Vn.endE s p' e' : Int) != 0) = true := by simp; exact h0
    have HA := Lib.hid (dec_no (A := A) ST3.out WN3.out (fun h => h0 h.1))
    go_wp2_with fail
    go_at_call 61; refine HEN.out.mono ?_; rintro en w4 ⟨rfl, hR4, hK4⟩
    have HN6 := Lib.hid (HN4.out.keep hK4 (by omega))
    have HB6 := Lib.hid (Vn.Keep.below HB4.out hK4 (by omega) (by have := HN4.out.lt; omega))
    clear hR4 hK4 HEN m0 mf g0 q0
    have m0 := HN6.out.cell
    have mf := HN6.out.fz
    go_wp2_with fail
    have e0 : (w4.setCell ⟨w.heap.size, 0, none⟩ (.slice none 0 0)).cell? ⟨w.heap.size, 0, none⟩ = some (.slice none 0 0) := (HN6.out.set _).cell
    refine bodyPost_ret (v := .tuple #[.agg #[.slice none 0 0], .int .i64 2]) (by simp [results, Tryz.results34, go_sem, e0]) rfl ?_
    exact ⟨none, 0, 0, [], 2, rfl, bl_set HB6.out (Nat.le_refl _), inV_nil, HA.out⟩
end Go.Proofs.YtddleeenlpigfaaGreatDoor.Ec
/- BETWEEN TWO TERMS THAT THE REFERENCE READS. -/
namespace Go.Proofs.YtddleeenlpigfaaGreatDoor.Ec
open Go.RowKit
/-- So far, of n terms, these were read. -/
structure RI (l N V : Nat) (s : ByteArray) (p e : Nat) (w : World) (n : Nat) (L : List Hr) (u : Value) (wr : World) (p' e' : Nat) : Prop where
  rb : RB wr N s p' e'
  vb : BxS wr V u
  kp : Kp2 N V w wr
  own : OwnH wr w.heap.size u L
  ok : ∀ h ∈ L, h.okP (fun b => w.heap.size ≤ b ∧ u.ownBlock ≠ some b) (l + 1) wr
  nm : ∀ h ∈ L, NmF (l + 1) h.x.fs ∧ ∀ f ∈ h.x.fs, LnV (l + 1) f.2
  step : Step s.data.toList p e p' e' (Vn.nb n ++ (L.map (·.x)).flatMap (bT (bV l)))
  want : ∀ A0 Q, Wants s.data.toList p e (bV (l + 1) A0 ++ Q) → RdV (l + 1) A0 → n = A0.length ∧ L.map (·.x) = A0.take L.length ∧ Wants s.data.toList p' e' ((A0.drop L.length).flatMap (bT (bV l)) ++ Q)
variable {l N V : Nat} {s : ByteArray} {p e : Nat} {w : World} {n : Nat} {L : List Hr} {u : Value} {wr : World} {p' e' : Nat}
theorem RI.start (h : RB w N s p' e') (hv : BxS w V (.slice none 0 0)) (hst : Step s.data.toList p e p' e' (Vn.nb n)) (hw : ∀ n0 Q, Wants s.data.toList p e (Vn.nb n0 ++ Q) → n0 ≤ 512 → n = n0 ∧ Wants s.data.toList p' e' Q) : RI l N V s p e w n [] (.slice none 0 0) w p' e' where
  rb := h
  vb := hv
  kp := Kp2.refl _ _ _
  own := OwnH.nil _ _
  ok := fun h hh => absurd hh (by simp)
  nm := fun h hh => absurd hh (by simp)
  step := by simpa using hst
  want := fun A0 Q h hr => by
    unfold bV at h
    rw [List.append_assoc] at h
    obtain ⟨h1, h2⟩ := hw _ _ h hr.1
    exact ⟨h1, by simp, by simpa using h2⟩
/-- One term more: w4 ahead of the append, w5 behind it. -/
theorem RI.round {p2 e2 g cap : Nat} {z : Hr} {w4 w5 : World} (h : RI l N V s p e w n L u wr p' e') (hlt : L.length < n) (hN : N < w.heap.size) (hVl : V < w.heap.size) (hNV : N ≠ V) (hnz : NmF (l + 1) z.x.fs ∧ ∀ f ∈ z.x.fs, LnV (l + 1) f.2)
    (st2 : Step s.data.toList p' e' p2 e2 (bT (bV l) z.x)) (wn2 : ∀ x0 Q, Wants s.data.toList p' e' (bT (bV l) x0 ++ Q) → RdT (RdV l) x0 → z.x = x0 ∧ e2 = 0)
    (hk4 : Kp2 N V wr w4) (hrb : RB w4 N s p2 e2) (hok : z.okP (fun b => wr.heap.size ≤ b) (l + 1) w4) (hv4 : BxS w4 V u)
    (hb5 : Below w.heap.size w4 w5) (ho5 : OwnH w5 w.heap.size (.slice (some ⟨g, 0, none⟩) (L.length + 1) cap) (L ++ [z])) (h5 : ∀ b, b < w4.heap.size → u.ownBlock ≠ some b → w5.heap[b]? = w4.heap[b]?) (hg5 : u.ownBlock = some g ∨ w4.heap.size ≤ g) (hs5 : w4.heap.size ≤ w5.heap.size) :
    RI l N V s p e w n (L ++ [z]) (.slice (some ⟨g, 0, none⟩) (L.length + 1) cap) (w5.setCell ⟨V, 0, none⟩ (.slice (some ⟨g, 0, none⟩) (L.length + 1) cap)) p2 e2 := by
  have hset : ∀ b, b ≠ V → (w5.setCell ⟨V, 0, none⟩ (.slice (some ⟨g, 0, none⟩) (L.length + 1) cap)).heap[b]? = w5.heap[b]? := fun b hb => Below.heap_setCell w5 ⟨V, 0, none⟩ _ b hb
  have hz5 : (w5.setCell ⟨V, 0, none⟩ (.slice (some ⟨g, 0, none⟩) (L.length + 1) cap)).heap.size = w5.heap.size := by simp [World.setCell]
  have hl4 := hk4.size
  have hl0 := h.kp.size
  have hown := h.own
  refine ⟨?_, ?_, ?_, ho5.set hVl, fun x hx => ?_, fun x hx => ?_, ?_, fun A0 Q hw hr => ?_⟩
  · exact RB.other ((hb5.block _ hN).trans hrb) (by omega)
  · exact BxS.set (show BxS w5 V u from (hb5.block _ hVl).trans hv4) _
  · exact (kp_in (h.kp.trans hk4) hb5).set (.inr (.inr rfl))
  · rcases List.mem_append.1 hx with hx | hx
    · refine (h.ok x hx).to (by omega) fun b hb lt => ?_
      refine ⟨⟨hb.1, fun ee => ?_⟩, (hset b (by omega)).trans ((h5 b (by omega) hb.2).trans (hk4.block b lt (by omega) (by omega)))⟩
      have ee : g = b := Option.some.inj ee
      rcases hg5 with h9 | h9
      · exact hb.2 (by rw [h9, ee])
      · omega
    · rw [List.mem_singleton] at hx
      subst hx
      refine hok.to (by omega) fun b hb lt => ?_
      have hn : u.ownBlock ≠ some b := fun ee => by have := (hown.lt b ee).2; omega
      refine ⟨⟨by omega, fun ee => ?_⟩, (hset b (by omega)).trans (h5 b lt hn)⟩
      have ee : g = b := Option.some.inj ee
      rcases hg5 with h9 | h9
      · exact hn (by rw [h9, ee])
      · omega
  · rcases List.mem_append.1 hx with hx | hx
    · exact h.nm x hx
    · rw [List.mem_singleton.1 hx]; exact hnz
  · have e1 : Vn.nb n ++ ((L ++ [z]).map (·.x)).flatMap (bT (bV l)) = (Vn.nb n ++ (L.map (·.x)).flatMap (bT (bV l))) ++ bT (bV l) z.x := by
      rw [List.map_append, List.flatMap_append, ← List.append_assoc]
      congr 1
      simp
    rw [e1]
    exact h.step.trans st2
  · obtain ⟨a1, a2, a3⟩ := h.want A0 Q hw hr
    have hl : L.length < A0.length := by omega
    rw [List.drop_eq_getElem_cons hl, List.flatMap_cons, List.append_assoc] at a3
    have hf := hr.2 A0[L.length] (List.getElem_mem hl)
    obtain ⟨c1, c2⟩ := wn2 _ _ a3 hf
    rw [← c1] at a3
    have d := Wants.step a3 st2 c2
    refine ⟨a1, ?_, ?_⟩
    · rw [List.map_append, List.length_append, a2, show L.length + [z].length = L.length + 1 from rfl, List.take_succ_eq_append_getElem hl]
      congr 1
      show [z.x] = _
      rw [c1]
    · rw [List.length_append, show L.length + [z].length = L.length + 1 from rfl]
      exact d
/-- At the end, or as soon as there is an error. -/
theorem RI.done {a : Option Addr} {fl cap : Nat} {w0 w9 : World} (h : RI l N V s p e w n L (.slice a fl cap) wr p' e') (hn : n ≤ 512) (hle : L.length ≤ n) (hd : L.length = n ∨ e' ≠ 0) (hw0 : w0.heap.size ≤ w.heap.size) (hb : Below w0.heap.size w0 w9)
    (h9 : wr.heap.size ≤ w9.heap.size) (hk9 : ∀ b, w.heap.size ≤ b → w9.heap[b]? = wr.heap[b]?) : GetQ (l + 1) s p e w0 (.returned (.tuple #[Vn.refR s p' e', .agg #[.slice a fl cap]])) w9 := by
  have hV := h.own.inVP (n := l + 1) (P := fun b => w.heap.size ≤ b) (by omega) (fun _ hb => hb) fun x hx => Hr.okP.to (Nat.le_refl _) (fun b hb _ => ⟨hb.1, rfl⟩) (h.ok x hx)
  refine ⟨a, fl, cap, L.map (·.x), p', e', rfl, hb, hV.to h9 fun b hb _ => ⟨by omega, hk9 b hb⟩, (fun x hx => by obtain ⟨y, hy, rfl⟩ := List.mem_map.1 hx; exact (h.nm y hy).1), ⟨by rw [List.length_map]; omega, fun x hx => by obtain ⟨y, hy, rfl⟩ := List.mem_map.1 hx; exact (h.nm y hy).2⟩, ?_, fun A0 Q hw hr => ?_⟩
  · rcases hd with hd | hd
    · have := h.step
      rw [← hd] at this
      unfold bV
      rw [List.length_map]
      exact this
    · exact ⟨h.step.place, fun h0 => absurd h0 hd⟩
  · obtain ⟨a1, a2, a3⟩ := h.want A0 Q hw hr
    rcases hd with hd | hd
    · refine ⟨?_, a3.1⟩
      rw [a2, hd, a1, List.take_length]
    · exact absurd a3.1 hd
end Go.Proofs.YtddleeenlpigfaaGreatDoor.Ec
