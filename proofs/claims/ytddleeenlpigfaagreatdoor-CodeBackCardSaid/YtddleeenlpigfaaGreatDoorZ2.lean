/- Ka, Kb, Kc -/
import Derived.Test.YtddleeenlpigfaaGreatDoorY12
import Derived.Test.YtddleeenlpigfaaGreatDoorZ0
import Derived.Maps.AppendAt
import Derived.Lib.AppendZeros
/- PLAIN MATHEMATICS: a value's bytes, and how many they are. -/
namespace Go.Proofs.YtddleeenlpigfaaGreatDoor.Ec
open Go.RowKit
def b01 (b : Bool) : Nat := if b then 1 else 0
theorem b01_le (b : Bool) : b01 b ≤ 1 := by cases b <;> simp [b01]
/-- The number of a term's kind, and what stands beside it. -/
def hdN (x : Tm) : Nat := 8 * x.k.toNat + b01 x.m + 2 * b01 x.y + 4 * b01 x.o
def bF1 (g : List Tm → List UInt8) (f : ByteArray × List Tm) : List UInt8 := Vn.txt f.1 ++ g f.2
def bF (g : List Tm → List UInt8) (fs : List (ByteArray × List Tm)) : List UInt8 := Vn.nb fs.length ++ fs.flatMap (bF1 g)
def bB (g : List Tm → List UInt8) (x : Tm) : List UInt8 := if x.k = 1 ∨ x.k = 2 then Vn.nb (Vn.sgn x.lo) ++ Vn.nb (Vn.sgn x.hi) else if x.k = 3 then Vn.txt x.s else if x.k = 4 then bF g x.fs else []
def bT (g : List Tm → List UInt8) (x : Tm) : List UInt8 := Vn.nb (hdN x) ++ bB g x
/-- A value's bytes. -/
def bV : Nat → List Tm → List UInt8
  | 0, _ => []
  | n + 1, A => Vn.nb A.length ++ A.flatMap (bT (bV n))
def in64 (z : Int) : Prop := -9223372036854775808 ≤ z ∧ z ≤ 9223372036854775807
def FitF (g : List Tm → Prop) (fs : List (ByteArray × List Tm)) : Prop := fs.length ≤ 1000 ∧ ∀ f ∈ fs, f.1.size ≤ 1000 ∧ g f.2
def FitT (g : List Tm → Prop) (x : Tm) : Prop := 0 ≤ x.k ∧ x.k ≤ 5 ∧ (x.k = 1 ∨ x.k = 2 → in64 x.lo ∧ in64 x.hi) ∧ x.s.size ≤ 1000 ∧ (x.k = 4 → FitF g x.fs)
/-- What the writer asks of a value. -/
def FitV : Nat → List Tm → Prop
  | 0, _ => False
  | n + 1, A => A.length ≤ 1000 ∧ ∀ x ∈ A, FitT (FitV n) x
theorem wF_le {n : Nat} {fs : List (ByteArray × List Tm)} {f : ByteArray × List Tm} (h : f ∈ fs) : wN n f.2 ≤ wF n fs := by
  unfold wF
  induction fs with
  | nil => cases h
  | cons a l ih =>
    rcases List.mem_cons.1 h with rfl | h
    · simp
    · have := ih h; simp only [List.map_cons, List.sum_cons]; omega
theorem wN_in {n : Nat} {A : List Tm} {x : Tm} (h : x ∈ A) : 1 + wF n x.fs ≤ wN (n + 1) A := by
  induction A with
  | nil => cases h
  | cons a l ih =>
    rw [wN_cons]
    rcases List.mem_cons.1 h with rfl | h
    · omega
    · have := ih h; omega
theorem name_size {fs : List (ByteArray × List Tm)} (h : Nm.Ris (fs.map (·.1)) fs.length) {f : ByteArray × List Tm} (hf : f ∈ fs) : f.1.size ≤ 16 := by
  obtain ⟨i, hi, rfl⟩ := List.getElem_of_mem hf
  have h1 := (h i fs[i].1 (by rw [List.getElem?_map, List.getElem?_eq_getElem hi]; rfl) hi).1
  have h2 : fs[i].1.toList.length ≤ 16 := by
    unfold Nm.rightL at h1
    simp only [Bool.and_eq_true, decide_eq_true_eq] at h1
    omega
  rw [Nm.size_list]
  exact h2
theorem fit_rv : ∀ (n l : Nat) (A : List Tm), RV n l A → wN n A ≤ 512 → FitV n A
  | 0, _, _, h, _ => h.elim
  | n + 1, 0, _, h, _ => h.elim
  | n + 1, l + 1, A, h, hw => by
    refine ⟨?_, fun x hx => ?_⟩
    · have : A.length ≤ wN (n + 1) A := by simp only [wN]; omega
      omega
    · have h1 := h.1 x hx
      have hw2 := wN_in (n := n) hx
      unfold RT at h1
      split at h1
      · rename_i h5
        subst h1
        exact ⟨by decide, by decide, fun h => by rcases h with h | h <;> exact absurd h (by decide), by decide, fun h => absurd h (by decide)⟩
      · split at h1
        · rename_i h4
          obtain ⟨e1, e2, e3, _, _, hf, _⟩ := h1
          refine ⟨by omega, by omega, fun h => by omega, by rw [e3]; decide, fun _ => ⟨by have := hf.1; omega, fun f hf2 => ⟨by have := name_size hf.2.1 hf2; omega, ?_⟩⟩⟩
          exact fit_rv n l f.2 (hf.2.2 f hf2) (by have := wF_le (n := n) hf2; omega)
        · obtain ⟨_, _, _, h2⟩ := h1
          show FitT (FitV n) x
          unfold FitT in64
          rcases h2 with ⟨hk, hl, hh, hs, _⟩ | ⟨hk, hs, _, hl, hh, h6⟩ | ⟨hk, hs, _, hl, hh, h6⟩
          · exact ⟨by omega, by omega, fun h => by omega, by omega, fun h => by omega⟩
          · have : x.s.size = 0 := by rw [Nm.size_list, hs]; rfl
            exact ⟨by omega, by omega, fun _ => ⟨⟨by omega, by omega⟩, by omega, by omega⟩, by omega, fun h => by omega⟩
          · have : x.s.size = 0 := by rw [Nm.size_list, hs]; rfl
            exact ⟨by omega, by omega, fun _ => ⟨⟨by omega, by omega⟩, by omega, by omega⟩, by omega, fun h => by omega⟩
theorem nb_ten (m : Nat) (h : m < 18446744073709551616) : (Vn.nb m).length ≤ 10 := (Vn.nb_len m h).1
theorem nb_pos (m : Nat) : 0 < (Vn.nb m).length := by unfold Vn.nb; simp
theorem nb_ne (m : Nat) : Vn.nb m ≠ [] := fun h => by have := nb_pos m; rw [h] at this; simp at this
theorem txt_len (s : ByteArray) (h : s.size ≤ 1000) : (Vn.txt s).length ≤ 10 + s.size := by
  unfold Vn.txt
  rw [List.length_append]
  have := nb_ten s.size (by omega)
  have : s.data.toList.length = s.size := rfl
  omega
theorem txt_ne (s : ByteArray) : Vn.txt s ≠ [] := fun h => nb_ne s.size (List.append_eq_nil_iff.1 h).1
/-- A right value has no more bytes than so many. -/
theorem bV_len : ∀ (n l : Nat) (A : List Tm), RV n l A → wN n A ≤ 512 → (bV n A).length ≤ 10 + 1300 * wN n A
  | 0, _, _, h, _ => h.elim
  | n + 1, 0, _, h, _ => h.elim
  | n + 1, l + 1, A, h, hw => by
    have hA : A.length ≤ wN (n + 1) A := by simp only [wN]; omega
    have h0 := nb_ten A.length (by omega)
    show (Vn.nb A.length ++ A.flatMap (bT (bV n))).length ≤ _
    rw [List.length_append]
    suffices hs : ∀ (B : List Tm), (∀ x ∈ B, x ∈ A) → wN (n + 1) B ≤ 512 → (B.flatMap (bT (bV n))).length ≤ 1300 * wN (n + 1) B by
      have := hs A (fun _ h => h) hw
      omega
    intro B hB hwB
    induction B with
    | nil => simp
    | cons x B ih =>
      rw [wN_cons] at hwB ⊢
      have h3 := ih (fun y hy => hB y (by simp [hy])) (by omega)
      rw [List.flatMap_cons, List.length_append]
      have h1 := h.1 x (hB x (by simp))
      have hfit := (fit_rv (n + 1) (l + 1) A h hw).2 x (hB x (by simp))
      have hhd : hdN x < 18446744073709551616 := by
        unfold hdN
        have := b01_le x.m; have := b01_le x.y; have := b01_le x.o
        have := hfit.1; have := hfit.2.1
        omega
      have h4 := nb_ten _ hhd
      have h5 : (bB (bV n) x).length ≤ 1270 + 1300 * wF n x.fs := by
        unfold bB
        split
        · rename_i hk
          have := hfit.2.2.1 hk
          have e1 := nb_ten _ (Vn.sgn_lt this.1.1 this.1.2)
          have e2 := nb_ten _ (Vn.sgn_lt this.2.1 this.2.2)
          rw [List.length_append]
          omega
        · split
          · have := txt_len x.s hfit.2.2.2.1
            have := hfit.2.2.2.1
            omega
          · split
            · rename_i hk
              have hff := hfit.2.2.2.2 hk
              unfold RT at h1
              rw [if_neg (by omega), if_pos hk] at h1
              obtain ⟨_, _, _, _, _, hf, _⟩ := h1
              unfold bF
              rw [List.length_append]
              have e0 := nb_ten x.fs.length (by have := hff.1; omega)
              have key : ∀ (fs : List (ByteArray × List Tm)), (∀ f ∈ fs, f ∈ x.fs) → wF n fs ≤ 512 → (fs.flatMap (bF1 (bV n))).length ≤ 36 * fs.length + 1300 * wF n fs := by
                intro fs
                induction fs with
                | nil => intro _ _; simp [wF]
                | cons f fs ih2 =>
                  intro hm hw3
                  have ew : wF n (f :: fs) = wN n f.2 + wF n fs := by simp [wF]
                  rw [ew] at hw3 ⊢
                  have a1 := ih2 (fun g hg => hm g (by simp [hg])) (by omega)
                  have a2 := bV_len n l f.2 (hf.2.2 f (hm f (by simp))) (by omega)
                  have a3 := name_size hf.2.1 (hm f (by simp))
                  have a4 := txt_len f.1 (by omega)
                  rw [List.flatMap_cons, List.length_append]
                  unfold bF1 at a1 ⊢
                  rw [List.length_append, List.length_cons]
                  omega
              have hwf : wF n x.fs ≤ 512 := by omega
              have := key x.fs (fun _ h => h) hwf
              have := hf.1
              omega
            · simp
      have h6 : (bT (bV n) x).length = (Vn.nb (hdN x)).length + (bB (bV n) x).length := by unfold bT; rw [List.length_append]
      omega
theorem rg_fit {n : Nat} {A : List Tm} (h : RV n 16 A ∧ wN n A ≤ 512) : FitV n A ∧ (bV n A).length ≤ 700000 :=
  ⟨fit_rv n 16 A h.1 h.2, by have := bV_len n 16 A h.1 h.2; omega⟩
theorem flat_take {α β : Type} (g : α → List β) (A : List α) (k : Nat) (h : k < A.length) : (A.take (k + 1)).flatMap g = (A.take k).flatMap g ++ g A[k] := by
  rw [List.take_succ_eq_append_getElem h, List.flatMap_append]; simp
theorem flat_le {α β : Type} (g : α → List β) (A : List α) (k : Nat) : ((A.take k).flatMap g).length ≤ (A.flatMap g).length := by
  conv => rhs; rw [← List.take_append_drop k A]
  rw [List.flatMap_append, List.length_append]
  omega
end Go.Proofs.YtddleeenlpigfaaGreatDoor.Ec
/- WALKS of code's head; what an append of bytes does. -/
namespace Go.Proofs.YtddleeenlpigfaaGreatDoor.Ec
open Go.RowKit
theorem grown_below {W W' : World} {row : Option Nat} (h : Below W.heap.size W W') : W.grownBy W' row := ⟨h.os, h.tape, h.output, h.size, fun k hk _ => h.block k hk⟩
/-- A row was appended to. -/
structure Gr (W W' : World) (v v' : Value) : Prop where
  grow : W.grownBy W' v.ownBlock
  at_ : v'.ownBlock = v.ownBlock ∨ ∃ g, v'.ownBlock = some g ∧ W.heap.size ≤ g
theorem Gr.size {W W' : World} {v v' : Value} (h : Gr W W' v v') : W.heap.size ≤ W'.heap.size := h.grow.size
theorem Gr.refl (W : World) (v : Value) : Gr W W v v := ⟨⟨rfl, rfl, rfl, Nat.le_refl _, fun _ _ _ => rfl⟩, .inl rfl⟩
theorem Gr.of_below {W W' : World} (v : Value) (h : Below W.heap.size W W') : Gr W W' v v := ⟨grown_below h, .inl rfl⟩
theorem Gr.trans {W W' W'' : World} {v v' v'' : Value} (h : Gr W W' v v') (k : Gr W' W'' v' v'') : Gr W W'' v v'' := by
  refine ⟨⟨k.grow.os.trans h.grow.os, k.grow.tape.trans h.grow.tape, k.grow.output.trans h.grow.output, Nat.le_trans h.grow.size k.grow.size, fun i hl hn => ?_⟩, ?_⟩
  · refine (k.grow.block i (Nat.lt_of_lt_of_le hl h.grow.size) (fun e => ?_)).trans (h.grow.block i hl hn)
    rcases h.at_ with h1 | ⟨g, h1, h2⟩
    · exact hn (e.trans h1)
    · rw [h1] at e; injection e with e; omega
  · rcases k.at_ with k1 | ⟨g, k1, k2⟩
    · rcases h.at_ with h1 | ⟨g, h1, h2⟩
      · exact .inl (k1.trans h1)
      · exact .inr ⟨g, k1.trans h1, h2⟩
    · exact .inr ⟨g, k1, Nat.le_trans h.grow.size k2⟩
/-- Bytes appended to a row of one's own. -/
theorem app_bytes {w : World} {B : Nat} {v : Value} {L N : List UInt8} {a : Option Addr} (c : Nat) (hrow : w.ownsRow B 5 1 v L.length (Vn.u8s L)) (hR : Vn.SRow w a N) (hne : N ≠ []) (hlen : (L ++ N).length ≤ 140737488355328) (hB : B ≤ w.heap.size) :
    ∃ v' w', (Builtin.append_ #[74, 74] 74 #[v, .slice a N.length c]).run Tryz.prog w = .ok v' w' ∧ w'.ownsRow B 5 1 v' (L ++ N).length (Vn.u8s (L ++ N)) ∧ Gr w w' v v' := by
  rcases hR with ⟨_, h⟩ | ⟨ad, rfl, hl, hc⟩
  · exact absurd h hne
  · obtain ⟨i0, hi, hz0, hz1, hz2⟩ := info_parts Vn.Tryz.info5
    rw [List.length_append] at hlen
    obtain ⟨v', w', hrun, hown, hg, _, hat⟩ := run_append_own_at (P := Tryz.prog) (w := w) B 74 74 5 i0 (.int .u8 0) 1 1 Tryz.underlying74 hi hz0 hz1 hz2 rfl (by decide) v L.length _ hrow ad N.length c (Vn.u8s N) (by simp [Vn.u8s])
      (fun j u hu => by
        unfold Vn.u8s at hu
        rw [List.getElem?_map] at hu
        obtain ⟨x, hx, rfl⟩ := Option.map_eq_some_iff.1 hu
        obtain ⟨hj, rfl⟩ := List.getElem?_eq_some_iff.1 hx
        exact hc j hj)
      (by intro u hu; obtain ⟨x, _, rfl⟩ := List.mem_map.1 hu; rfl) (by unfold maxLen; omega) (by omega) hB
    refine ⟨v', w', hrun, ?_, hg, ?_⟩
    · rw [List.length_append]
      have : Vn.u8s (L ++ N) = Vn.u8s L ++ Vn.u8s N := by simp [Vn.u8s]
      rw [this]; exact hown
    · rcases hat with h | h
      · exact .inl h
      · exact .inr ⟨_, h, Nat.le_refl _⟩
/-- Between two steps of the writer: the row of one's own. -/
structure AIn (w0 w : World) (v : Value) (L : List UInt8) : Prop where
  low : Below w0.heap.size w0 w
  row : w.ownsRow w0.heap.size 5 1 v L.length (Vn.u8s L)
theorem AIn.size {w0 w : World} {v : Value} {L : List UInt8} (h : AIn w0 w v L) : w0.heap.size ≤ w.heap.size := h.low.size
theorem AIn.own {w0 w : World} {v : Value} {L : List UInt8} (h : AIn w0 w v L) : ∀ g, v.ownBlock = some g → w0.heap.size ≤ g ∧ g < w.heap.size := fun g e => h.row.lt g e
theorem AIn.step {w0 w w' : World} {v : Value} {L : List UInt8} (h : AIn w0 w v L) (hb : Below w.heap.size w w') : AIn w0 w' v L :=
  ⟨h.low.trans (hb.mono h.low.size), h.row.kept (grown_below (row := none) hb) (by cases v.ownBlock <;> simp)⟩
theorem AIn.app {w0 w w' : World} {v v' : Value} {L L' : List UInt8} (h : AIn w0 w v L) (hg : Gr w w' v v') (hr : w'.ownsRow w0.heap.size 5 1 v' L'.length (Vn.u8s L')) : AIn w0 w' v' L' :=
  ⟨h.low.grown hg.grow h.low.size (fun r e => (h.own r e).1), hr⟩
/-- What a block of one's own outside of the row is, it stays. -/
theorem Gr.other {w w' : World} {v v' : Value} (hg : Gr w w' v v') {b : Nat} {o : Obj} (hb : w.heap[b]? = some o) (hn : ∀ g, v.ownBlock = some g → g ≠ b) : w'.heap[b]? = some o :=
  (hg.grow.block b (Array.getElem?_eq_some_iff.1 hb).1 (fun e => hn b e.symm rfl)).trans hb
/-- What the writer answers. -/
def AppP (w0 w : World) (v : Value) (L' : List UInt8) (e : Ending) (w' : World) : Prop := ∃ v', e = .returned v' ∧ w'.ownsRow w0.heap.size 5 1 v' L'.length (Vn.u8s L') ∧ Gr w w' v v'
end Go.Proofs.YtddleeenlpigfaaGreatDoor.Ec
/- WALKS of code's head and appendFields. -/
namespace Go.Proofs.YtddleeenlpigfaaGreatDoor.Ec
open Go.RowKit
theorem u8_int {k : IntKind} {a b : Int} (h : a = b) : Ending.returned (.int k a) = .returned (.int k b) := by rw [h]
set_option maxRecDepth 100000 in
set_option maxHeartbeats 2000000 in
theorem head_any (k lo hi : Int) (s : ByteArray) (y m o : Bool) (f : Option Addr) (fl fc : Nat) (fs : List (ByteArray × List Tm)) (w : World) (h0 : 0 ≤ k) (h5 : k ≤ 5) :
    Calls Tryz.prog 94 #[tv k lo hi s y m o f fl fc] w fun e w' => e = .returned (.int .u64 ((hdN (.mk k lo hi s y m o fs) : Nat) : Int)) ∧ Below w.heap.size w w' := by
  have h8 : (0 : Int) ≤ 8 * k := by omega
  have h9 : 8 * k ≤ 40 := by omega
  have HX : Hid (((hdN (.mk k lo hi s y m o fs) : Nat) : Int) = 8 * k + (b01 m : Nat) + 2 * (b01 y : Nat) + 4 * (b01 o : Nat)) := by
    unfold hdN
    show ((8 * k.toNat + b01 m + 2 * b01 y + 4 * b01 o : Nat) : Int) = _
    omega
  cases m <;> cases y <;> cases o
  all_goals
    go_enter Tryz.func94, Tryz.ntmps94
    go_wp2_with fail
    go_ret
    refine ⟨u8_int ?_, (Below.refl _ _).alloc (Nat.le_refl _) _⟩
    rw [HX.out]
    simp only [b01]
    simp
    try omega
theorem bF1_eq (g : List Tm → List UInt8) (a : ByteArray) (V : List Tm) : bF1 g (a, V) = Vn.txt a ++ g V := rfl
theorem w_new (w : World) (o : Obj) : (w.alloc o).heap[w.heap.size]? = some o := heap_alloc_new w o
def FRel (w0 w : World) (v : Value) (L : List UInt8) (g : List Tm → List UInt8) (fs : List (ByteArray × List Tm)) (k : Nat) (z : Value) (wr : World) : Prop :=
  AIn w0 wr z (L ++ (Vn.nb fs.length ++ (fs.take k).flatMap (bF1 g))) ∧ Gr w wr v z
set_option maxRecDepth 100000 in
set_option maxHeartbeats 4000000 in
theorem appf_any (n : Nat) (ih : ∀ (w0 w : World) (t : Option Addr) (tl tc : Nat) (A : List Tm) (v : Value) (L : List UInt8), InV w0 n t tl tc A → FitV n A → (L ++ bV n A).length ≤ 70368744177664 → AIn w0 w v L → Calls Tryz.prog 57 #[v, .agg #[.slice t tl tc]] w (AppP w0 w v (L ++ bV n A)))
    (w0 w : World) (f : Option Addr) (fl fc : Nat) (fs : List (ByteArray × List Tm)) (v : Value) (L : List UInt8) (hf : InF (fun t tl tc V => InV w0 n t tl tc V) w0 f fl fs) (hfit : FitF (FitV n) fs) (hlen : (L ++ bF (bV n) fs).length ≤ 70368744177664) (hA : AIn w0 w v L) :
    Calls Tryz.prog 97 #[v, .slice f fl fc] w (AppP w0 w v (L ++ bF (bV n) fs)) := by
  obtain ⟨hcount, hmax, hat⟩ := hf
  subst hcount
  have h1000 := hfit.1
  have HAT := Lib.hid hat
  have HFIT := Lib.hid hfit
  have HLEN := Lib.hid hlen
  have HA := Lib.hid hA
  have IH := Lib.hid ih
  have P1 := Vn.put_any none 0 0 fs.length [] w rfl (.inl ⟨rfl, rfl⟩) (fun _ => rfl) (by omega) (by omega)
  rw [List.nil_append] at P1
  have HP1 := Lib.hid P1
  clear hat hfit hlen hA ih P1
  go_enter Tryz.func97, Tryz.ntmps97
  go_wp2_with fail
  go_at_call 93; refine HP1.out.mono ?_; rintro e w1 ⟨a1, c1, rfl, hR1, -, hB1⟩
  have hlen1 : (L ++ Vn.nb fs.length).length ≤ 140737488355328 := by
    have := HLEN.out
    unfold bF at this
    simp only [List.length_append] at this ⊢
    omega
  obtain ⟨v1, w2, hrun, hrow, hgr⟩ := app_bytes c1 (HA.out.step hB1).row hR1 (nb_ne _) hlen1 (HA.out.step hB1).size
  have HR0 : Hid (FRel w0 w v L (bV n) fs 0 v1 w2) := by
    refine ⟨?_, (Gr.of_below v hB1).trans hgr⟩
    have := (HA.out.step hB1).app hgr hrow
    simpa using this
  have HRUN := Lib.hid hrun
  clear hR1 hB1 hlen1 hrun hrow hgr
  go_wp2_with (at_builtin; refine Lib.wpList_append_run _ rfl _ _ _ _ rfl _ _ rfl rfl _ _ HRUN.out ?_)
  clear HRUN HP1
  go_loopw [0, 15] (fun z i wr => ∃ k : Nat, k ≤ fs.length ∧ i = .int .i64 k ∧ Hid (FRel w0 w v L (bV n) fs k z wr)) (fun _ i _ => fs.length - (intOf i).toNat)
  case atStart => exact ⟨0, Nat.zero_le _, rfl, HR0⟩
  case round =>
    clear HR0
    obtain ⟨k, hk, rfl, hrel⟩ := hrel
    rename World => wr
    have HREL := Lib.hid hrel.out
    clear hrel
    by_cases hlt : k < fs.length
    · have hki : (k : Int) < (fs.length : Int) := by omega
      have hk0 : (0 : Int) ≤ (k : Int) := by omega
      obtain ⟨b, off, tl, tc, t, rfl, lt, c0, c1, hV⟩ := HAT.out k hlt
      have c0' := (HREL.out.1.low.cell (p := ⟨b, off + k * 2, none⟩) lt).trans c0
      have c1' := (HREL.out.1.low.cell (p := ⟨b, off + k * 2 + 1, none⟩) lt).trans c1
      have hmem := HFIT.out.2 fs[k] (List.getElem_mem hlt)
      obtain ⟨⟨nm, V⟩, hx⟩ : ∃ x, fs[k] = x := ⟨_, rfl⟩
      rw [hx] at c0' hV hmem
      dsimp only at c0' hV hmem
      have HX := Lib.hid hx
      have HV := Lib.hid hV
      have HM := Lib.hid hmem
      have hnm := hmem.1
      have P2 := Vn.puttext_any none 0 0 nm [] (wr.alloc (.cells #[.string nm, .slice t tl tc] 59)) rfl (.inl ⟨rfl, rfl⟩) (fun _ => rfl) (by omega) (by omega)
      rw [List.nil_append] at P2
      have HP2 := Lib.hid P2
      clear c0 c1 hx hV hmem P2 lt
      go_wp2_with fail
      go_at_call 96; refine HP2.out.mono ?_; rintro e w3 ⟨a3, c3, rfl, hR3, -, hB3⟩
      have hbx : w3.heap[wr.heap.size]? = some (.cells #[.string nm, .slice t tl tc] 59) := (hB3.block _ (by simp)).trans (w_new wr _)
      have hA3 := (HREL.out.1.step (bl_alloc (Below.refl _ wr) (o := .cells #[.string nm, .slice t tl tc] 59))).step hB3
      have hlenk : (L ++ (Vn.nb fs.length ++ (fs.take k).flatMap (bF1 (bV n))) ++ (Vn.txt nm ++ bV n V)).length ≤ 70368744177664 := by
        have h1 := HLEN.out
        have h2 := flat_le (bF1 (bV n)) fs (k + 1)
        rw [flat_take _ _ _ hlt, HX.out] at h2
        unfold bF at h1
        rw [bF1_eq] at h2
        simp only [List.length_append] at h1 h2 ⊢
        omega
      have hlen3 : (L ++ (Vn.nb fs.length ++ (fs.take k).flatMap (bF1 (bV n))) ++ Vn.txt nm).length ≤ 140737488355328 := by
        simp only [List.length_append] at hlenk ⊢
        omega
      obtain ⟨v4, w4, hrun, hrow, hgr⟩ := app_bytes c3 hA3.row hR3 (txt_ne _) hlen3 hA3.size
      have hA4 := hA3.app hgr hrow
      have hbx4 := hgr.other hbx (fun g e => by have := (HREL.out.1.own g e).2; omega)
      have hc4 : w4.cell? ⟨wr.heap.size, 1, none⟩ = some (.slice t tl tc) := by simp [World.cell?, hbx4]
      have HG4 := Lib.hid (((HREL.out.2.trans (Gr.of_below u0 (bl_alloc (Below.refl _ wr) (o := .cells #[.string nm, .slice t tl tc] 59)))).trans (Gr.of_below u0 hB3)).trans hgr)
      have HI := Lib.hid (IH.out w0 w4 t tl tc V v4 _ HV.out HM.out.2 (by rw [List.append_assoc]; exact hlenk) hA4)
      have HA4 := Lib.hid hA4
      have HRUN := Lib.hid hrun
      clear hR3 hB3 hbx hA3 hlenk hlen3 hrun hrow hgr hA4 hbx4
      go_wp2_with (at_builtin; refine Lib.wpList_append_run _ rfl _ _ _ _ rfl _ _ rfl rfl _ _ HRUN.out ?_)
      go_at_call 57; refine HI.out.mono ?_; rintro e w5 ⟨v5, rfl, hrow5, hgr5⟩
      have HN : Hid (FRel w0 w v L (bV n) fs (k + 1) v5 w5) := by
        refine ⟨?_, HG4.out.trans hgr5⟩
        have h5 := HA4.out.app hgr5 hrow5
        rw [flat_take _ _ _ hlt, HX.out]
        rw [bF1_eq]
        simpa [List.append_assoc] using h5
      clear hrow5 hgr5 HRUN HI HP2 c0' c1' hc4
      go_wp2_with fail
      go_roundw
      case rel => exact ⟨k + 1, by omega, by go_num, HN⟩
      case measure => simp [intOf]; omega
    · obtain rfl : k = fs.length := by omega
      clear hlt hk
      go_wp2_with fail
      go_ret
      have h := HREL.out
      unfold FRel at h
      rw [List.take_length] at h
      exact ⟨u0, rfl, h.1.row, h.2⟩
end Go.Proofs.YtddleeenlpigfaaGreatDoor.Ec
