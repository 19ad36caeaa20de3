/- Bo, Bp, Br, Bs, Ca -/
import Derived.Test.YtddleeenlpigfaaGreatDoorY30
/- WALKS of Concat at two slices of terms, of Join. -/
namespace Go.Proofs.YtddleeenlpigfaaGreatDoor
open Go.RowKit
end Go.Proofs.YtddleeenlpigfaaGreatDoor
/- PLAIN MATHEMATICS of depths; WALK of made. -/
namespace Go.Proofs.YtddleeenlpigfaaGreatDoor
open Go.RowKit
theorem mx_ge : ∀ (l : List Int) (a : Int), a ≤ l.foldl max a
  | [], a => Int.le_refl a
  | x :: l, a => by rw [List.foldl_cons]; have := mx_ge l (max a x); omega
theorem mx_mem : ∀ (l : List Int) (a x : Int), x ∈ l → x ≤ l.foldl max a
  | y :: l, a, x, h => by
    rw [List.foldl_cons]
    rcases List.mem_cons.1 h with rfl | h
    · have := mx_ge l (max a x); omega
    · exact mx_mem l _ x h
theorem mx_le : ∀ (l : List Int) (a b : Int), a ≤ b → (∀ x ∈ l, x ≤ b) → l.foldl max a ≤ b
  | [], _, _, h, _ => h
  | x :: l, a, b, h, hx => by
    rw [List.foldl_cons]
    exact mx_le l _ b (by have := hx x (by simp); omega) fun y hy => hx y (by simp [hy])
theorem wrap_id {x : Int} (h0 : 0 ≤ x) (h1 : x ≤ 1000) : wrap64 x = x := wrap_small (by omega) (by omega)
theorem dep_mem {n : Nat} {A : List Tm} {x : Tm} {f : Fd} (hx : x ∈ A) (hf : f ∈ x.fs) : depV n f.2 ∈ deps (depV n) A := by
  unfold deps; exact List.mem_flatMap.2 ⟨x, hx, List.mem_map.2 ⟨f, hf, rfl⟩⟩
theorem dep_of {n : Nat} {A : List Tm} {d : Int} (h : d ∈ deps (depV n) A) : ∃ x ∈ A, ∃ f ∈ x.fs, d = depV n f.2 := by
  unfold deps at h
  obtain ⟨x, hx, h⟩ := List.mem_flatMap.1 h
  obtain ⟨f, hf, rfl⟩ := List.mem_map.1 h
  exact ⟨x, hx, f, hf, rfl⟩
/-- How deep what is right is. -/
theorem dep_rv : ∀ {n l : Nat} {A : List Tm}, l ≤ 100 → RV n l A → 1 ≤ depV n A ∧ depV n A ≤ l
  | 0, _, _, _, h => by unfold RV at h; exact h.elim
  | n + 1, 0, _, _, h => by unfold RV at h; exact h.elim
  | n + 1, l + 1, A, hl, h => by
    have h1 : mx (deps (depV n) A) ≤ l := mx_le _ _ _ (by omega) fun d hd => by
      obtain ⟨x, hx, f, hf, rfl⟩ := dep_of hd
      exact (dep_rv (by omega) (gt_f (h.1 x hx) hf).2.1).2
    have h0 : 0 ≤ mx (deps (depV n) A) := mx_ge _ 0
    show 1 ≤ wrap64 (1 + mx (deps (depV n) A)) ∧ wrap64 (1 + mx (deps (depV n) A)) ≤ ((l + 1 : Nat) : Int)
    rw [wrap_id (by omega) (by omega)]
    omega
theorem RT.impF {g h : List Tm → Prop} {x : Tm} (gh : ∀ f ∈ x.fs, h f.2) (r : RT g x) : RT h x := by
  unfold RT at *
  split
  · rename_i h5; rw [if_pos h5] at r; exact r
  · rename_i h5
    rw [if_neg h5] at r
    split
    · rename_i h4
      rw [if_pos h4] at r
      obtain ⟨a, b, c, d, e, ⟨f1, f2, f3⟩, g'⟩ := r
      exact ⟨a, b, c, d, e, ⟨f1, f2, gh⟩, g'⟩
    · rename_i h4; rw [if_neg h4] at r; exact r
theorem dep_down : ∀ {n l k : Nat} {A : List Tm}, l ≤ 100 → RV n l A → depV n A ≤ k → RV n k A
  | 0, _, _, _, _, h, _ => by unfold RV at h; exact h.elim
  | n + 1, 0, _, _, _, h, _ => by unfold RV at h; exact h.elim
  | n + 1, l + 1, k, A, hl, h, hk => by
    have hd := dep_rv hl h
    have h1 : mx (deps (depV n) A) ≤ l := mx_le _ _ _ (by omega) fun d hd => by
      obtain ⟨x, hx, f, hf, rfl⟩ := dep_of hd
      exact (dep_rv (by omega) (gt_f (h.1 x hx) hf).2.1).2
    have h0 : 0 ≤ mx (deps (depV n) A) := mx_ge _ 0
    have e : depV (n + 1) A = 1 + mx (deps (depV n) A) := by
      show wrap64 (1 + mx (deps (depV n) A)) = _
      exact wrap_id (by omega) (by omega)
    cases k with
    | zero => omega
    | succ k =>
      refine ⟨fun x hx => (h.1 x hx).impF fun f hf => dep_down (by omega) (gt_f (h.1 x hx) hf).2.1 ?_, h.2⟩
      have := mx_mem (deps (depV n) A) 0 _ (dep_mem hx hf)
      have e2 : mx (deps (depV n) A) = (deps (depV n) A).foldl max 0 := rfl
      omega
/-- A right term, of which we don't know whether it is too deep for a value. -/
abbrev Gr1 (n : Nat) (x : Tm) : Prop := RT (RG n) x
theorem Gr1.gt {n : Nat} {x : Tm} (h : Gr1 n x) : Gt n 16 x := h.imp fun _ h => h.1
theorem Gr1.w {n : Nat} {x : Tm} (h : Gr1 n x) : wF n x.fs ≤ 16384 := by
  by_cases h4 : x.k = 4
  · have hr : RF (RG n) x.fs := by
      have h' : RT (RG n) x := h
      unfold RT at h'
      rw [if_neg (by omega), if_pos h4] at h'
      exact h'.2.2.2.2.2.1
    have sum : ∀ L : List Fd, (∀ f ∈ L, wN n f.2 ≤ 512) → wF n L ≤ L.length * 512 := fun L => by
      induction L with
      | nil => intro _; simp [wF]
      | cons f L ih =>
        intro h
        rw [wF_cons, List.length_cons]
        have := h f (by simp)
        have := ih fun f hf => h f (by simp [hf])
        omega
    have := sum x.fs fun f hf => (hr.2.2 f hf).2
    have := hr.1
    omega
  · rw [gt_flat h.gt h4]; simp [wF]
/-- Is a term too deep for a value? -/
def tooDeep (n : Nat) (x : Tm) : Bool := decide (16 < depV (n + 1) [x])
theorem Gr1.deep {n : Nat} {x : Tm} (h : Gr1 n x) (hd : tooDeep n x = false) : Gt n 15 x := by
  have h1 : ¬ 16 < depV (n + 1) [x] := of_decide_eq_false hd
  have hg := h.gt
  refine hg.impF fun f hf => dep_down (l := 16) (by omega) (gt_f hg hf).2.1 ?_
  have hm : ∀ d ∈ deps (depV n) [x], 1 ≤ d ∧ d ≤ 16 := fun d hd => by
    obtain ⟨y, hy, f, hf, rfl⟩ := dep_of hd
    rw [List.mem_singleton.1 hy] at hf
    have := dep_rv (l := 16) (by omega) (gt_f hg hf).2.1
    omega
  have h2 : mx (deps (depV n) [x]) ≤ 16 := mx_le _ _ _ (by omega) fun d hd => (hm d hd).2
  have h0 : 0 ≤ mx (deps (depV n) [x]) := mx_ge _ 0
  have e : depV (n + 1) [x] = 1 + mx (deps (depV n) [x]) := by
    show wrap64 (1 + mx (deps (depV n) [x])) = _
    exact wrap_id (by omega) (by omega)
  have := mx_mem (deps (depV n) [x]) 0 _ (dep_mem (by simp) hf)
  have e2 : mx (deps (depV n) [x]) = (deps (depV n) [x]).foldl max 0 := rfl
  omega
/-- The value of right terms. -/
def madeV (n : Nat) (A : List Tm) : Int × List Tm := if A.any (tooDeep n) = true then (22, []) else nrm n A
end Go.Proofs.YtddleeenlpigfaaGreatDoor
/- WALKS of made, Struct, number, Any. -/
namespace Go.Proofs.YtddleeenlpigfaaGreatDoor
open Go.RowKit
/-- Those of the first k that are too deep: none. -/
def NoDeep (n : Nat) (A : List Tm) (k : Nat) : Prop := ∀ j (h : j < A.length), j < k → tooDeep n A[j] = false
theorem NoDeep.end {n : Nat} {A : List Tm} (h : NoDeep n A A.length) : madeV n A = nrm n A := by
  unfold madeV
  rw [if_neg]
  rw [Bool.not_eq_true, List.any_eq_false]
  intro x hx
  obtain ⟨j, hj, rfl⟩ := List.getElem_of_mem hx
  rw [h j hj hj]; decide
end Go.Proofs.YtddleeenlpigfaaGreatDoor
/- WALKS of number, Any, Struct. -/
namespace Go.Proofs.YtddleeenlpigfaaGreatDoor
open Go.RowKit
/-- From one world to another one, in which but one block is other: that one holds a slice. -/
theorem cell_slice {w : World} {N : Nat} {a : Option Addr} {l c ty : Nat} (h : w.heap[N]? = some (.cells #[.slice a l c] ty)) (off : Nat) : (∀ k x, w.cell? ⟨N, off, none⟩ ≠ some (.int k x)) ∧ ∀ x, w.cell? ⟨N, off, none⟩ ≠ some (.string x) := by
  have e : w.cell? ⟨N, off, none⟩ = #[Value.slice a l c][off]? := by simp [World.cell?, h]
  rw [e]
  cases off with
  | zero => exact ⟨fun k x h => by simp at h, fun x h => by simp at h⟩
  | succ j => exact ⟨fun k x h => by simp at h, fun x h => by simp at h⟩
section
variable {w w' : World} {N : Nat} {a : Option Addr} {l c ty : Nat} (hs : w.heap.size ≤ w'.heap.size) (hb : ∀ b, b ≠ N → w'.heap[b]? = w.heap[b]?) (hN : w.heap[N]? = some (.cells #[.slice a l c] ty))
include hs hb hN
theorem InF.but {I J : Option Addr → Nat → Nat → List Tm → Prop} (hIJ : ∀ t tl tc V, I t tl tc V → J t tl tc V) {f : Option Addr} {fl : Nat} {fs : List (ByteArray × List Tm)} (h : InF I w f fl fs) : InF J w' f fl fs := by
  refine ⟨h.1, h.2.1, fun i hi => ?_⟩
  obtain ⟨b, off, tl, tc, t, e, lt, c0, c1, h2⟩ := h.2.2 i hi
  have hne : b ≠ N := fun e => by subst e; exact (cell_slice hN _).2 _ c0
  exact ⟨b, off, tl, tc, t, e, Nat.lt_of_lt_of_le lt hs, (cell_of_heap (hb b hne) _).trans c0, (cell_of_heap (hb b hne) _).trans c1, hIJ _ _ _ _ h2⟩
theorem InV.but : ∀ {n : Nat} {t : Option Addr} {tl tc : Nat} {V : List Tm}, InV w n t tl tc V → InV w' n t tl tc V
  | 0, _, _, _, _, h => h.elim
  | n + 1, t, tl, tc, V, h => by
    refine ⟨h.1, h.2.1, fun i hi => ?_⟩
    obtain ⟨b, off, e, hT⟩ := h.2.2 i hi
    refine ⟨b, off, e, ?_⟩
    generalize V[i] = x at hT
    obtain ⟨k, lo, hi, s, y, m, o, fs⟩ := x
    obtain ⟨lt, f, fl, fc, c0, c1, c2, c3, c4, c5, c6, c7, hf⟩ := hT
    have hne : b ≠ N := fun e => by subst e; exact (cell_slice hN _).1 _ _ c0
    have e : ∀ i, w'.cell? ⟨b, i, none⟩ = w.cell? ⟨b, i, none⟩ := fun i => cell_of_heap (hb b hne) i
    exact ⟨Nat.lt_of_lt_of_le lt hs, f, fl, fc, (e _).trans c0, (e _).trans c1, (e _).trans c2, (e _).trans c3, (e _).trans c4, (e _).trans c5, (e _).trans c6, (e _).trans c7, hf.but hs hb hN (fun _ _ _ _ h => h.but)⟩
end
/-- A value of one term without fields, of the call's own. -/
def OneP (k lo hi : Int) (w : World) (e : Ending) (w' : World) : Prop :=
  ∃ g, e = .returned (.agg #[.slice (some ⟨g, 0, none⟩) 1 1]) ∧ Below w.heap.size w w' ∧ g < w'.heap.size ∧ Tc w' g k lo hi ⟨#[]⟩ false false false none 0 0
set_option maxRecDepth 100000 in
set_option maxHeartbeats 2000000 in
theorem number_any (lo hi : Int) (w : World) : Calls Tryz.prog 30 #[.int .i64 lo, .int .i64 hi] w (OneP 2 lo hi w) := by
  go_enter Tryz.func30, Tryz.ntmps30
  go_wp2_with fail
  refine bodyPost_ret (v := .agg #[.slice (some ⟨w.heap.size + 1, 0, none⟩) 1 1]) (by simp [results, Tryz.results30, go_sem]) rfl ⟨_, rfl, bl_alloc (bl_alloc (Below.refl _ _)), by simp, ?_⟩
  have h := Tc.new (w.alloc (.cells #[.slice (some ⟨w.heap.size + 1, 0, none⟩) 1 1] 24)) 2 lo hi ⟨#[]⟩ false false false none 0 0
  rw [show (w.alloc (.cells #[.slice (some ⟨w.heap.size + 1, 0, none⟩) 1 1] 24)).heap.size = w.heap.size + 1 by simp] at h
  exact h
theorem OneP.inV {k lo hi : Int} {w' : World} {g : Nat} (hg : g < w'.heap.size) (hT : Tc w' g k lo hi ⟨#[]⟩ false false false none 0 0) (n : Nat) : InV w' (n + 1) (some ⟨g, 0, none⟩) 1 1 [.mk k lo hi ⟨#[]⟩ false false false []] :=
  alone_inV hg hT ⟨rfl, (show ((0 : Nat) : Int) ≤ 9223372036854775807 by decide), fun i hi => absurd hi (Nat.not_lt_zero _)⟩
end Go.Proofs.YtddleeenlpigfaaGreatDoor
/- WALKS of the reference's Find, names. -/
namespace Go.Proofs.YtddleeenlpigfaaGreatDoor
open Go.RowKit
/-- The place of a field; -1: there is none. -/
def fidx : List (ByteArray × List Tm) → ByteArray → Int
  | [], _ => -1
  | g :: fs, key => if (g.1.toList == key.toList) = true then 0 else if fidx fs key < 0 then -1 else fidx fs key + 1
theorem fidx_none : ∀ {fs : List (ByteArray × List Tm)} {key : ByteArray}, NoF fs key fs.length → fidx fs key = -1
  | [], _, _ => rfl
  | g :: fs, key, h => by
    have h0 : (g.1.toList == key.toList) = false := h 0 (by simp) (by simp)
    have := fidx_none (fs := fs) (key := key) fun j hj hjk => h (j + 1) (by simpa using hj) (by simpa using hjk)
    unfold fidx
    rw [if_neg (by rw [h0]; decide), if_pos (by rw [this]; decide)]
theorem fidx_at : ∀ {fs : List (ByteArray × List Tm)} {key : ByteArray} {k : Nat} (hk : k < fs.length), NoF fs key k → (fs[k].1.toList == key.toList) = true → fidx fs key = k
  | g :: fs, key, 0, _, _, h => by
    have h' : (g.1.toList == key.toList) = true := h
    unfold fidx
    rw [if_pos h']; rfl
  | g :: fs, key, k + 1, hk, hn, h => by
    have h0 : (g.1.toList == key.toList) = false := hn 0 (by simp) (by omega)
    have := fidx_at (fs := fs) (key := key) (k := k) (by simpa using hk) (fun j hj hjk => hn (j + 1) (by simpa using hj) (by omega)) h
    unfold fidx
    rw [if_neg (by rw [h0]; decide), if_neg (by rw [this]; omega), this]; omega
theorem fidx_find : ∀ (fs : List (ByteArray × List Tm)) (key : ByteArray), (fidx fs key = -1 ∧ findF fs key = none) ∨ ∃ k, ∃ hk : k < fs.length, fidx fs key = (k : Int) ∧ findF fs key = some fs[k].2
  | [], _ => .inl ⟨rfl, rfl⟩
  | g :: fs, key => by
    cases h0 : (g.1.toList == key.toList)
    · rcases fidx_find fs key with ⟨a, b⟩ | ⟨k, hk, a, b⟩
      · refine .inl ⟨?_, ?_⟩
        · unfold fidx; rw [if_neg (by rw [h0]; decide), if_pos (by rw [a]; decide)]
        · simp only [findF, List.find?_cons, h0] at *; exact b
      · refine .inr ⟨k + 1, by simpa using hk, ?_, ?_⟩
        · unfold fidx; rw [if_neg (by rw [h0]; decide), if_neg (by rw [a]; omega), a]; omega
        · simp only [findF, List.find?_cons, h0, List.getElem_cons_succ] at *; exact b
    · refine .inr ⟨0, by simp, ?_, ?_⟩
      · unfold fidx; rw [if_pos h0]; rfl
      · simp [findF, h0]
/-- What the reference's Find tells. -/
def FndP (r : Int) (w : World) (e : Ending) (w' : World) : Prop := e = .returned (.int .i64 r) ∧ Below w.heap.size w w'
set_option maxRecDepth 100000 in
set_option maxHeartbeats 8000000 in
theorem rfind_any (I : Option Addr → Nat → Nat → List Tm → Prop) (w : World) (f : Option Addr) (fl fc : Nat) (fs : List (ByteArray × List Tm)) (h : InF I w f fl fs) (key : ByteArray) :
    Calls Tryz.prog 70 #[.slice f fl fc, .string key] w (FndP (fidx fs key) w) := by
  obtain ⟨r, hr⟩ : ∃ r, fidx fs key = r := ⟨_, rfl⟩
  rw [hr]
  have HR := Lib.hid hr
  clear hr
  obtain ⟨l1, z1, h1⟩ := h
  have H1 := Lib.hid h1
  subst l1
  clear h1
  go_enter Tryz.func70, Tryz.ntmps70
  go_wp2_with fail
  go_loopw [5] (fun i wr => ∃ k : Nat, k ≤ fs.length ∧ i = .int .i64 k ∧ Hid (NoF fs key k) ∧ Hid (Below w.heap.size w wr)) (fun i _ => fs.length - (intOf i).toNat)
  case atStart => exact ⟨0, Nat.zero_le _, rfl, fun j _ hj => absurd hj (Nat.not_lt_zero _), Below.refl _ _⟩
  case round =>
    obtain ⟨k, hk, rfl, hN, hB⟩ := hrel
    rename World => wr
    by_cases hlt : k < fs.length
    · have hki : (k : Int) < (fs.length : Int) := by omega
      have hk0 : (0 : Int) ≤ (k : Int) := by omega
      obtain ⟨b2, off2, tl2, tc2, t2, rfl, lt2, d0, d1, i2⟩ := H1.out k hlt
      replace d0 := (hB.out.cell (p := ⟨b2, off2 + k * 2, none⟩) lt2).trans d0
      have HN : ∃ nm, fs[k].1 = nm := ⟨_, rfl⟩
      obtain ⟨nm, hn⟩ := HN
      rw [hn] at d0
      clear i2 lt2 d1
      have HVN := Lib.hid hn
      clear hn
      cases hc : (nm.toList == key.toList)
      · have HC := Lib.hid hc
        go_wp2_with fail
        go_roundw
        case rel => exact ⟨k + 1, by omega, by go_num, hN.out.succ hlt (by rw [HVN.out]; exact HC.out), hB⟩
        case measure => simp [intOf]; omega
      · have HC := Lib.hid hc
        go_wp2_with fail
        go_ret
        exact ⟨by rw [← HR.out, fidx_at hlt hN.out (by rw [HVN.out]; exact HC.out)]; rfl, hB.out⟩
    · go_wp2_with fail
      go_ret
      have : k = fs.length := by omega
      subst this
      exact ⟨by rw [← HR.out, fidx_none hN.out]; rfl, hB.out⟩
set_option maxRecDepth 100000 in
set_option maxHeartbeats 8000000 in
theorem rnames_any (I : Option Addr → Nat → Nat → List Tm → Prop) (w : World) (f : Option Addr) (fl fc : Nat) (fs : List (ByteArray × List Tm)) (h : InF I w f fl fs) (hl : fs.length ≤ 1000000) (hnm : ∀ x ∈ fs, x.1.size ≤ 140737488355328) :
    Calls Tryz.prog 51 #[.slice f fl fc] w (LackP (Nm.risB (fs.map (·.1))) w) := by
  obtain ⟨l1, z1, h1⟩ := h
  have H1 := Lib.hid h1
  subst l1
  obtain ⟨i0, hi, hx⟩ := Option.map_eq_some_iff.1 info9
  simp only [Prod.mk.injEq] at hx
  obtain ⟨hz0, hz1, hz2⟩ := hx
  have HNM := Lib.hid hnm
  obtain ⟨r, hr⟩ : ∃ r, Nm.risB (fs.map (·.1)) = r := ⟨_, rfl⟩
  rw [hr]
  have HR := Lib.hid hr
  clear h1 hnm hr
  go_enter Tryz.func51, Tryz.ntmps51
  go_wp2_with fail
  go_loopw [3, 4] (fun v i wr => ∃ k : Nat, k ≤ fs.length ∧ i = .int .i64 k ∧ Hid (wr.ownsRow w.heap.size 9 1 v k (((fs.take k).map (·.1)).map Value.string)) ∧ Hid (Below w.heap.size w wr)) (fun _ i _ => fs.length - (intOf i).toNat)
  case atStart => exact ⟨0, Nat.zero_le _, rfl, World.ownsRow_nil _ _ _ _, Below.refl _ _⟩
  case round =>
    obtain ⟨k, hk, rfl, hO, hB⟩ := hrel
    rename World => wr
    by_cases hlt : k < fs.length
    · have hki : (k : Int) < (fs.length : Int) := by omega
      have hk0 : (0 : Int) ≤ (k : Int) := by omega
      obtain ⟨b2, off2, tl2, tc2, t2, rfl, lt2, d0, d1, i2⟩ := H1.out k hlt
      replace d0 := (hB.out.cell (p := ⟨b2, off2 + k * 2, none⟩) lt2).trans d0
      have hT : Hid (((fs.take (k + 1)).map (·.1)).map Value.string = ((fs.take k).map (·.1)).map Value.string ++ [.string fs[k].1]) := by
        rw [List.take_succ_eq_append_getElem hlt, List.map_append, List.map_append]; rfl
      clear i2 lt2 d1
      have hsz : w.heap.size ≤ wr.heap.size := hB.out.size
      generalize fs[k].1 = nm at *
      have HCN : Hid (∀ j u, [Value.string nm][j]? = some u → (wr.alloc (.cells #[.string nm] 9)).cell? ((⟨wr.heap.size, 0, none⟩ : Addr).add j) = some u) := cell_one_new wr (.string nm) 9
      go_wp2_with (at_builtin; refine wpList_append_own _ rfl _ _ 97 rfl w.heap.size 9 i0 (.string ByteArray.empty) 1 16 Tryz.underlying97 hi hz0 hz1 hz2 rfl (by decide) _ _ _ rfl (hO.out.alloc _) ⟨wr.heap.size, 0, none⟩ 1 1 [.string nm] rfl rfl HCN.out (fun x hx => by simp at hx; subst hx; rfl) (by unfold maxLen; omega) (by omega) (by simp; omega) ?_; intro v' w3 hown' hgrow3 hnil3; have OW3 := Lib.hid hown'; have G3 := Lib.hid hgrow3; clear hown' hgrow3 hnil3)
      go_roundw
      case rel => exact ⟨k + 1, by omega, by go_num, (by rw [hT.out]; exact OW3.out), ((hB.out.alloc hB.out.size _).grown G3.out (by have := hB.out.size; simp; omega) (own_base hO.out))⟩
      case measure => simp [intOf]; omega
    · obtain rfl : k = fs.length := by omega
      have hT : Hid (((fs.take fs.length).map (·.1)).map Value.string = (fs.map (·.1)).map Value.string) := by rw [List.take_length]; rfl
      rw [hT.out] at hO
      obtain ⟨a1, cap1, rfl, hS1⟩ := row_own (xs := fs.map (·.1)) hO.out (by omega) (fun x hx => by obtain ⟨y, hy, rfl⟩ := List.mem_map.1 hx; exact HNM.out y hy)
      have S1 := Lib.hid hS1
      clear hS1 hT
      have HRC : Hid (Calls Tryz.prog 81 #[.slice a1 fs.length cap1] wr (LackP r wr)) := by rw [← HR.out]; exact Nm.rrising_any _ _ _ _ _ S1.out
      go_wp2_with (go_at_call 81; refine HRC.out.mono ?_; rintro e w4 ⟨rfl, hB4⟩; have HB4 := Lib.hid hB4; clear hB4)
      go_ret
      exact ⟨rfl, bl_step hB.out HB4.out⟩
end Go.Proofs.YtddleeenlpigfaaGreatDoor
