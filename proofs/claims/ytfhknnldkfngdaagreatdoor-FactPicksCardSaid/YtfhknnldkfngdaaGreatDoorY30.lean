/- Bp, Br, Bs, Ea, Eb, Ec -/
import Derived.Laws.EntriesVeiled
import Derived.Test.YtfhknnldkfngdaaGreatDoorY29
/- PLAIN MATHEMATICS of depths; WALK of made. -/
namespace Go.Proofs.YtfhknnldkfngdaaGreatDoor
open Go.RowKit
theorem mx_ge : ∀ (l : List Int) (a : Int), a ≤ l.foldl max a
  | [], a => Int.le_refl a
  | x :: l, a => by rw [List.foldl_cons]; have := mx_ge l (max a x); omega
theorem mx_mem : ∀ (l : List Int) (a x : Int), x ∈ l → x ≤ l.foldl max a
  | y :: l, a, x, h => by
    rw [List.foldl_cons]
    rcases List.mem_cons.1 h with rfl | h
    · have := mx_ge l (max a x); omega
    · exact mx_mem l _ x h
theorem mx_le : ∀ (l : List Int) (a b : Int), a ≤ b → (∀ x ∈ l, x ≤ b) → l.foldl max a ≤ b
  | [], _, _, h, _ => h
  | x :: l, a, b, h, hx => by
    rw [List.foldl_cons]
    exact mx_le l _ b (by have := hx x (by simp); omega) fun y hy => hx y (by simp [hy])
theorem wrap_id {x : Int} (h0 : 0 ≤ x) (h1 : x ≤ 1000) : wrap64 x = x := wrap_small (by omega) (by omega)
theorem dep_mem {n : Nat} {A : List Tm} {x : Tm} {f : Fd} (hx : x ∈ A) (hf : f ∈ x.fs) : depV n f.2 ∈ deps (depV n) A := by
  unfold deps; exact List.mem_flatMap.2 ⟨x, hx, List.mem_map.2 ⟨f, hf, rfl⟩⟩
theorem dep_of {n : Nat} {A : List Tm} {d : Int} (h : d ∈ deps (depV n) A) : ∃ x ∈ A, ∃ f ∈ x.fs, d = depV n f.2 := by
  unfold deps at h
  obtain ⟨x, hx, h⟩ := List.mem_flatMap.1 h
  obtain ⟨f, hf, rfl⟩ := List.mem_map.1 h
  exact ⟨x, hx, f, hf, rfl⟩
/-- How deep what is right is. -/
theorem dep_rv : ∀ {n l : Nat} {A : List Tm}, l ≤ 100 → RV n l A → 1 ≤ depV n A ∧ depV n A ≤ l
  | 0, _, _, _, h => by unfold RV at h; exact h.elim
  | n + 1, 0, _, _, h => by unfold RV at h; exact h.elim
  | n + 1, l + 1, A, hl, h => by
    have h1 : mx (deps (depV n) A) ≤ l := mx_le _ _ _ (by omega) fun d hd => by
      obtain ⟨x, hx, f, hf, rfl⟩ := dep_of hd
      exact (dep_rv (by omega) (gt_f (h.1 x hx) hf).2.1).2
    have h0 : 0 ≤ mx (deps (depV n) A) := mx_ge _ 0
    show 1 ≤ wrap64 (1 + mx (deps (depV n) A)) ∧ wrap64 (1 + mx (deps (depV n) A)) ≤ ((l + 1 : Nat) : Int)
    rw [wrap_id (by omega) (by omega)]
    omega
theorem RT.impF {g h : List Tm → Prop} {x : Tm} (gh : ∀ f ∈ x.fs, h f.2) (r : RT g x) : RT h x := by
  unfold RT at *
  split
  · rename_i h5; rw [if_pos h5] at r; exact r
  · rename_i h5
    rw [if_neg h5] at r
    split
    · rename_i h4
      rw [if_pos h4] at r
      obtain ⟨a, b, c, d, e, ⟨f1, f2, f3⟩, g'⟩ := r
      exact ⟨a, b, c, d, e, ⟨f1, f2, gh⟩, g'⟩
    · rename_i h4; rw [if_neg h4] at r; exact r
theorem dep_down : ∀ {n l k : Nat} {A : List Tm}, l ≤ 100 → RV n l A → depV n A ≤ k → RV n k A
  | 0, _, _, _, _, h, _ => by unfold RV at h; exact h.elim
  | n + 1, 0, _, _, _, h, _ => by unfold RV at h; exact h.elim
  | n + 1, l + 1, k, A, hl, h, hk => by
    have hd := dep_rv hl h
    have h1 : mx (deps (depV n) A) ≤ l := mx_le _ _ _ (by omega) fun d hd => by
      obtain ⟨x, hx, f, hf, rfl⟩ := dep_of hd
      exact (dep_rv (by omega) (gt_f (h.1 x hx) hf).2.1).2
    have h0 : 0 ≤ mx (deps (depV n) A) := mx_ge _ 0
    have e : depV (n + 1) A = 1 + mx (deps (depV n) A) := by
      show wrap64 (1 + mx (deps (depV n) A)) = _
      exact wrap_id (by omega) (by omega)
    cases k with
    | zero => omega
    | succ k =>
      refine ⟨fun x hx => (h.1 x hx).impF fun f hf => dep_down (by omega) (gt_f (h.1 x hx) hf).2.1 ?_, h.2⟩
      have := mx_mem (deps (depV n) A) 0 _ (dep_mem hx hf)
      have e2 : mx (deps (depV n) A) = (deps (depV n) A).foldl max 0 := rfl
      omega
/-- A right term, of which we don't know whether it is too deep for a value. -/
abbrev Gr1 (n : Nat) (x : Tm) : Prop := RT (RG n) x
theorem Gr1.gt {n : Nat} {x : Tm} (h : Gr1 n x) : Gt n 16 x := h.imp fun _ h => h.1
theorem Gr1.w {n : Nat} {x : Tm} (h : Gr1 n x) : wF n x.fs ≤ 16384 := by
  by_cases h4 : x.k = 4
  · have hr : RF (RG n) x.fs := by
      have h' : RT (RG n) x := h
      unfold RT at h'
      rw [if_neg (by omega), if_pos h4] at h'
      exact h'.2.2.2.2.2.1
    have sum : ∀ L : List Fd, (∀ f ∈ L, wN n f.2 ≤ 512) → wF n L ≤ L.length * 512 := fun L => by
      induction L with
      | nil => intro _; simp [wF]
      | cons f L ih =>
        intro h
        rw [wF_cons, List.length_cons]
        have := h f (by simp)
        have := ih fun f hf => h f (by simp [hf])
        omega
    have := sum x.fs fun f hf => (hr.2.2 f hf).2
    have := hr.1
    omega
  · rw [gt_flat h.gt h4]; simp [wF]
/-- Is a term too deep for a value? -/
def tooDeep (n : Nat) (x : Tm) : Bool := decide (16 < depV (n + 1) [x])
theorem Gr1.deep {n : Nat} {x : Tm} (h : Gr1 n x) (hd : tooDeep n x = false) : Gt n 15 x := by
  have h1 : ¬ 16 < depV (n + 1) [x] := of_decide_eq_false hd
  have hg := h.gt
  refine hg.impF fun f hf => dep_down (l := 16) (by omega) (gt_f hg hf).2.1 ?_
  have hm : ∀ d ∈ deps (depV n) [x], 1 ≤ d ∧ d ≤ 16 := fun d hd => by
    obtain ⟨y, hy, f, hf, rfl⟩ := dep_of hd
    rw [List.mem_singleton.1 hy] at hf
    have := dep_rv (l := 16) (by omega) (gt_f hg hf).2.1
    omega
  have h2 : mx (deps (depV n) [x]) ≤ 16 := mx_le _ _ _ (by omega) fun d hd => (hm d hd).2
  have h0 : 0 ≤ mx (deps (depV n) [x]) := mx_ge _ 0
  have e : depV (n + 1) [x] = 1 + mx (deps (depV n) [x]) := by
    show wrap64 (1 + mx (deps (depV n) [x])) = _
    exact wrap_id (by omega) (by omega)
  have := mx_mem (deps (depV n) [x]) 0 _ (dep_mem (by simp) hf)
  have e2 : mx (deps (depV n) [x]) = (deps (depV n) [x]).foldl max 0 := rfl
  omega
theorem deep_gt {n : Nat} {x : Tm} (h : Gt n 15 x) : tooDeep n x = false := by
  have h1 : mx (deps (depV n) [x]) ≤ 15 := mx_le _ _ _ (by omega) fun d hd => by
    obtain ⟨y, hy, f, hf, rfl⟩ := dep_of hd
    rw [List.mem_singleton.1 hy] at hf
    have := (dep_rv (l := 15) (by omega) (gt_f h hf).2.1).2
    omega
  have h0 : 0 ≤ mx (deps (depV n) [x]) := mx_ge _ 0
  refine decide_eq_false ?_
  show ¬ 16 < wrap64 (1 + mx (deps (depV n) [x]))
  rw [wrap_id (by omega) (by omega)]
  omega
/-- The value of right terms. -/
def madeV (n : Nat) (A : List Tm) : Int × List Tm := if A.any (tooDeep n) = true then (22, []) else nrm n A
theorem made_rg {n : Nat} {A : List Tm} (h : ∀ x ∈ A, Gr1 n x) : (madeV n A = (22, []) ∨ madeV n A = (30, [])) ∨ ∃ M, madeV n A = (0, M) ∧ RG (n + 1) M := by
  unfold madeV
  by_cases hd : A.any (tooDeep n) = true
  · rw [if_pos hd]; exact .inl (.inl rfl)
  · rw [if_neg hd]
    have hg : ∀ x ∈ A, Gt n 15 x := fun x hx => (h x hx).deep (by
      cases e : tooDeep n x
      · rfl
      · exact (hd (List.any_eq_true.2 ⟨x, hx, e⟩)).elim)
    rcases nrm_cases n A with ⟨e, _⟩ | ⟨e, hw⟩
    · exact .inl (.inr e)
    · exact .inr ⟨_, e, norm_rv hg fun x hx => gt_dt (hg x hx), hw⟩
end Go.Proofs.YtfhknnldkfngdaaGreatDoor
/- WALKS of made, Struct, number, Any. -/
namespace Go.Proofs.YtfhknnldkfngdaaGreatDoor
open Go.RowKit
/-- Those of the first k that are too deep: none. -/
def NoDeep (n : Nat) (A : List Tm) (k : Nat) : Prop := ∀ j (h : j < A.length), j < k → tooDeep n A[j] = false
theorem NoDeep.end {n : Nat} {A : List Tm} (h : NoDeep n A A.length) : madeV n A = nrm n A := by
  unfold madeV
  rw [if_neg]
  rw [Bool.not_eq_true, List.any_eq_false]
  intro x hx
  obtain ⟨j, hj, rfl⟩ := List.getElem_of_mem hx
  rw [h j hj hj]; decide
theorem deep_is {n : Nat} {A : List Tm} {k : Nat} (hk : k < A.length) (h : tooDeep n A[k] = true) : madeV n A = (22, []) := by
  unfold madeV
  rw [if_pos (List.any_eq_true.2 ⟨_, List.getElem_mem hk, h⟩)]
set_option maxRecDepth 100000 in
set_option maxHeartbeats 8000000 in
theorem made_any (n : Nat) (w : World) (t : Option Addr) (tl tc : Nat) (A : List Tm) (h : InV w (n + 1) t tl tc A) (hr : ∀ x ∈ A, Gr1 n x) (hbig : tl ≤ 512) :
    Calls Tryz.prog 52 #[.slice t tl tc] w (LmP (n + 1) (madeV n A) w) := by
  obtain rfl : A.length = tl := h.1
  obtain ⟨d, hd, hok, hrow⟩ := heads h
  have hdl : d.length = A.length := by rw [← hd, List.length_map]
  have HD := Lib.hid (And.intro hd (And.intro hok hrow))
  have HDL := Lib.hid hdl
  have HV := Lib.hid h
  have HR := Lib.hid hr
  have hl2 : (A.length : Int) ≤ 512 := by omega
  have HNE : Hid (0 < A.length → ∃ b off, t = some ⟨b, off, none⟩) := fun h0 => by
    obtain ⟨b, off, e, _⟩ := h.2.2 0 h0; exact ⟨b, off, e⟩
  obtain ⟨rr, hrr⟩ : ∃ rr, madeV n A = rr := ⟨_, rfl⟩
  rw [hrr]
  have HRR := Lib.hid hrr
  have hrg := made_rg hr
  rw [hrr] at hrg
  have HSL : Hid (SlimV (n + 1) rr.2) := by
    rcases hrg with (h | h) | ⟨M, h, hr⟩
    · rw [h]; exact ⟨by decide, fun i hi => absurd hi (Nat.not_lt_zero _)⟩
    · rw [h]; exact ⟨by decide, fun i hi => absurd hi (Nat.not_lt_zero _)⟩
    · rw [h]; exact hr.slim
  clear h hd hok hrow hdl hr hbig hrr hrg
  go_enter Tryz.func52, Tryz.ntmps52
  go_upto_region 1 with fail
  have HXE : ∃ X, w.alloc (.cells #[.slice none 0 0] 24) = X := ⟨_, rfl⟩
  obtain ⟨X, hX⟩ := HXE
  have HXB : Hid (Below w.heap.size w X ∧ Cx X w.heap.size 0 (.slice none 0 0) ∧ X.heap.size = w.heap.size + 1) := by
    rw [← hX]; exact ⟨bl_alloc (Below.refl _ _), ⟨by simp, by simp [go_sem], by simp [go_sem]⟩, by simp⟩
  rw [hX]
  clear hX
  go_wp2_with fail
  go_loopw [10] (fun i wr => ∃ k : Nat, k ≤ A.length ∧ i = .int .i64 k ∧ Hid (NoDeep n A k) ∧ Hid (Below X.heap.size X wr)) (fun i _ => A.length - (intOf i).toNat)
  case atStart => exact ⟨0, Nat.zero_le _, rfl, fun j _ hj => absurd hj (Nat.not_lt_zero _), Below.refl _ _⟩
  case round =>
    obtain ⟨k, hk, rfl, hN, hB⟩ := hrel
    rename World => wr
    by_cases hlt : k < A.length
    · have hki : (k : Int) < (A.length : Int) := by omega
      have hk0 : (0 : Int) ≤ (k : Int) := by omega
      obtain ⟨b1, off1, rfl⟩ := HNE.out (by omega)
      have hkd : k < d.length := by rw [HDL.out]; exact hlt
      obtain ⟨lt1, q0, q1, q2, q3, q4, q5, q6, q7⟩ := HD.out.2.2 b1 off1 rfl k hkd
      have HOK := Lib.hid (HD.out.2.1 _ (List.getElem_mem hkd))
      have hxa : d[k].x = A[k] := by
        have := congrArg (fun l => l[k]?) HD.out.1
        simpa [hkd, hlt] using this
      have hbw := bl_step HXB.out.1 hB.out
      replace q0 := (hbw.cell (p := ⟨b1, off1 + k * 8, none⟩) lt1).trans q0
      replace q1 := (hbw.cell (p := ⟨b1, off1 + k * 8 + 1, none⟩) lt1).trans q1
      replace q2 := (hbw.cell (p := ⟨b1, off1 + k * 8 + 2, none⟩) lt1).trans q2
      replace q3 := (hbw.cell (p := ⟨b1, off1 + k * 8 + 3, none⟩) lt1).trans q3
      replace q4 := (hbw.cell (p := ⟨b1, off1 + k * 8 + 4, none⟩) lt1).trans q4
      replace q5 := (hbw.cell (p := ⟨b1, off1 + k * 8 + 5, none⟩) lt1).trans q5
      replace q6 := (hbw.cell (p := ⟨b1, off1 + k * 8 + 6, none⟩) lt1).trans q6
      replace q7 := (hbw.cell (p := ⟨b1, off1 + k * 8 + 7, none⟩) lt1).trans q7
      have HXA := Lib.hid hxa
      have HBW := Lib.hid hbw
      clear hbw lt1 hxa
      generalize d[k] = ha at *
      obtain ⟨dp, hdp⟩ : ∃ dp, depV (n + 1) [A[k]] = dp := ⟨_, rfl⟩
      have HDP := Lib.hid hdp
      have HDC : Hid (∀ (W : World) (g : Nat), Below wr.heap.size wr W → g < W.heap.size → Tc W g ha.x.k ha.x.lo ha.x.hi ha.x.s ha.x.y ha.x.m ha.x.o ha.f ha.fl ha.fc → Calls Tryz.prog 70 #[.agg #[.slice (some ⟨g, 0, none⟩) 1 1]] W fun e w' => e = .returned (.int .i64 dp) ∧ Below W.heap.size W w') := fun W g hW hg hT => by
        have hv := alone_inV (n := n) (fs := ha.x.fs) hg hT (by
          have := (HOK.out.below HBW.out).below hW
          obtain ⟨⟨k', lo, hi', s, y, m, o, fs⟩, f, fl, fc⟩ := ha
          exact this)
        have := depth_in (n + 1) W (some ⟨g, 0, none⟩) 1 1 _ hv
        rw [← hdp, ← HXA.out]
        obtain ⟨⟨k', lo, hi', s, y, m, o, fs⟩, f, fl, fc⟩ := ha
        exact this
      clear hdp
      by_cases hdeep : 16 < dp
      · have hv : rr = (22, []) := by rw [← HRR.out]; exact deep_is hlt (decide_eq_true (by rw [HDP.out]; exact hdeep))
        subst hv
        go_wp2_with (first
          | (go_at_call 71; (with_reducible refine (alone_any _ _ _ _ _ _ _ _ _ _ _).mono ?_); rintro e w3 ⟨ga, rfl, hBa, hga, hgal, hTa⟩; have HBa := Lib.hid (bl_step (bl_alloc (Below.refl wr.heap.size wr)) hBa); have HTa := Lib.hid (And.intro hgal hTa); clear hBa hga hgal hTa)
          | (go_at_call 70; refine (HDC.out _ _ HBa.out HTa.out.1 HTa.out.2).mono ?_; rintro e w4 ⟨rfl, hB4⟩; have HB4 := Lib.hid (bl_step HBa.out hB4); clear hB4)
          | (go_at_call 50; refine (none_any _).mono ?_; rintro e w5 ⟨rfl, hB5⟩; obtain ⟨rz, rc, rf⟩ := HXB.out.2.1.later (bl_step hB.out (bl_step HB4.out hB5)); have HB5 := Lib.hid (bl_step HBW.out (bl_step HB4.out hB5)); clear hB5))
        exact bodyPost_ret (v := .tuple #[.agg #[.slice none 0 0], .int .i64 22]) (by simp [results, Tryz.results52, go_sem, set_here rc]) rfl ⟨none, 0, 0, rfl, bl_set HB5.out (Nat.le_refl _), inV_nil⟩
      · have HND : Hid (tooDeep n A[k] = false) := decide_eq_false (by rw [HDP.out]; exact hdeep)
        go_wp2_with (first
          | (go_at_call 71; (with_reducible refine (alone_any _ _ _ _ _ _ _ _ _ _ _).mono ?_); rintro e w3 ⟨ga, rfl, hBa, hga, hgal, hTa⟩; have HBa := Lib.hid (bl_step (bl_alloc (Below.refl wr.heap.size wr)) hBa); have HTa := Lib.hid (And.intro hgal hTa); clear hBa hga hgal hTa)
          | (go_at_call 70; refine (HDC.out _ _ HBa.out HTa.out.1 HTa.out.2).mono ?_; rintro e w4 ⟨rfl, hB4⟩; have HB4 := Lib.hid (bl_step HBa.out hB4); clear hB4))
        go_roundw
        case rel => exact ⟨k + 1, by omega, by go_num, fun j hj hjk => (by
          by_cases e : j = k
          · subst e; exact HND.out
          · exact hN.out j hj (by omega)), bl_step hB.out HB4.out⟩
        case measure => simp [intOf]; omega
    · have ek : k = A.length := by omega
      subst ek
      have hv : rr = nrm n A := by rw [← HRR.out]; exact hN.out.end
      have HBW := Lib.hid (bl_step HXB.out.1 hB.out)
      have HLF : Hid (Calls Tryz.prog 72 #[.slice t A.length tc] wr fun e w' => ∃ (t3 : Option Addr) (tl3 tc3 : Nat), e = .returned (.tuple #[.agg #[.slice t3 tl3 tc3], .int .i64 rr.1]) ∧ Below wr.heap.size wr w' ∧ InV w' (n + 1) t3 tl3 tc3 rr.2) := by
        have := left_in n wr t A.length tc A (HV.out.below HBW.out) (by omega) (fun x hx => ⟨16, (HR.out x hx).gt⟩) (fun x hx => Nat.le_trans (HR.out x hx).w (by omega))
        refine this.mono ?_
        rintro e w' ⟨t3, tl3, tc3, er, he, hB, hc⟩
        rw [hv]
        unfold nrm
        rcases hc with ⟨c1, rfl, c3⟩ | ⟨c1, rfl, rfl, rfl, rfl⟩
        · rw [if_neg (by omega)]; exact ⟨t3, tl3, tc3, he, hB, c3⟩
        · rw [if_pos c1]; exact ⟨none, 0, 0, he, hB, inV_nil⟩
      obtain ⟨re, M⟩ := rr
      clear hv
      go_wp2_with (first
        | (go_at_call 72; (with_reducible refine HLF.out.mono ?_); rintro e w4 ⟨t3, tl3, tc3, rfl, hB4, hv4⟩; have HB4 := Lib.hid (bl_step hB.out hB4); have HV4 := Lib.hid hv4; clear hB4 hv4)
        | (go_at_call 73; refine (copy_in (n + 1) _ _ _ _ M (HV4.out.below (bl_alloc (Below.refl _ _))) HSL.out).mono ?_; rintro e w5 ⟨t5, tc5, rfl, hB5, ho5⟩; obtain ⟨rz, rc, rf⟩ := HXB.out.2.1.later (bl_step (bl_alloc HB4.out) hB5); have HB5 := Lib.hid (bl_step HXB.out.1 (bl_step (bl_alloc HB4.out) hB5)); have HO5 := Lib.hid ho5; clear hB5 ho5))
      refine bodyPost_ret (v := .tuple #[.agg #[.slice t5 tl3 tc5], .int .i64 re]) (by simp [results, Tryz.results52, go_sem, set_here rc]) rfl ⟨t5, tl3, tc5, rfl, bl_set HB5.out (Nat.le_refl _), ?_⟩
      have hs := HXB.out.2.2
      refine OwV.inV (P := fun _ => True) (HO5.out.to (Nat.le_of_eq set_size.symm) fun b hb _ => ⟨trivial, set_heap ?_⟩)
      have h1 := HB4.out.size
      rw [new_size] at hb
      omega
end Go.Proofs.YtfhknnldkfngdaaGreatDoor
/- WALKS of number, Any, Struct. -/
namespace Go.Proofs.YtfhknnldkfngdaaGreatDoor
open Go.RowKit
/-- From one world to another one, in which but one block is other: that one holds a slice. -/
theorem cell_slice {w : World} {N : Nat} {a : Option Addr} {l c ty : Nat} (h : w.heap[N]? = some (.cells #[.slice a l c] ty)) (off : Nat) : (∀ k x, w.cell? ⟨N, off, none⟩ ≠ some (.int k x)) ∧ ∀ x, w.cell? ⟨N, off, none⟩ ≠ some (.string x) := by
  have e : w.cell? ⟨N, off, none⟩ = #[Value.slice a l c][off]? := by simp [World.cell?, h]
  rw [e]
  cases off with
  | zero => exact ⟨fun k x h => by simp at h, fun x h => by simp at h⟩
  | succ j => exact ⟨fun k x h => by simp at h, fun x h => by simp at h⟩
section
variable {w w' : World} {N : Nat} {a : Option Addr} {l c ty : Nat} (hs : w.heap.size ≤ w'.heap.size) (hb : ∀ b, b ≠ N → w'.heap[b]? = w.heap[b]?) (hN : w.heap[N]? = some (.cells #[.slice a l c] ty))
include hs hb hN
theorem InF.but {I J : Option Addr → Nat → Nat → List Tm → Prop} (hIJ : ∀ t tl tc V, I t tl tc V → J t tl tc V) {f : Option Addr} {fl : Nat} {fs : List (ByteArray × List Tm)} (h : InF I w f fl fs) : InF J w' f fl fs := by
  refine ⟨h.1, h.2.1, fun i hi => ?_⟩
  obtain ⟨b, off, tl, tc, t, e, lt, c0, c1, h2⟩ := h.2.2 i hi
  have hne : b ≠ N := fun e => by subst e; exact (cell_slice hN _).2 _ c0
  exact ⟨b, off, tl, tc, t, e, Nat.lt_of_lt_of_le lt hs, (cell_of_heap (hb b hne) _).trans c0, (cell_of_heap (hb b hne) _).trans c1, hIJ _ _ _ _ h2⟩
theorem InV.but : ∀ {n : Nat} {t : Option Addr} {tl tc : Nat} {V : List Tm}, InV w n t tl tc V → InV w' n t tl tc V
  | 0, _, _, _, _, h => h.elim
  | n + 1, t, tl, tc, V, h => by
    refine ⟨h.1, h.2.1, fun i hi => ?_⟩
    obtain ⟨b, off, e, hT⟩ := h.2.2 i hi
    refine ⟨b, off, e, ?_⟩
    generalize V[i] = x at hT
    obtain ⟨k, lo, hi, s, y, m, o, fs⟩ := x
    obtain ⟨lt, f, fl, fc, c0, c1, c2, c3, c4, c5, c6, c7, hf⟩ := hT
    have hne : b ≠ N := fun e => by subst e; exact (cell_slice hN _).1 _ _ c0
    have e : ∀ i, w'.cell? ⟨b, i, none⟩ = w.cell? ⟨b, i, none⟩ := fun i => cell_of_heap (hb b hne) i
    exact ⟨Nat.lt_of_lt_of_le lt hs, f, fl, fc, (e _).trans c0, (e _).trans c1, (e _).trans c2, (e _).trans c3, (e _).trans c4, (e _).trans c5, (e _).trans c6, (e _).trans c7, hf.but hs hb hN (fun _ _ _ _ h => h.but)⟩
end
/-- A value of one term without fields, of the call's own. -/
def OneP (k lo hi : Int) (w : World) (e : Ending) (w' : World) : Prop :=
  ∃ g, e = .returned (.agg #[.slice (some ⟨g, 0, none⟩) 1 1]) ∧ Below w.heap.size w w' ∧ g < w'.heap.size ∧ Tc w' g k lo hi ⟨#[]⟩ false false false none 0 0
theorem OneP.inV {k lo hi : Int} {w' : World} {g : Nat} (hg : g < w'.heap.size) (hT : Tc w' g k lo hi ⟨#[]⟩ false false false none 0 0) (n : Nat) : InV w' (n + 1) (some ⟨g, 0, none⟩) 1 1 [.mk k lo hi ⟨#[]⟩ false false false []] :=
  alone_inV hg hT ⟨rfl, (show ((0 : Nat) : Int) ≤ 9223372036854775807 by decide), fun i hi => absurd hi (Nat.not_lt_zero _)⟩
/-- Struct's value. -/
noncomputable def structV (n : Nat) (o : Bool) (fs : List (ByteArray × List Tm)) : Int × List Tm :=
  open Classical in if RFb (fun i => rgV n (fAt fs i).2) fs then (if ∃ f ∈ fs, f.2 = [] then (0, []) else madeV n [.mk 4 0 0 ⟨#[]⟩ false false o fs]) else (1, [])
theorem rfb_rf {n : Nat} {fs : List (ByteArray × List Tm)} (h : RFb (fun i => rgV n (fAt fs i).2) fs) : RF (RG n) fs :=
  ⟨h.1, h.2.1, fun f hf => by
    obtain ⟨i, hi, rfl⟩ := List.getElem_of_mem hf
    have := h.2.2 i hi
    dsimp only at this
    rw [fAt_eq hi] at this
    exact rgV_yes.1 this⟩
theorem four_gr {n : Nat} {o : Bool} {fs : List (ByteArray × List Tm)} (h : RF (RG n) fs) (he : ∀ f ∈ fs, f.2 ≠ []) : Gr1 n (.mk 4 0 0 ⟨#[]⟩ false false o fs) := by
  show RT (RG n) _
  unfold RT
  rw [if_neg (by show ¬ (4 : Int) = 5; decide), if_pos (by rfl)]
  exact ⟨rfl, rfl, rfl, rfl, rfl, h, he⟩
end Go.Proofs.YtfhknnldkfngdaaGreatDoor
/- WALKS of Atom, throughout and the functions that are handed on. -/
namespace Go.Proofs.YtfhknnldkfngdaaGreatDoor
open Go.RowKit
/-- Is a term an atom? -/
def atomB (x : Tm) : Bool := rightB x.k x.lo x.hi x.s x.y x.m x.o x.fs.length && singleB x.k x.lo x.hi x.y
theorem right_as (b : Bool) (k lo hi : Int) (s : ByteArray) (y m o : Bool) (f : Option Addr) (fl fc : Nat) (w : World) (h : Hid (rightB k lo hi s y m o fl = b)) : Calls Tryz.prog 60 #[tv k lo hi s y m o f fl fc] w (LackP b w) := by
  rw [← h.out]; exact right_any k lo hi s y m o f fl fc w
theorem single_as (b : Bool) (k lo hi : Int) (s : ByteArray) (y m o : Bool) (f : Option Addr) (fl fc : Nat) (w : World) (h : Hid (singleB k lo hi y = b)) : Calls Tryz.prog 61 #[tv k lo hi s y m o f fl fc] w (LackP b w) := by
  rw [← h.out]; exact single_any k lo hi s y m o f fl fc w
set_option maxRecDepth 100000 in
set_option maxHeartbeats 2000000 in
theorem atom_any (k lo hi : Int) (s : ByteArray) (y m o : Bool) (f : Option Addr) (fl fc : Nat) (w : World) : Calls Tryz.prog 36 #[tv k lo hi s y m o f fl fc] w (LackP (rightB k lo hi s y m o fl && singleB k lo hi y) w) := by
  cases h1 : rightB k lo hi s y m o fl
  · have H1 := Lib.hid h1
    clear h1
    go_enter Tryz.func36, Tryz.ntmps36
    go_wp2_with (go_at_call 60; (with_reducible refine (right_as _ _ _ _ _ _ _ _ _ _ _ _ H1).mono ?_); rintro e w1 ⟨rfl, hb⟩; have HB := Lib.hid hb; obtain ⟨hc, hf⟩ := bcell hb; clear hb)
    go_ret
    exact ⟨rfl, bl_step (bl_alloc (Below.refl _ _)) HB.out⟩
  · have H1 := Lib.hid h1
    obtain ⟨b, hb2⟩ : ∃ b, singleB k lo hi y = b := ⟨_, rfl⟩
    have H2 := Lib.hid hb2
    rw [hb2]
    clear h1 hb2
    go_enter Tryz.func36, Tryz.ntmps36
    go_wp2_with (first
      | (go_at_call 60; (with_reducible refine (right_as _ _ _ _ _ _ _ _ _ _ _ _ H1).mono ?_); rintro e w1 ⟨rfl, hb⟩; have HB := Lib.hid hb; obtain ⟨hc, hf⟩ := bcell hb; clear hb)
      | (go_at_call 61; (with_reducible refine (single_as _ _ _ _ _ _ _ _ _ _ _ _ H2).mono ?_); rintro e w2 ⟨rfl, hb⟩; have HB2 := Lib.hid hb; clear hb))
    go_ret
    exact ⟨rfl, bl_step (bl_step (bl_alloc (Below.refl _ _)) HB.out) HB2.out⟩
theorem atom_as (b : Bool) (k lo hi : Int) (s : ByteArray) (y m o : Bool) (f : Option Addr) (fl fc : Nat) (w : World) (h : Hid ((rightB k lo hi s y m o fl && singleB k lo hi y) = b)) : Calls Tryz.prog 36 #[tv k lo hi s y m o f fl fc] w (LackP b w) := by
  rw [← h.out]; exact atom_any k lo hi s y m o f fl fc w
set_option maxRecDepth 100000 in
set_option maxHeartbeats 2000000 in
/-- Ready's own function. -/
theorem known_any (k lo hi : Int) (s : ByteArray) (y m o : Bool) (f : Option Addr) (fl fc : Nat) (w : World) : Calls Tryz.prog 38 #[tv k lo hi s y m o f fl fc] w (LackP (m || (rightB k lo hi s y m o fl && singleB k lo hi y)) w) := by
  cases m
  · obtain ⟨b, hb2⟩ : ∃ b, (rightB k lo hi s y false o fl && singleB k lo hi y) = b := ⟨_, rfl⟩
    have H2 := Lib.hid hb2
    rw [hb2]
    clear hb2
    go_enter Tryz.func38, Tryz.ntmps38
    go_wp2_with (go_at_call 36; (with_reducible refine (atom_as _ _ _ _ _ _ _ _ _ _ _ _ H2).mono ?_); rintro e w1 ⟨rfl, hb⟩; have HB := Lib.hid hb; clear hb)
    go_ret
    exact ⟨rfl, bl_step (bl_alloc (Below.refl _ _)) HB.out⟩
  · go_enter Tryz.func38, Tryz.ntmps38
    go_wp2_with fail
    go_ret
    exact ⟨rfl, bl_alloc (Below.refl _ _)⟩
set_option maxRecDepth 100000 in
set_option maxHeartbeats 2000000 in
/-- Waits' own function. -/
theorem late_any (k lo hi : Int) (s : ByteArray) (y m o : Bool) (f : Option Addr) (fl fc : Nat) (w : World) : Calls Tryz.prog 39 #[tv k lo hi s y m o f fl fc] w (LackP m w) := by
  go_enter Tryz.func39, Tryz.ntmps39
  go_wp2_with fail
  go_ret
  exact ⟨rfl, bl_alloc (Below.refl _ _)⟩
/-- A function that is asked of terms. -/
def AskT (g : Nat) (Q : Tm → Bool) : Prop := ∀ (x : Tm) (f : Option Addr) (fc : Nat) (W : World), Calls Tryz.prog g #[tv x.k x.lo x.hi x.s x.y x.m x.o f x.fs.length fc] W (LackP (Q x) W)
theorem ask_atom : AskT 36 atomB := fun _ _ _ _ => atom_any _ _ _ _ _ _ _ _ _ _ _
theorem ask_known : AskT 38 (fun x => x.m || atomB x) := fun _ _ _ _ => known_any _ _ _ _ _ _ _ _ _ _ _
theorem ask_late : AskT 39 (·.m) := fun _ _ _ _ => late_any _ _ _ _ _ _ _ _ _ _ _
theorem enters36 : ∀ args w, (callFunc 36 args).run Tryz.prog w = .ok (.enter 36 args) w := enters_of Tryz.func36 (by kernel_rfl) rfl
theorem enters38 : ∀ args w, (callFunc 38 args).run Tryz.prog w = .ok (.enter 38 args) w := enters_of Tryz.func38 (by kernel_rfl) rfl
theorem enters39 : ∀ args w, (callFunc 39 args).run Tryz.prog w = .ok (.enter 39 args) w := enters_of Tryz.func39 (by kernel_rfl) rfl
theorem enters59 : ∀ args w, (callFunc 59 args).run Tryz.prog w = .ok (.enter 59 args) w := enters_of Tryz.func59 (by kernel_rfl) rfl
/-- All of a value that is one thing. -/
def thrV (Q : Tm → Bool) : Nat → List Tm → Bool
  | 0, _ => false
  | n + 1, A => match A with
    | [x] => if x.k = 4 then !(x.fs.any fun f => !thrV Q n f.2) else Q x
    | _ => false
def ThH (Q : Tm → Bool) (g n : Nat) : Prop := ∀ (W : World) (t : Option Addr) (tl tc : Nat) (A : List Tm), InV W n t tl tc A → Calls Tryz.prog 35 #[.agg #[.slice t tl tc], .func (.func g) #[] #[]] W (LackP (thrV Q n A) W)
set_option maxRecDepth 100000 in
set_option maxHeartbeats 2000000 in
theorem thr_one (Q : Tm → Bool) (g n : Nat) (ih : ThH Q g n) (W : World) (N : Nat) (nm : ByteArray) (t : Option Addr) (tl tc : Nat) (V : List Tm) (h : InV W n t tl tc V) (hN : Cx W N 0 (.func (.func g) #[] #[])) :
    Calls Tryz.prog 59 #[.agg #[.string nm, .slice t tl tc], .pointer (some ⟨N, 0, none⟩)] W (LackP (!thrV Q n V) W) := by
  have HI : Hid (∀ X, Below W.heap.size W X → Calls Tryz.prog 35 #[.agg #[.slice t tl tc], .func (.func g) #[] #[]] X (LackP (thrV Q n V) X)) := fun X hX => ih X t tl tc V (InV.below hX h)
  obtain ⟨l1, c1, f1⟩ := hN
  clear ih h
  go_enter Tryz.func59, Tryz.ntmps59
  go_wp2_with (go_at_call 35; refine (HI.out _ (bl_alloc (Below.refl _ _))).mono ?_; rintro e w1 ⟨rfl, hb⟩; have HB := Lib.hid hb; clear hb)
  go_ret
  exact ⟨rfl, bl_step (bl_alloc (Below.refl _ _)) HB.out⟩
theorem any_is {fs : List (ByteArray × List Tm)} {p : ByteArray × List Tm → Bool} {q : Bool} (h0 : q = false → ∀ i, i < fs.length → p (fAt fs i) = false) (h1 : q = true → ∃ i, i < fs.length ∧ p (fAt fs i) = true) : q = fs.any p := by
  cases q
  · symm
    rw [List.any_eq_false]
    intro x hx
    obtain ⟨i, hi, rfl⟩ := List.getElem_of_mem hx
    have := h0 rfl i hi
    rw [fAt_eq hi] at this
    rw [this]; simp
  · symm
    rw [List.any_eq_true]
    obtain ⟨i, hi, h⟩ := h1 rfl
    rw [fAt_eq hi] at h
    exact ⟨_, List.getElem_mem hi, h⟩
theorem contains_thr (Q : Tm → Bool) (g n : Nat) (ih : ThH Q g n) (W : World) (N : Nat) (f : Option Addr) (fl fc : Nat) (fs : List (ByteArray × List Tm)) (hF : InF (fun t tl tc V => InV W n t tl tc V) W f fl fs) (hN : Cx W N 0 (.func (.func g) #[] #[])) :
    Calls Tryz.prog 58 #[.slice f fl fc, .func (.func 59) #[] #[.pointer (some ⟨N, 0, none⟩)]] W (LackP (fs.any fun f => !thrV Q n f.2) W) := by
  refine (contains_any W.heap.size (fun t tl tc V => InV W n t tl tc V) 59 _ enters59 (fun _ X => Below W.heap.size W X) (fun i => !thrV Q n (fAt fs i).2) W f fl fc fs hF (fun _ _ h => h) (fun i X hi t tl tc hX hV => ?_) W (Below.refl _ _)).mono ?_
  · simp only [fAt_eq hi]
    exact (thr_one Q g n ih X N fs[i].1 t tl tc fs[i].2 (InV.below hX hV) (hN.later hX)).mono fun _ _ ⟨a, b⟩ => ⟨a, Kp.of b, fun _ => bl_step hX b⟩
  · rintro e w1 ⟨q, rfl, hk, h0, h1⟩
    have hl : fs.length = fl := hF.1
    refine ⟨?_, Below.of_kp hk⟩
    rw [any_is (fs := fs) (p := fun f => !thrV Q n f.2) (q := q) (fun e i hi => (h0 e).1 i (by omega)) (fun e => by obtain ⟨i, hi, h2⟩ := h1 e; exact ⟨i, by omega, h2⟩)]
theorem thrV_many {Q : Tm → Bool} {n : Nat} {A : List Tm} (h : A.length ≠ 1) : thrV Q (n + 1) A = false := by
  match A, h with
  | [], _ => rfl
  | [x], h => exact absurd rfl h
  | _ :: _ :: _, _ => rfl
set_option maxRecDepth 100000 in
set_option maxHeartbeats 4000000 in
theorem thr_step (Q : Tm → Bool) (g n : Nat) (ha : AskT g Q) (eg : ∀ args w, (callFunc g args).run Tryz.prog w = .ok (.enter g args) w) (ih : ThH Q g n) : ThH Q g (n + 1) := by
  intro w t tl tc A h
  obtain ⟨hl, hm, hel⟩ := h
  by_cases h1 : A.length = 1
  · obtain ⟨x, rfl⟩ := List.length_eq_one_iff.1 h1
    obtain rfl : tl = 1 := by simpa using hl.symm
    obtain ⟨b2, off2, rfl, i2⟩ := hel 0 (by simp)
    rw [Nat.zero_mul, Nat.add_zero] at i2
    obtain ⟨lt2, f, fl, fc, d0, d1, d2, d3, d4, d5, d6, d7, hF⟩ := i2.cells
    simp only [List.getElem_cons_zero] at *
    by_cases hk : x.k = 4
    · have HV : Hid (thrV Q (n + 1) [x] = !(x.fs.any fun f => !thrV Q n f.2)) := Lib.hid (if_pos hk)
      have HC : Hid (∀ X N, Below w.heap.size w X → Cx X N 0 (.func (.func g) #[] #[]) → Calls Tryz.prog 58 #[.slice f fl fc, .func (.func 59) #[] #[.pointer (some ⟨N, 0, none⟩)]] X (LackP (x.fs.any fun f => !thrV Q n f.2) X)) :=
        Lib.hid fun X N hX hN => contains_thr Q g n ih X N f fl fc x.fs (hF.below (fun _ _ _ _ h => InV.below hX h) hX) hN
      have hk4 : ((x.k) != 4) = false := by simp [hk]
      clear ih ha hel i2 hF h1 hl
      go_enter Tryz.func35, Tryz.ntmps35
      go_wp2_with (go_at_call 58; refine (HC.out _ _ ?hb ?hn).mono ?_; rotate_left; rotate_left; rintro e w1 ⟨rfl, hb⟩; have HB := Lib.hid hb; clear hb)
      · go_ret
        exact ⟨by rw [HV.out]; rfl, bl_step (bl_alloc (bl_alloc (bl_alloc (Below.refl _ _)))) HB.out⟩
      · exact bl_alloc (bl_alloc (bl_alloc (Below.refl _ _)))
      · exact ⟨by simp, by simp [go_sem], by simp [go_sem]⟩
    · have HV : Hid (thrV Q (n + 1) [x] = Q x) := Lib.hid (if_neg hk)
      have hk4 : ((x.k) != 4) = true := by simp [hk]
      obtain rfl : fl = x.fs.length := hF.1.symm
      have HC := Lib.hid (fun W => ha x f fc W)
      clear ih ha hel i2 hF h1 hl
      go_enter Tryz.func35, Tryz.ntmps35
      go_wp2_with (go_at_fn g; refine (HC.out _).mono ?_; rintro e w1 ⟨rfl, hb⟩; have HB := Lib.hid hb; clear hb)
      go_ret
      exact ⟨by rw [HV.out]; rfl, bl_step (bl_alloc (bl_alloc (bl_alloc (Below.refl _ _)))) HB.out⟩
  · have HV := Lib.hid (thrV_many (Q := Q) (n := n) h1)
    have hq : ((tl : Int) != 1) = true := by simp; omega
    clear ih ha hel h1 hl
    go_enter Tryz.func35, Tryz.ntmps35
    go_wp2_with fail
    go_ret
    exact ⟨by rw [HV.out]; rfl, bl_alloc (bl_alloc (Below.refl _ _))⟩
theorem thr_in (Q : Tm → Bool) (g : Nat) (ha : AskT g Q) (eg : ∀ args w, (callFunc g args).run Tryz.prog w = .ok (.enter g args) w) : ∀ n, ThH Q g n
  | 0 => fun _ _ _ _ _ h => h.elim
  | n + 1 => thr_step Q g n ha eg (thr_in Q g ha eg n)
end Go.Proofs.YtfhknnldkfngdaaGreatDoor
/- WALKS of IndexFunc, ContainsFunc at terms; somewhere. -/
namespace Go.Proofs.YtfhknnldkfngdaaGreatDoor
open Go.RowKit
/-- A function that is asked of the terms of a value. -/
def AskM (w0 : World) (n : Nat) (A : List Tm) (g : Nat) (cb : Array Value) (p : Tm → Bool) : Prop :=
  ∀ (i : Nat) (W : World) (h : i < A.length) (f : Option Addr) (fl fc : Nat), Below w0.heap.size w0 W → InF (fun t tl tc V => InV w0 n t tl tc V) w0 f fl A[i].fs → Calls Tryz.prog g (#[tv A[i].k A[i].lo A[i].hi A[i].s A[i].y A[i].m A[i].o f fl fc] ++ cb) W (LackP (p A[i]) W)
def IxP (A : List Tm) (p : Tm → Bool) (w : World) (e : Ending) (w' : World) : Prop :=
  ∃ r : Int, e = .returned (.int .i64 r) ∧ Below w.heap.size w w' ∧ (0 ≤ r) = (A.any p = true) 
set_option maxRecDepth 100000 in
set_option maxHeartbeats 8000000 in
theorem index_terms (w : World) (n : Nat) (t : Option Addr) (tl tc : Nat) (A : List Tm) (h : InV w (n + 1) t tl tc A) (g : Nat) (cb : Array Value) (eg : ∀ args w, (callFunc g args).run Tryz.prog w = .ok (.enter g args) w) (p : Tm → Bool) (ask : AskM w n A g cb p) :
    Calls Tryz.prog 79 #[.slice t tl tc, .func (.func g) #[] cb] w (IxP A p w) := by
  obtain ⟨l1, z1, h1⟩ := h
  have H1 := Lib.hid h1
  subst l1
  have HA := Lib.hid ask
  clear h1 ask
  go_enter Tryz.func79, Tryz.ntmps79
  go_wp2_with fail
  go_loopw [5, 8] (fun _ i wr => ∃ k : Nat, k ≤ A.length ∧ i = .int .i64 k ∧ Hid (∀ j (h : j < A.length), j < k → p A[j] = false) ∧ Hid (Below w.heap.size w wr)) (fun _ i _ => A.length - (intOf i).toNat)
  case atStart => exact ⟨0, Nat.zero_le _, rfl, fun j _ hj => absurd hj (Nat.not_lt_zero _), Below.refl _ _⟩
  case round =>
    obtain ⟨k, hk, rfl, hN, hB⟩ := hrel
    rename World => wr
    by_cases hlt : k < A.length
    · have hki : (k : Int) < (A.length : Int) := by omega
      have hk0 : (0 : Int) ≤ (k : Int) := by omega
      obtain ⟨b2, off2, rfl, i2⟩ := H1.out k hlt
      obtain ⟨lt2, f, fl, fc, d0, d1, d2, d3, d4, d5, d6, d7, hF⟩ := i2.cells
      have hb := hB.out
      replace d0 := (hb.cell (p := ⟨b2, off2 + k * 8, none⟩) lt2).trans d0
      replace d1 := (hb.cell (p := ⟨b2, off2 + k * 8 + 1, none⟩) lt2).trans d1
      replace d2 := (hb.cell (p := ⟨b2, off2 + k * 8 + 2, none⟩) lt2).trans d2
      replace d3 := (hb.cell (p := ⟨b2, off2 + k * 8 + 3, none⟩) lt2).trans d3
      replace d4 := (hb.cell (p := ⟨b2, off2 + k * 8 + 4, none⟩) lt2).trans d4
      replace d5 := (hb.cell (p := ⟨b2, off2 + k * 8 + 5, none⟩) lt2).trans d5
      replace d6 := (hb.cell (p := ⟨b2, off2 + k * 8 + 6, none⟩) lt2).trans d6
      replace d7 := (hb.cell (p := ⟨b2, off2 + k * 8 + 7, none⟩) lt2).trans d7
      have HC := Lib.hid (HA.out k wr hlt f fl fc hb hF)
      obtain ⟨q, hq⟩ : ∃ q, p A[k] = q := ⟨_, rfl⟩
      rw [hq] at HC
      have HQ := Lib.hid hq
      clear hq hF i2 hb lt2
      generalize A[k].k = xk at *
      generalize A[k].lo = xlo at *
      generalize A[k].hi = xhi at *
      generalize A[k].s = xs at *
      generalize A[k].y = xy at *
      generalize A[k].m = xm at *
      generalize A[k].o = xo at *
      cases q
      · go_wp2_with (go_at_fn g; refine HC.out.mono ?_; rintro e w1 ⟨rfl, hb1⟩; have HB1 := Lib.hid hb1; clear hb1)
        go_roundw
        case rel => exact ⟨k + 1, by omega, by go_num, fun j h hj => (by
          by_cases e : j = k
          · subst e; exact HQ.out
          · exact hN.out j h (by omega)), bl_step hB.out HB1.out⟩
        case measure => simp [intOf]; omega
      · go_wp2_with (go_at_fn g; refine HC.out.mono ?_; rintro e w1 ⟨rfl, hb1⟩; have HB1 := Lib.hid hb1; clear hb1)
        go_ret
        exact ⟨k, rfl, bl_step hB.out HB1.out, by rw [eq_iff_iff]; exact ⟨fun _ => List.any_eq_true.2 ⟨_, List.getElem_mem hlt, HQ.out⟩, fun _ => by omega⟩⟩
    · have hkl : k = A.length := by omega
      subst hkl
      go_wp2_with fail
      go_ret
      refine ⟨-1, rfl, hB.out, ?_⟩
      rw [eq_iff_iff]
      refine ⟨fun h => absurd h (by decide), fun h => ?_⟩
      obtain ⟨x, hx, hp⟩ := List.any_eq_true.1 h
      obtain ⟨i, hi, rfl⟩ := List.getElem_of_mem hx
      rw [hN.out i hi hi] at hp; cases hp
set_option maxRecDepth 100000 in
set_option maxHeartbeats 2000000 in
theorem contains_terms (w : World) (n : Nat) (t : Option Addr) (tl tc : Nat) (A : List Tm) (h : InV w (n + 1) t tl tc A) (g : Nat) (cb : Array Value) (eg : ∀ args w, (callFunc g args).run Tryz.prog w = .ok (.enter g args) w) (p : Tm → Bool) (ask : AskM w n A g cb p) :
    Calls Tryz.prog 63 #[.slice t tl tc, .func (.func g) #[] cb] w (LackP (A.any p) w) := by
  have HI := Lib.hid (index_terms w n t tl tc A h g cb eg p ask)
  clear h eg ask
  go_enter Tryz.func63, Tryz.ntmps63
  go_wp2_with (go_at_call 79; refine HI.out.mono ?_; rintro e w1 ⟨r, rfl, hb, hr⟩; have HB := Lib.hid hb; have HR := Lib.hid hr; clear hb hr)
  go_ret
  refine ⟨Nm.ret_bool ?_, HB.out⟩
  have := HR.out
  by_cases h0 : 0 ≤ r
  · rw [this.mp h0]; exact decide_eq_true h0
  · have h2 : ¬ A.any p = true := fun e => h0 (this.mpr e)
    rw [Bool.not_eq_true] at h2
    rw [h2]; exact decide_eq_false h0
/-- Some term in a value, however deep. -/
def somV (Q : Tm → Bool) : Nat → List Tm → Bool
  | 0, _ => false
  | n + 1, A => A.any fun x => Q x || x.fs.any fun f => somV Q n f.2
def SoH (Q : Tm → Bool) (g n : Nat) : Prop := ∀ (W : World) (t : Option Addr) (tl tc : Nat) (A : List Tm), InV W n t tl tc A → Calls Tryz.prog 40 #[.agg #[.slice t tl tc], .func (.func g) #[] #[]] W (LackP (somV Q n A) W)
theorem enters62 : ∀ args w, (callFunc 62 args).run Tryz.prog w = .ok (.enter 62 args) w := enters_of Tryz.func62 (by kernel_rfl) rfl
theorem enters64 : ∀ args w, (callFunc 64 args).run Tryz.prog w = .ok (.enter 64 args) w := enters_of Tryz.func64 (by kernel_rfl) rfl
set_option maxRecDepth 100000 in
set_option maxHeartbeats 2000000 in
theorem som_one (Q : Tm → Bool) (g n : Nat) (ih : SoH Q g n) (W : World) (N : Nat) (nm : ByteArray) (t : Option Addr) (tl tc : Nat) (V : List Tm) (h : InV W n t tl tc V) (hN : Cx W N 0 (.func (.func g) #[] #[])) :
    Calls Tryz.prog 62 #[.agg #[.string nm, .slice t tl tc], .pointer (some ⟨N, 0, none⟩)] W (LackP (somV Q n V) W) := by
  have HI : Hid (∀ X, Below W.heap.size W X → Calls Tryz.prog 40 #[.agg #[.slice t tl tc], .func (.func g) #[] #[]] X (LackP (somV Q n V) X)) := fun X hX => ih X t tl tc V (InV.below hX h)
  obtain ⟨l1, c1, f1⟩ := hN
  clear ih h
  go_enter Tryz.func62, Tryz.ntmps62
  go_wp2_with (go_at_call 40; refine (HI.out _ (bl_alloc (Below.refl _ _))).mono ?_; rintro e w1 ⟨rfl, hb⟩; have HB := Lib.hid hb; clear hb)
  go_ret
  exact ⟨rfl, bl_step (bl_alloc (Below.refl _ _)) HB.out⟩
theorem contains_som (Q : Tm → Bool) (g n : Nat) (ih : SoH Q g n) (W : World) (N : Nat) (f : Option Addr) (fl fc : Nat) (fs : List (ByteArray × List Tm)) (hF : InF (fun t tl tc V => InV W n t tl tc V) W f fl fs) (hN : Cx W N 0 (.func (.func g) #[] #[])) :
    Calls Tryz.prog 58 #[.slice f fl fc, .func (.func 62) #[] #[.pointer (some ⟨N, 0, none⟩)]] W (LackP (fs.any fun f => somV Q n f.2) W) := by
  refine (contains_any W.heap.size (fun t tl tc V => InV W n t tl tc V) 62 _ enters62 (fun _ X => Below W.heap.size W X) (fun i => somV Q n (fAt fs i).2) W f fl fc fs hF (fun _ _ h => h) (fun i X hi t tl tc hX hV => ?_) W (Below.refl _ _)).mono ?_
  · simp only [fAt_eq hi]
    exact (som_one Q g n ih X N fs[i].1 t tl tc fs[i].2 (InV.below hX hV) (hN.later hX)).mono fun _ _ ⟨a, b⟩ => ⟨a, Kp.of b, fun _ => bl_step hX b⟩
  · rintro e w1 ⟨q, rfl, hk, h0, h1⟩
    have hl : fs.length = fl := hF.1
    refine ⟨?_, Below.of_kp hk⟩
    rw [any_is (fs := fs) (p := fun f => somV Q n f.2) (q := q) (fun e i hi => (h0 e).1 i (by omega)) (fun e => by obtain ⟨i, hi, h2⟩ := h1 e; exact ⟨i, by omega, h2⟩)]
set_option maxRecDepth 100000 in
set_option maxHeartbeats 2000000 in
theorem som_term (Q : Tm → Bool) (g n : Nat) (ha : AskT g Q) (eg : ∀ args w, (callFunc g args).run Tryz.prog w = .ok (.enter g args) w) (ih : SoH Q g n) (W : World) (N M : Nat) (x : Tm) (f : Option Addr) (fl fc : Nat) (hF : InF (fun t tl tc V => InV W n t tl tc V) W f fl x.fs)
    (hN : Cx W N 0 (.func (.func g) #[] #[])) (hM : Cx W M 0 (.func (.func 62) #[] #[.pointer (some ⟨N, 0, none⟩)])) :
    Calls Tryz.prog 64 #[tv x.k x.lo x.hi x.s x.y x.m x.o f fl fc, .pointer (some ⟨N, 0, none⟩), .pointer (some ⟨M, 0, none⟩)] W (LackP (Q x || x.fs.any fun f => somV Q n f.2) W) := by
  obtain rfl : fl = x.fs.length := hF.1.symm
  obtain ⟨q, hq⟩ : ∃ q, Q x = q := ⟨_, rfl⟩
  have HC : Hid (∀ W, Calls Tryz.prog g #[tv x.k x.lo x.hi x.s x.y x.m x.o f x.fs.length fc] W (LackP q W)) := Lib.hid (fun W => hq ▸ ha x f fc W)
  rw [hq]
  have HF : Hid (∀ X, Below W.heap.size W X → Calls Tryz.prog 58 #[.slice f x.fs.length fc, .func (.func 62) #[] #[.pointer (some ⟨N, 0, none⟩)]] X (LackP (x.fs.any fun f => somV Q n f.2) X)) :=
    Lib.hid fun X hX => contains_som Q g n ih X N f _ fc x.fs (hF.below (fun _ _ _ _ h => InV.below hX h) hX) (hN.later hX)
  obtain ⟨l1, c1, f1⟩ := hN
  obtain ⟨l2, c2, f2⟩ := hM
  clear ih hF ha hq
  cases q
  · go_enter Tryz.func64, Tryz.ntmps64
    go_wp2_with (first
      | (go_at_fn g; refine (HC.out _).mono ?_; rintro e w1 ⟨rfl, hb⟩; have HB := Lib.hid (bl_step (bl_alloc (Below.refl _ _)) hb); obtain ⟨hc, hf⟩ := bcell hb; clear hb)
      | (go_at_call 58; refine (HF.out _ HB.out).mono ?_; rintro e w2 ⟨rfl, hb⟩; have HB2 := Lib.hid (bl_step HB.out hb); clear hb))
    go_ret
    exact ⟨rfl, HB2.out⟩
  · go_enter Tryz.func64, Tryz.ntmps64
    go_wp2_with (go_at_fn g; refine (HC.out _).mono ?_; rintro e w1 ⟨rfl, hb⟩; have HB := Lib.hid (bl_step (bl_alloc (Below.refl _ _)) hb); clear hb)
    go_ret
    exact ⟨rfl, HB.out⟩
set_option maxRecDepth 100000 in
set_option maxHeartbeats 4000000 in
theorem som_step (Q : Tm → Bool) (g n : Nat) (ha : AskT g Q) (eg : ∀ args w, (callFunc g args).run Tryz.prog w = .ok (.enter g args) w) (ih : SoH Q g n) : SoH Q g (n + 1) := by
  intro w t tl tc A h
  have HC : Hid (∀ X N M, Below w.heap.size w X → Cx X N 0 (.func (.func g) #[] #[]) → Cx X M 0 (.func (.func 62) #[] #[.pointer (some ⟨N, 0, none⟩)]) → Calls Tryz.prog 63 #[.slice t tl tc, .func (.func 64) #[] #[.pointer (some ⟨N, 0, none⟩), .pointer (some ⟨M, 0, none⟩)]] X (LackP (somV Q (n + 1) A) X)) :=
    Lib.hid fun X N M hX hN hM => contains_terms X n t tl tc A (InV.below hX h) 64 _ enters64 (fun x => Q x || x.fs.any fun f => somV Q n f.2) (fun i W hi f fl fc hW hF => som_term Q g n ha eg ih W N M A[i] f fl fc (hF.below (fun _ _ _ _ h => InV.below hW h) hW) (hN.later hW) (hM.later hW))
  clear ih ha h
  go_enter Tryz.func40, Tryz.ntmps40
  go_wp2_with (go_at_call 63; refine (HC.out _ _ _ ?hb ?hn ?hm).mono ?_; rotate_left; rotate_left; rotate_left; rintro e w1 ⟨rfl, hb⟩; have HB := Lib.hid hb; clear hb)
  · go_ret
    exact ⟨rfl, bl_step (bl_alloc (bl_alloc (bl_alloc (Below.refl _ _)))) HB.out⟩
  · exact bl_alloc (bl_alloc (bl_alloc (Below.refl _ _)))
  · exact ⟨by simp, by simp [go_sem], by simp [go_sem]⟩
  · exact ⟨by simp, by simp [go_sem], by simp [go_sem]⟩
theorem som_in (Q : Tm → Bool) (g : Nat) (ha : AskT g Q) (eg : ∀ args w, (callFunc g args).run Tryz.prog w = .ok (.enter g args) w) : ∀ n, SoH Q g n
  | 0 => fun _ _ _ _ _ h => h.elim
  | n + 1 => som_step Q g n ha eg (som_in Q g ha eg n)
end Go.Proofs.YtfhknnldkfngdaaGreatDoor
/- WALKS of Settled, Ready, Waits; the reference's settled, later. -/
namespace Go.Proofs.YtfhknnldkfngdaaGreatDoor
open Go.RowKit
/-- What the reference's settled tells. -/
def rsetV (b : Bool) : Nat → List Tm → Bool
  | 0, _ => false
  | n + 1, A => match A with
    | [x] => if x.k = 5 then false else if x.k = 4 then !(x.fs.any fun f => !rsetV b n f.2) else (singleB x.k x.lo x.hi x.y || (b && x.m))
    | _ => false
theorem rsetV_many {b : Bool} {n : Nat} {A : List Tm} (h : A.length ≠ 1) : rsetV b (n + 1) A = false := by
  match A, h with
  | [], _ => rfl
  | [x], h => exact absurd rfl h
  | _ :: _ :: _, _ => rfl
def RsH (b : Bool) (n : Nat) : Prop := ∀ (W : World) (t : Option Addr) (tl tc : Nat) (A : List Tm), InV W n t tl tc A → Calls Tryz.prog 37 #[.agg #[.slice t tl tc], .bool b] W (LackP (rsetV b n A) W)
theorem rsingle_as (b : Bool) (k lo hi : Int) (s : ByteArray) (y m o : Bool) (f : Option Addr) (fl fc : Nat) (w : World) (h : Hid (singleB k lo hi y = b)) : Calls Tryz.prog 45 #[tv k lo hi s y m o f fl fc] w (LackP b w) := by
  rw [← h.out]; exact rsingle_any k lo hi s y m o f fl fc w
theorem any_no {fs : List (ByteArray × List Tm)} {p : ByteArray × List Tm → Bool} (h : ∀ j (h : j < fs.length), j < fs.length → p fs[j] = false) : fs.any p = false := by
  rw [List.any_eq_false]
  intro x hx
  obtain ⟨i, hi, rfl⟩ := List.getElem_of_mem hx
  rw [h i hi hi]; simp
set_option maxRecDepth 100000 in
set_option maxHeartbeats 8000000 in
theorem rset_step (b : Bool) (n : Nat) (ih : RsH b n) : RsH b (n + 1) := by
  intro w t tl tc A h
  obtain ⟨hl, hm, hel⟩ := h
  by_cases h1 : A.length = 1
  · obtain ⟨x, rfl⟩ := List.length_eq_one_iff.1 h1
    obtain rfl : tl = 1 := by simpa using hl.symm
    obtain ⟨b2, off2, rfl, i2⟩ := hel 0 (by simp)
    rw [Nat.zero_mul, Nat.add_zero] at i2
    obtain ⟨lt2, f, fl, fc, d0, d1, d2, d3, d4, d5, d6, d7, hF⟩ := i2.cells
    simp only [List.getElem_cons_zero] at *
    by_cases h5 : x.k = 5
    · have HV : Hid (rsetV b (n + 1) [x] = false) := Lib.hid (if_pos h5)
      have hk5 : (x.k == 5) = true := by simp [h5]
      clear ih hel i2 hF h1 hl
      go_enter Tryz.func37, Tryz.ntmps37
      go_wp2_with fail
      go_ret
      exact ⟨by rw [HV.out]; rfl, bl_alloc (Below.refl _ _)⟩
    · have hk5 : (x.k == 5) = false := by simpa using h5
      by_cases hk : x.k = 4
      · have HV : Hid (rsetV b (n + 1) [x] = !(x.fs.any fun f => !rsetV b n f.2)) := Lib.hid ((if_neg h5).trans (if_pos hk))
        have hk4 : (x.k != 4) = false := by simp [hk]
        have IH := Lib.hid ih
        have HFF := Lib.hid hF
        obtain rfl : fl = x.fs.length := hF.1.symm
        have hmm : ((x.fs.length : Nat) : Int) ≤ 9223372036854775807 := hF.2.1
        clear ih hel i2 hF h1 hl
        go_enter Tryz.func37, Tryz.ntmps37
        go_wp2_with fail
        go_loopw [6] (fun i wr => ∃ k : Nat, k ≤ x.fs.length ∧ i = .int .i64 k ∧ Hid (∀ j (h : j < x.fs.length), j < k → (!rsetV b n x.fs[j].2) = false) ∧ Hid (Below w.heap.size w wr) ∧ w.heap.size + 1 < wr.heap.size ∧ wr.cell? ⟨w.heap.size + 1, 7, none⟩ = some (.slice f x.fs.length fc)) (fun i _ => x.fs.length - (intOf i).toNat)
        case atStart => exact ⟨0, Nat.zero_le _, rfl, fun j _ hj => absurd hj (Nat.not_lt_zero _), bl_alloc (bl_alloc (Below.refl _ _)), by simp, by simp⟩
        case round =>
          obtain ⟨k, hk2, rfl, hN, hB, hz, c7⟩ := hrel
          rename World => wr
          clear d0 d1 d2 d3 d4 d5 d6 d7
          by_cases hlt : k < x.fs.length
          · have hki : (k : Int) < (x.fs.length : Int) := by omega
            have hk0 : (0 : Int) ≤ (k : Int) := by omega
            obtain ⟨b3, off3, tl3, tc3, t3, rfl, lt3, e0, e1, i3⟩ := HFF.out.2.2 k hlt
            replace e0 := (hB.out.cell (p := ⟨b3, off3 + k * 2, none⟩) lt3).trans e0
            replace e1 := (hB.out.cell (p := ⟨b3, off3 + k * 2 + 1, none⟩) lt3).trans e1
            obtain ⟨q, hq⟩ : ∃ q, rsetV b n x.fs[k].2 = q := ⟨_, rfl⟩
            have HC : Hid (Calls Tryz.prog 37 #[.agg #[.slice t3 tl3 tc3], .bool b] wr (LackP q wr)) := Lib.hid (hq ▸ IH.out wr t3 tl3 tc3 x.fs[k].2 (InV.below hB.out i3))
            have HQ := Lib.hid hq
            clear hq i3 lt3
            generalize x.fs[k].1 = nm at *
            cases q
            · go_wp2_with (go_at_call 37; refine HC.out.mono ?_; rintro e w1 ⟨rfl, hb1⟩; have HB1 := Lib.hid hb1; clear hb1)
              go_ret
              refine ⟨?_, bl_step hB.out HB1.out⟩
              have ha : (x.fs.any fun f => !rsetV b n f.2) = true := List.any_eq_true.2 ⟨_, List.getElem_mem hlt, by rw [HQ.out]; rfl⟩
              rw [HV.out, ha]; rfl
            · go_wp2_with (go_at_call 37; refine HC.out.mono ?_; rintro e w1 ⟨rfl, hb1⟩; have HB1 := Lib.hid hb1; have c7' := (hb1.cell (p := ⟨w.heap.size + 1, 7, none⟩) hz).trans c7; have hz' := Nat.lt_of_lt_of_le hz hb1.size; clear hb1)
              go_roundw
              case rel => exact ⟨k + 1, by omega, by go_num, fun j h hj => (by
                by_cases e : j = k
                · subst e; rw [HQ.out]; rfl
                · exact hN.out j h (by omega)), bl_step hB.out HB1.out, hz', c7'⟩
              case measure => simp [intOf]; omega
          · have hkl : k = x.fs.length := by omega
            subst hkl
            go_wp2_with fail
            go_ret
            exact ⟨by rw [HV.out, any_no (p := fun f => !rsetV b n f.2) hN.out]; rfl, hB.out⟩
      · have HV : Hid (rsetV b (n + 1) [x] = (singleB x.k x.lo x.hi x.y || (b && x.m))) := Lib.hid ((if_neg h5).trans (if_neg hk))
        have hk4 : (x.k != 4) = true := by simpa using hk
        obtain ⟨q, hq⟩ : ∃ q, singleB x.k x.lo x.hi x.y = q := ⟨_, rfl⟩
        have HS := Lib.hid hq
        rw [hq] at HV
        clear ih hel i2 hF h1 hl hq
        cases q
        · cases b
          · go_enter Tryz.func37, Tryz.ntmps37
            go_wp2_with (go_at_call 45; (with_reducible refine (rsingle_as _ _ _ _ _ _ _ _ _ _ _ _ HS).mono ?_); rintro e w1 ⟨rfl, hb⟩; have HB := Lib.hid hb; obtain ⟨hc, hf⟩ := bcell hb; clear hb)
            go_ret
            exact ⟨by rw [HV.out]; rfl, bl_step (bl_alloc (bl_alloc (Below.refl _ _))) HB.out⟩
          · go_enter Tryz.func37, Tryz.ntmps37
            go_wp2_with (go_at_call 45; (with_reducible refine (rsingle_as _ _ _ _ _ _ _ _ _ _ _ _ HS).mono ?_); rintro e w1 ⟨rfl, hb⟩; have HB := Lib.hid hb; obtain ⟨hc, hf⟩ := bcell hb; clear hb)
            go_ret
            exact ⟨by rw [HV.out]; rfl, bl_step (bl_alloc (bl_alloc (Below.refl _ _))) HB.out⟩
        · go_enter Tryz.func37, Tryz.ntmps37
          go_wp2_with (go_at_call 45; (with_reducible refine (rsingle_as _ _ _ _ _ _ _ _ _ _ _ _ HS).mono ?_); rintro e w1 ⟨rfl, hb⟩; have HB := Lib.hid hb; obtain ⟨hc, hf⟩ := bcell hb; clear hb)
          go_ret
          exact ⟨by rw [HV.out]; rfl, bl_step (bl_alloc (bl_alloc (Below.refl _ _))) HB.out⟩
  · have HV := Lib.hid (rsetV_many (b := b) (n := n) h1)
    have hq : ((tl : Int) != 1) = true := by simp; omega
    clear ih hel h1 hl
    go_enter Tryz.func37, Tryz.ntmps37
    go_wp2_with fail
    go_ret
    exact ⟨by rw [HV.out]; rfl, bl_alloc (Below.refl _ _)⟩
theorem rset_in (b : Bool) : ∀ n, RsH b n
  | 0 => fun _ _ _ _ _ h => h.elim
  | n + 1 => rset_step b n (rset_in b n)
def RlH (n : Nat) : Prop := ∀ (W : World) (t : Option Addr) (tl tc : Nat) (A : List Tm), InV W n t tl tc A → Calls Tryz.prog 41 #[.agg #[.slice t tl tc]] W (LackP (somV (·.m) n A) W)
/-- A term in which something waits. -/
def lateT (n : Nat) (x : Tm) : Bool := x.m || x.fs.any fun f => somV (·.m) n f.2
theorem somV_eq (n : Nat) (A : List Tm) : somV (·.m) (n + 1) A = A.any (lateT n) := rfl
theorem late_m {n : Nat} {x : Tm} (h : x.m = true) : lateT n x = true := by unfold lateT; rw [h]; rfl
theorem late_f {n : Nat} {x : Tm} {j : Nat} (hj : j < x.fs.length) (h : somV (·.m) n x.fs[j].2 = true) : lateT n x = true := by
  unfold lateT; rw [List.any_eq_true.2 ⟨_, List.getElem_mem hj, h⟩, Bool.or_true]
theorem late_no {n : Nat} {x : Tm} (hm : x.m = false) (h : ∀ j (h : j < x.fs.length), j < x.fs.length → somV (·.m) n x.fs[j].2 = false) : lateT n x = false := by
  unfold lateT; rw [hm, any_no (p := fun f => somV (·.m) n f.2) h]; rfl
set_option maxRecDepth 100000 in
set_option maxHeartbeats 8000000 in
theorem rlat_step (n : Nat) (ih : RlH n) : RlH (n + 1) := by
  intro w t tl tc A h
  obtain ⟨l1, hm, hel⟩ := h
  subst l1
  have H1 := Lib.hid hel
  have IH := Lib.hid ih
  clear hel ih
  go_enter Tryz.func41, Tryz.ntmps41
  go_wp2_with fail
  go_loopw [3] (fun i wr => ∃ k : Nat, k ≤ A.length ∧ i = .int .i64 k ∧ Hid (∀ j (h : j < A.length), j < k → lateT n A[j] = false) ∧ Hid (Below w.heap.size w wr) ∧ w.heap.size < wr.heap.size ∧ wr.cell? ⟨w.heap.size, 0, none⟩ = some (.slice t A.length tc)) (fun i _ => A.length - (intOf i).toNat)
  case atStart => exact ⟨0, Nat.zero_le _, rfl, fun j _ hj => absurd hj (Nat.not_lt_zero _), bl_alloc (Below.refl _ _), by simp, by simp⟩
  case round =>
    obtain ⟨k, hk, rfl, hN, hB, hz, cv⟩ := hrel
    rename World => wr
    by_cases hlt : k < A.length
    · have hki : (k : Int) < (A.length : Int) := by omega
      have hk0 : (0 : Int) ≤ (k : Int) := by omega
      obtain ⟨b2, off2, rfl, i2⟩ := H1.out k hlt
      obtain ⟨x, hx⟩ : ∃ x, A[k] = x := ⟨_, rfl⟩
      rw [hx] at i2
      have HX := Lib.hid hx
      clear hx
      obtain ⟨lt2, f, fl, fc, d0, d1, d2, d3, d4, d5, d6, d7, hF⟩ := i2.cells
      obtain rfl : fl = x.fs.length := hF.1.symm
      have hb := hB.out
      replace d0 := (hb.cell (p := ⟨b2, off2 + k * 8, none⟩) lt2).trans d0
      replace d1 := (hb.cell (p := ⟨b2, off2 + k * 8 + 1, none⟩) lt2).trans d1
      replace d2 := (hb.cell (p := ⟨b2, off2 + k * 8 + 2, none⟩) lt2).trans d2
      replace d3 := (hb.cell (p := ⟨b2, off2 + k * 8 + 3, none⟩) lt2).trans d3
      replace d4 := (hb.cell (p := ⟨b2, off2 + k * 8 + 4, none⟩) lt2).trans d4
      replace d5 := (hb.cell (p := ⟨b2, off2 + k * 8 + 5, none⟩) lt2).trans d5
      replace d6 := (hb.cell (p := ⟨b2, off2 + k * 8 + 6, none⟩) lt2).trans d6
      replace d7 := (hb.cell (p := ⟨b2, off2 + k * 8 + 7, none⟩) lt2).trans d7
      have HFF := Lib.hid hF
      have hmm : ((x.fs.length : Nat) : Int) ≤ 9223372036854775807 := hF.2.1
      clear hF i2 hb lt2
      cases hxm : x.m
      · have HXM := Lib.hid hxm
        rw [hxm] at d5
        clear hxm
        go_upto_region 8 with fail
        go_loopw [5] (fun i wi => ∃ j : Nat, j ≤ x.fs.length ∧ i = .int .i64 j ∧ Hid (∀ i (h : i < x.fs.length), i < j → somV (·.m) n x.fs[i].2 = false) ∧ Hid (Below w.heap.size w wi) ∧ wr.heap.size < wi.heap.size ∧ wi.cell? ⟨w.heap.size, 0, none⟩ = some (.slice (some ⟨b2, off2, none⟩) A.length tc) ∧ wi.cell? ⟨wr.heap.size, 7, none⟩ = some (.slice f x.fs.length fc)) (fun i _ => x.fs.length - (intOf i).toNat)
        case atStart => exact ⟨0, Nat.zero_le _, rfl, fun j _ hj => absurd hj (Nat.not_lt_zero _), bl_alloc hB.out, by simp, by first | exact ((Below.refl _ _).alloc (Nat.le_refl _) _).cell (p := ⟨w.heap.size, 0, none⟩) hz |>.trans cv | simp [go_sem, cv], by simp⟩
        case round =>
          obtain ⟨j, hj, rfl, hN2, hB2, hz2, cv2, c7⟩ := hrel
          rename World => wi
          clear d0 d1 d2 d3 d4 d5 d6 d7
          by_cases hjl : j < x.fs.length
          · have hji : (j : Int) < (x.fs.length : Int) := by omega
            have hj0 : (0 : Int) ≤ (j : Int) := by omega
            obtain ⟨b3, off3, tl3, tc3, t3, rfl, lt3, e0, e1, i3⟩ := HFF.out.2.2 j hjl
            replace e0 := (hB2.out.cell (p := ⟨b3, off3 + j * 2, none⟩) lt3).trans e0
            replace e1 := (hB2.out.cell (p := ⟨b3, off3 + j * 2 + 1, none⟩) lt3).trans e1
            obtain ⟨q, hq⟩ : ∃ q, somV (·.m) n x.fs[j].2 = q := ⟨_, rfl⟩
            have HC : Hid (Calls Tryz.prog 41 #[.agg #[.slice t3 tl3 tc3]] wi (LackP q wi)) := Lib.hid (hq ▸ IH.out wi t3 tl3 tc3 x.fs[j].2 (InV.below hB2.out i3))
            have HQ := Lib.hid hq
            clear hq i3 lt3
            generalize x.fs[j].1 = nm at *
            cases q
            · go_wp2_with (go_at_call 41; refine HC.out.mono ?_; rintro e w1 ⟨rfl, hb1⟩; have HB1 := Lib.hid hb1; have c7' := (hb1.cell (p := ⟨wr.heap.size, 7, none⟩) hz2).trans c7; have cv' := (hb1.cell (p := ⟨w.heap.size, 0, none⟩) (Nat.lt_trans hz hz2)).trans cv2; have hz' := Nat.lt_of_lt_of_le hz2 hb1.size; clear hb1)
              go_roundw
              case rel => exact ⟨j + 1, by omega, by go_num, fun i h hi => (by
                by_cases e : i = j
                · subst e; exact HQ.out
                · exact hN2.out i h (by omega)), bl_step hB2.out HB1.out, hz', cv', c7'⟩
              case measure => simp [intOf]; omega
            · go_wp2_with (go_at_call 41; refine HC.out.mono ?_; rintro e w1 ⟨rfl, hb1⟩; have HB1 := Lib.hid hb1; clear hb1)
              go_ret
              refine ⟨?_, bl_step hB2.out HB1.out⟩
              rw [somV_eq, List.any_eq_true.2 ⟨A[k], List.getElem_mem hlt, by rw [HX.out]; exact late_f hjl HQ.out⟩]; rfl
          · have hkl : j = x.fs.length := by omega
            subst hkl
            have HT := Lib.hid (late_no (n := n) HXM.out hN2.out)
            go_wp2_with fail
            go_roundw
            case rel => exact ⟨k + 1, by omega, by go_num, fun i h hi => (by
              by_cases e : i = k
              · subst e; rw [HX.out]; exact HT.out
              · exact hN.out i h (by omega)), hB2, by omega, cv2⟩
            case measure => simp [intOf]; omega
      · have HXM := Lib.hid hxm
        rw [hxm] at d5
        clear hxm
        go_wp2_with fail
        go_ret
        refine ⟨?_, bl_alloc hB.out⟩
        rw [somV_eq, List.any_eq_true.2 ⟨A[k], List.getElem_mem hlt, by rw [HX.out]; exact late_m HXM.out⟩]; rfl
    · have hkl : k = A.length := by omega
      subst hkl
      go_wp2_with fail
      go_ret
      refine ⟨?_, hB.out⟩
      rw [somV_eq, show A.any (lateT n) = false from List.any_eq_false.2 fun x hx => by obtain ⟨i, hi, rfl⟩ := List.getElem_of_mem hx; rw [hN.out i hi hi]; simp]; rfl
theorem rlat_in : ∀ n, RlH n
  | 0 => fun _ _ _ _ _ h => h.elim
  | n + 1 => rlat_step n (rlat_in n)
end Go.Proofs.YtfhknnldkfngdaaGreatDoor
