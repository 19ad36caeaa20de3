/- Ej, Ek -/
import Derived.Test.YtfhknnldkfngdaaGreatDoorY33
/- WALK of Pick. -/
namespace Go.Proofs.YtfhknnldkfngdaaGreatDoor
open Go.RowKit
/-- What stands at the end of names, or which error. -/
def pickV : Nat → List Tm → List ByteArray → Int × List Tm
  | _, A, [] => (0, A)
  | 0, _, _ :: _ => (0, [])
  | n + 1, A, key :: ks => if (fieldR A key).1 ≠ 0 then ((fieldR A key).1, []) else pickV n (fieldR A key).2 ks
noncomputable def pickR (n : Nat) (A : List Tm) (ks : List ByteArray) : Int × List Tm := if rgV n A = true then pickV n A ks else (1, [])
theorem rg_step {n : Nat} {A : List Tm} {key : ByteArray} (h : RG (n + 1) A) (he : (fieldR A key).1 = 0) : RG n (fieldR A key).2 := by
  unfold fieldR at he ⊢
  by_cases h0 : onlyE A = 0
  · rw [if_neg (by simpa using h0)] at he ⊢
    match A, h, h0, he with
    | [], _, h0, _ => exact absurd h0 (by decide)
    | _ :: _ :: _, _, h0, _ => exact absurd h0 (by show ¬ (28 : Int) = 0; decide)
    | [x], h, _, he =>
      dsimp only at he ⊢
      by_cases h4 : x.k = 4
      · rw [if_neg (by simpa using h4)] at he ⊢
        cases hf : findF x.fs key with
        | none => rw [hf] at he; exact absurd he (by show ¬ (29 : Int) = 0; decide)
        | some V =>
          obtain ⟨f, hm, -, rfl⟩ := findF_mem hf
          exact rg_field h (by simp) hm
      · rw [if_pos h4] at he; exact absurd he (by show ¬ (27 : Int) = 0; decide)
  · rw [if_pos h0] at he; exact (h0 he).elim
theorem pickV_end {n : Nat} {A : List Tm} : pickV n A [] = (0, A) := by cases n <;> rfl
theorem pickV_err {n : Nat} {A : List Tm} {key : ByteArray} {ks : List ByteArray} (h : (fieldR A key).1 ≠ 0) : pickV (n + 1) A (key :: ks) = ((fieldR A key).1, []) := if_pos h
theorem pickV_step {n : Nat} {A : List Tm} {key : ByteArray} {ks : List ByteArray} (h : (fieldR A key).1 = 0) : pickV (n + 1) A (key :: ks) = pickV n (fieldR A key).2 ks := if_neg (by simpa using h)
/-- A list of names in memory. -/
def Ks (w : World) (p : Option Addr) (pl : Nat) (ks : List ByteArray) : Prop := ks.length = pl ∧ (pl : Int) ≤ 9223372036854775807 ∧ ∀ i (h : i < ks.length), ∃ b off, p = some ⟨b, off, none⟩ ∧ b < w.heap.size ∧ w.cell? ⟨b, off + i, none⟩ = some (.string ks[i])
def PkP (n : Nat) (r : Int × List Tm) (w : World) (e : Ending) (w' : World) : Prop :=
  ∃ m t tl tc, m ≤ n ∧ e = .returned (.tuple #[.agg #[.slice t tl tc], .int .i64 r.1]) ∧ Below w.heap.size w w' ∧ InV w' m t tl tc r.2
theorem PkP.no {n : Nat} {r : Int × List Tm} {w w' : World} {E : Int} (hn : 1 ≤ n) (hr : r = (E, [])) (hb : Below w.heap.size w w') : PkP n r w (.returned (.tuple #[.agg #[.slice none 0 0], .int .i64 E])) w' := by
  subst hr; exact ⟨1, none, 0, 0, hn, rfl, hb, inV_nil⟩
theorem Bv.set {w : World} {N : Nat} {t t' : Option Addr} {tl tc tl' tc' : Nat} (h : Bv w N t tl tc) : Bv (w.setCell ⟨N, 0, none⟩ (.slice t' tl' tc')) N t' tl' tc' := ⟨by rw [set_size]; exact h.1, set_here h.2.1, by rw [World.frozen?_setCell]; exact h.2.2⟩
theorem Bv.far {w : World} {N M : Nat} {t : Option Addr} {tl tc : Nat} {v : Value} (h : Bv w N t tl tc) (hne : M ≠ N) : Bv (w.setCell ⟨M, 0, none⟩ v) N t tl tc := ⟨by rw [set_size]; exact h.1, (set_far (.inl (by omega))).trans h.2.1, by rw [World.frozen?_setCell]; exact h.2.2⟩
theorem Bb'.far {w : World} {N M : Nat} {t : Option Addr} {tl tc : Nat} {v : Value} (h : Bb' w N t tl tc) (hne : M ≠ N) : Bb' (w.setCell ⟨M, 0, none⟩ v) N t tl tc := (Below.heap_setCell _ _ _ _ (by show N ≠ M; omega)).trans h
set_option maxRecDepth 100000 in
set_option maxHeartbeats 8000000 in
theorem pick_in (n : Nat) (w : World) (t : Option Addr) (tl tc : Nat) (A : List Tm) (p : Option Addr) (pl pc : Nat) (ks : List ByteArray) (h : Vin w n t tl tc A) (hk : Ks w p pl ks) : Calls Tryz.prog 17 #[.agg #[.slice t tl tc], .slice p pl pc] w (PkP n (pickR n A ks) w) := by
  obtain ⟨n1, rfl⟩ := inV_pos h.v
  obtain ⟨q, hq⟩ : ∃ q, rgV (n1 + 1) A = q := ⟨_, rfl⟩
  have HQ := Lib.hid hq
  have HR : Hid (∀ W, Below w.heap.size w W → Calls Tryz.prog 34 #[.agg #[.slice t tl tc]] W (LackP q W)) := fun W hW => right_q q (n1 + 1) W t tl tc A (h.below hW) HQ
  have HEnv := Lib.hid h.env
  have HV := Lib.hid h.v
  obtain ⟨hkl, hkm, hks⟩ := hk
  subst hkl
  have HKS := Lib.hid hks
  clear h hq hks
  obtain ⟨Y, hY⟩ : ∃ Y, (w.alloc (.cells #[.slice t tl tc] 24)).alloc (.cells #[.slice none 0 0] 24) = Y := ⟨_, rfl⟩
  have HY : Hid (Below w.heap.size w Y ∧ Bv Y w.heap.size t tl tc ∧ Bv Y (w.heap.size + 1) none 0 0 ∧ Bb' Y (w.heap.size + 1) none 0 0) := by
    rw [← hY]
    have e : (w.alloc (.cells #[.slice t tl tc] 24)).heap.size = w.heap.size + 1 := by simp
    have h2 := Bv.new (w.alloc (.cells #[.slice t tl tc] 24)) none 0 0 24
    have h3 := Bb'.new (w.alloc (.cells #[.slice t tl tc] 24)) none 0 0
    rw [e] at h2 h3
    exact Lib.hid ⟨bl_alloc (bl_alloc (Below.refl _ _)), (Bv.new w t tl tc 24).later (bl_alloc (Below.refl _ _)), h2, h3⟩
  have x0 := HY.out.2.1.2.1
  cases q
  · have HP : Hid (pickR (n1 + 1) A ks = (1, [])) := Lib.hid (by unfold pickR; rw [if_neg (by rw [HQ.out]; decide)])
    go_enter Tryz.func17, Tryz.ntmps17
    go_upto_region 1 with fail
    clear hY
    go_wp2_with (go_at_call 34; refine (HR.out _ HY.out.1).mono ?_; rintro e w1 ⟨rfl, hb⟩; have HB := Lib.hid (bl_step HY.out.1 hb); have HV1 := Lib.hid (HY.out.2.2.1.later hb); obtain ⟨v1, v2, v3⟩ := HV1.out; clear hb)
    have hset := set_here (v := .slice none 0 0) v2
    refine bodyPost_ret (v := .tuple #[.agg #[.slice none 0 0], .int .i64 1]) (by simp [results, Tryz.results17, go_sem, hset]) rfl ?_
    exact PkP.no (by omega) HP.out (bl_set HB.out (by show w.heap.size ≤ w.heap.size + 1; omega))
  · have HP : Hid (pickR (n1 + 1) A ks = pickV (n1 + 1) A ks) := Lib.hid (by unfold pickR; rw [if_pos HQ.out])
    go_enter Tryz.func17, Tryz.ntmps17
    go_upto_region 1 with fail
    clear hY
    go_wp2_with (go_at_call 34; refine (HR.out _ HY.out.1).mono ?_; rintro e w1 ⟨rfl, hb⟩; have HB := Lib.hid (bl_step HY.out.1 hb); have HV0 := Lib.hid (HY.out.2.1.later hb); have HV1 := Lib.hid (HY.out.2.2.1.later hb); have HB1 := Lib.hid (HY.out.2.2.2.later hb); clear hb)
    go_loopw [15] (fun i wr => ∃ (k m : Nat) (t' : Option Addr) (tl' tc' : Nat) (A' : List Tm), k ≤ ks.length ∧ i = .int .i64 k ∧ m ≤ n1 + 1 ∧ Hid (Below w.heap.size w wr) ∧ Hid (InV w m t' tl' tc' A') ∧ Hid (RG m A') ∧ Hid (pickV (n1 + 1) A ks = pickV m A' (ks.drop k)) ∧ Hid (Bv wr w.heap.size t' tl' tc') ∧ Hid (Bv wr (w.heap.size + 1) none 0 0) ∧ Hid (Bb' wr (w.heap.size + 1) none 0 0)) (fun i _ => ks.length - (intOf i).toNat)
    case atStart => exact ⟨0, n1 + 1, t, tl, tc, A, Nat.zero_le _, rfl, Nat.le_refl _, HB, HV, Lib.hid (rgV_yes.1 HQ.out), Lib.hid (by rw [List.drop_zero]), HV0, HV1, HB1⟩
    case round =>
      obtain ⟨k, m, t', tl', tc', A', hk, rfl, hm, hB, hI, hR, hP, hV0, hV1, hB1⟩ := hrel
      rename World => wr
      clear x0
      obtain ⟨m, rfl⟩ := inV_pos hI.out
      by_cases hlt : k < ks.length
      · have hki : (k : Int) < (ks.length : Int) := by omega
        have hk0 : (0 : Int) ≤ (k : Int) := by omega
        obtain ⟨b2, off2, rfl, lt2, d0⟩ := HKS.out k hlt
        replace d0 := (hB.out.cell (p := ⟨b2, off2 + k, none⟩) lt2).trans d0
        have HD : Hid (ks.drop k = ks[k] :: ks.drop (k + 1)) := Lib.hid (List.drop_eq_getElem_cons hlt)
        generalize ks[k] = key at *
        obtain ⟨⟨E, V⟩, hr⟩ : ∃ r, fieldR A' key = r := ⟨_, rfl⟩
        have HF : Hid (∀ W, Below wr.heap.size wr W → Calls Tryz.prog 42 #[.agg #[.slice t' tl' tc'], .string key] W (FlP (E, V) m w W)) := Lib.hid fun W hW => by rw [← hr]; exact field_in m key w W t' tl' tc' A' hI.out (bl_step hB.out hW)
        have HFR := Lib.hid hr
        clear hr
        obtain ⟨v1, v2, v3⟩ := hV0.out
        obtain ⟨z1, z2, z3⟩ := hV1.out
        by_cases hE0 : E = 0
        · subst hE0
          go_wp2_with (go_at_call 42; refine (HF.out _ (Below.refl _ _)).mono ?_; rintro e w2 ⟨t2, tl2, tc2, rfl, hb, hr2⟩; have HB2 := Lib.hid (bl_step hB.out hb); have HR2 := Lib.hid hr2; have HV02 := Lib.hid (hV0.out.later hb); have HV12 := Lib.hid (hV1.out.later hb); have HB12 := Lib.hid (hB1.out.later hb); obtain ⟨y1, y2, y3⟩ := HV02.out; clear hb hr2)
          have hI2 : InV w m t2 tl2 tc2 V := by
            rcases HR2.out with ⟨h, _⟩ | ⟨_, h⟩
            · exact absurd rfl h
            · exact h
          have hRG : RG m V := by have := rg_step (key := key) hR.out (by rw [HFR.out]); rw [HFR.out] at this; exact this
          go_roundw
          case rel => exact ⟨k + 1, m, t2, tl2, tc2, V, by omega, by go_num, by omega, bl_set HB2.out (Nat.le_refl _), hI2, hRG, Lib.hid (by rw [hP.out, HD.out, pickV_step (by rw [HFR.out]), HFR.out]), HV02.out.set, HV12.out.far (by omega), HB12.out.far (by omega)⟩
          case measure => simp [intOf]; omega
        · have hne : (E != 0) = true := by simpa using hE0
          have HPE : Hid (pickR (n1 + 1) A ks = (E, [])) := Lib.hid (by rw [HP.out, hP.out, HD.out, pickV_err (by rw [HFR.out]; exact hE0), HFR.out])
          go_wp2_with (go_at_call 42; refine (HF.out _ (Below.refl _ _)).mono ?_; rintro e w2 ⟨t2, tl2, tc2, rfl, hb, hr2⟩; have HB2 := Lib.hid (bl_step hB.out hb); have HV02 := Lib.hid (hV0.out.later hb); have HV12 := Lib.hid (hV1.out.later hb); obtain ⟨y1, y2, y3⟩ := HV02.out; obtain ⟨q1, q2, q3⟩ := HV12.out; clear hb hr2)
          have hset := set_here (v := .slice none 0 0) ((HV12.out.far (M := w.heap.size) (v := .slice t2 tl2 tc2) (by omega)).2.1)
          refine bodyPost_ret (v := .tuple #[.agg #[.slice none 0 0], .int .i64 E]) (by simp [results, Tryz.results17, go_sem, hset]) rfl ?_
          exact PkP.no (by omega) HPE.out (bl_set (bl_set HB2.out (Nat.le_refl _)) (by show w.heap.size ≤ w.heap.size + 1; omega))
      · have hkl : k = ks.length := by omega
        subst hkl
        have HPE : Hid (pickR (n1 + 1) A ks = (0, A')) := Lib.hid (by rw [HP.out, hP.out, List.drop_length, pickV_end])
        have HOF : Hid (∀ W, Below wr.heap.size wr W → Calls Tryz.prog 28 #[.slice t' tl' tc'] W (LmP (m + 1) (0, A') W)) := Lib.hid fun W hW => of_in m w W t' tl' tc' A' ⟨hI.out, RG.nm hR.out, HEnv.out⟩ (bl_step hB.out hW) hR.out
        obtain ⟨v1, v2, v3⟩ := hV0.out
        obtain ⟨z1, z2, z3⟩ := hV1.out
        go_wp2_with (go_at_call 28; refine (HOF.out _ (Below.refl _ _)).mono ?_; rintro e w2 ⟨t2, tl2, tc2, rfl, hb, hI2⟩; have HB2 := Lib.hid (bl_step hB.out hb); have HI2 := Lib.hid hI2; have HV12 := Lib.hid (hV1.out.later hb); have HB12 := Lib.hid (hB1.out.later hb); obtain ⟨q1, q2, q3⟩ := HV12.out; clear hb hI2)
        have hset := set_here (v := .slice t2 tl2 tc2) q2
        refine bodyPost_ret (v := .tuple #[.agg #[.slice t2 tl2 tc2], .int .i64 0]) (by simp [results, Tryz.results17, go_sem, hset]) rfl ?_
        rw [HPE.out]
        exact ⟨m + 1, t2, tl2, tc2, hm, rfl, bl_set HB2.out (by show w.heap.size ≤ w.heap.size + 1; omega), InV.set HB12.out _ HI2.out⟩
end Go.Proofs.YtfhknnldkfngdaaGreatDoor
/- WALK of awake. -/
namespace Go.Proofs.YtfhknnldkfngdaaGreatDoor
open Go.RowKit
/-- A struct of one field. -/
def one1 (key : ByteArray) (V : List Tm) : List Tm := [.mk 4 0 0 ⟨#[]⟩ false false false [(key, V)]]
def inS : List Tm := one1 ⟨#[98]⟩ (nu 5 5)
def outS : List Tm := one1 ⟨#[97]⟩ inS
theorem rg_nun {n : Nat} {lo hi : Int} (h : scR (.mk 2 lo hi ⟨#[]⟩ false false false [])) (l : Nat) : RV (n + 1) (l + 1) (nu lo hi) :=
  ⟨fun x hx => by rw [List.mem_singleton.1 hx]; exact h, List.pairwise_singleton _ _, List.pairwise_singleton _ _⟩
theorem rv_one {n l : Nat} {key : ByteArray} {V : List Tm} (hk : Nm.rightL key.toList = true) (hV : RV n l V) (h0 : V ≠ []) : RV (n + 1) (l + 1) (one1 key V) :=
  ⟨fun x hx => by
    rw [List.mem_singleton.1 hx]
    show RT (RV n l) _
    unfold RT
    rw [if_neg (by show ¬ (4 : Int) = 5; decide), if_pos (by rfl)]
    refine ⟨rfl, rfl, rfl, rfl, rfl, ⟨show (1 : Nat) ≤ 32 by decide, fun k x hx hk2 => ?_, fun f hf => by rw [List.mem_singleton.1 hf]; exact hV⟩, fun f hf => by rw [List.mem_singleton.1 hf]; exact h0⟩
    obtain rfl : k = 0 := by have : k < 1 := hk2; omega
    obtain rfl : x = key := by simpa [Tm.fs] using hx.symm
    exact ⟨hk, fun j y hj => absurd hj (by omega)⟩, List.pairwise_singleton _ _, List.pairwise_singleton _ _⟩
theorem sc_55 : scR (.mk 2 5 5 ⟨#[]⟩ false false false []) := of_decide_eq_true (by kernel_rfl)
theorem sc_12 : scR (.mk 2 1 2 ⟨#[]⟩ false false false []) := of_decide_eq_true (by kernel_rfl)
theorem rg_out : RG 3 outS := ⟨rv_one (by kernel_rfl) (rv_one (by kernel_rfl) (rg_nun sc_55 13) (by simp [nu])) (by simp [inS, one1]), by show wN 3 outS ≤ 512; rw [show wN 3 outS = 3 by kernel_rfl]; decide⟩
theorem rg_n (n : Nat) {lo hi : Int} (h : scR (.mk 2 lo hi ⟨#[]⟩ false false false [])) : RG (n + 1) (nu lo hi) :=
  ⟨rg_nun h 15, by rw [show nu lo hi = [.mk 2 lo hi ⟨#[]⟩ false false false []] from rfl, wN_cons, wN_nil]; show 1 + wF n [] + 0 ≤ 512; simp [wF]⟩
theorem pick_out : pickR 3 outS [⟨#[97]⟩, ⟨#[98]⟩] = (0, nu 5 5) := by
  unfold pickR
  rw [if_pos (rgV_yes.2 rg_out)]
  kernel_rfl
theorem pl_55 (n : Nat) : plR (n + 1) 2 (nu 5 5) = (5, ⟨#[]⟩, false, 0) := by
  have h : oneE (n + 1) (nu 5 5) = 0 := by unfold oneE; rw [if_pos (rgV_yes.2 (rg_n n sc_55))]; rfl
  rw [show nu 5 5 = [.mk 2 5 5 ⟨#[]⟩ false false false []] from rfl] at h ⊢
  rw [plR_ok h, if_neg (by show ¬ (2 : Int) ≠ 2; decide), if_neg (by show ¬ false = true; decide), if_neg (by rw [show atomB (.mk 2 5 5 ⟨#[]⟩ false false false []) = true by kernel_rfl]; decide)]; rfl
theorem pl_12 (n : Nat) : plR (n + 1) 2 (nu 1 2) = (0, ⟨#[]⟩, false, 28) := by
  have h : oneE (n + 1) (nu 1 2) = 0 := by unfold oneE; rw [if_pos (rgV_yes.2 (rg_n n sc_12))]; rfl
  rw [show nu 1 2 = [.mk 2 1 2 ⟨#[]⟩ false false false []] from rfl] at h ⊢
  rw [plR_ok h, if_neg (by show ¬ (2 : Int) ≠ 2; decide), if_neg (by show ¬ false = true; decide), if_pos (by kernel_rfl)]
theorem set_out : setV false 3 outS = true := by
  unfold setV
  rw [rgV_yes.2 rg_out]; kernel_rfl
/-- A number laid as a literal. -/
theorem lit_nu (w : World) (n : Nat) (lo hi : Int) : InV (w.alloc (.cells #[.int .i64 2, .int .i64 lo, .int .i64 hi, .string ⟨#[]⟩, .bool false, .bool false, .bool false, .slice none 0 0] 29)) (n + 1) (some ⟨w.heap.size, 0, none⟩) 1 1 (nu lo hi) :=
  OneP.inV new_lt (Tc.new w 2 lo hi _ _ _ _ _ _ _) n
/-- A struct of one field, laid as a literal. -/
theorem lit_one (w : World) (n : Nat) (key : ByteArray) (t : Option Addr) (tl tc : Nat) (V : List Tm) (h : InV w n t tl tc V) :
    InV ((w.alloc (.cells #[.string key, .slice t tl tc] 52)).alloc (.cells #[.int .i64 4, .int .i64 0, .int .i64 0, .string ⟨#[]⟩, .bool false, .bool false, .bool false, .slice (some ⟨w.heap.size, 0, none⟩) 1 1] 29)) (n + 1) (some ⟨w.heap.size + 1, 0, none⟩) 1 1 (one1 key V) := by
  have e : (w.alloc (.cells #[.string key, .slice t tl tc] 52)).heap.size = w.heap.size + 1 := by simp
  have hT := Tc.new (w.alloc (.cells #[.string key, .slice t tl tc] 52)) 4 0 0 ⟨#[]⟩ false false false (some ⟨w.heap.size, 0, none⟩) 1 1
  rw [e] at hT
  have hb : Below w.heap.size w ((w.alloc (.cells #[.string key, .slice t tl tc] 52)).alloc (.cells #[.int .i64 4, .int .i64 0, .int .i64 0, .string ⟨#[]⟩, .bool false, .bool false, .bool false, .slice (some ⟨w.heap.size, 0, none⟩) 1 1] 29)) := bl_alloc (bl_alloc (Below.refl _ _))
  refine alone_inV (by simp) hT ⟨rfl, (show ((1 : Nat) : Int) ≤ 9223372036854775807 by decide), fun i hi => ?_⟩
  obtain rfl : i = 0 := by have : i < 1 := hi; omega
  exact ⟨w.heap.size, 0, tl, tc, t, rfl, by simp; omega, (by simp [go_sem]; rfl), (by simp [go_sem]), InV.below hb h⟩
/-- What has been laid ahead of the calls. -/
structure LaidX (w X : World) : Prop where
  b : Below w.heap.size w X
  v : InV X 3 (some ⟨w.heap.size + 1 + 1 + 1 + 1 + 1 + 1, 0, none⟩) 1 1 outS
  bx : Bv X (w.heap.size + 1 + 1 + 1 + 1 + 1 + 1 + 1) (some ⟨w.heap.size + 1 + 1 + 1 + 1 + 1 + 1, 0, none⟩) 1 1
theorem al_size (w : World) (o : Obj) : (w.alloc o).heap.size = w.heap.size + 1 := by simp
set_option maxRecDepth 100000 in
set_option maxHeartbeats 8000000 in
theorem awake11_in (w : World) (hE : Nm.Env w) : Calls Tryz.prog 7 #[] w (LackP true w) := by
  obtain ⟨A1, hA1⟩ : ∃ X, (w.alloc (.cells #[.int .i64 2, .int .i64 5, .int .i64 5, .string ⟨#[]⟩, .bool false, .bool false, .bool false, .slice none 0 0] 29)).alloc (.cells #[.slice (some ⟨w.heap.size, 0, none⟩) 1 1] 24) = X := ⟨_, rfl⟩
  have s1 : A1.heap.size = w.heap.size + 1 + 1 := by rw [← hA1, al_size, al_size]
  have i1 : InV A1 1 (some ⟨w.heap.size, 0, none⟩) 1 1 (nu 5 5) := by rw [← hA1]; exact InV.below (bl_alloc (Below.refl _ _)) (lit_nu w 0 5 5)
  have b1 : Below w.heap.size w A1 := by rw [← hA1]; exact bl_alloc (bl_alloc (Below.refl _ _))
  obtain ⟨A2, hA2⟩ : ∃ X, ((A1.alloc (.cells #[.string ⟨#[98]⟩, .slice (some ⟨w.heap.size, 0, none⟩) 1 1] 52)).alloc (.cells #[.int .i64 4, .int .i64 0, .int .i64 0, .string ⟨#[]⟩, .bool false, .bool false, .bool false, .slice (some ⟨w.heap.size + 1 + 1, 0, none⟩) 1 1] 29)).alloc (.cells #[.slice (some ⟨w.heap.size + 1 + 1 + 1, 0, none⟩) 1 1] 24) = X := ⟨_, rfl⟩
  have s2 : A2.heap.size = w.heap.size + 1 + 1 + 1 + 1 + 1 := by rw [← hA2, al_size, al_size, al_size, s1]
  have i2 : InV A2 2 (some ⟨w.heap.size + 1 + 1 + 1, 0, none⟩) 1 1 inS := by
    have := lit_one A1 1 ⟨#[98]⟩ _ _ _ _ i1
    rw [s1] at this
    rw [← hA2]; exact InV.below (bl_alloc (Below.refl _ _)) this
  have b2 : Below w.heap.size w A2 := by rw [← hA2]; exact bl_step b1 (bl_alloc (bl_alloc (bl_alloc (Below.refl _ _))))
  obtain ⟨X, hX⟩ : ∃ X, ((A2.alloc (.cells #[.string ⟨#[97]⟩, .slice (some ⟨w.heap.size + 1 + 1 + 1, 0, none⟩) 1 1] 52)).alloc (.cells #[.int .i64 4, .int .i64 0, .int .i64 0, .string ⟨#[]⟩, .bool false, .bool false, .bool false, .slice (some ⟨w.heap.size + 1 + 1 + 1 + 1 + 1, 0, none⟩) 1 1] 29)).alloc (.cells #[.slice (some ⟨w.heap.size + 1 + 1 + 1 + 1 + 1 + 1, 0, none⟩) 1 1] 24) = X := ⟨_, rfl⟩
  have HX : Hid (LaidX w X) := Lib.hid (by
    have i3 := lit_one A2 2 ⟨#[97]⟩ _ _ _ _ i2
    rw [s2] at i3
    have v3 := Bv.new ((A2.alloc (.cells #[.string ⟨#[97]⟩, .slice (some ⟨w.heap.size + 1 + 1 + 1, 0, none⟩) 1 1] 52)).alloc (.cells #[.int .i64 4, .int .i64 0, .int .i64 0, .string ⟨#[]⟩, .bool false, .bool false, .bool false, .slice (some ⟨w.heap.size + 1 + 1 + 1 + 1 + 1, 0, none⟩) 1 1] 29)) (some ⟨w.heap.size + 1 + 1 + 1 + 1 + 1 + 1, 0, none⟩) 1 1 24
    rw [al_size, al_size, s2] at v3
    rw [← hX]
    exact ⟨bl_step b2 (bl_alloc (bl_alloc (bl_alloc (Below.refl _ _)))), InV.below (bl_alloc (Below.refl _ _)) i3, v3⟩)
  have HEnv := Lib.hid hE
  have K1 := Lib.hid hA1
  have K2 := Lib.hid hA2
  have K3 := Lib.hid hX
  clear s1 i1 b1 s2 i2 b2 hE hA1 hA2 hX
  go_enter Tryz.func7, Tryz.ntmps7
  go_upto_region 4 with fail
  rw [K1.out, K2.out, K3.out]
  clear K1 K2 K3
  have x0 := HX.out.bx.2.1
  have HPk : Hid (∀ W, Below X.heap.size X W → ∀ p, Ks W (some ⟨p, 0, none⟩) 2 [⟨#[97]⟩, ⟨#[98]⟩] → Calls Tryz.prog 17 #[.agg #[.slice (some ⟨w.heap.size + 1 + 1 + 1 + 1 + 1 + 1, 0, none⟩) 1 1], .slice (some ⟨p, 0, none⟩) 2 2] W (PkP 3 (0, nu 5 5) W)) := Lib.hid fun W hW p hp => by
    rw [← pick_out]; exact pick_in 3 W _ 1 1 outS _ 2 2 _ ⟨InV.below hW HX.out.v, RG.nm rg_out, HEnv.out.below (bl_step HX.out.b hW)⟩ hp
  have HSt : Hid (∀ W, Below X.heap.size X W → Calls Tryz.prog 11 #[.agg #[.slice (some ⟨w.heap.size + 1 + 1 + 1 + 1 + 1 + 1, 0, none⟩) 1 1]] W (LackP true W)) := Lib.hid fun W hW => by
    rw [← set_out]; exact settled_in 3 W _ 1 1 outS ⟨InV.below hW HX.out.v, RG.nm rg_out, HEnv.out.below (bl_step HX.out.b hW)⟩
  have HKs : Hid (Ks (X.alloc (.cells #[.string ⟨#[97]⟩, .string ⟨#[98]⟩] 9)) (some ⟨X.heap.size, 0, none⟩) 2 [⟨#[97]⟩, ⟨#[98]⟩]) := Lib.hid ⟨rfl, by decide, fun i hi => ⟨X.heap.size, 0, rfl, by simp, by
    have : i = 0 ∨ i = 1 := by have : i < 2 := hi; omega
    rcases this with rfl | rfl <;> simp⟩⟩
  have HN2 : Hid (∀ W, Nm.Env W → Calls Tryz.prog 20 #[.agg #[.slice (some ⟨W.heap.size, 0, none⟩) 1 1]] (W.alloc (.cells #[.int .i64 2, .int .i64 1, .int .i64 2, .string ⟨#[]⟩, .bool false, .bool false, .bool false, .slice none 0 0] 29)) (number_inP (0, ⟨#[]⟩, false, 28) (W.alloc (.cells #[.int .i64 2, .int .i64 1, .int .i64 2, .string ⟨#[]⟩, .bool false, .bool false, .bool false, .slice none 0 0] 29)))) := Lib.hid fun W hW => by
    rw [← pl_12 0]; exact number_in 0 _ _ _ 1 1 (nu 1 2) ⟨lit_nu W 0 1 2, RG.nm (rg_n 0 sc_12), hW.below (bl_alloc (Below.refl _ _))⟩ (Below.refl _ _)
  have hX7 := HX.out.bx.1
  go_wp2_with (first
    | (go_at_call 17; refine (HPk.out _ (bl_alloc (Below.refl _ _)) _ HKs.out).mono ?_; rintro e w2 ⟨m, t2, tl2, tc2, hm, rfl, hb, hI⟩; have HB2 := Lib.hid (bl_step (bl_alloc (Below.refl _ _)) hb); have HI := Lib.hid hI; clear hb hI hm; have HN1 : Hid (∀ W, Below w2.heap.size w2 W → Calls Tryz.prog 20 #[.agg #[.slice t2 tl2 tc2]] W (number_inP (5, ⟨#[]⟩, false, 0) W)) := (Lib.hid fun W hW => (by
        obtain ⟨m, rfl⟩ := inV_pos HI.out
        rw [← pl_55 m]; exact number_in m w2 W t2 tl2 tc2 (nu 5 5) ⟨HI.out, RG.nm (rg_n m sc_55), HEnv.out.below (bl_step HX.out.b HB2.out)⟩ hW)))
    | (go_at_call 20; (with_reducible refine (HN1.out _ (bl_alloc (Below.refl _ _))).mono ?_); rintro e w3 ⟨rfl, hb⟩; have HB3 := Lib.hid (bl_step HB2.out (bl_step (bl_alloc (Below.refl _ _)) hb)); clear hb)
    | (go_at_call 20; refine (HN2.out w3 (HEnv.out.below (bl_step HX.out.b HB3.out))).mono ?_; rintro e w4 ⟨rfl, hb⟩; have HB4 := Lib.hid (bl_step HB3.out (bl_step (bl_alloc (Below.refl _ _)) hb)); have x4 := (HX.out.bx.later HB4.out).2.1; clear hb)
    | (go_at_call 11; refine (HSt.out _ HB4.out).mono ?_; rintro e w5 ⟨rfl, hb⟩; have HB5 := Lib.hid (bl_step HB4.out hb); clear hb))
  go_ret
  exact ⟨rfl, bl_step HX.out.b HB5.out⟩
end Go.Proofs.YtfhknnldkfngdaaGreatDoor
