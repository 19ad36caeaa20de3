/- Va, Vb, Vc, Vd, Ve -/
import Derived.Lib.Strings
import Derived.Test.YtddleeenlpigfaaGreatDoorChecked
import Derived.WalkKit
import Derived.WalkSpells
import Derived.WalkLawsBesides
import Derived.Lib.Hide
import Derived.Laws.Rows
import Derived.Laws.CopyOwn
import Derived.RegionTactic
import Derived.BigRegion
import Derived.Lib.AppendZeros
import Derived.OwnWalk
import Derived.Laws.AppendOwnNone
import Derived.Laws.OwnMore
import Derived.Outline
import Derived.Lib.ConvBytes
/- PLAIN MATHEMATICS of numbers as bytes: which bytes a number has, which number some bytes are, or which error; that each goes back. -/
namespace Go.Proofs.YtddleeenlpigfaaGreatDoor.Vn

/-- The groups ahead of the last one. -/
def hi : Nat → Nat → List UInt8
  | 0, _ => []
  | f + 1, n => if n = 0 then [] else hi f (n / 128) ++ [UInt8.ofNat (n % 128 + 128)]
def nb (n : Nat) : List UInt8 := hi 9 (n / 128) ++ [UInt8.ofNat (n % 128)]
def vl (L : List UInt8) : Nat := L.foldl (fun n c => n * 128 + c.toNat % 128) 0
def High (L : List UInt8) : Prop := ∀ c ∈ L, 128 ≤ c.toNat
def lead : Nat → List UInt8 → Nat
  | 0, _ => 0
  | _ + 1, [] => 0
  | f + 1, c :: T => if 128 ≤ c.toNat then lead f T + 1 else 0
/-- What stands at the front: which error, which number, how many bytes. -/
def gets (L : List UInt8) : Nat × Nat × Nat :=
  if L.head? = some 128 then (2, 0, 0)
  else if lead 10 L = 10 then (2, 0, 0)
  else if lead 10 L = L.length then (3, 0, 0)
  else if lead 10 L = 9 ∧ 129 < (L.headD 0).toNat then (2, 0, 0)
  else (0, vl (L.take (lead 10 L + 1)), lead 10 L + 1)

theorem snocRec {P : List UInt8 → Prop} (h0 : P []) (h1 : ∀ L c, P L → P (L ++ [c])) (L : List UInt8) : P L := by
  rw [← List.reverse_reverse L]
  induction L.reverse with
  | nil => exact h0
  | cons c T ih => rw [List.reverse_cons]; exact h1 _ _ ih
theorem vl_snoc (L : List UInt8) (c : UInt8) : vl (L ++ [c]) = vl L * 128 + c.toNat % 128 := by simp [vl]
theorem vl_nil : vl [] = 0 := rfl
theorem vl_lt (L : List UInt8) : vl L < 128 ^ L.length := by
  refine snocRec (P := fun L => vl L < 128 ^ L.length) (by simp [vl_nil]) (fun L c ih => ?_) L
  · rw [vl_snoc, List.length_append, List.length_singleton, Nat.pow_succ]
    omega
theorem foldl_vl (L : List UInt8) : ∀ n, L.foldl (fun n c => n * 128 + c.toNat % 128) n = n * 128 ^ L.length + vl L := by
  refine snocRec (P := fun L => ∀ n, L.foldl (fun n c => n * 128 + c.toNat % 128) n = n * 128 ^ L.length + vl L) (by simp [vl_nil]) (fun L c ih => ?_) L
  · intro n
    rw [List.foldl_append, ih, vl_snoc, List.length_append, List.length_singleton, Nat.pow_succ]
    simp only [List.foldl_cons, List.foldl_nil, Nat.add_mul]
    rw [← Nat.mul_assoc]; omega
theorem vl_cons (c : UInt8) (T : List UInt8) : vl (c :: T) = c.toNat % 128 * 128 ^ T.length + vl T := by
  have := foldl_vl T (0 * 128 + c.toNat % 128)
  simpa [vl] using this
theorem lead_high : ∀ (H : List UInt8) (f : Nat) (T : List UInt8), High H → H.length ≤ f → lead f (H ++ T) = H.length + lead (f - H.length) T
  | [], f, T, _, _ => by simp
  | c :: H, 0, T, _, hl => by simp at hl
  | c :: H, f + 1, T, hh, hl => by
    simp only [List.cons_append, lead, List.length_cons]
    rw [if_pos (hh c (by simp)), lead_high H f T (fun d hd => hh d (by simp [hd])) (by simpa using hl)]
    rw [show f + 1 - (H.length + 1) = f - H.length by omega]; omega
theorem lead_low (f : Nat) (d : UInt8) (T : List UInt8) (h : d.toNat < 128) : lead f (d :: T) = 0 := by
  cases f with
  | zero => rfl
  | succ f => simp only [lead]; rw [if_neg (by omega)]
theorem lead_nil (f : Nat) : lead f [] = 0 := by cases f <;> rfl
theorem lead_le : ∀ f L, lead f L ≤ f ∧ lead f L ≤ L.length
  | 0, _ => by simp [lead]
  | f + 1, [] => by simp [lead]
  | f + 1, c :: T => by
    have := lead_le f T
    simp only [lead, List.length_cons]; split <;> omega
/-- The front splits: what is high, and what follows. -/
theorem lead_split : ∀ f L, High (L.take (lead f L)) ∧ (lead f L < f → lead f L < L.length → ∃ d T, L.drop (lead f L) = d :: T ∧ d.toNat < 128)
  | 0, _ => by simp [lead, High]
  | f + 1, [] => by simp [lead, High]
  | f + 1, c :: T => by
    obtain ⟨h1, h2⟩ := lead_split f T
    simp only [lead, List.length_cons]
    split
    · rename_i hc
      refine ⟨fun d hd => ?_, fun a b => ?_⟩
      · rcases List.mem_cons.1 (by simpa using hd) with rfl | hd
        · exact hc
        · exact h1 d hd
      · exact h2 (by omega) (by omega)
    · rename_i hc
      exact ⟨by simp [High], fun _ _ => ⟨c, T, rfl, by omega⟩⟩
/-! ### the ways out -/
theorem gets_first {L : List UInt8} (h : L.head? = some 128) : gets L = (2, 0, 0) := by
  unfold gets; rw [if_pos h]
theorem gets_ten {H T : List UInt8} (hh : High H) (hl : H.length = 10) : gets (H ++ T) = (2, 0, 0) := by
  unfold gets
  have : lead 10 (H ++ T) = 10 := by rw [lead_high H 10 T hh (by omega), hl]; simp [lead]
  rw [this]; simp
theorem gets_short {H : List UInt8} (hh : High H) (hl : H.length < 10) (h0 : H.head? ≠ some 128) : gets H = (3, 0, 0) := by
  unfold gets
  have : lead 10 H = H.length := by
    have := lead_high H 10 [] hh (by omega)
    rw [List.append_nil, lead_nil] at this; omega
  rw [this, if_neg h0, if_neg (by omega), if_pos rfl]
theorem gets_wide {H : List UInt8} {d : UInt8} {T : List UInt8} (hh : High H) (hl : H.length = 9) (h9 : 129 < (H.headD 0).toNat) : gets (H ++ d :: T) = (2, 0, 0) := by
  have hd : ((H ++ d :: T).headD 0) = H.headD 0 := by
    cases H with
    | nil => simp at hl
    | cons a H => rfl
  by_cases hd2 : 128 ≤ d.toNat
  · rw [show H ++ d :: T = (H ++ [d]) ++ T by simp]
    refine gets_ten (fun c hc => ?_) (by simp [hl])
    rcases List.mem_append.1 hc with hc | hc
    · exact hh c hc
    · simp at hc; subst hc; exact hd2
  · have hle : lead 10 (H ++ d :: T) = 9 := by rw [lead_high H 10 _ hh (by omega), lead_low _ _ _ (by omega), hl]
    unfold gets
    rw [hle, hd]
    split
    · rfl
    · rw [if_neg (by omega), if_neg (by simp [hl]), if_pos ⟨rfl, h9⟩]
theorem gets_ok {H : List UInt8} {d : UInt8} {T : List UInt8} (hh : High H) (hd : d.toNat < 128) (hl : H.length ≤ 9) (h0 : H.head? ≠ some 128) (h9 : H.length = 9 → (H.headD 0).toNat ≤ 129) :
    gets (H ++ d :: T) = (0, vl H * 128 + d.toNat, H.length + 1) := by
  have hle : lead 10 (H ++ d :: T) = H.length := by rw [lead_high H 10 _ hh (by omega), lead_low _ _ _ hd, Nat.add_zero]
  have hh0 : (H ++ d :: T).head? ≠ some 128 := by
    cases H with
    | nil => intro e; simp at e; subst e; revert hd; decide
    | cons a H => exact h0
  have hv : (H ++ d :: T).take (H.length + 1) = H ++ [d] := by
    rw [List.take_append, List.take_of_length_le (by omega)]
    simp
  unfold gets
  rw [hle, if_neg hh0, if_neg (by omega), if_neg (by simp), if_neg ?_, hv, vl_snoc, Nat.mod_eq_of_lt hd]
  rintro ⟨e, e2⟩
  have := h9 e
  cases H with
  | nil => simp at e
  | cons a H => simp at e2 this; omega
/-! ### there and back -/
theorem hi_props : ∀ f n, n < 128 ^ f → High (hi f n) ∧ vl (hi f n) = n ∧ (hi f n).length ≤ f ∧ (hi f n).head? ≠ some 128 ∧ (n = 0 → hi f n = [])
  | 0, n, h => by
    have : n = 0 := by simpa using h
    subst this
    simp [hi, High, vl_nil]
  | f + 1, n, h => by
    simp only [hi]
    split
    · rename_i h0; subst h0; simp [High, vl_nil]
    · rename_i h0
      have hlt : n / 128 < 128 ^ f := by rw [Nat.pow_succ] at h; omega
      obtain ⟨a, b, c, d, e⟩ := hi_props f (n / 128) hlt
      have ht : (UInt8.ofNat (n % 128 + 128)).toNat = n % 128 + 128 := by rw [UInt8.toNat_ofNat']; omega
      refine ⟨fun x hx => ?_, ?_, ?_, ?_, fun x => absurd x h0⟩
      · rcases List.mem_append.1 hx with hx | hx
        · exact a x hx
        · rw [List.mem_singleton.1 hx, ht]; omega
      · rw [vl_snoc, b, ht]; omega
      · rw [List.length_append, List.length_singleton]; omega
      · by_cases hq : n / 128 = 0
        · rw [e hq]
          intro x
          rw [List.nil_append, List.head?_cons] at x
          replace x := Option.some.inj x
          have : (UInt8.ofNat (n % 128 + 128)).toNat = 128 := by rw [x]; rfl
          omega
        · cases hg : hi f (n / 128) with
          | nil => rw [hg, vl_nil] at b; omega
          | cons y Y => rw [hg] at d; exact d
theorem vl_pos {H : List UInt8} (hh : High H) (h0 : H.head? ≠ some 128) (hne : H ≠ []) : 0 < vl H := by
  cases H with
  | nil => exact absurd rfl hne
  | cons c T =>
    rw [vl_cons]
    have h1 := hh c (by simp)
    have h2 := c.toNat_lt
    have h3 : c.toNat ≠ 128 := fun e => h0 (by
      have : c = 128 := UInt8.toNat.inj e
      rw [this]; rfl)
    have h4 : 1 ≤ c.toNat % 128 := by omega
    have := Nat.mul_le_mul h4 (Nat.one_le_two_pow (n := 7 * T.length))
    have hp : 0 < 128 ^ T.length := Nat.pow_pos (by decide)
    have := Nat.mul_pos (show 0 < c.toNat % 128 by omega) hp
    omega
theorem hi_uniq (H : List UInt8) : ∀ f, High H → H.head? ≠ some 128 → H.length ≤ f → hi f (vl H) = H := by
  refine snocRec (P := fun H => ∀ f, High H → H.head? ≠ some 128 → H.length ≤ f → hi f (vl H) = H) (fun f _ _ _ => by cases f <;> simp [hi, vl_nil]) (fun H c ih => ?_) H
  · intro f hh h0 hl
    rw [List.length_append, List.length_singleton] at hl
    obtain ⟨f, rfl⟩ : ∃ g, f = g + 1 := ⟨f - 1, by omega⟩
    have hp := vl_pos hh h0 (by simp)
    have hc := hh c (by simp)
    have hc2 := c.toNat_lt
    rw [vl_snoc] at hp ⊢
    simp only [hi]
    rw [if_neg (by omega), show (vl H * 128 + c.toNat % 128) / 128 = vl H by omega, show (vl H * 128 + c.toNat % 128) % 128 = c.toNat % 128 by omega,
      show c.toNat % 128 + 128 = c.toNat by omega, UInt8.ofNat_toNat]
    rw [ih f (fun d hd => hh d (by simp [hd])) ?_ (by omega)]
    cases H with
    | nil => simp
    | cons a H => exact h0
theorem wide_of {H : List UInt8} (hl : H.length = 9) : (H.headD 0).toNat % 128 * 128 ^ 8 ≤ vl H ∧ vl H < ((H.headD 0).toNat % 128 + 1) * 128 ^ 8 := by
  cases H with
  | nil => simp at hl
  | cons c T =>
    have ht : T.length = 8 := by simpa using hl
    have := vl_lt T
    rw [vl_cons, ht]
    rw [ht] at this
    simp only [List.headD_cons, Nat.add_mul]
    omega
theorem gets_nb {n : Nat} (h : n < 18446744073709551616) (T : List UInt8) : gets (nb n ++ T) = (0, n, (nb n).length) := by
  obtain ⟨a, b, c, d, _⟩ := hi_props 9 (n / 128) (by omega)
  have ht : (UInt8.ofNat (n % 128)).toNat = n % 128 := by rw [UInt8.toNat_ofNat']; omega
  unfold nb
  rw [List.append_assoc]
  show gets (hi 9 (n / 128) ++ UInt8.ofNat (n % 128) :: T) = _
  rw [gets_ok a (by rw [ht]; omega) c d, b, ht, List.length_append]
  · rw [show n / 128 * 128 + n % 128 = n by omega]; rfl
  · intro e
    have h1 := (wide_of e).1
    rw [b] at h1
    have h2 := ((hi 9 (n / 128)).headD 0).toNat_lt
    generalize ((hi 9 (n / 128)).headD 0).toNat = x at *
    omega
theorem gets_back {L : List UInt8} {n c : Nat} (h : gets L = (0, n, c)) : nb n = L.take c ∧ n < 18446744073709551616 ∧ c ≤ L.length := by
  unfold gets at h
  split at h
  · simp at h
  rename_i h0
  split at h
  · simp at h
  rename_i h1
  split at h
  · simp at h
  rename_i h2
  split at h
  · simp at h
  rename_i h3
  simp only [Prod.mk.injEq, true_and] at h
  obtain ⟨rfl, rfl⟩ := h
  obtain ⟨l1, l2⟩ := lead_le 10 L
  obtain ⟨s1, s2⟩ := lead_split 10 L
  obtain ⟨d, T, e, hd⟩ := s2 (by omega) (by omega)
  generalize lead 10 L = k at *
  have hk : (L.take k).length = k := by rw [List.length_take]; omega
  have hL : L = L.take k ++ d :: T := by rw [← e, List.take_append_drop]
  have ht : L.take (k + 1) = L.take k ++ [d] := by
    conv => lhs; rw [hL]
    rw [List.take_append, List.take_of_length_le (by omega), hk]
    simp
  have hh0 : (L.take k).head? ≠ some 128 := by
    cases k with
    | zero => simp
    | succ k =>
      cases L with
      | nil => simp
      | cons a L => exact h0
  rw [ht, vl_snoc, Nat.mod_eq_of_lt hd]
  refine ⟨?_, ?_, by omega⟩
  · unfold nb
    rw [show (vl (L.take k) * 128 + d.toNat) / 128 = vl (L.take k) by omega, show (vl (L.take k) * 128 + d.toNat) % 128 = d.toNat by omega, UInt8.ofNat_toNat,
      hi_uniq _ 9 s1 hh0 (by omega)]
  · by_cases e9 : k = 9
    · subst e9
      have h4 := (wide_of hk).2
      have h5 : ((L.take 9).headD 0) = L.headD 0 := by
        cases L with
        | nil => rfl
        | cons a L => rfl
      rw [h5] at h4
      have h6 := (L.headD 0).toNat_lt
      have h7 : (L.headD 0).toNat ≤ 129 := Nat.le_of_not_lt fun x => h3 ⟨rfl, x⟩
      have h8 : 128 ≤ (L.headD 0).toNat := by
        cases L with
        | nil => simp at hk
        | cons a L => exact s1 a (by simp)
      generalize (L.headD 0).toNat = x at *
      omega
    · have := vl_lt (L.take k)
      rw [hk] at this
      have h9 := Nat.pow_le_pow_right (n := 128) (by decide) (show k ≤ 8 by omega)
      omega
def sgn (n : Int) : Nat := if n < 0 then (2 * (-(n + 1)) + 1).toNat else (2 * n).toNat
def usg (n : Nat) : Int := if n % 2 = 1 then -((n / 2 : Nat) : Int) - 1 else ((n / 2 : Nat) : Int)
theorem usg_sgn (n : Int) : usg (sgn n) = n := by
  unfold usg sgn
  split <;> split <;> omega
theorem sgn_lt {n : Int} (h1 : -9223372036854775808 ≤ n) (h2 : n ≤ 9223372036854775807) : sgn n < 18446744073709551616 := by
  unfold sgn; split <;> omega
end Go.Proofs.YtddleeenlpigfaaGreatDoor.Vn
/- WALKS of slices.Grow, slices.Concat. -/
namespace Go.Proofs.YtddleeenlpigfaaGreatDoor.Vn
open Go.RowKit
theorem ret_int {k : IntKind} {a b : Int} (h : a = b) : Ending.returned (.int k a) = .returned (.int k b) := by rw [h]
theorem ret_bool {a b : Bool} (h : a = b) : Ending.returned (.bool a) = .returned (.bool b) := by rw [h]
theorem ret_str {a b : ByteArray} (h : a = b) : Ending.returned (.string a) = .returned (.string b) := by rw [h]
theorem Tryz.info5 : (Tryz.prog.info? 5).map (fun i => (i.zero, i.size, i.bytes)) = some (some (.int .u8 0), 1, 1) := by kernel_rfl
set_option maxHeartbeats 1000000 in
theorem grow_pos (n : Nat) (w : World) (h0 : 0 < n) (h : n ≤ 140737488355328) : Calls Tryz.prog 162 #[.slice none 0 0, .int .i64 n] w fun e w' => ∃ v, e = .returned v ∧ w'.ownsRow w.heap.size 5 1 v 0 [] ∧ Below w.heap.size w w' := by
  obtain ⟨i0, hi, hx⟩ := Option.map_eq_some_iff.1 Tryz.info5
  simp only [Prod.mk.injEq] at hx
  obtain ⟨hz0, hz1, hz2⟩ := hx
  have hrun := fun ty => Lib.run_append_nil_zeros (P := Tryz.prog) w 74 3 ty 5 i0 (.int .u8 0) .i64 .i64 Tryz.underlying74 Tryz.underlying3 hi hz0 n h0 (by omega) (by omega) (by rw [hz2]; omega)
  have hcap := grownCap_le_maxLen w n 0 5 (by unfold maxLen; omega)
  have hge := grownCap_ge w n 0 5
  generalize grownCap w n 0 5 = G at *
  have hS : (Builtin.zeroCells (Value.int .u8 0).cells n ++ Builtin.zeroCells (Value.int .u8 0).cells (G - n)).size = G * 1 := by
    rw [Array.size_append, size_zeroCells, size_zeroCells]
    show n * 1 + (G - n) * 1 = G * 1
    omega
  generalize Builtin.zeroCells (Value.int .u8 0).cells n ++ Builtin.zeroCells (Value.int .u8 0).cells (G - n) = C at *
  have HS := Lib.hid hS
  have HC := Lib.hid hcap
  unfold maxLen at hcap
  clear hS hz0 hz1 hz2 hi
  go_enter Tryz.func162, Tryz.ntmps162
  go_wp2_with (at_builtin; refine Lib.wpList_append_run _ rfl _ _ _ _ rfl _ _ rfl rfl _ _ (hrun _) ?_)
  go_ret
  exact ⟨_, rfl, ⟨rfl, .inr ⟨w.heap.size, G, C, rfl, Nat.le_refl _, heap_alloc_new w _, Nat.zero_le _, HC.out, HS.out, by simp⟩⟩, ((Below.refl _ w).alloc (Nat.le_refl _) _).drew⟩
/-- A slice of bytes: which bytes it has, where they stand. -/
def SRow (w : World) (a : Option Addr) (L : List UInt8) : Prop :=
  (a = none ∧ L = []) ∨ ∃ ad, a = some ad ∧ (L ≠ [] → ad.block < w.heap.size) ∧ ∀ j (h : j < L.length), w.cell? (ad.add j) = some (.int .u8 (L[j].toNat : Int))
theorem block_add (a : Addr) (n : Nat) : (a.add n).block = a.block := by unfold Addr.add; split <;> rfl
theorem SRow.below {w w' : World} {a : Option Addr} {L : List UInt8} (h : SRow w a L) (hb : Below w.heap.size w w') : SRow w' a L := by
  rcases h with h | ⟨ad, rfl, h1, h2⟩
  · exact .inl h
  · refine .inr ⟨ad, rfl, fun e => Nat.lt_of_lt_of_le (h1 e) hb.size, fun j hj => ?_⟩
    have : L ≠ [] := fun e => by subst e; simp at hj
    rw [hb.cell (by rw [block_add]; exact h1 this)]
    exact h2 j hj
/-- One of the slices that are put together: where it stands, its capacity, its bytes. -/
abbrev Seg := Option Addr × Nat × List UInt8
def tot (segs : List Seg) : List UInt8 := (segs.map (·.2.2)).flatten
structure Segs (w : World) (b off : Nat) (segs : List Seg) : Prop where
  lt : b < w.heap.size
  at_ : ∀ (i : Nat) (s : Seg), segs[i]? = some s → w.cell? ⟨b, off + i, none⟩ = some (.slice s.1 s.2.2.length s.2.1) ∧ SRow w s.1 s.2.2 ∧ (s.1 = none → s.2.1 = 0)
theorem Segs.below {w w' : World} {b off : Nat} {segs : List Seg} (h : Segs w b off segs) (hb : Below w.heap.size w w') : Segs w' b off segs :=
  ⟨Nat.lt_of_lt_of_le h.lt hb.size, fun i s hs => ⟨by rw [hb.cell (p := ⟨b, off + i, none⟩) h.lt]; exact (h.at_ i s hs).1, (h.at_ i s hs).2.1.below hb, (h.at_ i s hs).2.2⟩⟩
theorem tot_succ {segs : List Seg} {s : Seg} {k : Nat} (h : segs[k]? = some s) : tot (segs.take (k + 1)) = tot (segs.take k) ++ s.2.2 := by
  obtain ⟨hl, e⟩ := List.getElem?_eq_some_iff.1 h
  rw [List.take_succ_eq_append_getElem hl, e]; simp [tot]
theorem tot_le (segs : List Seg) (k : Nat) : (tot (segs.take k)).length ≤ (tot segs).length := by
  conv => rhs; rw [← List.take_append_drop k segs]
  simp only [tot, List.map_append, List.flatten_append, List.length_append]
  omega
def u8s (L : List UInt8) : List Value := L.map fun c => Value.int .u8 (c.toNat : Int)
theorem own_base {w : World} {base e size n : Nat} {v : Value} {xs : List Value} (h : w.ownsRow base e size v n xs) : ∀ k, v.ownBlock = some k → base ≤ k := by
  intro k hk
  rcases h.2 with ⟨rfl, _⟩ | ⟨g, cap, cur, rfl, hb, _⟩
  · simp [Value.ownBlock] at hk
  · simp [Value.ownBlock] at hk; omega
theorem row_own {w : World} {base n : Nat} {v : Value} {L : List UInt8} (h : w.ownsRow base 5 1 v n (u8s L)) : ∃ a cap, v = .slice a L.length cap ∧ SRow w a L := by
  have hl := h.1
  rw [u8s, List.length_map, Nat.mul_one] at hl
  rcases h.2 with ⟨rfl, hn0⟩ | ⟨g, cap, cur, rfl, hb, hg, hcap, hm, hsz, htake⟩
  · rw [hl, hn0]
    exact ⟨none, 0, rfl, .inl ⟨rfl, List.eq_nil_of_length_eq_zero (by omega)⟩⟩
  · rw [← hl]
    refine ⟨_, cap, rfl, .inr ⟨_, rfl, fun _ => (Array.getElem?_eq_some_iff.1 hg).1, fun j hj => ?_⟩⟩
    have h1 : (u8s L)[j]? = some (.int .u8 (L[j].toNat : Int)) := by simp [u8s, List.getElem?_eq_getElem hj]
    rw [← htake, Nat.mul_one, List.getElem?_take_of_lt (by omega)] at h1
    have ha : (⟨g, 0, none⟩ : Addr).add j = ⟨g, j, none⟩ := by unfold Addr.add; split <;> simp_all
    rw [ha, cell_of_row _ _ _ _ 5 (0, 0) hg]
    simpa using h1
set_option maxRecDepth 100000 in
set_option maxHeartbeats 2000000 in
theorem concat_any (b off len cap : Nat) (segs : List Seg) (w : World) (hlen : segs.length = len) (hl63 : len ≤ 1000) (hS : Segs w b off segs) (h0 : 0 < (tot segs).length) (h47 : (tot segs).length ≤ 140737488355328) :
    Calls Tryz.prog 128 #[.slice (some ⟨b, off, none⟩) len cap] w fun e w' => ∃ a c, e = .returned (.slice a (tot segs).length c) ∧ SRow w' a (tot segs) ∧ Below w.heap.size w w' := by
  have HS := Lib.hid hS
  have HLen := Lib.hid hlen
  clear hS hlen
  go_enter Tryz.func128, Tryz.ntmps128
  go_wp2
  go_loop [3, 11] (fun z i => ∃ (k n : Nat), k ≤ len ∧ i = .int .i64 k ∧ z = .int .i64 n ∧ n = (tot (segs.take k)).length) (fun _ i => len - (intOf i).toNat)
  case atStart => exact ⟨0, 0, by omega, rfl, rfl, by simp [tot]⟩
  case round =>
    obtain ⟨k, n, hk, rfl, rfl, hn⟩ := hrel
    have hn47 : n ≤ (tot segs).length := by rw [hn]; exact tot_le segs k
    have HN := Lib.hid hn
    clear hn
    by_cases hlt : k < len
    · obtain ⟨⟨a, c, L⟩, hs⟩ : ∃ s, segs[k]? = some s := ⟨segs[k]'(by rw [HLen.out]; exact hlt), List.getElem?_eq_getElem _⟩
      have hcell := (HS.out.at_ k _ hs).1
      have HT := Lib.hid (tot_succ hs)
      have hm47 : n + L.length ≤ (tot segs).length := by
        have := tot_le segs (k + 1)
        rw [tot_succ hs, List.length_append, ← HN.out] at this
        exact this
      clear hs
      generalize hLl : L.length = m at *
      have HL := Lib.hid hLl
      clear hLl
      go_wp2
      go_round
      case rel => exact ⟨k + 1, n + m, by omega, by go_num, by go_num, by rw [HT.out, List.length_append, ← HN.out, ← HL.out]⟩
      case measure => simp [intOf]; omega
    · obtain rfl : k = len := by omega
      have hnt : n = (tot segs).length := by rw [HN.out, List.take_of_length_le (by rw [HLen.out]; exact Nat.le_refl _)]
      have HG := Lib.hid (grow_pos n w (by omega) (by omega))
      have HNT := Lib.hid hnt
      clear hnt
      go_wp2_with (go_at_call 162; refine HG.out.mono ?_; rintro e w1 ⟨v1, rfl, hO, hB⟩; have HO := Lib.hid hO; have HB := Lib.hid hB; clear hO hB)
      obtain ⟨i0, hi, hz0, hz1, hz2⟩ := info_parts Tryz.info5
      have HI := Lib.hid hi
      have HZ0 := Lib.hid hz0
      have HZ1 := Lib.hid hz1
      have HZ2 := Lib.hid hz2
      clear hi hz0 hz1 hz2
      go_loopw [6, 27] (fun v i wr => ∃ (j m : Nat), j ≤ k ∧ i = .int .i64 j ∧ m = (tot (segs.take j)).length ∧ wr.ownsRow w.heap.size 5 1 v m (u8s (tot (segs.take j))) ∧ Below w.heap.size w wr) (fun _ i _ => k - (intOf i).toNat)
      case atStart => exact ⟨0, 0, by omega, rfl, by simp [tot], by simpa [tot, u8s] using HO.out, HB.out⟩
      case round =>
        obtain ⟨j, m, hj, rfl, hm, hown, hBl⟩ := hrel
        rename World => wr
        rename Value => v
        have HM := Lib.hid hm
        have OW := Lib.hid hown
        have BL := Lib.hid hBl
        have hsz := hBl.size
        clear hm hown hBl
        by_cases hlt : j < k
        · obtain ⟨⟨a, c, L⟩, hs⟩ : ∃ s, segs[j]? = some s := ⟨segs[j]'(by rw [HLen.out]; exact hlt), List.getElem?_eq_getElem _⟩
          obtain ⟨hcell, hR, hnil⟩ := (HS.out.below BL.out).at_ j _ hs
          have HT := Lib.hid (tot_succ hs)
          have hm47 : m + L.length ≤ (tot segs).length := by
            have := tot_le segs (j + 1)
            rw [tot_succ hs, List.length_append, ← HM.out] at this
            exact this
          have HR := Lib.hid hR
          clear hs hR
          rcases a with _ | ad
          · obtain rfl : L = [] := by
              rcases HR.out with h | ⟨ad, h, _⟩
              · exact h.2
              · cases h
            obtain rfl : c = 0 := hnil rfl
            clear hnil
            go_wp2_with (at_builtin; refine wpList_append_own_none rfl _ _ 74 rfl w.heap.size 5 i0 1 Tryz.underlying74 HI.out _ _ _ rfl OW.out rfl ?_)
            go_roundw
            case rel => exact ⟨j + 1, m, by omega, by go_num, by rw [HT.out, HM.out]; simp, by rw [HT.out]; simpa using OW.out, BL.out⟩
            case measure => simp [intOf]; omega
          · clear hnil
            have HC : Hid (∀ i u, (u8s L)[i]? = some u → wr.cell? (ad.add i) = some u) := fun i u hu => by
              rcases HR.out with h | ⟨ad2, h, _, h2⟩
              · cases h.1
              · cases h
                obtain ⟨hl, e⟩ := List.getElem?_eq_some_iff.1 hu
                have hl2 : i < L.length := by simpa [u8s] using hl
                rw [h2 i hl2, ← e]; simp [u8s]
            generalize hLl : L.length = q at *
            have HL := Lib.hid hLl
            clear hLl
            go_wp2_with (at_builtin; refine wpList_append_own _ rfl _ _ 74 rfl w.heap.size 5 i0 (.int .u8 0) 1 1 Tryz.underlying74 HI.out HZ0.out HZ1.out HZ2.out rfl (by decide) _ _ _ rfl OW.out ad q c (u8s L) rfl (by simp [u8s, HL.out]) HC.out (fun x hx => by simp [u8s] at hx; obtain ⟨d, _, rfl⟩ := hx; rfl) (by unfold maxLen; omega) (by omega) (by omega) ?_; intro v' w3 hown' hgrow3 hnil3; have OW3 := Lib.hid hown'; have G3 := Lib.hid hgrow3; clear hown' hgrow3 hnil3)
            go_roundw
            case rel => exact ⟨j + 1, m + q, by omega, by go_num, by rw [HT.out, List.length_append, ← HM.out, ← HL.out], by rw [HT.out]; simpa [u8s] using OW3.out, BL.out.grown G3.out (by omega) (own_base OW.out)⟩
            case measure => simp [intOf]; omega
        · obtain rfl : j = k := by omega
          have e1 : tot (segs.take j) = tot segs := by rw [List.take_of_length_le (by rw [HLen.out]; exact Nat.le_refl _)]
          rw [e1] at OW
          obtain ⟨a, c, rfl, hR⟩ := row_own OW.out
          have HR := Lib.hid hR
          clear hR e1
          go_wp2
          go_ret
          exact ⟨a, c, rfl, HR.out, BL.out⟩
end Go.Proofs.YtddleeenlpigfaaGreatDoor.Vn
/- WALKS of vint.Put, vint.unsigned, vint.PutInt, vint.PutText. -/
namespace Go.Proofs.YtddleeenlpigfaaGreatDoor.Vn
open Go.RowKit
structure TailIs (cs : Array Value) (L : List UInt8) : Prop where
  size : cs.size = 10
  len : L.length ≤ 10
  at_ : ∀ j (h : j < L.length), cs[10 - L.length + j]? = some (.int .u8 (L[j].toNat : Int))
theorem TailIs.first (cs : Array Value) (h : cs.size = 10) : TailIs cs [] := ⟨h, by simp, fun j h => by simp at h⟩
theorem TailIs.step {cs : Array Value} {L : List UInt8} (h : TailIs cs L) (c : UInt8) (v : Int) (i : Nat) (hv : v = (c.toNat : Int)) (hi : i + L.length = 9) : TailIs (cs.setIfInBounds i (.int .u8 v)) (c :: L) := by
  subst hv
  obtain ⟨h1, h2, h3⟩ := h
  refine ⟨by simp [h1], by simp; omega, fun j hj => ?_⟩
  have e : 10 - (c :: L).length = i := by simp; omega
  rw [e]
  cases j with
  | zero => rw [Nat.add_zero, Array.getElem?_setIfInBounds_self, if_pos (by omega)]; rfl
  | succ j =>
    rw [Array.getElem?_setIfInBounds_ne (by omega)]
    have := h3 j (by simpa using hj)
    rw [show 10 - L.length + j = i + (j + 1) by omega] at this
    simpa using this
theorem tail_start {v : Int} {c : UInt8} (hv : v = (c.toNat : Int)) : TailIs #[.int .u8 0, .int .u8 0, .int .u8 0, .int .u8 0, .int .u8 0, .int .u8 0, .int .u8 0, .int .u8 0, .int .u8 0, .int .u8 v] [c] := by
  subst hv
  refine ⟨rfl, by simp, fun j hj => ?_⟩
  obtain rfl : j = 0 := by simpa using hj
  rfl
theorem slice_tail (W : World) (b i m : Nat) (hi : i < 10) (hm : m = 10 - i) : (Instr.sliceAt 142 (.pointer (some ⟨b, 0, none⟩)) (some (.int .i64 i)) none none).run Tryz.prog W = .ok (.slice (some ⟨b, i, none⟩) m m) W := by
  subst hm
  have ha : Tryz.prog.arrayLen 142 = 10 := by kernel_rfl
  have h := run_sliceAt_array_l (P := Tryz.prog) W 142 ⟨b, 0, none⟩ (by kernel_rfl) .i64 i (by omega) (by rw [ha]; omega)
  rw [h, ha]
  have hs : ((sizeOf (Tryz.prog.elem 142)).run Tryz.prog W) = .ok 1 W := by kernel_rfl
  rw [hs]
  simp only [Result.andThen, slicedAt, Int.toNat_natCast, if_neg (show ¬ 10 = i by omega)]
  simp [Addr.add]
  exact fun e => e.symm
theorem tail_row {w : World} {cs : Array Value} {L : List UInt8} {i : Nat} (h : TailIs cs L) (hi : i + L.length = 10) : SRow (w.alloc (.cells cs 142)) (some ⟨w.heap.size, i, none⟩) L := by
  refine .inr ⟨_, rfl, fun _ => by simp, fun j hj => ?_⟩
  have ha : (⟨w.heap.size, i, none⟩ : Addr).add j = ⟨w.heap.size, i + j, none⟩ := by unfold Addr.add; split <;> simp_all
  rw [ha, cell_of_row _ _ _ _ 142 (0, 0) (heap_alloc_new w _)]
  have := h.at_ j hj
  rwa [show 10 - L.length = i by omega] at this
theorem two_segs {w : World} {a1 a2 : Option Addr} {c1 c2 : Nat} {L1 L2 : List UInt8} {v1 v2 : Value} (h1 : SRow w a1 L1) (h2 : SRow w a2 L2) (n1 : a1 = none → c1 = 0) (n2 : a2 = none → c2 = 0)
    (e1 : v1 = .slice a1 L1.length c1) (e2 : v2 = .slice a2 L2.length c2) : Segs (w.alloc (.cells #[v1, v2] 74)) w.heap.size 0 [(a1, c1, L1), (a2, c2, L2)] := by
  subst e1 e2
  have hb : Below w.heap.size w (w.alloc (.cells #[.slice a1 L1.length c1, .slice a2 L2.length c2] 74)) := (Below.refl _ w).alloc (Nat.le_refl _) _
  refine ⟨by simp, fun i s hs => ?_⟩
  rw [cell_of_row _ _ _ _ 74 (0, 0) (heap_alloc_new w _)]
  match i, hs with
  | 0, hs => simp at hs; subst hs; exact ⟨rfl, h1.below hb, n1⟩
  | 1, hs => simp at hs; subst hs; exact ⟨rfl, h2.below hb, n2⟩
theorem three_segs {w : World} {a1 a2 a3 : Option Addr} {c1 c2 c3 : Nat} {L1 L2 L3 : List UInt8} {v1 v2 v3 : Value} (h1 : SRow w a1 L1) (h2 : SRow w a2 L2) (h3 : SRow w a3 L3) (n1 : a1 = none → c1 = 0) (n2 : a2 = none → c2 = 0) (n3 : a3 = none → c3 = 0)
    (e1 : v1 = .slice a1 L1.length c1) (e2 : v2 = .slice a2 L2.length c2) (e3 : v3 = .slice a3 L3.length c3) : Segs (w.alloc (.cells #[v1, v2, v3] 74)) w.heap.size 0 [(a1, c1, L1), (a2, c2, L2), (a3, c3, L3)] := by
  subst e1 e2 e3
  have hb : Below w.heap.size w (w.alloc (.cells #[.slice a1 L1.length c1, .slice a2 L2.length c2, .slice a3 L3.length c3] 74)) := (Below.refl _ w).alloc (Nat.le_refl _) _
  refine ⟨by simp, fun i s hs => ?_⟩
  rw [cell_of_row _ _ _ _ 74 (0, 0) (heap_alloc_new w _)]
  match i, hs with
  | 0, hs => simp at hs; subst hs; exact ⟨rfl, h1.below hb, n1⟩
  | 1, hs => simp at hs; subst hs; exact ⟨rfl, h2.below hb, n2⟩
  | 2, hs => simp at hs; subst hs; exact ⟨rfl, h3.below hb, n3⟩
theorem SRow.none_ {w : World} {L : List UInt8} (h : SRow w none L) : L = [] := by
  rcases h with h | ⟨ad, h, _⟩
  · exact h.2
  · cases h
/-- What Put answers: a slice of these bytes. -/
def PutsS (L : List UInt8) (w : World) (e : Ending) (w' : World) : Prop := ∃ a c, e = .returned (.slice a L.length c) ∧ SRow w' a L ∧ (a = none → c = 0) ∧ Below w.heap.size w w'
theorem ofNat_lo (m : Nat) : ((UInt8.ofNat (m % 128)).toNat : Int) = (m : Int) % 128 := by rw [UInt8.toNat_ofNat']; omega
theorem ofNat_hi (m : Nat) : ((UInt8.ofNat (m % 128 + 128)).toNat : Int) = (m : Int) % 128 + 128 := by rw [UInt8.toNat_ofNat']; omega
theorem hi_step {i m : Nat} {L N : List UInt8} (hm : 0 < m) (h : hi (i + 1) m ++ L = N) : hi i (m / 128) ++ (UInt8.ofNat (m % 128 + 128) :: L) = N := by
  rw [← h]; simp only [hi]; rw [if_neg (by omega)]; simp
theorem hi_stop {i : Nat} {L N : List UInt8} (h : hi i 0 ++ L = N) : L = N := by
  rw [← h]; cases i <;> simp [hi]
set_option maxRecDepth 100000 in
set_option maxHeartbeats 2000000 in
theorem put_any (a : Option Addr) (cap q n : Nat) (L0 : List UInt8) (w : World) (hq : L0.length = q) (hR : SRow w a L0) (hnil : a = none → cap = 0) (hq47 : q ≤ 70368744177664) (hn : n < 18446744073709551616) :
    Calls Tryz.prog 93 #[.slice a q cap, .int .u64 n] w (PutsS (L0 ++ nb n) w) := by
  have HR := Lib.hid hR
  have HNil := Lib.hid hnil
  have HQ := Lib.hid hq
  clear hR hnil hq
  go_enter Tryz.func93, Tryz.ntmps93
  go_wp2
  go_loopw [1, 6] (fun v t wr => ∃ (i m : Nat) (L : List UInt8) (cs : Array Value), i + L.length = 10 ∧ i ≤ 9 ∧ m < 128 ^ i ∧ v = .int .u64 m ∧ t = .int .i64 i ∧ wr = w.alloc (.cells cs 142) ∧ hi i m ++ L = nb n ∧ TailIs cs L) (fun _ t _ => (intOf t).toNat)
  case atStart => exact ⟨9, n / 128, [UInt8.ofNat (n % 128)], _, rfl, by omega, by omega, by go_num, rfl, rfl, rfl, tail_start (ofNat_lo n).symm⟩
  case round =>
    obtain ⟨i, m, L, cs, hiL, hi9, hm, rfl, rfl, rfl, hI, hT⟩ := hrel
    have HI := Lib.hid hI
    have HT := Lib.hid hT
    have hcs := hT.size
    clear hI hT
    by_cases hm0 : 0 < m
    · obtain ⟨j, rfl⟩ : ∃ j, i = j + 1 := ⟨i - 1, by
        cases i with
        | zero => simp at hm; omega
        | succ i => omega⟩
      have hm1 : m / 128 < 128 ^ j := by rw [Nat.pow_succ] at hm; omega
      have hm64 : m < 18446744073709551616 := Nat.lt_of_lt_of_le hm (Nat.le_trans (Nat.pow_le_pow_right (by decide) hi9) (by decide))
      have HI2 := Lib.hid (hi_step hm0 HI.out)
      have HT2 := Lib.hid (HT.out.step (UInt8.ofNat (m % 128 + 128)) _ j (ofNat_hi m).symm (by omega))
      have HM := Lib.hid hm1
      have HL := Lib.hid hiL
      obtain ⟨y, hy⟩ : ∃ y, cs[j]? = some y := ⟨cs[j], by rw [Array.getElem?_eq_getElem]⟩
      clear hm hm1 hiL
      go_wp2
      go_roundw
      case rel => exact ⟨j, m / 128, _, _, by simpa using (by have := HL.out; omega : j + (L.length + 1) = 10), by omega, HM.out, by go_num, by go_num, rfl, HI2.out, HT2.out⟩
      case measure => simp [intOf]
    · obtain rfl : m = 0 := by omega
      have HLn := Lib.hid (hi_stop HI.out)
      obtain ⟨t, ht⟩ : ∃ t, t = 10 - i := ⟨_, rfl⟩
      have hsl := fun W => slice_tail W w.heap.size i t (by omega) ht
      have HTR := Lib.hid (tail_row (w := w) HT.out hiL)
      have HTL := Lib.hid (show L.length = t by omega)
      have hb := (Below.refl w.heap.size w).alloc (Nat.le_refl _) (.cells cs 142)
      have HS2 := Lib.hid (two_segs (v1 := .slice a q cap) (v2 := .slice (some ⟨w.heap.size, i, none⟩) t t) (HR.out.below hb) HTR.out HNil.out (fun h => by cases h) (by rw [HQ.out]) (by rw [HTL.out]))
      have htot : tot [(a, cap, L0), (some ⟨w.heap.size, i, none⟩, t, L)] = L0 ++ nb n := by rw [← HLn.out]; simp [tot]
      have hc := concat_any _ 0 2 2 _ _ rfl (by decide) HS2.out (by rw [htot, List.length_append, ← HLn.out, HTL.out]; omega) (by rw [htot, List.length_append, ← HLn.out, HTL.out, HQ.out]; omega)
      rw [htot, World.size_alloc] at hc
      have HC := Lib.hid hc
      clear hb ht hm hiL hc htot
      have HNe := Lib.hid (show L0 ++ nb n ≠ [] by simp [nb])
      generalize L0 ++ nb n = N at *
      go_wp2_with (go_at_call 128; refine HC.out.mono ?_; rintro e w1 ⟨a1, c1, rfl, hR1, hB1⟩; have HR1 := Lib.hid hR1; have HB1 := Lib.hid hB1; clear hR1 hB1)
      go_ret
      refine ⟨a1, c1, rfl, HR1.out, fun e => ?_, (((Below.refl _ w).alloc (Nat.le_refl _) _).alloc (by simp) _).trans (HB1.out.mono (by simp; omega))⟩
      subst e
      exact absurd (SRow.none_ HR1.out) HNe.out
theorem u64_sg {n : Int} (h : n < 0) (h1 : -9223372036854775808 ≤ n) : ((sgn n : Nat) : Int) = 2 * (-(n + 1)) + 1 := by unfold sgn; rw [if_pos h]; omega
theorem u64_sg' {n : Int} (h : ¬ n < 0) : ((sgn n : Nat) : Int) = 2 * n := by unfold sgn; rw [if_neg h]; omega
set_option maxHeartbeats 1000000 in
theorem unsigned_any (n : Int) (w : World) (h1 : -9223372036854775808 ≤ n) (h2 : n ≤ 9223372036854775807) : Calls Tryz.prog 129 #[.int .i64 n] w fun e w' => e = .returned (.int .u64 ((sgn n : Nat) : Int)) ∧ w = w' := by
  by_cases h : n < 0
  · have H := Lib.hid (u64_sg h h1)
    go_enter Tryz.func129, Tryz.ntmps129
    go_wp2
    go_ret
    exact ⟨ret_int H.out.symm, rfl⟩
  · have H := Lib.hid (u64_sg' h)
    go_enter Tryz.func129, Tryz.ntmps129
    go_wp2
    go_ret
    exact ⟨ret_int H.out.symm, rfl⟩
set_option maxHeartbeats 1000000 in
theorem sign_any (n : Int) (w : World) (h1 : -9223372036854775808 ≤ n) (h2 : n ≤ 9223372036854775807) : Calls Tryz.prog 99 #[.int .i64 n] w fun e w' => e = .returned (.int .u64 ((sgn n : Nat) : Int)) ∧ w = w' := by
  by_cases h : n < 0
  · have H := Lib.hid (u64_sg h h1)
    go_enter Tryz.func99, Tryz.ntmps99
    go_wp2
    go_ret
    exact ⟨ret_int H.out.symm, rfl⟩
  · have H := Lib.hid (u64_sg' h)
    go_enter Tryz.func99, Tryz.ntmps99
    go_wp2
    go_ret
    exact ⟨ret_int H.out.symm, rfl⟩
end Go.Proofs.YtddleeenlpigfaaGreatDoor.Vn
/- WALKS of vint.PutInt, vint.PutText, of the reference's Num and Text, of the page's examples. -/
namespace Go.Proofs.YtddleeenlpigfaaGreatDoor.Vn
open Go.RowKit
set_option maxHeartbeats 1000000 in
theorem putint_any (a : Option Addr) (cap q : Nat) (n : Int) (L0 : List UInt8) (w : World) (hq : L0.length = q) (hR : SRow w a L0) (hnil : a = none → cap = 0) (hq47 : q ≤ 70368744177664) (h1 : -9223372036854775808 ≤ n) (h2 : n ≤ 9223372036854775807) :
    Calls Tryz.prog 95 #[.slice a q cap, .int .i64 n] w (PutsS (L0 ++ nb (sgn n)) w) := by
  have H := Lib.hid (put_any a cap q (sgn n) L0 w hq hR hnil hq47 (sgn_lt h1 h2))
  have HU := Lib.hid (unsigned_any n w h1 h2)
  generalize L0 ++ nb (sgn n) = N at *
  generalize sgn n = m at *
  clear hR hnil hq
  go_enter Tryz.func95, Tryz.ntmps95
  go_wp2_with (first
    | (go_at_call 129; refine HU.out.mono ?_; rintro e w1 ⟨rfl, rfl⟩)
    | (go_at_call 93; refine H.out.mono ?_; rintro e w1 ⟨a1, c1, rfl, hR1, hn1, hB1⟩; have HR1 := Lib.hid hR1; have HN1 := Lib.hid hn1; have HB1 := Lib.hid hB1; clear hR1 hn1 hB1))
  go_ret
  exact ⟨a1, c1, rfl, HR1.out, HN1.out, HB1.out⟩
theorem below_bw (w : World) (b : ByteArray) : Below w.heap.size w (Lib.bytesWorld w 5 b) :=
  ⟨rfl, rfl, rfl, by rw [Lib.bytesWorld_size]; omega, fun k hk => Lib.bytesWorld_at_old w 5 b k hk⟩
theorem bw_row (w : World) (s : ByteArray) : SRow (Lib.bytesWorld w 5 s) (some ⟨w.heap.size, 0, none⟩) s.data.toList := by
  refine .inr ⟨_, rfl, fun _ => by rw [Lib.bytesWorld_size]; simp, fun j hj => ?_⟩
  have ha : (⟨w.heap.size, 0, none⟩ : Addr).add j = ⟨w.heap.size, j, none⟩ := by unfold Addr.add; split <;> simp_all
  rw [ha, Lib.bytesWorld_cell w 5 s j (by simpa using hj)]
  simp [List.getD, List.getElem?_eq_getElem hj]
def txt (s : ByteArray) : List UInt8 := nb s.size ++ s.data.toList
theorem nb_len (n : Nat) (h : n < 18446744073709551616) : (nb n).length ≤ 10 ∧ 0 < (nb n).length := by
  obtain ⟨_, _, c, _⟩ := hi_props 9 (n / 128) (by omega)
  unfold nb
  rw [List.length_append, List.length_singleton]; omega
/-- The three slices that PutText puts together. -/
theorem text_concat (a a1 : Option Addr) (cap c1 c2 q n1 : Nat) (L0 : List UInt8) (s : ByteArray) (w w1 : World) (hq : L0.length = q) (hR : SRow w1 a L0) (hnil : a = none → cap = 0) (hR1 : SRow w1 a1 (nb s.size)) (hnil1 : a1 = none → c1 = 0) (hn1 : (nb s.size).length = n1)
    (hq47 : q ≤ 70368744177664) (hs : s.size ≤ 70368744177000) (hB : Below w.heap.size w w1) :
    Calls Tryz.prog 128 #[.slice (some ⟨(Lib.bytesWorld w1 5 s).heap.size, 0, none⟩) 3 3] ((Lib.bytesWorld w1 5 s).alloc (.cells #[.slice a q cap, .slice a1 n1 c1, .slice (some ⟨w1.heap.size, 0, none⟩) s.size c2] 74)) (PutsS (L0 ++ txt s) w) := by
  have hb := below_bw w1 s
  have hS := three_segs (c3 := c2) (v1 := .slice a q cap) (v2 := .slice a1 n1 c1) (v3 := .slice (some ⟨w1.heap.size, 0, none⟩) s.size c2) (hR.below hb) (hR1.below hb) (bw_row w1 s) hnil hnil1 (fun h => by cases h) (by rw [hq]) (by rw [hn1]) (by simp)
  have htot : tot [(a, cap, L0), (a1, c1, nb s.size), (some ⟨w1.heap.size, 0, none⟩, c2, s.data.toList)] = L0 ++ txt s := by simp [tot, txt]
  obtain ⟨l1, l2⟩ := nb_len s.size (by omega)
  have hlen : (L0 ++ txt s).length = q + (n1 + s.size) := by simp [txt, hq, hn1]
  have hc := concat_any _ 0 3 3 _ _ rfl (by decide) hS (by rw [htot, hlen]; omega) (by rw [htot, hlen]; omega)
  rw [htot] at hc
  refine hc.mono fun e w' ⟨a', c', he, hR', hB'⟩ => ⟨a', c', he, hR', fun e0 => ?_, ?_⟩
  · subst e0
    have := SRow.none_ hR'
    rw [this] at hlen; simp at hlen; omega
  · refine (hB.trans (hb.mono hB.size)).trans ?_
    exact (((Below.refl _ _).alloc (Nat.le_refl _) _).trans (hB'.mono (by simp))).mono (by rw [Lib.bytesWorld_size]; have := hB.size; omega)
set_option maxHeartbeats 1000000 in
theorem puttext_any (a : Option Addr) (cap q : Nat) (s : ByteArray) (L0 : List UInt8) (w : World) (hq : L0.length = q) (hR : SRow w a L0) (hnil : a = none → cap = 0) (hq47 : q ≤ 70368744177664) (hs : s.size ≤ 70368744177000) :
    Calls Tryz.prog 96 #[.slice a q cap, .string s] w (PutsS (L0 ++ txt s) w) := by
  have H := Lib.hid (put_any none 0 0 s.size [] w rfl (.inl ⟨rfl, rfl⟩) (fun _ => rfl) (by decide) (by omega))
  obtain ⟨n1, hn1⟩ : ∃ n1, (nb s.size).length = n1 := ⟨_, rfl⟩
  have HT := fun a1 c1 w1 x y z b => Lib.hid (text_concat a a1 cap c1 (grownCap w1 s.size 0 5) q n1 L0 s w w1 hq x hnil y z hn1 hq47 hs b)
  have HR := Lib.hid hR
  unfold PutsS at H
  rw [List.nil_append, hn1] at H
  clear hn1
  have hcv := fun W => Lib.run_convert_string_bytes (P := Tryz.prog) W 9 74 5 s (u := .string) (by kernel_rfl) (by kernel_rfl) (by kernel_rfl)
  generalize L0 ++ txt s = N at *
  clear hR hnil hq
  go_enter Tryz.func96, Tryz.ntmps96
  go_wp2_with (first
    | (go_at_call 93; refine H.out.mono ?_; rintro e w1 ⟨a1, c1, rfl, hR1, hn1, hB1⟩; have HR1 := Lib.hid hR1; have HN1 := Lib.hid hn1; have HB1 := Lib.hid hB1; clear hR1 hn1 hB1)
    | (go_at_call 128; refine (HT a1 c1 w1 (HR.out.below HB1.out) HR1.out HN1.out HB1.out).out.mono ?_; rintro e w2 ⟨a2, c2, rfl, hR2, hn2, hB2⟩; have HR2 := Lib.hid hR2; have HN2 := Lib.hid hn2; have HB2 := Lib.hid hB2; clear hR2 hn2 hB2))
  go_ret
  exact ⟨a2, c2, rfl, HR2.out, HN2.out, HB2.out⟩
end Go.Proofs.YtddleeenlpigfaaGreatDoor.Vn
/- WALKS of the reference's Num and Text, of the page's examples. -/
namespace Go.Proofs.YtddleeenlpigfaaGreatDoor.Vn
open Go.RowKit
theorem conv_row {w : World} {a : Option Addr} {L : List UInt8} (c : Nat) (h : SRow w a L) : (convert 74 9 (.slice a L.length c)).run Tryz.prog w = .ok (.string ⟨L.toArray⟩) w := by
  rcases h with ⟨rfl, rfl⟩ | ⟨ad, rfl, _, h2⟩
  · exact run_convert_bytes_nil w 74 5 Tryz.underlying74 Tryz.underlying5 0 c 9 Tryz.underlying9
  · exact run_convert_bytes_back w 74 9 5 ad c L Tryz.underlying74 Tryz.underlying5 Tryz.underlying9 h2
theorem conv_one (W : World) (B : Nat) (v : Int) (c : UInt8) (hv : (c.toNat : Int) = v) (h : W.cell? ⟨B, 0, none⟩ = some (.int .u8 v)) :
    (convert 74 9 (.slice (some ⟨B, 0, none⟩) 1 1)).run Tryz.prog W = .ok (.string ⟨#[c]⟩) W := by
  subst hv
  refine conv_row (L := [c]) 1 (.inr ⟨⟨B, 0, none⟩, rfl, fun _ => World.block_lt_of_cell? _ _ h, fun j hj => ?_⟩)
  obtain rfl : j = 0 := by simpa using hj
  exact h
def numS (n : Nat) : ByteArray := ⟨(nb n).toArray⟩
theorem cons_app (c : UInt8) (L : List UInt8) : (⟨#[c]⟩ ++ ⟨L.toArray⟩ : ByteArray) = ⟨(c :: L).toArray⟩ := ByteArray.mk_append_mk [c] L
/-- The reference's way: k rounds are done. -/
structure NumAt (N : List UInt8) (k m : Nat) (L : List UInt8) : Prop where
  lt : m / 128 < 128 ^ (9 - k)
  len : L.length ≤ k + 1
  is : hi (9 - k) (m / 128) ++ L = N
theorem NumAt.first {n : Nat} (h : n < 18446744073709551616) : NumAt (nb n) 0 n [UInt8.ofNat (n % 128)] := ⟨by omega, by simp, rfl⟩
theorem NumAt.next {N L : List UInt8} {k m : Nat} (h : NumAt N k m L) (hk : k < 9) (hm : 0 < m / 128) : NumAt N (k + 1) (m / 128) (UInt8.ofNat (m / 128 % 128 + 128) :: L) := by
  obtain ⟨f, hf⟩ : ∃ f, 9 - k = f + 1 := ⟨8 - k, by omega⟩
  obtain ⟨h1, h2, h3⟩ := h
  rw [hf] at h1 h3
  refine ⟨?_, by simp; omega, ?_⟩
  · rw [show 9 - (k + 1) = f by omega]; rw [Nat.pow_succ] at h1; omega
  · rw [show 9 - (k + 1) = f by omega]; exact hi_step hm h3
theorem NumAt.stay {N L : List UInt8} {k m : Nat} (h : NumAt N k m L) (hm : m / 128 = 0) : NumAt N (k + 1) (m / 128) L := by
  obtain ⟨h1, h2, h3⟩ := h
  rw [hm] at h3 ⊢
  refine ⟨by simp; exact Nat.pow_pos (by decide), by omega, ?_⟩
  rw [show 0 / 128 = 0 by rfl, ← hi_stop h3]
  cases 9 - (k + 1) <;> simp [hi]
theorem NumAt.last {N L : List UInt8} {m : Nat} (h : NumAt N 9 m L) : L = N := by simpa [hi] using h.is
set_option maxHeartbeats 1000000 in
theorem num_any (n : Nat) (w : World) (hn : n < 18446744073709551616) : Calls Tryz.prog 98 #[.int .u64 n] w fun e w' => e = .returned (.string (numS n)) ∧ Below w.heap.size w w' := by
  have hcv := fun W B => conv_one W B ((n : Int) % 128) (UInt8.ofNat (n % 128)) (ofNat_lo n)
  have H0 := Lib.hid (NumAt.first hn)
  generalize UInt8.ofNat (n % 128) = c0 at *
  unfold numS
  generalize nb n = N at *
  go_enter Tryz.func98, Tryz.ntmps98
  go_wp2
  clear hcv
  go_loopw [0, 3, 4] (fun v o i wr => ∃ (k m : Nat) (L : List UInt8) (t : ByteArray), k ≤ 9 ∧ m < 18446744073709551616 ∧ i = .int .i64 k ∧ v = .int .u64 m ∧ o = .string t ∧ t = ⟨L.toArray⟩ ∧ NumAt N k m L ∧ Below w.heap.size w wr) (fun _ _ i _ => 9 - (intOf i).toNat)
  case atStart => exact ⟨0, n, [c0], _, by omega, hn, rfl, rfl, rfl, rfl, H0.out, (Below.refl _ w).alloc (Nat.le_refl _) _⟩
  case round =>
    obtain ⟨k, m, L, t, hk, hm64, rfl, rfl, rfl, ht, hA, hB⟩ := hrel
    rename World => wr
    have hz1 := hB.size
    have HB := Lib.hid hB
    have HA := Lib.hid hA
    have hts : t.size ≤ 10 := by rw [ht]; have := hA.len; show L.toArray.size ≤ 10; simp; omega
    have HT := Lib.hid ht
    clear hB ht hA
    by_cases hlt : k < 9
    · obtain ⟨x, hx⟩ : ∃ x, x = m / 128 := ⟨_, rfl⟩
      have hx' : (m : Int) / 128 = (x : Int) := by omega
      by_cases hx0 : 0 < x
      · have hcv := fun W B => conv_one W B ((x : Int) % 128 + 128) (UInt8.ofNat (x % 128 + 128)) (ofNat_hi x)
        have HN := Lib.hid (by rw [hx]; exact HA.out.next hlt (by omega) : NumAt N (k + 1) x (UInt8.ofNat (x % 128 + 128) :: L))
        generalize UInt8.ofNat (x % 128 + 128) = c at *
        have HX := Lib.hid (show x < 18446744073709551616 by omega)
        have HC := Lib.hid (cons_app c L)
        clear hx
        go_wp2
        go_roundw
        case rel => exact ⟨k + 1, x, _, _, by omega, HX.out, by go_num, rfl, rfl, by rw [HT.out]; exact HC.out, HN.out, HB.out.alloc hz1 _⟩
        case measure => simp [intOf]; omega
      · obtain rfl : x = 0 := by omega
        have HN := Lib.hid (HA.out.stay hx.symm)
        have HX := Lib.hid hx
        clear hx
        go_wp2
        go_roundw
        case rel => exact ⟨k + 1, m / 128, L, t, by omega, by omega, by go_num, by rw [← HX.out]; rfl, rfl, HT.out, HN.out, HB.out⟩
        case measure => simp [intOf]; omega
    · obtain rfl : k = 9 := by omega
      have HN := Lib.hid HA.out.last
      go_wp2
      go_ret
      exact ⟨ret_str (by rw [HT.out, HN.out]), HB.out⟩
theorem numS_size (n : Nat) (h : n < 18446744073709551616) : (numS n).size ≤ 10 := (nb_len n h).1
def txtS (s : ByteArray) : ByteArray := numS s.size ++ s
theorem txtS_is (s : ByteArray) : txtS s = ⟨(txt s).toArray⟩ := by
  apply ByteArray.ext
  apply Array.toList_inj.1
  simp [txtS, txt, numS]
set_option maxHeartbeats 1000000 in
theorem rtext_any (s : ByteArray) (w : World) (hs : s.size ≤ 70368744177000) : Calls Tryz.prog 100 #[.string s] w fun e w' => e = .returned (.string (txtS s)) ∧ Below w.heap.size w w' := by
  have H := Lib.hid (num_any s.size w (by omega))
  have hz := numS_size s.size (by omega)
  unfold txtS
  generalize numS s.size = t at *
  go_enter Tryz.func100, Tryz.ntmps100
  go_wp2_with (go_at_call 98; refine H.out.mono ?_; rintro e w1 ⟨rfl, hB⟩; have HB := Lib.hid hB; clear hB)
  go_ret
  exact ⟨rfl, HB.out⟩
end Go.Proofs.YtddleeenlpigfaaGreatDoor.Vn
