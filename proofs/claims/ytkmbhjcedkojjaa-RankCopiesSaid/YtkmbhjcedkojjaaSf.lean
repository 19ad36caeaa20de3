/- WALK of Spoil. -/
import Derived.Test.YtkmbhjcedkojjaaSd
namespace Go.Proofs.Ytkmbhjcedkojjaa
open Go.RowKit
/-- Rows of terms and of fields, so deep at most: where the numbers, texts and headers stand. -/
def ShV (B : Nat) (w : World) : Nat → Option Addr → Nat → Prop
  | 0, _, _ => False
  | n + 1, t, tl => (tl : Int) ≤ 9223372036854775807 ∧ ∀ i, i < tl → ∃ b off : Nat, t = some ⟨b, off, none⟩ ∧ B ≤ b ∧ b < w.heap.size ∧ (∀ o, w.frozen? ⟨b, o, none⟩ = false) ∧ (∃ x : Int, w.cell? ⟨b, off + i * 8 + 1, none⟩ = some (.int .i64 x)) ∧
      ∃ (f : Option Addr) (fl fc : Nat), w.cell? ⟨b, off + i * 8 + 7, none⟩ = some (.slice f fl fc) ∧ (fl : Int) ≤ 9223372036854775807 ∧ ∀ j, j < fl → ∃ (b2 off2 tl2 tc2 : Nat) (t2 : Option Addr), f = some ⟨b2, off2, none⟩ ∧ B ≤ b2 ∧ b2 < w.heap.size ∧ (∀ o, w.frozen? ⟨b2, o, none⟩ = false) ∧
        (∃ s : ByteArray, w.cell? ⟨b2, off2 + j * 2, none⟩ = some (.string s)) ∧ w.cell? ⟨b2, off2 + j * 2 + 1, none⟩ = some (.slice t2 tl2 tc2) ∧ ShV B w n t2 tl2
theorem OwV.shV {B : Nat} {w : World} : ∀ {n : Nat} {t : Option Addr} {tl tc : Nat} {V : List Tm}, OwV (fun b => B ≤ b) w n t tl tc V → ShV B w n t tl
  | 0, _, _, _, _, h => h.elim
  | n + 1, t, tl, tc, V, h => by
    obtain ⟨hl, hm, h⟩ := h
    subst hl
    refine ⟨hm, fun i hi => ?_⟩
    obtain ⟨b, off, e, hp, lt, fz, h2⟩ := h i hi
    generalize V[i] = x at h2
    obtain ⟨k, lo, hi, s, y, m, o, fs⟩ := x
    obtain ⟨f, fl, fc, c0, c1, c2, c3, c4, c5, c6, c7, l5, z5, h5⟩ := h2
    subst l5
    refine ⟨b, off, e, hp, lt, fz, ⟨_, c1⟩, f, _, fc, c7, z5, fun j hj => ?_⟩
    obtain ⟨b2, off2, tl2, tc2, t2, e2, hp2, lt2, fz2, d0, d1, i2⟩ := h5 j hj
    exact ⟨b2, off2, tl2, tc2, t2, e2, hp2, lt2, fz2, ⟨_, d0⟩, d1, i2.shV⟩
/-- Numbers and texts from B on may have turned, nothing else. -/
structure Spo (B : Nat) (w w' : World) : Prop where
  below : Below B w w'
  cell : ∀ b o, b < w.heap.size → w'.cell? ⟨b, o, none⟩ = w.cell? ⟨b, o, none⟩ ∨ (∃ x y : Int, w.cell? ⟨b, o, none⟩ = some (.int .i64 x) ∧ w'.cell? ⟨b, o, none⟩ = some (.int .i64 y)) ∨ (∃ x y : ByteArray, w.cell? ⟨b, o, none⟩ = some (.string x) ∧ w'.cell? ⟨b, o, none⟩ = some (.string y))
  frozen : ∀ b o, b < w.heap.size → w'.frozen? ⟨b, o, none⟩ = w.frozen? ⟨b, o, none⟩
theorem Spo.refl (B : Nat) (w : World) : Spo B w w := ⟨Below.refl _ _, fun _ _ _ => .inl rfl, fun _ _ _ => rfl⟩
theorem Spo.trans {B : Nat} {a b c : World} (h : Spo B a b) (k : Spo B b c) : Spo B a c := by
  refine ⟨h.below.trans k.below, fun i o hi => ?_, fun i o hi => (k.frozen i o (Nat.lt_of_lt_of_le hi h.below.size)).trans (h.frozen i o hi)⟩
  have hi' := Nat.lt_of_lt_of_le hi h.below.size
  rcases h.cell i o hi with e | ⟨x, y, e, e'⟩ | ⟨x, y, e, e'⟩
  · rcases k.cell i o hi' with g | ⟨x, y, g, g'⟩ | ⟨x, y, g, g'⟩
    · exact .inl (g.trans e)
    · exact .inr (.inl ⟨x, y, e ▸ g, g'⟩)
    · exact .inr (.inr ⟨x, y, e ▸ g, g'⟩)
  · rcases k.cell i o hi' with g | ⟨x', y', g, g'⟩ | ⟨x', y', g, g'⟩
    · exact .inr (.inl ⟨x, y, e, g.trans e'⟩)
    · exact .inr (.inl ⟨x, y', e, g'⟩)
    · rw [e'] at g; cases g
  · rcases k.cell i o hi' with g | ⟨x', y', g, g'⟩ | ⟨x', y', g, g'⟩
    · exact .inr (.inr ⟨x, y, e, g.trans e'⟩)
    · rw [e'] at g; cases g
    · exact .inr (.inr ⟨x, y', e, g'⟩)
theorem Spo.same {B : Nat} {w w' : World} (hb : Below w.heap.size w w') (hB : B ≤ w.heap.size) : Spo B w w' :=
  ⟨hb.mono hB, fun b o h => .inl (hb.cell (p := ⟨b, o, none⟩) h), fun b o h => hb.frozen (p := ⟨b, o, none⟩) h⟩
theorem Spo.int {B : Nat} {w : World} {g o : Nat} {x y : Int} (hg : B ≤ g) (h : w.cell? ⟨g, o, none⟩ = some (.int .i64 x)) : Spo B w (w.setCell ⟨g, o, none⟩ (.int .i64 y)) := by
  refine ⟨(Below.refl _ _).setCell hg _, fun b q _ => ?_, fun b q _ => World.frozen?_setCell ..⟩
  by_cases e : b = g ∧ q = o
  · obtain ⟨rfl, rfl⟩ := e
    exact .inr (.inl ⟨x, y, h, set_here h⟩)
  · exact .inl (set_far (by omega))
theorem Spo.text {B : Nat} {w : World} {g o : Nat} {x y : ByteArray} (hg : B ≤ g) (h : w.cell? ⟨g, o, none⟩ = some (.string x)) : Spo B w (w.setCell ⟨g, o, none⟩ (.string y)) := by
  refine ⟨(Below.refl _ _).setCell hg _, fun b q _ => ?_, fun b q _ => World.frozen?_setCell ..⟩
  by_cases e : b = g ∧ q = o
  · obtain ⟨rfl, rfl⟩ := e
    exact .inr (.inr ⟨x, y, h, set_here h⟩)
  · exact .inl (set_far (by omega))
theorem Spo.head {B : Nat} {w w' : World} (h : Spo B w w') {b o : Nat} (hb : b < w.heap.size) {t : Option Addr} {tl tc : Nat} (hc : w.cell? ⟨b, o, none⟩ = some (.slice t tl tc)) : w'.cell? ⟨b, o, none⟩ = some (.slice t tl tc) := by
  rcases h.cell b o hb with e | ⟨x, y, e, e'⟩ | ⟨x, y, e, e'⟩
  · exact e.trans hc
  · rw [hc] at e; cases e
  · rw [hc] at e; cases e
theorem Spo.isInt {B : Nat} {w w' : World} (h : Spo B w w') {b o : Nat} (hb : b < w.heap.size) (hc : ∃ x : Int, w.cell? ⟨b, o, none⟩ = some (.int .i64 x)) : ∃ x : Int, w'.cell? ⟨b, o, none⟩ = some (.int .i64 x) := by
  obtain ⟨v, hc⟩ := hc
  rcases h.cell b o hb with e | ⟨x, y, e, e'⟩ | ⟨x, y, e, e'⟩
  · exact ⟨v, e.trans hc⟩
  · exact ⟨y, e'⟩
  · rw [hc] at e; cases e
theorem Spo.isText {B : Nat} {w w' : World} (h : Spo B w w') {b o : Nat} (hb : b < w.heap.size) (hc : ∃ x : ByteArray, w.cell? ⟨b, o, none⟩ = some (.string x)) : ∃ x : ByteArray, w'.cell? ⟨b, o, none⟩ = some (.string x) := by
  obtain ⟨v, hc⟩ := hc
  rcases h.cell b o hb with e | ⟨x, y, e, e'⟩ | ⟨x, y, e, e'⟩
  · exact ⟨v, e.trans hc⟩
  · rw [hc] at e; cases e
  · exact ⟨y, e'⟩
theorem ShV.spo {B : Nat} {w w' : World} (h : Spo B w w') : ∀ {n : Nat} {t : Option Addr} {tl : Nat}, ShV B w n t tl → ShV B w' n t tl
  | 0, _, _, k => k.elim
  | n + 1, t, tl, k => by
    refine ⟨k.1, fun i hi => ?_⟩
    obtain ⟨b, off, e, hp, lt, fz, c1, f, fl, fc, c7, z5, h5⟩ := k.2 i hi
    refine ⟨b, off, e, hp, Nat.lt_of_lt_of_le lt h.below.size, fun o => (h.frozen b o lt).trans (fz o), h.isInt lt c1, f, fl, fc, h.head lt c7, z5, fun j hj => ?_⟩
    obtain ⟨b2, off2, tl2, tc2, t2, e2, hp2, lt2, fz2, d0, d1, i2⟩ := h5 j hj
    exact ⟨b2, off2, tl2, tc2, t2, e2, hp2, Nat.lt_of_lt_of_le lt2 h.below.size, fun o => (h.frozen b2 o lt2).trans (fz2 o), h.isText lt2 d0, h.head lt2 d1, i2.spo h⟩
def SpoPost (B : Nat) (w : World) (e : Ending) (w' : World) : Prop := e = .returned (.tuple #[]) ∧ Spo B w w'
theorem Bx.spo {B : Nat} {w w' : World} {N : Nat} {t : Option Addr} {tl tc : Nat} (h : Bx w N t tl tc) (hb : Spo B w w') : Bx w' N t tl tc := ⟨Nat.lt_of_lt_of_le h.1 hb.below.size, hb.head h.1 h.2⟩
set_option maxRecDepth 100000 in
set_option maxHeartbeats 8000000 in
theorem spoil_step (B n : Nat) (ih : ∀ (W : World) (t : Option Addr) (tl tc : Nat) (d : Int), B ≤ W.heap.size → ShV B W n t tl → 0 ≤ d → d ≤ 20 → Calls Try.prog 43 #[.agg #[.slice t tl tc], .int .i64 d] W (SpoPost B W))
    (w : World) (t : Option Addr) (tl tc : Nat) (d : Int) (hB : B ≤ w.heap.size) (h : ShV B w (n + 1) t tl) (hd0 : 0 ≤ d) (hd : d ≤ 20) : Calls Try.prog 43 #[.agg #[.slice t tl tc], .int .i64 d] w (SpoPost B w) := by
  have IH := Lib.hid ih
  have HS := Lib.hid h
  have hz := h.1
  clear ih h
  have HB := Lib.hid hB
  by_cases hpos : 0 < d
  · go_enter Try.func43, Try.ntmps43
    go_wp2_with fail
    go_loopw [4] (fun i wr => ∃ k : Nat, k ≤ tl ∧ i = .int .i64 k ∧ Bx wr w.heap.size t tl tc ∧ Hid (Spo B w wr)) (fun i _ => tl - (intOf i).toNat)
    case atStart => exact ⟨0, Nat.zero_le _, rfl, ⟨by simp, by simp⟩, Spo.same (bl_alloc (Below.refl _ _)) hB⟩
    case round =>
      obtain ⟨k, hk, rfl, hX, hP⟩ := hrel
      rename World => wr
      have bx := hX.2
      have HX := Lib.hid hX
      clear hX
      by_cases hlt : k < tl
      · have hki : (k : Int) < (tl : Int) := by omega
        have hk0 : (0 : Int) ≤ (k : Int) := by omega
        obtain ⟨b, off, rfl, hp, lt0, -⟩ := HS.out.2 k hlt
        obtain ⟨b', off', e, -, lt, fz, ⟨x, c1⟩, f, fl, fc, c7, z5, h5⟩ := (HS.out.spo hP.out).2 k hlt
        cases e
        have fz1 := fz (off + k * 8 + 1)
        have J5 := Lib.hid h5
        have FZ := Lib.hid fz
        have HP1 := Lib.hid (Spo.int (y := 77) hp c1)
        have bx2 : (wr.setCell ⟨b, off + k * 8 + 1, none⟩ (.int .i64 77)).cell? ⟨w.heap.size, 0, none⟩ = some (.slice (some ⟨b, off, none⟩) tl tc) := HP1.out.head HX.out.1 bx
        have c72 : (wr.setCell ⟨b, off + k * 8 + 1, none⟩ (.int .i64 77)).cell? ⟨b, off + k * 8 + 7, none⟩ = some (.slice f fl fc) := HP1.out.head lt c7
        clear h5 fz
        go_wp2_with fail
        go_loopw [6] (fun i wi => ∃ j : Nat, j ≤ fl ∧ i = .int .i64 j ∧ Hid (Spo B wr wi)) (fun i _ => fl - (intOf i).toNat)
        case atStart => exact ⟨0, Nat.zero_le _, rfl, HP1⟩
        case round =>
          obtain ⟨j, hj, rfl, hQ⟩ := hrel
          rename World => wi
          clear bx2 c72 c1 c7 fz1
          by_cases hjl : j < fl
          · have hji : (j : Int) < (fl : Int) := by omega
            have hj0 : (0 : Int) ≤ (j : Int) := by omega
            obtain ⟨b2, off2, tl2, tc2, t2, rfl, hp2, lt2, fz2, d0, d1, i2⟩ := J5.out j hjl
            have HD0 := Lib.hid (hQ.out.isText lt2 d0)
            have fz3 := Lib.hid ((hQ.out.frozen b2 (off2 + j * 2) lt2).trans (fz2 (off2 + j * 2)))
            replace d1 := hQ.out.head lt2 d1
            have HI2 := Lib.hid (i2.spo hQ.out)
            have HZ : Hid (B ≤ wi.heap.size) := Nat.le_trans HB.out (Nat.le_trans hP.out.below.size hQ.out.below.size)
            have HL2 : Hid (b2 < wi.heap.size) := Nat.lt_of_lt_of_le lt2 hQ.out.below.size
            have hdd : 0 ≤ d - 1 ∧ d - 1 ≤ 20 := by omega
            have IC := Lib.hid (IH.out wi t2 tl2 tc2 (d - 1) HZ.out HI2.out hdd.1 hdd.2)
            clear d0 fz2 i2 lt2 hdd
            go_wp2_with (go_at_call 43; refine IC.out.mono ?_; rintro e w3 ⟨rfl, hS3⟩; obtain ⟨s0, d0'⟩ := hS3.isText HL2.out HD0.out; have fz4 := (hS3.frozen b2 (off2 + j * 2) HL2.out).trans fz3.out; have HS3 := Lib.hid hS3; clear hS3)
            go_roundw
            case rel => exact ⟨j + 1, by omega, by go_num, (hQ.out.trans HS3.out).trans (Spo.text hp2 d0')⟩
            case measure => simp [intOf]; omega
          · go_wp2_with fail
            go_roundw
            case rel => exact ⟨k + 1, by omega, by go_num, HX.out.spo hQ.out, hP.out.trans hQ.out⟩
            case measure => simp [intOf]; omega
      · go_wp2_with fail
        go_end0
        exact ⟨rfl, hP.out⟩
  · go_enter Try.func43, Try.ntmps43
    go_wp2_with fail
    go_loopw [4] (fun i wr => i = .int .i64 0 ∧ Hid (Spo B w wr) ∧ Bx wr w.heap.size t tl tc) (fun _ _ => 0)
    case atStart => exact ⟨rfl, Spo.same (bl_alloc (Below.refl _ _)) hB, ⟨by simp, by simp⟩⟩
    case round =>
      obtain ⟨rfl, hP, hX⟩ := hrel
      have bx := hX.2
      go_wp2_with fail
      all_goals
        go_end0
        exact ⟨rfl, hP.out⟩
theorem spoil_in (B : Nat) : ∀ (n : Nat) (W : World) (t : Option Addr) (tl tc : Nat) (d : Int), B ≤ W.heap.size → ShV B W n t tl → 0 ≤ d → d ≤ 20 → Calls Try.prog 43 #[.agg #[.slice t tl tc], .int .i64 d] W (SpoPost B W)
  | 0, _, _, _, _, _, _, h, _, _ => h.elim
  | n + 1, W, t, tl, tc, d, hB, h, h1, h2 => spoil_step B n (spoil_in B n) W t tl tc d hB h h1 h2

end Go.Proofs.Ytkmbhjcedkojjaa
