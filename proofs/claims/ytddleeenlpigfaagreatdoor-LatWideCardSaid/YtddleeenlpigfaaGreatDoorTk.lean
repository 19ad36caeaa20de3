/- What the reference's In stands on: its Meet of scalars, both, one header more. -/
import Derived.Test.YtddleeenlpigfaaGreatDoorTjt
import Derived.Test.YtddleeenlpigfaaGreatDoorTjf
namespace Go.Proofs.YtddleeenlpigfaaGreatDoor
open Go.RowKit
/-- The reference's Meet at any terms: what it copies of the one's fields is empty. -/
def RmP (r : Option Sc) (f : Option Addr) (fc : Nat) (w : World) (e : Ending) (w' : World) : Prop := (match r with | none => e = .returned (.tuple #[zv, .bool false]) | some c => e = .returned (.tuple #[c.v f fc, .bool true])) ∧ Below w.heap.size w w'
theorem rsmeet_tm (a b : Tm) (f1 f2 : Option Addr) (fc1 fc2 : Nat) (w : World) :
    Calls Tryz.prog 86 #[tv a.k a.lo a.hi a.s a.y a.m a.o f1 a.fs.length fc1, tv b.k b.lo b.hi b.s b.y b.m b.o f2 b.fs.length fc2] w (RmP (scM a b) f1 fc1 w) := by
  obtain ⟨k1, lo1, hi1, s1, y1, m1, o1, fs1⟩ := a
  obtain ⟨k2, lo2, hi2, s2, y2, m2, o2, fs2⟩ := b
  simp only [Tm.k, Tm.lo, Tm.hi, Tm.s, Tm.y, Tm.m, Tm.o, Tm.fs]
  by_cases hr : scR (.mk k1 lo1 hi1 s1 y1 m1 o1 fs1) ∧ scR (.mk k2 lo2 hi2 s2 y2 m2 o2 fs2)
  · obtain ⟨h1, h2⟩ := hr
    have e1 := sc_flat h1
    have e2 := sc_flat h2
    simp only [Tm.o, Tm.fs] at e1 e2
    obtain ⟨rfl, rfl⟩ := e1
    obtain ⟨rfl, rfl⟩ := e2
    have r1 : RightP k1 lo1 hi1 s1 y1 m1 false 0 := h1
    have r2 : RightP k2 lo2 hi2 s2 y2 m2 false 0 := h2
    by_cases hk : k1 = k2
    · subst hk
      have hM : scM (.mk k1 lo1 hi1 s1 y1 m1 false []) (.mk k1 lo2 hi2 s2 y2 m2 false []) = (commonF k1 lo1 hi1 s1 y1 lo2 hi2 s2 y2).map fun t => ⟨k1, t.1, t.2.1, t.2.2.1, t.2.2.2, (m1 || m2) && !singleB k1 t.1 t.2.1 t.2.2.2⟩ := by
        unfold scM; rw [if_pos ⟨h1, h2⟩]; exact if_pos rfl
      rw [hM]
      cases hc : commonF k1 lo1 hi1 s1 y1 lo2 hi2 s2 y2 with
      | none => exact rmeet_none k1 lo1 hi1 s1 y1 m1 f1 fc1 lo2 hi2 s2 y2 m2 f2 fc2 w r1 r2 hc
      | some t =>
        obtain ⟨lo, hi, s, y⟩ := t
        exact rmeet_some k1 lo1 hi1 s1 y1 m1 f1 fc1 lo2 hi2 s2 y2 m2 f2 fc2 w r1 r2 hc
    · have : scM (.mk k1 lo1 hi1 s1 y1 m1 false []) (.mk k2 lo2 hi2 s2 y2 m2 false []) = none := by
        unfold scM; rw [if_pos ⟨h1, h2⟩, meet_kk (by simpa [Tm.sc, Tm.k] using hk)]
      rw [this]
      exact rmeet_unlike _ _ _ _ _ _ _ _ _ _ _ _ _ _ _ _ _ _ _ _ w (fun c => hk c.2.2)
  · have : scM (.mk k1 lo1 hi1 s1 y1 m1 o1 fs1) (.mk k2 lo2 hi2 s2 y2 m2 o2 fs2) = none := by unfold scM; rw [if_neg hr]
    rw [this]
    exact rmeet_unlike _ _ _ _ _ _ _ _ _ _ _ _ _ _ _ _ _ _ _ _ w (fun c => hr ⟨rightB_iff.1 c.1, rightB_iff.1 c.2.1⟩)
theorem name_some {l : List UInt8} (h : Nm.rightL l = true) : l ≠ [] := by
  rintro rfl
  exact absurd h (by decide)
/-- both, at right structs. -/
theorem both_hr (P : Nat → Prop) (n l : Nat) (ih : RiH n) (w : World) (hP : ∀ b, P b → b < w.heap.size) (ha hb : Hr) (oa : ha.okP P n w) (ob : hb.okP P n w) (ga : Gt n l ha.x) (gb : Gt n l hb.x) (a4 : ha.x.k = 4) (b4 : hb.x.k = 4) (wa : wF n ha.x.fs ≤ 512) (wb : wF n hb.x.fs ≤ 512) (W : World) (hW : Below w.heap.size w W) :
    Calls Tryz.prog 85 #[ha.v, hb.v] W (BoP P n (comS (meetV n) ha.x hb.x) W) := by
  obtain ⟨⟨ka, loa, hia, sa, ya, ma, xa, fa⟩, f1, fl1, fc1⟩ := ha
  obtain ⟨⟨kb, lob, hib, sb, yb, mb, xb, fb⟩, f2, fl2, fc2⟩ := hb
  have o1 := Hr.okP.below hW oa
  have o2 := Hr.okP.below hW ob
  obtain rfl : fa.length = fl1 := o1.1
  obtain rfl : fb.length = fl2 := o2.1
  have hPW : ∀ b, P b → b < W.heap.size := fun b hb => Nat.lt_of_lt_of_le (hP b hb) hW.size
  have u1 := gt_up ga a4
  have u2 := gt_up gb b4
  obtain ⟨-, r1, -⟩ := gt_four ga a4
  obtain ⟨-, r2, -⟩ := gt_four gb b4
  have n1 : ∀ f ∈ fa, f.1.toList ≠ [] := fun f hf => name_some (ris_names r1.2.1 f hf)
  have n2 : ∀ f ∈ fb, f.1.toList ≠ [] := fun f hf => name_some (ris_names r2.2.1 f hf)
  have w1 : ∀ f ∈ fa, Rw n f.2 := fun f hf => ⟨⟨l, r1.2.2 f hf⟩, Nat.le_trans (wF_mem hf) wa⟩
  have w2 : ∀ f ∈ fb, Rw n f.2 := fun f hf => ⟨⟨l, r2.2.2 f hf⟩, Nat.le_trans (wF_mem hf) wb⟩
  cases xa
  · exact both_false P n ih W hPW ka loa hia sa ya ma f1 fc1 fa kb lob hib sb yb mb xb f2 fc2 fb o1 o2 u1 u2 r1.1 r2.1 n1 n2 w1 w2
  · exact both_true P n ih W hPW ka loa hia sa ya ma f1 fc1 fa kb lob hib sb yb mb xb f2 fc2 fb o1 o2 u1 u2 r1.1 r2.1 n1 n2 w1 w2
/-- A term's box, written whole. -/
theorem Bo.set8 {W : World} {g : Nat} {k lo hi : Int} {s : ByteArray} {y m o : Bool} {f : Option Addr} {fl fc : Nat} (h : Bo W g k lo hi s y m o f fl fc) (k' lo' hi' : Int) (s' : ByteArray) (y' m' o' : Bool) (f' : Option Addr) (fl' fc' : Nat) :
    Bo ((((((((W.setCell ⟨g, 0, none⟩ (.int .i64 k')).setCell ⟨g, 1, none⟩ (.int .i64 lo')).setCell ⟨g, 2, none⟩ (.int .i64 hi')).setCell ⟨g, 3, none⟩ (.string s')).setCell ⟨g, 4, none⟩ (.bool y')).setCell ⟨g, 5, none⟩ (.bool m')).setCell ⟨g, 6, none⟩ (.bool o')).setCell ⟨g, 7, none⟩ (.slice f' fl' fc')) g k' lo' hi' s' y' m' o' f' fl' fc' := by
  obtain ⟨k0, k1, k2, k3, k4, k5, k6, k7⟩ := Go.Proofs.YtddleeenlpigfaaGreatDoor.set8 h (.int .i64 k') (.int .i64 lo') (.int .i64 hi') (.string s') (.bool y') (.bool m') (.bool o') (.slice f' fl' fc')
  exact ⟨by rw [set_size, set_size, set_size, set_size, set_size, set_size, set_size, set_size]; exact h.lt, ⟨k0, k1, k2, k3, k4, k5, k6, k7⟩, fun i => by
    rw [World.frozen?_setCell, World.frozen?_setCell, World.frozen?_setCell, World.frozen?_setCell, World.frozen?_setCell, World.frozen?_setCell, World.frozen?_setCell, World.frozen?_setCell]; exact h.fz i⟩
/-- One header more, told whole. -/
theorem OwnH.grow {w : World} {B : Nat} {u : Value} {L : List Hr} (ho : OwnH w B u L) (hby : (L.length + 1) * 72 ≤ 140737488355328) (hB : B ≤ w.heap.size) (h : Hr) :
    ∃ (g cap : Nat) (w4 : World), (Builtin.append_ #[22, 22] 22 #[u, .slice (some ⟨w.heap.size, 0, none⟩) 1 1]).run Tryz.prog (w.alloc (.cells h.enc.toArray 31)) = .ok (.slice (some ⟨g, 0, none⟩) (L.length + 1) cap) w4 ∧
      w4.ownsRow B 31 8 (.slice (some ⟨g, 0, none⟩) (L.length + 1) cap) (L.length + 1) ((L.map Hr.enc).flatten ++ h.enc) ∧ (w.alloc (.cells h.enc.toArray 31)).grownBy w4 u.ownBlock ∧ (u.ownBlock = some g ∨ g = w.heap.size + 1) := by
  obtain ⟨i0, hi, hz0, hz1, hz2⟩ := info_parts info24
  have ha := bl_alloc (o := .cells h.enc.toArray 31) (Below.refl w.heap.size w)
  obtain ⟨g, cap, w4, hap, hown, hgrow, hloc, hlt⟩ := run_append_lies (P := Tryz.prog) (w.alloc (.cells h.enc.toArray 31)) 22 22 B 31 i0 _ 8 72 Tryz.underlying22 hi hz0 hz1 hz2 rfl (by omega) u L.length (L.map Hr.enc).flatten (owns_below ho ha)
    ⟨w.heap.size, 0, none⟩ 1 1 h.enc (enc_len h) (World.news_of_block (cs := h.enc.toArray) (t := 31) (fr := (0, 0)) (heap_new w _)) (encH_one h) (by omega) (by unfold maxLen; omega) hby (by simp; omega) (w.heap.size + 1) (by simp)
  exact ⟨g, cap, w4, hap, hown, hgrow, hloc⟩
end Go.Proofs.YtddleeenlpigfaaGreatDoor
