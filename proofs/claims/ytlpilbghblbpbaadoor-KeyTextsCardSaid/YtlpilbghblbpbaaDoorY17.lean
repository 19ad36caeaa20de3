/- Uf -/
import Derived.Test.YtlpilbghblbpbaaDoorY14
import Derived.Test.YtlpilbghblbpbaaDoorY15
/- WALKS of the reference's Right and Check. -/
namespace Go.Proofs.YtlpilbghblbpbaaDoor
open Go.RowKit
theorem rightB_succ (n : Nat) (x : Ex) : rightB (n + 1) x = (ownB x && x.parts.all (rightB n)) := by
  unfold rightB
  show (x :: x.parts.flatMap (allN n)).all ownB = _
  rw [List.all_cons, List.all_flatMap]
theorem parts_ks {op n : Int} {s : ByteArray} {pa : List ByteArray} {ps : List (ByteArray × Ex)} {o : Bool} {ks : List Ex} (h : ¬ op = 10) : (Ex.mk op n s pa ps o ks).parts = ks := if_neg h
theorem all_nil {f : Ex → Bool} {ks : List Ex} (h : ks.length = 0) : ks.all f = true := by
  rw [List.length_eq_zero_iff.1 h]; rfl
set_option maxRecDepth 100000 in
set_option maxHeartbeats 4000000 in
theorem rright_1 (w0 w : World) (n : Nat) (s : ByteArray) (p : Option Addr) (pl pc : Nat) (q : Option Addr) (ql qc : Nat) (o : Bool) (k : Option Addr) (kl kc : Nat) (m : Int) (pa : List ByteArray) (ps : List (ByteArray × Ex)) (ks : List Ex)
    (_ih : ∀ (h : Hd) (y : Ex) (w : World), y ∈ (Ex.mk 1 m s pa ps o ks).parts → InX w0 n h y → Below w0.heap.size w0 w → Calls Tryd.prog 40 #[h.agg] w (BoolP (rightB n y) w)) (hx : InX w0 (n + 1) ⟨1, m, s, p, pl, pc, q, ql, qc, o, k, kl, kc⟩ (.mk 1 m s pa ps o ks)) (_hb0 : Below w0.heap.size w0 w) (_hsm : ps.length ≤ 1000000) :
    Calls Tryd.prog 40 #[.agg #[.int .i64 1, .int .i64 m, .string s, .slice p pl pc, .slice q ql qc, .bool o, .slice k kl kc]] w (BoolP (rightB (n + 1) (.mk 1 m s pa ps o ks)) w) := by
  obtain ⟨rfl, rfl, rfl, pm, qm, km, sm⟩ := lay_of hx
  dsimp only at pm qm km sm
  obtain ⟨-, -, -, -, -, hpa, hps, hks⟩ := hx
  dsimp only at hpa hps hks
  have hE : rightB (n + 1) (.mk 1 m s pa ps o ks) = (rEm 1 m s.size o pa.length ps.length ks.length && inB m) := by
    rw [rightB_succ, parts_ks (by decide), ownB_eq, if_neg (by decide), if_neg (by decide), if_neg (by decide), if_neg (by decide), if_neg (by decide), if_pos (by decide)]
    have hk := all_nil (f := rightB n) (ks := ks)
    generalize ks.all (rightB n) = c at hk ⊢
    generalize s.size = z
    generalize pa.length = a1
    generalize ps.length = a2
    generalize ks.length = a3 at hk ⊢
    rw [Bool.eq_iff_iff]
    cases o <;> cases c <;> simp [rEm, emB, numB, inB] at hk ⊢ <;> omega
  obtain ⟨r1, hr1⟩ : ∃ r, rEm 1 m s.size o pa.length ps.length ks.length = r := ⟨_, rfl⟩
  have HM : ∀ W, Hid (Calls Tryd.prog 52 #[.agg #[.int .i64 1, .int .i64 m, .string s, .slice p pa.length pc, .slice q ps.length qc, .bool o, .slice k ks.length kc], .int .i64 1] W (BoolQ r1 W)) := fun W => by rw [← hr1]; exact rempty_1 1 m s p _ pc q _ qc o k _ kc W pm qm km
  have HB1 : Hid (Below w.heap.size w (w.alloc (.cells #[.int .i64 1, .int .i64 m, .string s, .slice p pa.length pc, .slice q ps.length qc, .bool o, .slice k ks.length kc] 38))) := below_alloc (Below.refl _ _) _
  obtain ⟨r2, hr2⟩ : ∃ r, inB m = r := ⟨_, rfl⟩
  have HN : ∀ W, Hid (Calls Tryd.prog 53 #[.int .i64 m] W fun e w' => e = .returned (.bool r2) ∧ W = w') := fun W => by rw [← hr2]; exact rin_any m W
  rw [hr1, hr2] at hE
  have HE := Lib.hid hE
  clear hE hr1 hr2 hpa hps hks
  cases r1
  · go_enter Tryd.func40, Tryd.ntmps40
    go_wp2_with (first
      | (go_at_call 52; refine (HM _).out.mono ?_; rintro e w2 ⟨rfl, hB2⟩; obtain ⟨hc, hf⟩ := bcell hB2; have HB2 := Lib.hid hB2; clear hB2))
    go_ret
    exact ⟨ret_bool (by first | (rw [HE.out]; done) | (rw [HE.out]; rfl) | (rw [HE.out]; simp; done) | (rw [HE.out]; simp; omega)), below_step HB1.out HB2.out⟩
  · go_enter Tryd.func40, Tryd.ntmps40
    go_wp2_with (first
      | (go_at_call 52; refine (HM _).out.mono ?_; rintro e w2 ⟨rfl, hB2⟩; obtain ⟨hc, hf⟩ := bcell hB2; have HB2 := Lib.hid hB2; clear hB2)
      | (go_at_call 53; refine (HN _).out.mono ?_; rintro e w3 ⟨rfl, rfl⟩))
    go_ret
    exact ⟨ret_bool (by first | (rw [HE.out]; done) | (rw [HE.out]; rfl) | (rw [HE.out]; simp; done) | (rw [HE.out]; simp; omega)), below_step HB1.out HB2.out⟩
set_option maxRecDepth 100000 in
set_option maxHeartbeats 4000000 in
theorem rright_7 (w0 w : World) (n : Nat) (s : ByteArray) (p : Option Addr) (pl pc : Nat) (q : Option Addr) (ql qc : Nat) (o : Bool) (k : Option Addr) (kl kc : Nat) (m : Int) (pa : List ByteArray) (ps : List (ByteArray × Ex)) (ks : List Ex)
    (_ih : ∀ (h : Hd) (y : Ex) (w : World), y ∈ (Ex.mk 7 m s pa ps o ks).parts → InX w0 n h y → Below w0.heap.size w0 w → Calls Tryd.prog 40 #[h.agg] w (BoolP (rightB n y) w)) (hx : InX w0 (n + 1) ⟨7, m, s, p, pl, pc, q, ql, qc, o, k, kl, kc⟩ (.mk 7 m s pa ps o ks)) (_hb0 : Below w0.heap.size w0 w) (_hsm : ps.length ≤ 1000000) :
    Calls Tryd.prog 40 #[.agg #[.int .i64 7, .int .i64 m, .string s, .slice p pl pc, .slice q ql qc, .bool o, .slice k kl kc]] w (BoolP (rightB (n + 1) (.mk 7 m s pa ps o ks)) w) := by
  obtain ⟨rfl, rfl, rfl, pm, qm, km, sm⟩ := lay_of hx
  dsimp only at pm qm km sm
  obtain ⟨-, -, -, -, -, hpa, hps, hks⟩ := hx
  dsimp only at hpa hps hks
  have hE : rightB (n + 1) (.mk 7 m s pa ps o ks) = (rEm 1 m s.size o pa.length ps.length ks.length && inB m) := by
    rw [rightB_succ, parts_ks (by decide), ownB_eq, if_neg (by decide), if_neg (by decide), if_neg (by decide), if_neg (by decide), if_neg (by decide), if_pos (by decide)]
    have hk := all_nil (f := rightB n) (ks := ks)
    generalize ks.all (rightB n) = c at hk ⊢
    generalize s.size = z
    generalize pa.length = a1
    generalize ps.length = a2
    generalize ks.length = a3 at hk ⊢
    rw [Bool.eq_iff_iff]
    cases o <;> cases c <;> simp [rEm, emB, numB, inB] at hk ⊢ <;> omega
  obtain ⟨r1, hr1⟩ : ∃ r, rEm 1 m s.size o pa.length ps.length ks.length = r := ⟨_, rfl⟩
  have HM : ∀ W, Hid (Calls Tryd.prog 52 #[.agg #[.int .i64 7, .int .i64 m, .string s, .slice p pa.length pc, .slice q ps.length qc, .bool o, .slice k ks.length kc], .int .i64 1] W (BoolQ r1 W)) := fun W => by rw [← hr1]; exact rempty_1 7 m s p _ pc q _ qc o k _ kc W pm qm km
  have HB1 : Hid (Below w.heap.size w (w.alloc (.cells #[.int .i64 7, .int .i64 m, .string s, .slice p pa.length pc, .slice q ps.length qc, .bool o, .slice k ks.length kc] 38))) := below_alloc (Below.refl _ _) _
  obtain ⟨r2, hr2⟩ : ∃ r, inB m = r := ⟨_, rfl⟩
  have HN : ∀ W, Hid (Calls Tryd.prog 53 #[.int .i64 m] W fun e w' => e = .returned (.bool r2) ∧ W = w') := fun W => by rw [← hr2]; exact rin_any m W
  rw [hr1, hr2] at hE
  have HE := Lib.hid hE
  clear hE hr1 hr2 hpa hps hks
  cases r1
  · go_enter Tryd.func40, Tryd.ntmps40
    go_wp2_with (first
      | (go_at_call 52; refine (HM _).out.mono ?_; rintro e w2 ⟨rfl, hB2⟩; obtain ⟨hc, hf⟩ := bcell hB2; have HB2 := Lib.hid hB2; clear hB2))
    go_ret
    exact ⟨ret_bool (by first | (rw [HE.out]; done) | (rw [HE.out]; rfl) | (rw [HE.out]; simp; done) | (rw [HE.out]; simp; omega)), below_step HB1.out HB2.out⟩
  · go_enter Tryd.func40, Tryd.ntmps40
    go_wp2_with (first
      | (go_at_call 52; refine (HM _).out.mono ?_; rintro e w2 ⟨rfl, hB2⟩; obtain ⟨hc, hf⟩ := bcell hB2; have HB2 := Lib.hid hB2; clear hB2)
      | (go_at_call 53; refine (HN _).out.mono ?_; rintro e w3 ⟨rfl, rfl⟩))
    go_ret
    exact ⟨ret_bool (by first | (rw [HE.out]; done) | (rw [HE.out]; rfl) | (rw [HE.out]; simp; done) | (rw [HE.out]; simp; omega)), below_step HB1.out HB2.out⟩
set_option maxRecDepth 100000 in
set_option maxHeartbeats 4000000 in
theorem rright_8 (w0 w : World) (n : Nat) (s : ByteArray) (p : Option Addr) (pl pc : Nat) (q : Option Addr) (ql qc : Nat) (o : Bool) (k : Option Addr) (kl kc : Nat) (m : Int) (pa : List ByteArray) (ps : List (ByteArray × Ex)) (ks : List Ex)
    (_ih : ∀ (h : Hd) (y : Ex) (w : World), y ∈ (Ex.mk 8 m s pa ps o ks).parts → InX w0 n h y → Below w0.heap.size w0 w → Calls Tryd.prog 40 #[h.agg] w (BoolP (rightB n y) w)) (hx : InX w0 (n + 1) ⟨8, m, s, p, pl, pc, q, ql, qc, o, k, kl, kc⟩ (.mk 8 m s pa ps o ks)) (_hb0 : Below w0.heap.size w0 w) (_hsm : ps.length ≤ 1000000) :
    Calls Tryd.prog 40 #[.agg #[.int .i64 8, .int .i64 m, .string s, .slice p pl pc, .slice q ql qc, .bool o, .slice k kl kc]] w (BoolP (rightB (n + 1) (.mk 8 m s pa ps o ks)) w) := by
  obtain ⟨rfl, rfl, rfl, pm, qm, km, sm⟩ := lay_of hx
  dsimp only at pm qm km sm
  obtain ⟨-, -, -, -, -, hpa, hps, hks⟩ := hx
  dsimp only at hpa hps hks
  have hE : rightB (n + 1) (.mk 8 m s pa ps o ks) = (rEm 1 m s.size o pa.length ps.length ks.length && inB m) := by
    rw [rightB_succ, parts_ks (by decide), ownB_eq, if_neg (by decide), if_neg (by decide), if_neg (by decide), if_neg (by decide), if_neg (by decide), if_pos (by decide)]
    have hk := all_nil (f := rightB n) (ks := ks)
    generalize ks.all (rightB n) = c at hk ⊢
    generalize s.size = z
    generalize pa.length = a1
    generalize ps.length = a2
    generalize ks.length = a3 at hk ⊢
    rw [Bool.eq_iff_iff]
    cases o <;> cases c <;> simp [rEm, emB, numB, inB] at hk ⊢ <;> omega
  obtain ⟨r1, hr1⟩ : ∃ r, rEm 1 m s.size o pa.length ps.length ks.length = r := ⟨_, rfl⟩
  have HM : ∀ W, Hid (Calls Tryd.prog 52 #[.agg #[.int .i64 8, .int .i64 m, .string s, .slice p pa.length pc, .slice q ps.length qc, .bool o, .slice k ks.length kc], .int .i64 1] W (BoolQ r1 W)) := fun W => by rw [← hr1]; exact rempty_1 8 m s p _ pc q _ qc o k _ kc W pm qm km
  have HB1 : Hid (Below w.heap.size w (w.alloc (.cells #[.int .i64 8, .int .i64 m, .string s, .slice p pa.length pc, .slice q ps.length qc, .bool o, .slice k ks.length kc] 38))) := below_alloc (Below.refl _ _) _
  obtain ⟨r2, hr2⟩ : ∃ r, inB m = r := ⟨_, rfl⟩
  have HN : ∀ W, Hid (Calls Tryd.prog 53 #[.int .i64 m] W fun e w' => e = .returned (.bool r2) ∧ W = w') := fun W => by rw [← hr2]; exact rin_any m W
  rw [hr1, hr2] at hE
  have HE := Lib.hid hE
  clear hE hr1 hr2 hpa hps hks
  cases r1
  · go_enter Tryd.func40, Tryd.ntmps40
    go_wp2_with (first
      | (go_at_call 52; refine (HM _).out.mono ?_; rintro e w2 ⟨rfl, hB2⟩; obtain ⟨hc, hf⟩ := bcell hB2; have HB2 := Lib.hid hB2; clear hB2))
    go_ret
    exact ⟨ret_bool (by first | (rw [HE.out]; done) | (rw [HE.out]; rfl) | (rw [HE.out]; simp; done) | (rw [HE.out]; simp; omega)), below_step HB1.out HB2.out⟩
  · go_enter Tryd.func40, Tryd.ntmps40
    go_wp2_with (first
      | (go_at_call 52; refine (HM _).out.mono ?_; rintro e w2 ⟨rfl, hB2⟩; obtain ⟨hc, hf⟩ := bcell hB2; have HB2 := Lib.hid hB2; clear hB2)
      | (go_at_call 53; refine (HN _).out.mono ?_; rintro e w3 ⟨rfl, rfl⟩))
    go_ret
    exact ⟨ret_bool (by first | (rw [HE.out]; done) | (rw [HE.out]; rfl) | (rw [HE.out]; simp; done) | (rw [HE.out]; simp; omega)), below_step HB1.out HB2.out⟩
set_option maxRecDepth 100000 in
set_option maxHeartbeats 4000000 in
theorem rright_5 (w0 w : World) (n : Nat) (s : ByteArray) (p : Option Addr) (pl pc : Nat) (q : Option Addr) (ql qc : Nat) (o : Bool) (k : Option Addr) (kl kc : Nat) (m : Int) (pa : List ByteArray) (ps : List (ByteArray × Ex)) (ks : List Ex)
    (_ih : ∀ (h : Hd) (y : Ex) (w : World), y ∈ (Ex.mk 5 m s pa ps o ks).parts → InX w0 n h y → Below w0.heap.size w0 w → Calls Tryd.prog 40 #[h.agg] w (BoolP (rightB n y) w)) (hx : InX w0 (n + 1) ⟨5, m, s, p, pl, pc, q, ql, qc, o, k, kl, kc⟩ (.mk 5 m s pa ps o ks)) (_hb0 : Below w0.heap.size w0 w) (_hsm : ps.length ≤ 1000000) :
    Calls Tryd.prog 40 #[.agg #[.int .i64 5, .int .i64 m, .string s, .slice p pl pc, .slice q ql qc, .bool o, .slice k kl kc]] w (BoolP (rightB (n + 1) (.mk 5 m s pa ps o ks)) w) := by
  obtain ⟨rfl, rfl, rfl, pm, qm, km, sm⟩ := lay_of hx
  dsimp only at pm qm km sm
  obtain ⟨-, -, -, -, -, hpa, hps, hks⟩ := hx
  dsimp only at hpa hps hks
  have hE : rightB (n + 1) (.mk 5 m s pa ps o ks) = rEm 0 m s.size o pa.length ps.length ks.length := by
    rw [rightB_succ, parts_ks (by decide), ownB_eq, if_neg (by decide), if_neg (by decide), if_neg (by decide), if_neg (by decide), if_neg (by decide), if_pos (by decide)]
    have hk := all_nil (f := rightB n) (ks := ks)
    generalize ks.all (rightB n) = c at hk ⊢
    generalize s.size = z
    generalize pa.length = a1
    generalize ps.length = a2
    generalize ks.length = a3 at hk ⊢
    rw [Bool.eq_iff_iff]
    cases o <;> cases c <;> simp [rEm, emB, numB] at hk ⊢ <;> omega
  obtain ⟨r1, hr1⟩ : ∃ r, rEm 0 m s.size o pa.length ps.length ks.length = r := ⟨_, rfl⟩
  have HM : ∀ W, Hid (Calls Tryd.prog 52 #[.agg #[.int .i64 5, .int .i64 m, .string s, .slice p pa.length pc, .slice q ps.length qc, .bool o, .slice k ks.length kc], .int .i64 0] W (BoolQ r1 W)) := fun W => by rw [← hr1]; exact rempty_0 5 m s p _ pc q _ qc o k _ kc W pm qm km
  have HB1 : Hid (Below w.heap.size w (w.alloc (.cells #[.int .i64 5, .int .i64 m, .string s, .slice p pa.length pc, .slice q ps.length qc, .bool o, .slice k ks.length kc] 38))) := below_alloc (Below.refl _ _) _
  rw [hr1] at hE
  have HE := Lib.hid hE
  clear hE hr1 hpa hps hks
  go_enter Tryd.func40, Tryd.ntmps40
  go_wp2_with (first
    | (go_at_call 52; refine (HM _).out.mono ?_; rintro e w2 ⟨rfl, hB2⟩; obtain ⟨hc, hf⟩ := bcell hB2; have HB2 := Lib.hid hB2; clear hB2))
  go_ret
  exact ⟨ret_bool (by first | (rw [HE.out]; done) | (rw [HE.out]; rfl) | (rw [HE.out]; simp; done) | (rw [HE.out]; simp; omega)), below_step HB1.out HB2.out⟩
set_option maxRecDepth 100000 in
set_option maxHeartbeats 4000000 in
theorem rright_6 (w0 w : World) (n : Nat) (s : ByteArray) (p : Option Addr) (pl pc : Nat) (q : Option Addr) (ql qc : Nat) (o : Bool) (k : Option Addr) (kl kc : Nat) (m : Int) (pa : List ByteArray) (ps : List (ByteArray × Ex)) (ks : List Ex)
    (_ih : ∀ (h : Hd) (y : Ex) (w : World), y ∈ (Ex.mk 6 m s pa ps o ks).parts → InX w0 n h y → Below w0.heap.size w0 w → Calls Tryd.prog 40 #[h.agg] w (BoolP (rightB n y) w)) (hx : InX w0 (n + 1) ⟨6, m, s, p, pl, pc, q, ql, qc, o, k, kl, kc⟩ (.mk 6 m s pa ps o ks)) (_hb0 : Below w0.heap.size w0 w) (_hsm : ps.length ≤ 1000000) :
    Calls Tryd.prog 40 #[.agg #[.int .i64 6, .int .i64 m, .string s, .slice p pl pc, .slice q ql qc, .bool o, .slice k kl kc]] w (BoolP (rightB (n + 1) (.mk 6 m s pa ps o ks)) w) := by
  obtain ⟨rfl, rfl, rfl, pm, qm, km, sm⟩ := lay_of hx
  dsimp only at pm qm km sm
  obtain ⟨-, -, -, -, -, hpa, hps, hks⟩ := hx
  dsimp only at hpa hps hks
  have hE : rightB (n + 1) (.mk 6 m s pa ps o ks) = rEm 0 m s.size o pa.length ps.length ks.length := by
    rw [rightB_succ, parts_ks (by decide), ownB_eq, if_neg (by decide), if_neg (by decide), if_neg (by decide), if_neg (by decide), if_neg (by decide), if_pos (by decide)]
    have hk := all_nil (f := rightB n) (ks := ks)
    generalize ks.all (rightB n) = c at hk ⊢
    generalize s.size = z
    generalize pa.length = a1
    generalize ps.length = a2
    generalize ks.length = a3 at hk ⊢
    rw [Bool.eq_iff_iff]
    cases o <;> cases c <;> simp [rEm, emB, numB] at hk ⊢ <;> omega
  obtain ⟨r1, hr1⟩ : ∃ r, rEm 0 m s.size o pa.length ps.length ks.length = r := ⟨_, rfl⟩
  have HM : ∀ W, Hid (Calls Tryd.prog 52 #[.agg #[.int .i64 6, .int .i64 m, .string s, .slice p pa.length pc, .slice q ps.length qc, .bool o, .slice k ks.length kc], .int .i64 0] W (BoolQ r1 W)) := fun W => by rw [← hr1]; exact rempty_0 6 m s p _ pc q _ qc o k _ kc W pm qm km
  have HB1 : Hid (Below w.heap.size w (w.alloc (.cells #[.int .i64 6, .int .i64 m, .string s, .slice p pa.length pc, .slice q ps.length qc, .bool o, .slice k ks.length kc] 38))) := below_alloc (Below.refl _ _) _
  rw [hr1] at hE
  have HE := Lib.hid hE
  clear hE hr1 hpa hps hks
  go_enter Tryd.func40, Tryd.ntmps40
  go_wp2_with (first
    | (go_at_call 52; refine (HM _).out.mono ?_; rintro e w2 ⟨rfl, hB2⟩; obtain ⟨hc, hf⟩ := bcell hB2; have HB2 := Lib.hid hB2; clear hB2))
  go_ret
  exact ⟨ret_bool (by first | (rw [HE.out]; done) | (rw [HE.out]; rfl) | (rw [HE.out]; simp; done) | (rw [HE.out]; simp; omega)), below_step HB1.out HB2.out⟩
set_option maxRecDepth 100000 in
set_option maxHeartbeats 4000000 in
theorem rright_2 (w0 w : World) (n : Nat) (s : ByteArray) (p : Option Addr) (pl pc : Nat) (q : Option Addr) (ql qc : Nat) (o : Bool) (k : Option Addr) (kl kc : Nat) (m : Int) (pa : List ByteArray) (ps : List (ByteArray × Ex)) (ks : List Ex)
    (_ih : ∀ (h : Hd) (y : Ex) (w : World), y ∈ (Ex.mk 2 m s pa ps o ks).parts → InX w0 n h y → Below w0.heap.size w0 w → Calls Tryd.prog 40 #[h.agg] w (BoolP (rightB n y) w)) (hx : InX w0 (n + 1) ⟨2, m, s, p, pl, pc, q, ql, qc, o, k, kl, kc⟩ (.mk 2 m s pa ps o ks)) (_hb0 : Below w0.heap.size w0 w) (_hsm : ps.length ≤ 1000000) :
    Calls Tryd.prog 40 #[.agg #[.int .i64 2, .int .i64 m, .string s, .slice p pl pc, .slice q ql qc, .bool o, .slice k kl kc]] w (BoolP (rightB (n + 1) (.mk 2 m s pa ps o ks)) w) := by
  obtain ⟨rfl, rfl, rfl, pm, qm, km, sm⟩ := lay_of hx
  dsimp only at pm qm km sm
  obtain ⟨-, -, -, -, -, hpa, hps, hks⟩ := hx
  dsimp only at hpa hps hks
  have hE : rightB (n + 1) (.mk 2 m s pa ps o ks) = (rEm 2 m s.size o pa.length ps.length ks.length && decide (s.size ≤ 256)) := by
    rw [rightB_succ, parts_ks (by decide), ownB_eq, if_neg (by decide), if_neg (by decide), if_neg (by decide), if_neg (by decide), if_pos (by decide)]
    have hk := all_nil (f := rightB n) (ks := ks)
    generalize ks.all (rightB n) = c at hk ⊢
    generalize s.size = z
    generalize pa.length = a1
    generalize ps.length = a2
    generalize ks.length = a3 at hk ⊢
    rw [Bool.eq_iff_iff]
    cases o <;> cases c <;> simp [rEm, emB, numB] at hk ⊢ <;> omega
  obtain ⟨r1, hr1⟩ : ∃ r, rEm 2 m s.size o pa.length ps.length ks.length = r := ⟨_, rfl⟩
  have HM : ∀ W, Hid (Calls Tryd.prog 52 #[.agg #[.int .i64 2, .int .i64 m, .string s, .slice p pa.length pc, .slice q ps.length qc, .bool o, .slice k ks.length kc], .int .i64 2] W (BoolQ r1 W)) := fun W => by rw [← hr1]; exact rempty_2 2 m s p _ pc q _ qc o k _ kc W pm qm km
  have HB1 : Hid (Below w.heap.size w (w.alloc (.cells #[.int .i64 2, .int .i64 m, .string s, .slice p pa.length pc, .slice q ps.length qc, .bool o, .slice k ks.length kc] 38))) := below_alloc (Below.refl _ _) _
  rw [hr1] at hE
  clear hr1 hpa hps hks
  by_cases g1 : s.size ≤ 256
  · have f1 : (s.size : Int) ≤ 256 := by omega
    have HE := Lib.hid (hE.trans (show _ = r1 by simp [g1]))
    clear hE g1
    cases r1
    · go_enter Tryd.func40, Tryd.ntmps40
      go_wp2_with (first
        | (go_at_call 52; refine (HM _).out.mono ?_; rintro e w2 ⟨rfl, hB2⟩; obtain ⟨hc, hf⟩ := bcell hB2; have HB2 := Lib.hid hB2; clear hB2))
      go_ret
      exact ⟨ret_bool (by first | (rw [HE.out]; done) | (rw [HE.out]; rfl) | (rw [HE.out]; simp; done) | (rw [HE.out]; simp; omega)), below_step HB1.out HB2.out⟩
    · go_enter Tryd.func40, Tryd.ntmps40
      go_wp2_with (first
        | (go_at_call 52; refine (HM _).out.mono ?_; rintro e w2 ⟨rfl, hB2⟩; obtain ⟨hc, hf⟩ := bcell hB2; have HB2 := Lib.hid hB2; clear hB2))
      go_ret
      exact ⟨ret_bool (by first | (rw [HE.out]; done) | (rw [HE.out]; rfl) | (rw [HE.out]; simp; done) | (rw [HE.out]; simp; omega)), below_step HB1.out HB2.out⟩
  · have f1 : ¬ (s.size : Int) ≤ 256 := by omega
    have HE := Lib.hid (hE.trans (show _ = false by simp [g1]))
    clear hE g1
    cases r1
    · go_enter Tryd.func40, Tryd.ntmps40
      go_wp2_with (first
        | (go_at_call 52; refine (HM _).out.mono ?_; rintro e w2 ⟨rfl, hB2⟩; obtain ⟨hc, hf⟩ := bcell hB2; have HB2 := Lib.hid hB2; clear hB2))
      go_ret
      exact ⟨ret_bool (by first | (rw [HE.out]; done) | (rw [HE.out]; rfl) | (rw [HE.out]; simp; done) | (rw [HE.out]; simp; omega)), below_step HB1.out HB2.out⟩
    · go_enter Tryd.func40, Tryd.ntmps40
      go_wp2_with (first
        | (go_at_call 52; refine (HM _).out.mono ?_; rintro e w2 ⟨rfl, hB2⟩; obtain ⟨hc, hf⟩ := bcell hB2; have HB2 := Lib.hid hB2; clear hB2))
      go_ret
      exact ⟨ret_bool (by first | (rw [HE.out]; done) | (rw [HE.out]; rfl) | (rw [HE.out]; simp; done) | (rw [HE.out]; simp; omega)), below_step HB1.out HB2.out⟩
set_option maxRecDepth 100000 in
set_option maxHeartbeats 4000000 in
theorem rright_3 (w0 w : World) (n : Nat) (s : ByteArray) (p : Option Addr) (pl pc : Nat) (q : Option Addr) (ql qc : Nat) (o : Bool) (k : Option Addr) (kl kc : Nat) (m : Int) (pa : List ByteArray) (ps : List (ByteArray × Ex)) (ks : List Ex)
    (_ih : ∀ (h : Hd) (y : Ex) (w : World), y ∈ (Ex.mk 3 m s pa ps o ks).parts → InX w0 n h y → Below w0.heap.size w0 w → Calls Tryd.prog 40 #[h.agg] w (BoolP (rightB n y) w)) (hx : InX w0 (n + 1) ⟨3, m, s, p, pl, pc, q, ql, qc, o, k, kl, kc⟩ (.mk 3 m s pa ps o ks)) (_hb0 : Below w0.heap.size w0 w) (_hsm : ps.length ≤ 1000000) :
    Calls Tryd.prog 40 #[.agg #[.int .i64 3, .int .i64 m, .string s, .slice p pl pc, .slice q ql qc, .bool o, .slice k kl kc]] w (BoolP (rightB (n + 1) (.mk 3 m s pa ps o ks)) w) := by
  obtain ⟨rfl, rfl, rfl, pm, qm, km, sm⟩ := lay_of hx
  dsimp only at pm qm km sm
  obtain ⟨-, -, -, -, -, hpa, hps, hks⟩ := hx
  dsimp only at hpa hps hks
  have hE : rightB (n + 1) (.mk 3 m s pa ps o ks) = (rEm 1 m s.size o pa.length ps.length ks.length && (decide (0 ≤ m) && decide (m ≤ 1))) := by
    rw [rightB_succ, parts_ks (by decide), ownB_eq, if_neg (by decide), if_neg (by decide), if_neg (by decide), if_neg (by decide), if_neg (by decide), if_pos (by decide)]
    have hk := all_nil (f := rightB n) (ks := ks)
    generalize ks.all (rightB n) = c at hk ⊢
    generalize s.size = z
    generalize pa.length = a1
    generalize ps.length = a2
    generalize ks.length = a3 at hk ⊢
    rw [Bool.eq_iff_iff]
    cases o <;> cases c <;> simp [rEm, emB, numB] at hk ⊢ <;> omega
  obtain ⟨r1, hr1⟩ : ∃ r, rEm 1 m s.size o pa.length ps.length ks.length = r := ⟨_, rfl⟩
  have HM : ∀ W, Hid (Calls Tryd.prog 52 #[.agg #[.int .i64 3, .int .i64 m, .string s, .slice p pa.length pc, .slice q ps.length qc, .bool o, .slice k ks.length kc], .int .i64 1] W (BoolQ r1 W)) := fun W => by rw [← hr1]; exact rempty_1 3 m s p _ pc q _ qc o k _ kc W pm qm km
  have HB1 : Hid (Below w.heap.size w (w.alloc (.cells #[.int .i64 3, .int .i64 m, .string s, .slice p pa.length pc, .slice q ps.length qc, .bool o, .slice k ks.length kc] 38))) := below_alloc (Below.refl _ _) _
  rw [hr1] at hE
  clear hr1 hpa hps hks
  by_cases g1 : 0 ≤ m
  · have f1 : 0 ≤ m := g1
    by_cases g2 : m ≤ 1
    · have f2 : m ≤ 1 := g2
      have HE := Lib.hid (hE.trans (show _ = r1 by simp [g1, g2]))
      clear hE g1 g2
      cases r1
      · go_enter Tryd.func40, Tryd.ntmps40
        go_wp2_with (first
          | (go_at_call 52; refine (HM _).out.mono ?_; rintro e w2 ⟨rfl, hB2⟩; obtain ⟨hc, hf⟩ := bcell hB2; have HB2 := Lib.hid hB2; clear hB2))
        go_ret
        exact ⟨ret_bool (by first | (rw [HE.out]; done) | (rw [HE.out]; rfl) | (rw [HE.out]; simp; done) | (rw [HE.out]; simp; omega)), below_step HB1.out HB2.out⟩
      · go_enter Tryd.func40, Tryd.ntmps40
        go_wp2_with (first
          | (go_at_call 52; refine (HM _).out.mono ?_; rintro e w2 ⟨rfl, hB2⟩; obtain ⟨hc, hf⟩ := bcell hB2; have HB2 := Lib.hid hB2; clear hB2))
        go_ret
        exact ⟨ret_bool (by first | (rw [HE.out]; done) | (rw [HE.out]; rfl) | (rw [HE.out]; simp; done) | (rw [HE.out]; simp; omega)), below_step HB1.out HB2.out⟩
    · have f2 : 1 < m := by omega
      have HE := Lib.hid (hE.trans (show _ = false by simp [g1, g2]))
      clear hE g1 g2
      cases r1
      · go_enter Tryd.func40, Tryd.ntmps40
        go_wp2_with (first
          | (go_at_call 52; refine (HM _).out.mono ?_; rintro e w2 ⟨rfl, hB2⟩; obtain ⟨hc, hf⟩ := bcell hB2; have HB2 := Lib.hid hB2; clear hB2))
        go_ret
        exact ⟨ret_bool (by first | (rw [HE.out]; done) | (rw [HE.out]; rfl) | (rw [HE.out]; simp; done) | (rw [HE.out]; simp; omega)), below_step HB1.out HB2.out⟩
      · go_enter Tryd.func40, Tryd.ntmps40
        go_wp2_with (first
          | (go_at_call 52; refine (HM _).out.mono ?_; rintro e w2 ⟨rfl, hB2⟩; obtain ⟨hc, hf⟩ := bcell hB2; have HB2 := Lib.hid hB2; clear hB2))
        go_ret
        exact ⟨ret_bool (by first | (rw [HE.out]; done) | (rw [HE.out]; rfl) | (rw [HE.out]; simp; done) | (rw [HE.out]; simp; omega)), below_step HB1.out HB2.out⟩
  · have f1 : m < 0 := by omega
    have HE := Lib.hid (hE.trans (show _ = false by simp [g1]))
    clear hE g1
    cases r1
    · go_enter Tryd.func40, Tryd.ntmps40
      go_wp2_with (first
        | (go_at_call 52; refine (HM _).out.mono ?_; rintro e w2 ⟨rfl, hB2⟩; obtain ⟨hc, hf⟩ := bcell hB2; have HB2 := Lib.hid hB2; clear hB2))
      go_ret
      exact ⟨ret_bool (by first | (rw [HE.out]; done) | (rw [HE.out]; rfl) | (rw [HE.out]; simp; done) | (rw [HE.out]; simp; omega)), below_step HB1.out HB2.out⟩
    · go_enter Tryd.func40, Tryd.ntmps40
      go_wp2_with (first
        | (go_at_call 52; refine (HM _).out.mono ?_; rintro e w2 ⟨rfl, hB2⟩; obtain ⟨hc, hf⟩ := bcell hB2; have HB2 := Lib.hid hB2; clear hB2))
      go_ret
      exact ⟨ret_bool (by first | (rw [HE.out]; done) | (rw [HE.out]; rfl) | (rw [HE.out]; simp; done) | (rw [HE.out]; simp; omega)), below_step HB1.out HB2.out⟩
set_option maxRecDepth 100000 in
set_option maxHeartbeats 4000000 in
theorem rright_4 (w0 w : World) (n : Nat) (s : ByteArray) (p : Option Addr) (pl pc : Nat) (q : Option Addr) (ql qc : Nat) (o : Bool) (k : Option Addr) (kl kc : Nat) (m : Int) (pa : List ByteArray) (ps : List (ByteArray × Ex)) (ks : List Ex)
    (_ih : ∀ (h : Hd) (y : Ex) (w : World), y ∈ (Ex.mk 4 m s pa ps o ks).parts → InX w0 n h y → Below w0.heap.size w0 w → Calls Tryd.prog 40 #[h.agg] w (BoolP (rightB n y) w)) (hx : InX w0 (n + 1) ⟨4, m, s, p, pl, pc, q, ql, qc, o, k, kl, kc⟩ (.mk 4 m s pa ps o ks)) (_hb0 : Below w0.heap.size w0 w) (_hsm : ps.length ≤ 1000000) :
    Calls Tryd.prog 40 #[.agg #[.int .i64 4, .int .i64 m, .string s, .slice p pl pc, .slice q ql qc, .bool o, .slice k kl kc]] w (BoolP (rightB (n + 1) (.mk 4 m s pa ps o ks)) w) := by
  obtain ⟨rfl, rfl, rfl, pm, qm, km, sm⟩ := lay_of hx
  dsimp only at pm qm km sm
  obtain ⟨-, -, -, -, -, hpa, hps, hks⟩ := hx
  dsimp only at hpa hps hks
  have hE : rightB (n + 1) (.mk 4 m s pa ps o ks) = (rEm 1 m s.size o pa.length ps.length ks.length && (decide (1 ≤ m) && decide (m ≤ 5) && decide (¬ m = 4))) := by
    rw [rightB_succ, parts_ks (by decide), ownB_eq, if_neg (by decide), if_neg (by decide), if_neg (by decide), if_neg (by decide), if_neg (by decide), if_pos (by decide)]
    have hk := all_nil (f := rightB n) (ks := ks)
    generalize ks.all (rightB n) = c at hk ⊢
    generalize s.size = z
    generalize pa.length = a1
    generalize ps.length = a2
    generalize ks.length = a3 at hk ⊢
    rw [Bool.eq_iff_iff]
    cases o <;> cases c <;> simp [rEm, emB, numB] at hk ⊢ <;> omega
  obtain ⟨r1, hr1⟩ : ∃ r, rEm 1 m s.size o pa.length ps.length ks.length = r := ⟨_, rfl⟩
  have HM : ∀ W, Hid (Calls Tryd.prog 52 #[.agg #[.int .i64 4, .int .i64 m, .string s, .slice p pa.length pc, .slice q ps.length qc, .bool o, .slice k ks.length kc], .int .i64 1] W (BoolQ r1 W)) := fun W => by rw [← hr1]; exact rempty_1 4 m s p _ pc q _ qc o k _ kc W pm qm km
  have HB1 : Hid (Below w.heap.size w (w.alloc (.cells #[.int .i64 4, .int .i64 m, .string s, .slice p pa.length pc, .slice q ps.length qc, .bool o, .slice k ks.length kc] 38))) := below_alloc (Below.refl _ _) _
  rw [hr1] at hE
  clear hr1 hpa hps hks
  by_cases g1 : 1 ≤ m
  · have f1 : 1 ≤ m := g1
    by_cases g2 : m ≤ 5
    · have f2 : m ≤ 5 := g2
      by_cases g3 : ¬ m = 4
      · have f3 : (m != 4) = true := by simpa using g3
        have HE := Lib.hid (hE.trans (show _ = r1 by simp [g1, g2, g3]))
        clear hE g1 g2 g3
        cases r1
        · go_enter Tryd.func40, Tryd.ntmps40
          go_wp2_with (first
            | (go_at_call 52; refine (HM _).out.mono ?_; rintro e w2 ⟨rfl, hB2⟩; obtain ⟨hc, hf⟩ := bcell hB2; have HB2 := Lib.hid hB2; clear hB2))
          go_ret
          exact ⟨ret_bool (by first | (rw [HE.out]; done) | (rw [HE.out]; rfl) | (rw [HE.out]; simp; done) | (rw [HE.out]; simp; omega)), below_step HB1.out HB2.out⟩
        · go_enter Tryd.func40, Tryd.ntmps40
          go_wp2_with (first
            | (go_at_call 52; refine (HM _).out.mono ?_; rintro e w2 ⟨rfl, hB2⟩; obtain ⟨hc, hf⟩ := bcell hB2; have HB2 := Lib.hid hB2; clear hB2))
          go_ret
          exact ⟨ret_bool (by first | (rw [HE.out]; done) | (rw [HE.out]; rfl) | (rw [HE.out]; simp; done) | (rw [HE.out]; simp; omega)), below_step HB1.out HB2.out⟩
      · have f3 : (m != 4) = false := by simpa using g3
        have HE := Lib.hid (hE.trans (show _ = false by simp [g1, g2, g3]))
        clear hE g1 g2 g3
        cases r1
        · go_enter Tryd.func40, Tryd.ntmps40
          go_wp2_with (first
            | (go_at_call 52; refine (HM _).out.mono ?_; rintro e w2 ⟨rfl, hB2⟩; obtain ⟨hc, hf⟩ := bcell hB2; have HB2 := Lib.hid hB2; clear hB2))
          go_ret
          exact ⟨ret_bool (by first | (rw [HE.out]; done) | (rw [HE.out]; rfl) | (rw [HE.out]; simp; done) | (rw [HE.out]; simp; omega)), below_step HB1.out HB2.out⟩
        · go_enter Tryd.func40, Tryd.ntmps40
          go_wp2_with (first
            | (go_at_call 52; refine (HM _).out.mono ?_; rintro e w2 ⟨rfl, hB2⟩; obtain ⟨hc, hf⟩ := bcell hB2; have HB2 := Lib.hid hB2; clear hB2))
          go_ret
          exact ⟨ret_bool (by first | (rw [HE.out]; done) | (rw [HE.out]; rfl) | (rw [HE.out]; simp; done) | (rw [HE.out]; simp; omega)), below_step HB1.out HB2.out⟩
    · have f2 : 5 < m := by omega
      have HE := Lib.hid (hE.trans (show _ = false by simp [g1, g2]))
      clear hE g1 g2
      cases r1
      · go_enter Tryd.func40, Tryd.ntmps40
        go_wp2_with (first
          | (go_at_call 52; refine (HM _).out.mono ?_; rintro e w2 ⟨rfl, hB2⟩; obtain ⟨hc, hf⟩ := bcell hB2; have HB2 := Lib.hid hB2; clear hB2))
        go_ret
        exact ⟨ret_bool (by first | (rw [HE.out]; done) | (rw [HE.out]; rfl) | (rw [HE.out]; simp; done) | (rw [HE.out]; simp; omega)), below_step HB1.out HB2.out⟩
      · go_enter Tryd.func40, Tryd.ntmps40
        go_wp2_with (first
          | (go_at_call 52; refine (HM _).out.mono ?_; rintro e w2 ⟨rfl, hB2⟩; obtain ⟨hc, hf⟩ := bcell hB2; have HB2 := Lib.hid hB2; clear hB2))
        go_ret
        exact ⟨ret_bool (by first | (rw [HE.out]; done) | (rw [HE.out]; rfl) | (rw [HE.out]; simp; done) | (rw [HE.out]; simp; omega)), below_step HB1.out HB2.out⟩
  · have f1 : m < 1 := by omega
    have HE := Lib.hid (hE.trans (show _ = false by simp [g1]))
    clear hE g1
    cases r1
    · go_enter Tryd.func40, Tryd.ntmps40
      go_wp2_with (first
        | (go_at_call 52; refine (HM _).out.mono ?_; rintro e w2 ⟨rfl, hB2⟩; obtain ⟨hc, hf⟩ := bcell hB2; have HB2 := Lib.hid hB2; clear hB2))
      go_ret
      exact ⟨ret_bool (by first | (rw [HE.out]; done) | (rw [HE.out]; rfl) | (rw [HE.out]; simp; done) | (rw [HE.out]; simp; omega)), below_step HB1.out HB2.out⟩
    · go_enter Tryd.func40, Tryd.ntmps40
      go_wp2_with (first
        | (go_at_call 52; refine (HM _).out.mono ?_; rintro e w2 ⟨rfl, hB2⟩; obtain ⟨hc, hf⟩ := bcell hB2; have HB2 := Lib.hid hB2; clear hB2))
      go_ret
      exact ⟨ret_bool (by first | (rw [HE.out]; done) | (rw [HE.out]; rfl) | (rw [HE.out]; simp; done) | (rw [HE.out]; simp; omega)), below_step HB1.out HB2.out⟩
set_option maxRecDepth 100000 in
set_option maxHeartbeats 4000000 in
theorem rright_9 (w0 w : World) (n : Nat) (s : ByteArray) (p : Option Addr) (pl pc : Nat) (q : Option Addr) (ql qc : Nat) (o : Bool) (k : Option Addr) (kl kc : Nat) (m : Int) (pa : List ByteArray) (ps : List (ByteArray × Ex)) (ks : List Ex)
    (_ih : ∀ (h : Hd) (y : Ex) (w : World), y ∈ (Ex.mk 9 m s pa ps o ks).parts → InX w0 n h y → Below w0.heap.size w0 w → Calls Tryd.prog 40 #[h.agg] w (BoolP (rightB n y) w)) (hx : InX w0 (n + 1) ⟨9, m, s, p, pl, pc, q, ql, qc, o, k, kl, kc⟩ (.mk 9 m s pa ps o ks)) (hb0 : Below w0.heap.size w0 w) (_hsm : ps.length ≤ 1000000) :
    Calls Tryd.prog 40 #[.agg #[.int .i64 9, .int .i64 m, .string s, .slice p pl pc, .slice q ql qc, .bool o, .slice k kl kc]] w (BoolP (rightB (n + 1) (.mk 9 m s pa ps o ks)) w) := by
  obtain ⟨rfl, rfl, rfl, pm, qm, km, sm⟩ := lay_of hx
  dsimp only at pm qm km sm
  obtain ⟨-, -, -, -, -, hpa, hps, hks⟩ := hx
  dsimp only at hpa hps hks
  obtain ⟨r2, hr2⟩ : ∃ r, Nm.pathB pa = r := ⟨_, rfl⟩
  have hE : rightB (n + 1) (.mk 9 m s pa ps o ks) = (rEm 4 m s.size o pa.length ps.length ks.length && r2) := by
    rw [rightB_succ, parts_ks (by decide), ownB_eq, if_neg (by decide), if_neg (by decide), if_neg (by decide), if_pos (by decide), hr2]
    have hk := all_nil (f := rightB n) (ks := ks)
    generalize ks.all (rightB n) = c at hk ⊢
    generalize s.size = z
    generalize pa.length = a1
    generalize ps.length = a2
    generalize ks.length = a3 at hk ⊢
    rw [Bool.eq_iff_iff]
    cases o <;> cases c <;> cases r2 <;> simp [rEm, emB, numB] at hk ⊢ <;> omega
  obtain ⟨r1, hr1⟩ : ∃ r, rEm 4 m s.size o pa.length ps.length ks.length = r := ⟨_, rfl⟩
  have HM : ∀ W, Hid (Calls Tryd.prog 52 #[.agg #[.int .i64 9, .int .i64 m, .string s, .slice p pa.length pc, .slice q ps.length qc, .bool o, .slice k ks.length kc], .int .i64 4] W (BoolQ r1 W)) := fun W => by rw [← hr1]; exact rempty_4 9 m s p _ pc q _ qc o k _ kc W pm qm km
  have HB1 : Hid (Below w.heap.size w (w.alloc (.cells #[.int .i64 9, .int .i64 m, .string s, .slice p pa.length pc, .slice q ps.length qc, .bool o, .slice k ks.length kc] 38))) := below_alloc (Below.refl _ _) _
  have HN : ∀ W, Below w.heap.size w W → Hid (Calls Tryd.prog 43 #[.slice p pa.length pc] W fun e w' => e = .returned (.bool r2) ∧ W = w') := fun W hW => by rw [← hr2]; exact Nm.rpath_any p _ pc pa W (hpa.below (below_step hb0 hW))
  rw [hr1] at hE
  have HE := Lib.hid hE
  clear hE hr1 hr2 hpa hps hks
  cases r1
  · go_enter Tryd.func40, Tryd.ntmps40
    go_wp2_with (first
      | (go_at_call 52; refine (HM _).out.mono ?_; rintro e w2 ⟨rfl, hB2⟩; obtain ⟨hc, hf⟩ := bcell hB2; have HB2 := Lib.hid hB2; clear hB2))
    go_ret
    exact ⟨ret_bool (by first | (rw [HE.out]; done) | (rw [HE.out]; rfl) | (rw [HE.out]; simp; done) | (rw [HE.out]; simp; omega)), below_step HB1.out HB2.out⟩
  · go_enter Tryd.func40, Tryd.ntmps40
    go_wp2_with (first
      | (go_at_call 52; refine (HM _).out.mono ?_; rintro e w2 ⟨rfl, hB2⟩; obtain ⟨hc, hf⟩ := bcell hB2; have HB2 := Lib.hid hB2; clear hB2)
      | (go_at_call 43; refine (HN _ (below_step HB1.out HB2.out)).out.mono ?_; rintro e w3 ⟨rfl, rfl⟩))
    go_ret
    exact ⟨ret_bool (by first | (rw [HE.out]; done) | (rw [HE.out]; rfl) | (rw [HE.out]; simp; done) | (rw [HE.out]; simp; omega)), below_step HB1.out HB2.out⟩
set_option maxRecDepth 100000 in
set_option maxHeartbeats 4000000 in
theorem rright_10 (w0 w : World) (n : Nat) (s : ByteArray) (p : Option Addr) (pl pc : Nat) (q : Option Addr) (ql qc : Nat) (o : Bool) (k : Option Addr) (kl kc : Nat) (m : Int) (pa : List ByteArray) (ps : List (ByteArray × Ex)) (ks : List Ex)
    (ih : ∀ (h : Hd) (y : Ex) (w : World), y ∈ (Ex.mk 10 m s pa ps o ks).parts → InX w0 n h y → Below w0.heap.size w0 w → Calls Tryd.prog 40 #[h.agg] w (BoolP (rightB n y) w)) (hx : InX w0 (n + 1) ⟨10, m, s, p, pl, pc, q, ql, qc, o, k, kl, kc⟩ (.mk 10 m s pa ps o ks)) (hb0 : Below w0.heap.size w0 w) (_hsm : ps.length ≤ 1000000) :
    Calls Tryd.prog 40 #[.agg #[.int .i64 10, .int .i64 m, .string s, .slice p pl pc, .slice q ql qc, .bool o, .slice k kl kc]] w (BoolP (rightB (n + 1) (.mk 10 m s pa ps o ks)) w) := by
  obtain ⟨rfl, rfl, rfl, pm, qm, km, sm⟩ := lay_of hx
  dsimp only at pm qm km sm
  obtain ⟨-, -, -, -, -, hpa, hps, hks⟩ := hx
  dsimp only at hpa hps hks
  obtain ⟨r2, hr2⟩ : ∃ r, (ps.all (fun p => rightB n p.2) && risP ps) = r := ⟨_, rfl⟩
  have hE : rightB (n + 1) (.mk 10 m s pa ps o ks) = (rEm 8 m s.size o pa.length ps.length ks.length && r2) := by
    rw [rightB_succ, show (Ex.mk 10 m s pa ps o ks).parts = ps.map (·.2) from if_pos rfl, ownB_eq, if_pos (by decide), ← hr2, List.all_map]
    show (_ && ps.all fun p => rightB n p.2) = _
    generalize (ps.all fun p => rightB n p.2) = c
    generalize risP ps = d
    generalize s.size = z
    generalize pa.length = a1
    generalize ps.length = a2
    generalize ks.length = a3
    rw [Bool.eq_iff_iff]
    cases c <;> cases d <;> simp [rEm, emB] <;> omega
  obtain ⟨r1, hr1⟩ : ∃ r, rEm 8 m s.size o pa.length ps.length ks.length = r := ⟨_, rfl⟩
  have HM : ∀ W, Hid (Calls Tryd.prog 52 #[.agg #[.int .i64 10, .int .i64 m, .string s, .slice p pa.length pc, .slice q ps.length qc, .bool o, .slice k ks.length kc], .int .i64 8] W (BoolQ r1 W)) := fun W => by rw [← hr1]; exact rempty_8 10 m s p _ pc q _ qc o k _ kc W pm qm km
  have HB1 : Hid (Below w.heap.size w (w.alloc (.cells #[.int .i64 10, .int .i64 m, .string s, .slice p pa.length pc, .slice q ps.length qc, .bool o, .slice k ks.length kc] 38))) := below_alloc (Below.refl _ _) _
  have HN : ∀ W, Below w.heap.size w W → Hid (Calls Tryd.prog 54 #[.slice q ps.length qc] W (BoolP r2 W)) := fun W hW => by rw [← hr2]; exact rpairs_any w0 n ps ih q _ qc W hps (below_step hb0 hW) _hsm
  rw [hr1] at hE
  have HE := Lib.hid hE
  clear hE hr1 hr2 hpa hps hks
  cases r1
  · go_enter Tryd.func40, Tryd.ntmps40
    go_wp2_with (first
      | (go_at_call 52; refine (HM _).out.mono ?_; rintro e w2 ⟨rfl, hB2⟩; obtain ⟨hc, hf⟩ := bcell hB2; have HB2 := Lib.hid hB2; clear hB2))
    go_ret
    exact ⟨ret_bool (by first | (rw [HE.out]; done) | (rw [HE.out]; rfl) | (rw [HE.out]; simp; done) | (rw [HE.out]; simp; omega)), below_step HB1.out HB2.out⟩
  · go_enter Tryd.func40, Tryd.ntmps40
    go_wp2_with (first
      | (go_at_call 52; refine (HM _).out.mono ?_; rintro e w2 ⟨rfl, hB2⟩; obtain ⟨hc, hf⟩ := bcell hB2; have HB2 := Lib.hid hB2; clear hB2)
      | (go_at_call 54; refine (HN _ (below_step HB1.out HB2.out)).out.mono ?_; rintro e w3 ⟨rfl, hB3⟩; have HB3 := Lib.hid hB3; clear hB3))
    go_ret
    exact ⟨ret_bool (by first | (rw [HE.out]; done) | (rw [HE.out]; rfl) | (rw [HE.out]; simp; done) | (rw [HE.out]; simp; omega)), below_step (below_step HB1.out HB2.out) HB3.out⟩
set_option maxRecDepth 100000 in
set_option maxHeartbeats 4000000 in
theorem rright_11 (w0 w : World) (n : Nat) (s : ByteArray) (p : Option Addr) (pl pc : Nat) (q : Option Addr) (ql qc : Nat) (o : Bool) (k : Option Addr) (kl kc : Nat) (m : Int) (pa : List ByteArray) (ps : List (ByteArray × Ex)) (ks : List Ex)
    (ih : ∀ (h : Hd) (y : Ex) (w : World), y ∈ (Ex.mk 11 m s pa ps o ks).parts → InX w0 n h y → Below w0.heap.size w0 w → Calls Tryd.prog 40 #[h.agg] w (BoolP (rightB n y) w)) (hx : InX w0 (n + 1) ⟨11, m, s, p, pl, pc, q, ql, qc, o, k, kl, kc⟩ (.mk 11 m s pa ps o ks)) (hb0 : Below w0.heap.size w0 w) (_hsm : ps.length ≤ 1000000) :
    Calls Tryd.prog 40 #[.agg #[.int .i64 11, .int .i64 m, .string s, .slice p pl pc, .slice q ql qc, .bool o, .slice k kl kc]] w (BoolP (rightB (n + 1) (.mk 11 m s pa ps o ks)) w) := by
  obtain ⟨rfl, rfl, rfl, pm, qm, km, sm⟩ := lay_of hx
  dsimp only at pm qm km sm
  obtain ⟨-, -, -, -, -, hpa, hps, hks⟩ := hx
  dsimp only at hpa hps hks
  obtain ⟨r2, hr2⟩ : ∃ r, (ks.all (rightB n) && (decide ((2 : Int) ≤ ks.length) && decide ((ks.length : Int) ≤ 32))) = r := ⟨_, rfl⟩
  have hE : rightB (n + 1) (.mk 11 m s pa ps o ks) = (rEm 16 m s.size o pa.length ps.length ks.length && r2) := by
    rw [rightB_succ, parts_ks (by decide), ownB_eq, if_neg (by decide), if_pos (by decide), ← hr2]
    generalize ks.all (rightB n) = c
    generalize s.size = z
    generalize pa.length = a1
    generalize ps.length = a2
    generalize ks.length = a3
    rw [Bool.eq_iff_iff]
    cases o <;> cases c <;> simp [rEm, emB] <;> omega
  obtain ⟨r1, hr1⟩ : ∃ r, rEm 16 m s.size o pa.length ps.length ks.length = r := ⟨_, rfl⟩
  have HM : ∀ W, Hid (Calls Tryd.prog 52 #[.agg #[.int .i64 11, .int .i64 m, .string s, .slice p pa.length pc, .slice q ps.length qc, .bool o, .slice k ks.length kc], .int .i64 16] W (BoolQ r1 W)) := fun W => by rw [← hr1]; exact rempty_16 11 m s p _ pc q _ qc o k _ kc W pm qm km
  have HB1 : Hid (Below w.heap.size w (w.alloc (.cells #[.int .i64 11, .int .i64 m, .string s, .slice p pa.length pc, .slice q ps.length qc, .bool o, .slice k ks.length kc] 38))) := below_alloc (Below.refl _ _) _
  have HN : ∀ W, Below w.heap.size w W → Hid (Calls Tryd.prog 55 #[.slice k ks.length kc, .int .i64 2, .int .i64 32] W (BoolP r2 W)) := fun W hW => by rw [← hr2]; exact rkids_any w0 n ks ih k _ kc W hks (below_step hb0 hW) 2 32
  rw [hr1] at hE
  have HE := Lib.hid hE
  clear hE hr1 hr2 hpa hps hks
  cases r1
  · go_enter Tryd.func40, Tryd.ntmps40
    go_wp2_with (first
      | (go_at_call 52; refine (HM _).out.mono ?_; rintro e w2 ⟨rfl, hB2⟩; obtain ⟨hc, hf⟩ := bcell hB2; have HB2 := Lib.hid hB2; clear hB2))
    go_ret
    exact ⟨ret_bool (by first | (rw [HE.out]; done) | (rw [HE.out]; rfl) | (rw [HE.out]; simp; done) | (rw [HE.out]; simp; omega)), below_step HB1.out HB2.out⟩
  · go_enter Tryd.func40, Tryd.ntmps40
    go_wp2_with (first
      | (go_at_call 52; refine (HM _).out.mono ?_; rintro e w2 ⟨rfl, hB2⟩; obtain ⟨hc, hf⟩ := bcell hB2; have HB2 := Lib.hid hB2; clear hB2)
      | (go_at_call 55; refine (HN _ (below_step HB1.out HB2.out)).out.mono ?_; rintro e w3 ⟨rfl, hB3⟩; have HB3 := Lib.hid hB3; clear hB3))
    go_ret
    exact ⟨ret_bool (by first | (rw [HE.out]; done) | (rw [HE.out]; rfl) | (rw [HE.out]; simp; done) | (rw [HE.out]; simp; omega)), below_step (below_step HB1.out HB2.out) HB3.out⟩
set_option maxRecDepth 100000 in
set_option maxHeartbeats 4000000 in
theorem rright_12 (w0 w : World) (n : Nat) (s : ByteArray) (p : Option Addr) (pl pc : Nat) (q : Option Addr) (ql qc : Nat) (o : Bool) (k : Option Addr) (kl kc : Nat) (m : Int) (pa : List ByteArray) (ps : List (ByteArray × Ex)) (ks : List Ex)
    (ih : ∀ (h : Hd) (y : Ex) (w : World), y ∈ (Ex.mk 12 m s pa ps o ks).parts → InX w0 n h y → Below w0.heap.size w0 w → Calls Tryd.prog 40 #[h.agg] w (BoolP (rightB n y) w)) (hx : InX w0 (n + 1) ⟨12, m, s, p, pl, pc, q, ql, qc, o, k, kl, kc⟩ (.mk 12 m s pa ps o ks)) (hb0 : Below w0.heap.size w0 w) (_hsm : ps.length ≤ 1000000) :
    Calls Tryd.prog 40 #[.agg #[.int .i64 12, .int .i64 m, .string s, .slice p pl pc, .slice q ql qc, .bool o, .slice k kl kc]] w (BoolP (rightB (n + 1) (.mk 12 m s pa ps o ks)) w) := by
  obtain ⟨rfl, rfl, rfl, pm, qm, km, sm⟩ := lay_of hx
  dsimp only at pm qm km sm
  obtain ⟨-, -, -, -, -, hpa, hps, hks⟩ := hx
  dsimp only at hpa hps hks
  obtain ⟨r2, hr2⟩ : ∃ r, (ks.all (rightB n) && (decide ((2 : Int) ≤ ks.length) && decide ((ks.length : Int) ≤ 32))) = r := ⟨_, rfl⟩
  have hE : rightB (n + 1) (.mk 12 m s pa ps o ks) = (rEm 16 m s.size o pa.length ps.length ks.length && r2) := by
    rw [rightB_succ, parts_ks (by decide), ownB_eq, if_neg (by decide), if_pos (by decide), ← hr2]
    generalize ks.all (rightB n) = c
    generalize s.size = z
    generalize pa.length = a1
    generalize ps.length = a2
    generalize ks.length = a3
    rw [Bool.eq_iff_iff]
    cases o <;> cases c <;> simp [rEm, emB] <;> omega
  obtain ⟨r1, hr1⟩ : ∃ r, rEm 16 m s.size o pa.length ps.length ks.length = r := ⟨_, rfl⟩
  have HM : ∀ W, Hid (Calls Tryd.prog 52 #[.agg #[.int .i64 12, .int .i64 m, .string s, .slice p pa.length pc, .slice q ps.length qc, .bool o, .slice k ks.length kc], .int .i64 16] W (BoolQ r1 W)) := fun W => by rw [← hr1]; exact rempty_16 12 m s p _ pc q _ qc o k _ kc W pm qm km
  have HB1 : Hid (Below w.heap.size w (w.alloc (.cells #[.int .i64 12, .int .i64 m, .string s, .slice p pa.length pc, .slice q ps.length qc, .bool o, .slice k ks.length kc] 38))) := below_alloc (Below.refl _ _) _
  have HN : ∀ W, Below w.heap.size w W → Hid (Calls Tryd.prog 55 #[.slice k ks.length kc, .int .i64 2, .int .i64 32] W (BoolP r2 W)) := fun W hW => by rw [← hr2]; exact rkids_any w0 n ks ih k _ kc W hks (below_step hb0 hW) 2 32
  rw [hr1] at hE
  have HE := Lib.hid hE
  clear hE hr1 hr2 hpa hps hks
  cases r1
  · go_enter Tryd.func40, Tryd.ntmps40
    go_wp2_with (first
      | (go_at_call 52; refine (HM _).out.mono ?_; rintro e w2 ⟨rfl, hB2⟩; obtain ⟨hc, hf⟩ := bcell hB2; have HB2 := Lib.hid hB2; clear hB2))
    go_ret
    exact ⟨ret_bool (by first | (rw [HE.out]; done) | (rw [HE.out]; rfl) | (rw [HE.out]; simp; done) | (rw [HE.out]; simp; omega)), below_step HB1.out HB2.out⟩
  · go_enter Tryd.func40, Tryd.ntmps40
    go_wp2_with (first
      | (go_at_call 52; refine (HM _).out.mono ?_; rintro e w2 ⟨rfl, hB2⟩; obtain ⟨hc, hf⟩ := bcell hB2; have HB2 := Lib.hid hB2; clear hB2)
      | (go_at_call 55; refine (HN _ (below_step HB1.out HB2.out)).out.mono ?_; rintro e w3 ⟨rfl, hB3⟩; have HB3 := Lib.hid hB3; clear hB3))
    go_ret
    exact ⟨ret_bool (by first | (rw [HE.out]; done) | (rw [HE.out]; rfl) | (rw [HE.out]; simp; done) | (rw [HE.out]; simp; omega)), below_step (below_step HB1.out HB2.out) HB3.out⟩
set_option maxRecDepth 100000 in
set_option maxHeartbeats 4000000 in
theorem rright_13 (w0 w : World) (n : Nat) (s : ByteArray) (p : Option Addr) (pl pc : Nat) (q : Option Addr) (ql qc : Nat) (o : Bool) (k : Option Addr) (kl kc : Nat) (m : Int) (pa : List ByteArray) (ps : List (ByteArray × Ex)) (ks : List Ex)
    (ih : ∀ (h : Hd) (y : Ex) (w : World), y ∈ (Ex.mk 13 m s pa ps o ks).parts → InX w0 n h y → Below w0.heap.size w0 w → Calls Tryd.prog 40 #[h.agg] w (BoolP (rightB n y) w)) (hx : InX w0 (n + 1) ⟨13, m, s, p, pl, pc, q, ql, qc, o, k, kl, kc⟩ (.mk 13 m s pa ps o ks)) (hb0 : Below w0.heap.size w0 w) (_hsm : ps.length ≤ 1000000) :
    Calls Tryd.prog 40 #[.agg #[.int .i64 13, .int .i64 m, .string s, .slice p pl pc, .slice q ql qc, .bool o, .slice k kl kc]] w (BoolP (rightB (n + 1) (.mk 13 m s pa ps o ks)) w) := by
  obtain ⟨rfl, rfl, rfl, pm, qm, km, sm⟩ := lay_of hx
  dsimp only at pm qm km sm
  obtain ⟨-, -, -, -, -, hpa, hps, hks⟩ := hx
  dsimp only at hpa hps hks
  obtain ⟨r2, hr2⟩ : ∃ r, (ks.all (rightB n) && (decide ((2 : Int) ≤ ks.length) && decide ((ks.length : Int) ≤ 2))) = r := ⟨_, rfl⟩
  have hE : rightB (n + 1) (.mk 13 m s pa ps o ks) = (rEm 16 m s.size o pa.length ps.length ks.length && r2) := by
    rw [rightB_succ, parts_ks (by decide), ownB_eq, if_neg (by decide), if_neg (by decide), if_pos (by decide), ← hr2]
    generalize ks.all (rightB n) = c
    generalize s.size = z
    generalize pa.length = a1
    generalize ps.length = a2
    generalize ks.length = a3
    rw [Bool.eq_iff_iff]
    cases o <;> cases c <;> simp [rEm, emB] <;> omega
  obtain ⟨r1, hr1⟩ : ∃ r, rEm 16 m s.size o pa.length ps.length ks.length = r := ⟨_, rfl⟩
  have HM : ∀ W, Hid (Calls Tryd.prog 52 #[.agg #[.int .i64 13, .int .i64 m, .string s, .slice p pa.length pc, .slice q ps.length qc, .bool o, .slice k ks.length kc], .int .i64 16] W (BoolQ r1 W)) := fun W => by rw [← hr1]; exact rempty_16 13 m s p _ pc q _ qc o k _ kc W pm qm km
  have HB1 : Hid (Below w.heap.size w (w.alloc (.cells #[.int .i64 13, .int .i64 m, .string s, .slice p pa.length pc, .slice q ps.length qc, .bool o, .slice k ks.length kc] 38))) := below_alloc (Below.refl _ _) _
  have HN : ∀ W, Below w.heap.size w W → Hid (Calls Tryd.prog 55 #[.slice k ks.length kc, .int .i64 2, .int .i64 2] W (BoolP r2 W)) := fun W hW => by rw [← hr2]; exact rkids_any w0 n ks ih k _ kc W hks (below_step hb0 hW) 2 2
  rw [hr1] at hE
  have HE := Lib.hid hE
  clear hE hr1 hr2 hpa hps hks
  cases r1
  · go_enter Tryd.func40, Tryd.ntmps40
    go_wp2_with (first
      | (go_at_call 52; refine (HM _).out.mono ?_; rintro e w2 ⟨rfl, hB2⟩; obtain ⟨hc, hf⟩ := bcell hB2; have HB2 := Lib.hid hB2; clear hB2))
    go_ret
    exact ⟨ret_bool (by first | (rw [HE.out]; done) | (rw [HE.out]; rfl) | (rw [HE.out]; simp; done) | (rw [HE.out]; simp; omega)), below_step HB1.out HB2.out⟩
  · go_enter Tryd.func40, Tryd.ntmps40
    go_wp2_with (first
      | (go_at_call 52; refine (HM _).out.mono ?_; rintro e w2 ⟨rfl, hB2⟩; obtain ⟨hc, hf⟩ := bcell hB2; have HB2 := Lib.hid hB2; clear hB2)
      | (go_at_call 55; refine (HN _ (below_step HB1.out HB2.out)).out.mono ?_; rintro e w3 ⟨rfl, hB3⟩; have HB3 := Lib.hid hB3; clear hB3))
    go_ret
    exact ⟨ret_bool (by first | (rw [HE.out]; done) | (rw [HE.out]; rfl) | (rw [HE.out]; simp; done) | (rw [HE.out]; simp; omega)), below_step (below_step HB1.out HB2.out) HB3.out⟩
set_option maxRecDepth 100000 in
set_option maxHeartbeats 4000000 in
theorem rright_14 (w0 w : World) (n : Nat) (s : ByteArray) (p : Option Addr) (pl pc : Nat) (q : Option Addr) (ql qc : Nat) (o : Bool) (k : Option Addr) (kl kc : Nat) (m : Int) (pa : List ByteArray) (ps : List (ByteArray × Ex)) (ks : List Ex)
    (ih : ∀ (h : Hd) (y : Ex) (w : World), y ∈ (Ex.mk 14 m s pa ps o ks).parts → InX w0 n h y → Below w0.heap.size w0 w → Calls Tryd.prog 40 #[h.agg] w (BoolP (rightB n y) w)) (hx : InX w0 (n + 1) ⟨14, m, s, p, pl, pc, q, ql, qc, o, k, kl, kc⟩ (.mk 14 m s pa ps o ks)) (hb0 : Below w0.heap.size w0 w) (_hsm : ps.length ≤ 1000000) :
    Calls Tryd.prog 40 #[.agg #[.int .i64 14, .int .i64 m, .string s, .slice p pl pc, .slice q ql qc, .bool o, .slice k kl kc]] w (BoolP (rightB (n + 1) (.mk 14 m s pa ps o ks)) w) := by
  obtain ⟨rfl, rfl, rfl, pm, qm, km, sm⟩ := lay_of hx
  dsimp only at pm qm km sm
  obtain ⟨-, -, -, -, -, hpa, hps, hks⟩ := hx
  dsimp only at hpa hps hks
  obtain ⟨r2, hr2⟩ : ∃ r, (ks.all (rightB n) && (decide ((2 : Int) ≤ ks.length) && decide ((ks.length : Int) ≤ 2))) = r := ⟨_, rfl⟩
  have hE : rightB (n + 1) (.mk 14 m s pa ps o ks) = (rEm 16 m s.size o pa.length ps.length ks.length && r2) := by
    rw [rightB_succ, parts_ks (by decide), ownB_eq, if_neg (by decide), if_neg (by decide), if_pos (by decide), ← hr2]
    generalize ks.all (rightB n) = c
    generalize s.size = z
    generalize pa.length = a1
    generalize ps.length = a2
    generalize ks.length = a3
    rw [Bool.eq_iff_iff]
    cases o <;> cases c <;> simp [rEm, emB] <;> omega
  obtain ⟨r1, hr1⟩ : ∃ r, rEm 16 m s.size o pa.length ps.length ks.length = r := ⟨_, rfl⟩
  have HM : ∀ W, Hid (Calls Tryd.prog 52 #[.agg #[.int .i64 14, .int .i64 m, .string s, .slice p pa.length pc, .slice q ps.length qc, .bool o, .slice k ks.length kc], .int .i64 16] W (BoolQ r1 W)) := fun W => by rw [← hr1]; exact rempty_16 14 m s p _ pc q _ qc o k _ kc W pm qm km
  have HB1 : Hid (Below w.heap.size w (w.alloc (.cells #[.int .i64 14, .int .i64 m, .string s, .slice p pa.length pc, .slice q ps.length qc, .bool o, .slice k ks.length kc] 38))) := below_alloc (Below.refl _ _) _
  have HN : ∀ W, Below w.heap.size w W → Hid (Calls Tryd.prog 55 #[.slice k ks.length kc, .int .i64 2, .int .i64 2] W (BoolP r2 W)) := fun W hW => by rw [← hr2]; exact rkids_any w0 n ks ih k _ kc W hks (below_step hb0 hW) 2 2
  rw [hr1] at hE
  have HE := Lib.hid hE
  clear hE hr1 hr2 hpa hps hks
  cases r1
  · go_enter Tryd.func40, Tryd.ntmps40
    go_wp2_with (first
      | (go_at_call 52; refine (HM _).out.mono ?_; rintro e w2 ⟨rfl, hB2⟩; obtain ⟨hc, hf⟩ := bcell hB2; have HB2 := Lib.hid hB2; clear hB2))
    go_ret
    exact ⟨ret_bool (by first | (rw [HE.out]; done) | (rw [HE.out]; rfl) | (rw [HE.out]; simp; done) | (rw [HE.out]; simp; omega)), below_step HB1.out HB2.out⟩
  · go_enter Tryd.func40, Tryd.ntmps40
    go_wp2_with (first
      | (go_at_call 52; refine (HM _).out.mono ?_; rintro e w2 ⟨rfl, hB2⟩; obtain ⟨hc, hf⟩ := bcell hB2; have HB2 := Lib.hid hB2; clear hB2)
      | (go_at_call 55; refine (HN _ (below_step HB1.out HB2.out)).out.mono ?_; rintro e w3 ⟨rfl, hB3⟩; have HB3 := Lib.hid hB3; clear hB3))
    go_ret
    exact ⟨ret_bool (by first | (rw [HE.out]; done) | (rw [HE.out]; rfl) | (rw [HE.out]; simp; done) | (rw [HE.out]; simp; omega)), below_step (below_step HB1.out HB2.out) HB3.out⟩
set_option maxRecDepth 100000 in
set_option maxHeartbeats 4000000 in
theorem rright_15 (w0 w : World) (n : Nat) (s : ByteArray) (p : Option Addr) (pl pc : Nat) (q : Option Addr) (ql qc : Nat) (o : Bool) (k : Option Addr) (kl kc : Nat) (m : Int) (pa : List ByteArray) (ps : List (ByteArray × Ex)) (ks : List Ex)
    (ih : ∀ (h : Hd) (y : Ex) (w : World), y ∈ (Ex.mk 15 m s pa ps o ks).parts → InX w0 n h y → Below w0.heap.size w0 w → Calls Tryd.prog 40 #[h.agg] w (BoolP (rightB n y) w)) (hx : InX w0 (n + 1) ⟨15, m, s, p, pl, pc, q, ql, qc, o, k, kl, kc⟩ (.mk 15 m s pa ps o ks)) (hb0 : Below w0.heap.size w0 w) (_hsm : ps.length ≤ 1000000) :
    Calls Tryd.prog 40 #[.agg #[.int .i64 15, .int .i64 m, .string s, .slice p pl pc, .slice q ql qc, .bool o, .slice k kl kc]] w (BoolP (rightB (n + 1) (.mk 15 m s pa ps o ks)) w) := by
  obtain ⟨rfl, rfl, rfl, pm, qm, km, sm⟩ := lay_of hx
  dsimp only at pm qm km sm
  obtain ⟨-, -, -, -, -, hpa, hps, hks⟩ := hx
  dsimp only at hpa hps hks
  obtain ⟨r2, hr2⟩ : ∃ r, (ks.all (rightB n) && (decide ((2 : Int) ≤ ks.length) && decide ((ks.length : Int) ≤ 2))) = r := ⟨_, rfl⟩
  have hE : rightB (n + 1) (.mk 15 m s pa ps o ks) = (rEm 16 m s.size o pa.length ps.length ks.length && r2) := by
    rw [rightB_succ, parts_ks (by decide), ownB_eq, if_neg (by decide), if_neg (by decide), if_pos (by decide), ← hr2]
    generalize ks.all (rightB n) = c
    generalize s.size = z
    generalize pa.length = a1
    generalize ps.length = a2
    generalize ks.length = a3
    rw [Bool.eq_iff_iff]
    cases o <;> cases c <;> simp [rEm, emB] <;> omega
  obtain ⟨r1, hr1⟩ : ∃ r, rEm 16 m s.size o pa.length ps.length ks.length = r := ⟨_, rfl⟩
  have HM : ∀ W, Hid (Calls Tryd.prog 52 #[.agg #[.int .i64 15, .int .i64 m, .string s, .slice p pa.length pc, .slice q ps.length qc, .bool o, .slice k ks.length kc], .int .i64 16] W (BoolQ r1 W)) := fun W => by rw [← hr1]; exact rempty_16 15 m s p _ pc q _ qc o k _ kc W pm qm km
  have HB1 : Hid (Below w.heap.size w (w.alloc (.cells #[.int .i64 15, .int .i64 m, .string s, .slice p pa.length pc, .slice q ps.length qc, .bool o, .slice k ks.length kc] 38))) := below_alloc (Below.refl _ _) _
  have HN : ∀ W, Below w.heap.size w W → Hid (Calls Tryd.prog 55 #[.slice k ks.length kc, .int .i64 2, .int .i64 2] W (BoolP r2 W)) := fun W hW => by rw [← hr2]; exact rkids_any w0 n ks ih k _ kc W hks (below_step hb0 hW) 2 2
  rw [hr1] at hE
  have HE := Lib.hid hE
  clear hE hr1 hr2 hpa hps hks
  cases r1
  · go_enter Tryd.func40, Tryd.ntmps40
    go_wp2_with (first
      | (go_at_call 52; refine (HM _).out.mono ?_; rintro e w2 ⟨rfl, hB2⟩; obtain ⟨hc, hf⟩ := bcell hB2; have HB2 := Lib.hid hB2; clear hB2))
    go_ret
    exact ⟨ret_bool (by first | (rw [HE.out]; done) | (rw [HE.out]; rfl) | (rw [HE.out]; simp; done) | (rw [HE.out]; simp; omega)), below_step HB1.out HB2.out⟩
  · go_enter Tryd.func40, Tryd.ntmps40
    go_wp2_with (first
      | (go_at_call 52; refine (HM _).out.mono ?_; rintro e w2 ⟨rfl, hB2⟩; obtain ⟨hc, hf⟩ := bcell hB2; have HB2 := Lib.hid hB2; clear hB2)
      | (go_at_call 55; refine (HN _ (below_step HB1.out HB2.out)).out.mono ?_; rintro e w3 ⟨rfl, hB3⟩; have HB3 := Lib.hid hB3; clear hB3))
    go_ret
    exact ⟨ret_bool (by first | (rw [HE.out]; done) | (rw [HE.out]; rfl) | (rw [HE.out]; simp; done) | (rw [HE.out]; simp; omega)), below_step (below_step HB1.out HB2.out) HB3.out⟩
set_option maxRecDepth 100000 in
set_option maxHeartbeats 4000000 in
theorem rright_step (w0 : World) (n : Nat) (h : Hd) (x : Ex) (w : World) (ih : ∀ (h : Hd) (y : Ex) (w : World), y ∈ x.parts → InX w0 n h y → Below w0.heap.size w0 w → Calls Tryd.prog 40 #[h.agg] w (BoolP (rightB n y) w)) (hx : InX w0 (n + 1) h x) (hb0 : Below w0.heap.size w0 w) (hsm : x.ps.length ≤ 1000000) : Calls Tryd.prog 40 #[h.agg] w (BoolP (rightB (n + 1) x) w) := by
  obtain ⟨op, m, s, p, pl, pc, q, ql, qc, o, k, kl, kc⟩ := h
  obtain ⟨xop, xm, xs, pa, ps, xo, ks⟩ := x
  have hx' := hx
  obtain ⟨e1, e2, e3, e4, -⟩ := hx'
  dsimp only at e1 e2 e3 e4
  subst e1 e2 e3 e4
  replace hsm : ps.length ≤ 1000000 := hsm
  unfold Hd.agg
  dsimp only
  by_cases h : op = 10 ∨ op = 11 ∨ op = 12 ∨ op = 13 ∨ op = 14 ∨ op = 15 ∨ op = 9 ∨ op = 2 ∨ op = 1 ∨ op = 7 ∨ op = 8 ∨ op = 3 ∨ op = 4 ∨ op = 5 ∨ op = 6
  · rcases h with rfl | rfl | rfl | rfl | rfl | rfl | rfl | rfl | rfl | rfl | rfl | rfl | rfl | rfl | rfl
    · exact rright_10 w0 w n _ p pl pc q ql qc _ k kl kc _ pa ps ks ih hx hb0 hsm
    · exact rright_11 w0 w n _ p pl pc q ql qc _ k kl kc _ pa ps ks ih hx hb0 hsm
    · exact rright_12 w0 w n _ p pl pc q ql qc _ k kl kc _ pa ps ks ih hx hb0 hsm
    · exact rright_13 w0 w n _ p pl pc q ql qc _ k kl kc _ pa ps ks ih hx hb0 hsm
    · exact rright_14 w0 w n _ p pl pc q ql qc _ k kl kc _ pa ps ks ih hx hb0 hsm
    · exact rright_15 w0 w n _ p pl pc q ql qc _ k kl kc _ pa ps ks ih hx hb0 hsm
    · exact rright_9 w0 w n _ p pl pc q ql qc _ k kl kc _ pa ps ks ih hx hb0 hsm
    · exact rright_2 w0 w n _ p pl pc q ql qc _ k kl kc _ pa ps ks ih hx hb0 hsm
    · exact rright_1 w0 w n _ p pl pc q ql qc _ k kl kc _ pa ps ks ih hx hb0 hsm
    · exact rright_7 w0 w n _ p pl pc q ql qc _ k kl kc _ pa ps ks ih hx hb0 hsm
    · exact rright_8 w0 w n _ p pl pc q ql qc _ k kl kc _ pa ps ks ih hx hb0 hsm
    · exact rright_3 w0 w n _ p pl pc q ql qc _ k kl kc _ pa ps ks ih hx hb0 hsm
    · exact rright_4 w0 w n _ p pl pc q ql qc _ k kl kc _ pa ps ks ih hx hb0 hsm
    · exact rright_5 w0 w n _ p pl pc q ql qc _ k kl kc _ pa ps ks ih hx hb0 hsm
    · exact rright_6 w0 w n _ p pl pc q ql qc _ k kl kc _ pa ps ks ih hx hb0 hsm
  · have hO : rightB (n + 1) (.mk op m s pa ps o ks) = false := by
      rw [rightB_succ, ownB_eq, if_neg (by omega), if_neg (by omega), if_neg (by omega), if_neg (by omega), if_neg (by omega), if_neg (by omega)]; rfl
    rw [hO]
    have e10 := eq_no (show ¬ op = 10 by omega)
    have e11 := eq_no (show ¬ op = 11 by omega)
    have e12 := eq_no (show ¬ op = 12 by omega)
    have e13 := eq_no (show ¬ op = 13 by omega)
    have e14 := eq_no (show ¬ op = 14 by omega)
    have e15 := eq_no (show ¬ op = 15 by omega)
    have e9 := eq_no (show ¬ op = 9 by omega)
    have e2 := eq_no (show ¬ op = 2 by omega)
    have e1 := eq_no (show ¬ op = 1 by omega)
    have e7 := eq_no (show ¬ op = 7 by omega)
    have e8 := eq_no (show ¬ op = 8 by omega)
    have e3 := eq_no (show ¬ op = 3 by omega)
    have e4 := eq_no (show ¬ op = 4 by omega)
    have e5 := eq_no (show ¬ op = 5 by omega)
    have e6 := eq_no (show ¬ op = 6 by omega)
    clear h hO hx ih
    go_enter Tryd.func40, Tryd.ntmps40
    go_wp2_with fail
    go_ret
    exact ⟨rfl, (Below.refl _ w).alloc (Nat.le_refl _) _⟩
theorem rright_any (w0 : World) : ∀ (n : Nat) (h : Hd) (x : Ex) (w : World), InX w0 n h x → Below w0.heap.size w0 w → tN n x ≤ 1000000 → Calls Tryd.prog 40 #[h.agg] w (BoolP (rightB n x) w)
  | 0, _, _, _, h, _, _ => h.elim
  | n + 1, h, x, w, hx, hb, hs => rright_step w0 n h x w (fun h y w hy hI hW => rright_any w0 n h y w hI hW (Nat.le_trans (part_le hy) hs)) hx hb (by have := ps_len hx; omega)
set_option maxHeartbeats 1000000 in
/-- The reference's Check. -/
theorem rcheck_any (w0 w : World) (n : Nat) (h : Hd) (x : Ex) (hx : InX w0 n h x) (hb0 : Below w0.heap.size w0 w) (hs : tN n x ≤ 1000000) : Calls Tryd.prog 26 #[h.agg] w (IntP (if rightB n x then (if 16 < depW n x then 22 else 0) else 1) w) := by
  have HR := fun W (hW : Below w.heap.size w W) => Lib.hid (rright_any w0 n h x W hx (below_step hb0 hW) hs)
  have HD := fun W (hW : Below w.heap.size w W) => Lib.hid (rdepth_any w0 n h x W hx (below_step hb0 hW) hs)
  obtain ⟨op, nn, s, p, pl, pc, q, ql, qc, o, k, kl, kc⟩ := h
  clear hx hb0 hs
  obtain ⟨r, hr⟩ : ∃ r, rightB n x = r := ⟨_, rfl⟩
  obtain ⟨d, hd⟩ : ∃ d, depW n x = d := ⟨_, rfl⟩
  rw [hr, hd]
  rw [hr] at HR
  rw [hd] at HD
  clear hr hd
  unfold Hd.agg at HR HD
  unfold Hd.agg
  dsimp only at HR HD
  have HB1 : Hid (Below w.heap.size w (w.alloc (.cells #[.int .i64 op, .int .i64 nn, .string s, .slice p pl pc, .slice q ql qc, .bool o, .slice k kl kc] 38))) := (Below.refl _ w).alloc (Nat.le_refl _) _
  cases r
  · go_enter Tryd.func26, Tryd.ntmps26
    go_wp2_with (go_at_call 40; refine (HR _ HB1.out).out.mono ?_; rintro e w2 ⟨rfl, hB2⟩; have HB2 := Lib.hid hB2; clear hB2)
    go_ret
    exact ⟨rfl, below_step HB1.out HB2.out⟩
  · by_cases h16 : 16 < d
    all_goals
      go_enter Tryd.func26, Tryd.ntmps26
      go_wp2_with (first
        | (go_at_call 40; refine (HR _ HB1.out).out.mono ?_; rintro e w2 ⟨rfl, hB2⟩; obtain ⟨hc, hf⟩ := bcell hB2; have HB2 := Lib.hid hB2; clear hB2)
        | (go_at_call 41; refine (HD _ (below_step HB1.out HB2.out)).out.mono ?_; rintro e w3 ⟨rfl, hB3⟩; have HB3 := Lib.hid hB3; clear hB3))
      go_ret
      exact ⟨ret_int (by simp), below_step (below_step HB1.out HB2.out) HB3.out⟩
end Go.Proofs.YtlpilbghblbpbaaDoor
