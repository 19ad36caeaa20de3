/- WALKS of the law's sample and awake: the page's example. -/
import Derived.Test.YtngikbimlhoigaaDoorTi
namespace Go.Proofs.YtngikbimlhoigaaDoor
open Go.RowKit
def tA : ByteArray := ⟨#[97]⟩
def tB : ByteArray := ⟨#[98]⟩
def tC : ByteArray := ⟨#[99]⟩
def tX : ByteArray := ⟨#[120]⟩
def exC : Ex := .mk 9 0 ⟨#[]⟩ [tC] [] false []
def exS : Ex := .mk 10 0 ⟨#[]⟩ [] [(tX, exC)] false []
def exA : Ex := .mk 9 0 ⟨#[]⟩ [tA, tB] [] false []
def smp : Ex := .mk 11 0 ⟨#[]⟩ [] [] false [exA, exS]
def SmpP (w : World) (e : Ending) (w' : World) : Prop := ∃ h : Hd, e = .returned h.agg ∧ InX w' 3 h smp ∧ Below w.heap.size w w'
theorem str0 (w : World) : Nm.StrRow w none 0 [] := ⟨rfl, by omega, fun i x h => by simp at h, fun h => absurd h (by omega)⟩
theorem ks0 (I : Hd → Ex → Prop) (w : World) : InKs I w none 0 [] := ⟨rfl, by omega, fun i h => absurd h (by simp)⟩
theorem ps0 (I : Hd → Ex → Prop) (w : World) : InPs I w none 0 [] := ⟨rfl, by omega, fun i h => absurd h (by simp)⟩
/-- A reference's header over a row of its own. -/
theorem inx_ref {w : World} {n b l c : Nat} {pa : List ByteArray} (hb : w.heap[b]? = some (.cells (pa.map Value.string).toArray 9)) (hl : pa.length = l) (hz : l ≤ 1000) (hs : ∀ x ∈ pa, x.size ≤ 1000) :
    InX w (n + 1) ⟨9, 0, ⟨#[]⟩, some ⟨b, 0, none⟩, l, c, none, 0, 0, false, none, 0, 0⟩ (.mk 9 0 ⟨#[]⟩ pa [] false []) :=
  ⟨rfl, rfl, rfl, rfl, (by show (0 : Nat) ≤ _; omega), ⟨hl, by show l ≤ _; omega, fun i x h => by have := hs x (List.mem_of_getElem? h); omega, fun _ => ⟨b, 0, rfl, (Array.getElem?_eq_some_iff.1 hb).1, fun i x h => by simp [World.cell?, hb, h]⟩⟩, ps0 _ _, ks0 _ _⟩
theorem heap_at {X : World} {k : Nat} (o : Obj) (h : X.heap.size = k) : (X.alloc o).heap[k]? = some o := by subst h; exact World.alloc_heap_new X o
theorem heap_on {X : World} {k : Nat} {x : Obj} (o : Obj) (h : X.heap[k]? = some x) : (X.alloc o).heap[k]? = some x := (Below.heap_alloc _ _ _ (Array.getElem?_eq_some_iff.1 h).1).trans h
theorem smp_in {W : World} {a b c d : Nat} (h1 : W.heap[a]? = some (.cells #[.string ⟨#[97]⟩, .string ⟨#[98]⟩] 9)) (h2 : W.heap[b]? = some (.cells #[.string ⟨#[99]⟩] 9))
    (h3 : W.heap[c]? = some (.cells #[.string ⟨#[120]⟩, .int .i64 9, .int .i64 0, .string ⟨#[]⟩, .slice (some ⟨b, 0, none⟩) 1 1, .slice none 0 0, .bool false, .slice none 0 0] 51))
    (h4 : W.heap[d]? = some (.cells #[.int .i64 9, .int .i64 0, .string ⟨#[]⟩, .slice (some ⟨a, 0, none⟩) 2 2, .slice none 0 0, .bool false, .slice none 0 0, .int .i64 10, .int .i64 0, .string ⟨#[]⟩, .slice none 0 0, .slice (some ⟨c, 0, none⟩) 1 1, .bool false, .slice none 0 0] 26)) :
    InX W 3 ⟨11, 0, ⟨#[]⟩, none, 0, 0, none, 0, 0, false, some ⟨d, 0, none⟩, 2, 2⟩ smp := by
  have lc := (Array.getElem?_eq_some_iff.1 h3).1
  have ld := (Array.getElem?_eq_some_iff.1 h4).1
  have hC : InX W 1 ⟨9, 0, ⟨#[]⟩, some ⟨b, 0, none⟩, 1, 1, none, 0, 0, false, none, 0, 0⟩ exC := inx_ref (pa := [tC]) h2 rfl (by omega) (fun x hx => by simp at hx; subst hx; decide)
  have hA : InX W 2 ⟨9, 0, ⟨#[]⟩, some ⟨a, 0, none⟩, 2, 2, none, 0, 0, false, none, 0, 0⟩ exA := inx_ref (pa := [tA, tB]) h1 rfl (by omega) (fun x hx => by simp at hx; rcases hx with rfl | rfl <;> decide)
  have hS : InX W 2 ⟨10, 0, ⟨#[]⟩, none, 0, 0, some ⟨c, 0, none⟩, 1, 1, false, none, 0, 0⟩ exS := by
    refine ⟨rfl, rfl, rfl, rfl, (by show (0 : Nat) ≤ _; omega), str0 W, ⟨rfl, by show (1 : Nat) ≤ _; omega, fun i hi => ?_⟩, ks0 _ _⟩
    obtain rfl : i = 0 := by simpa using hi
    exact ⟨c, 0, _, rfl, lc, by show (1 : Nat) ≤ _; omega, by simp [World.cell?, h3]; rfl, ⟨by simp [World.cell?, h3], by simp [World.cell?, h3], by simp [World.cell?, h3], by simp [World.cell?, h3], by simp [World.cell?, h3], by simp [World.cell?, h3], by simp [World.cell?, h3]⟩, hC⟩
  refine ⟨rfl, rfl, rfl, rfl, (by show (0 : Nat) ≤ _; omega), str0 W, ps0 _ _, ⟨rfl, by show (2 : Nat) ≤ _; omega, fun i hi => ?_⟩⟩
  have hi2 : i = 0 ∨ i = 1 := by simp at hi; omega
  rcases hi2 with rfl | rfl
  · exact ⟨d, 0, _, rfl, ld, ⟨by simp [World.cell?, h4], by simp [World.cell?, h4], by simp [World.cell?, h4], by simp [World.cell?, h4], by simp [World.cell?, h4], by simp [World.cell?, h4], by simp [World.cell?, h4]⟩, hA⟩
  · exact ⟨d, 0, _, rfl, ld, ⟨by simp [World.cell?, h4], by simp [World.cell?, h4], by simp [World.cell?, h4], by simp [World.cell?, h4], by simp [World.cell?, h4], by simp [World.cell?, h4], by simp [World.cell?, h4]⟩, hS⟩
set_option maxHeartbeats 2000000 in
theorem sample_any (w : World) : Calls Tryd.prog 26 #[] w (SmpP w) := by
  go_enter Tryd.func26, Tryd.ntmps26
  go_wp2
  refine bodyPost_ret (v := .agg #[.int .i64 11, .int .i64 0, .string ⟨#[]⟩, .slice none 0 0, .slice none 0 0, .bool false, .slice (some ⟨w.heap.size + 1 + 1 + 1 + 1 + 1 + 1, 0, none⟩) 2 2]) (by simp [results, Tryd.f26, go_sem]) rfl ?_
  refine ⟨⟨11, 0, ⟨#[]⟩, none, 0, 0, none, 0, 0, false, some ⟨w.heap.size + 1 + 1 + 1 + 1 + 1 + 1, 0, none⟩, 2, 2⟩, rfl, ?_, ?_⟩
  · exact smp_in (heap_on _ (heap_on _ (heap_on _ (heap_on _ (heap_on _ (heap_at _ (by simp))))))) (heap_on _ (heap_on _ (heap_on _ (heap_at _ (by simp))))) (heap_on _ (heap_at _ (by simp))) (heap_at _ (by simp))
  · exact below_alloc (below_alloc (below_alloc (below_alloc (below_alloc (below_alloc (below_alloc (Below.refl _ _) _) _) _) _) _) _) _
theorem smp_refs : refsL (allN 3 smp) = [tA, tC] := by kernel_rfl
theorem smp_size : szW (allN 3 smp).length = 4 := by kernel_rfl
theorem smp_depth : depW 3 smp = 3 := by kernel_rfl
theorem smp_ris : Nm.risB [tX] = true := (Nm.ris_yes (Nm.Ris.one (x := tX) rfl (by kernel_rfl))).symm
theorem smp_right : rightB 3 smp = true := by
  have h1 : ownB smp = true := by unfold smp; rw [ownB_eq, if_neg (by decide), if_pos (by decide)]; rfl
  have h2 : ownB exA = true := by unfold exA; rw [ownB_eq, if_neg (by decide), if_neg (by decide), if_neg (by decide), if_pos (by decide)]; kernel_rfl
  have h3 : ownB exS = true := by
    unfold exS; rw [ownB_eq, if_pos rfl]
    have : risP [(tX, exC)] = true := by unfold risP; show (decide (1 ≤ 32) && Nm.risB [tX]) = true; rw [smp_ris]; rfl
    rw [this]; rfl
  have h4 : ownB exC = true := by unfold exC; rw [ownB_eq, if_neg (by decide), if_neg (by decide), if_neg (by decide), if_pos (by decide)]; kernel_rfl
  show [smp, exA, exS, exC].all ownB = true
  simp [h1, h2, h3, h4]
set_option maxRecDepth 100000 in
set_option maxHeartbeats 4000000 in
theorem awake_any (w : World) (hE : Nm.Env w) : Calls Tryd.prog 7 #[] w (BoolP true w) := by
  have hS := fun W => Lib.hid (sample_any W)
  have hR : ∀ W h, InX W 3 h smp → Hid (Calls Tryd.prog 20 #[h.agg] W (TxtsP [tA, tC] W)) := fun W h hx => by have := refs_any W 3 h smp hx (by decide); rw [smp_refs] at this; exact this
  have hZ : ∀ W h, InX W 3 h smp → Hid (Calls Tryd.prog 12 #[h.agg] W (IntP 4 W)) := fun W h hx => by have := size_any W 3 h smp hx; rw [smp_size] at this; exact this
  have hD : ∀ W h, InX W 3 h smp → Hid (Calls Tryd.prog 14 #[h.agg] W (IntP 3 W)) := fun W h hx => by have := depth_any W 3 h smp W hx (Below.refl _ _); rw [smp_depth] at this; exact this
  have hC : ∀ W h, InX W 3 h smp → Nm.Env W → Hid (Calls Tryd.prog 10 #[h.agg] W (IntP 0 W)) := fun W h hx hE => by have := check_any W 3 h smp hx hE; rw [smp_right, smp_depth] at this; exact this
  have HE := Lib.hid hE
  have HB0 := Lib.hid (Below.refl w.heap.size w)
  clear hE
  go_enter Tryd.func7, Tryd.ntmps7
  go_wp2_with fail
  go_at_call 26; refine (hS _).out.mono ?_; rintro e w1 ⟨h1, rfl, hx1, hb1⟩
  have HB1 := Lib.hid hb1
  have K1 := hR _ _ hx1
  clear hb1 hx1
  go_wp2_with fail
  go_at_call 20; refine K1.out.mono ?_; rintro e w2 ⟨v, rfl, hrow, hb2⟩
  obtain ⟨a, cap, rfl, hS2⟩ := row_own hrow (by decide) (fun x hx => by simp at hx; rcases hx with rfl | rfl <;> decide)
  obtain ⟨b, off, rfl, lt, hc⟩ := hS2.at_ (by decide)
  have HCC := Lib.hid (show ∀ W, Below w2.heap.size w2 W → W.cell? ⟨b, off + 1, none⟩ = some (.string ⟨#[99]⟩) from fun W hW => (hW.cell (p := ⟨b, off + 1, none⟩) lt).trans (hc 1 tC rfl))
  have HB2 := Lib.hid (below_step HB1.out hb2)
  clear hb2 hrow hS2 hc lt K1 hR
  go_wp2_with fail
  go_at_call 26; refine (hS _).out.mono ?_; rintro e w3 ⟨h3, rfl, hx3, hb3⟩
  have HB3 := Lib.hid hb3
  have K3 := hZ _ _ hx3
  clear hb3 hx3 hZ
  go_wp2_with fail
  go_at_call 12; refine K3.out.mono ?_; rintro e w4 ⟨rfl, hb4⟩
  have HB4 := Lib.hid (below_step HB3.out hb4)
  clear hb4 K3 HB3
  go_wp2_with fail
  go_at_call 26; refine (hS _).out.mono ?_; rintro e w5 ⟨h5, rfl, hx5, hb5⟩
  have HB5 := Lib.hid (below_step HB4.out hb5)
  have K5 := hD _ _ hx5
  clear hb5 hx5 hD HB4
  go_wp2_with fail
  go_at_call 14; refine K5.out.mono ?_; rintro e w6 ⟨rfl, hb6⟩
  have HB6 := Lib.hid (below_step HB5.out hb6)
  clear hb6 K5 HB5
  have hcc := HCC.out w6 HB6.out
  go_wp2_with fail
  go_at_call 26; refine (hS _).out.mono ?_; rintro e w7 ⟨h7, rfl, hx7, hb7⟩
  have HB7 := Lib.hid (below_step HB2.out (below_step HB6.out hb7))
  have K7 := hC _ _ hx7 (HE.out.below HB7.out)
  clear hb7 hx7 hC HB6 hcc HCC
  go_wp2_with fail
  go_at_call 10; refine K7.out.mono ?_; rintro e w8 ⟨rfl, hb8⟩
  have HB8 := Lib.hid (below_step HB7.out hb8)
  clear hb8 K7 HB7
  go_wp2_with fail
  go_ret
  exact ⟨rfl, HB8.out⟩
end Go.Proofs.YtngikbimlhoigaaDoor
