/- The law VintPuts at every input. -/
import Derived.Test.YtmfikjpmieoikaaM
import Derived.OpenShut
namespace Go.Proofs.Ytmfikjpmieoikaa
open Go.RowKit
theorem i64w_lo (n : Nat) : -9223372036854775808 ≤ IntKind.i64.wrap (n : Int) := by rw [IntKind.wrap_i64]; omega
theorem i64w_hi (n : Nat) : IntKind.i64.wrap (n : Int) ≤ 9223372036854775807 := by rw [IntKind.wrap_i64]; omega
theorem PutsS.m {N : List UInt8} {w w' : World} {e : Ending} (h : PutsS N w e w') : PutsM N N.length w e w' := by
  obtain ⟨a, c, h1, h2, _, h3⟩ := h
  exact ⟨a, c, h1, h2, h3⟩
theorem app_ba (A B : List UInt8) : (⟨A.toArray⟩ ++ ⟨B.toArray⟩ : ByteArray) = ⟨(A ++ B).toArray⟩ := ByteArray.mk_append_mk A B
theorem puts_short (a : Option Addr) (q cap n : Nat) (L : List UInt8) (s : ByteArray) (w : World) (hL : L.length = q) (hR : SRow w a L) (hnil : a = none → cap = 0) (hq : q ≤ 300) (hs : s.size ≤ 300) (hn : n < 18446744073709551616) :
    Calls Try.prog 3 #[.slice a q cap, .int .u64 n, .string s] w fun e w' => e = .returned (.bool true) ∧ Below w.heap.size w w' := by
  have hk := sgn_lt (i64w_lo n) (i64w_hi n)
  refine puts_core a q cap n (sgn (IntKind.i64.wrap (n : Int))) _ _ _ L (L ++ nb n) (L ++ nb (sgn (IntKind.i64.wrap (n : Int)))) (L ++ txt s) ⟨L.toArray⟩ _ _ _ (numS n) (numS (sgn (IntKind.i64.wrap (n : Int)))) (txtS s) s w
    hL hR hnil hq hs (fun W a c h => by rw [← hL]; exact conv_row c h) (fun W a c h => conv_row c h) (fun W a c h => conv_row c h) (fun W a c h => conv_row c h)
    (fun W g cp h => (put_any _ cp q n L W hL h (fun e => by cases e) (by omega) hn).mono fun _ _ x => x.m)
    (fun W g cp h => (putint_any _ cp q _ L W hL h (fun e => by cases e) (by omega) (i64w_lo n) (i64w_hi n)).mono fun _ _ x => x.m)
    (fun W g cp h => (puttext_any _ cp q s L W hL h (fun e => by cases e) (by omega) (by omega)).mono fun _ _ x => x.m)
    (fun W => num_any n W hn) (fun W => sign_any _ W (i64w_lo n) (i64w_hi n)) (fun W => num_any _ W hk) (fun W => rtext_any s W (by omega))
    (app_ba _ _) (app_ba _ _) (by rw [txtS_is]; exact app_ba _ _) ?_ (numS_size n hn) (numS_size _ hk) ?_
  · show L.toArray.size ≤ 300
    simp; omega
  · have := numS_size s.size (by omega)
    unfold txtS
    rw [ByteArray.size_append]; omega
set_option maxHeartbeats 1000000 in
theorem puts_long (a : Option Addr) (q cap n : Nat) (s : ByteArray) (w : World) (hq : q ≤ maxLen) (hs : s.size ≤ maxLen) (h : 300 < q ∨ 300 < s.size) :
    Calls Try.prog 3 #[.slice a q cap, .int .u64 n, .string s] w fun e w' => e = .returned (.bool true) ∧ Below w.heap.size w w' := by
  unfold maxLen at hq hs
  by_cases h1 : 300 < q
  all_goals by_cases h2 : 300 < s.size
  all_goals first
    | (exfalso; omega)
    | (go_enter Try.func3, Try.ntmps3
       go_wp2_with (go_at_call 9; refine (vawake_any _).mono ?_; rintro e w' ⟨rfl, hB⟩)
       go_ret
       exact ⟨rfl, hB⟩)
theorem puts_walk (a : Option Addr) (len cap : Nat) (zs : List Int) (n : Int) (s : ByteArray) (w : World)
    (h : (a = none ∧ len = 0 ∧ cap = 0 ∧ zs = []) ∨ ∃ x, a = some x ∧ len ≤ cap ∧ cap ≤ maxLen ∧ zs.length = cap ∧ (∀ i, i < zs.length → w.cell? (x.add i) = some (.int .u8 (zs.getD i 0))) ∧ ∀ n ∈ zs, (Lit.int .u8 n).wf = true)
    (hn : (Lit.int .u64 n).wf = true) (hs : s.size ≤ maxLen) :
    Calls Try.prog 3 #[.slice a len cap, .int .u64 n, .string s] w fun e w' => e = .returned (.bool true) ∧ Below w.heap.size w w' := by
  obtain ⟨b1, b2⟩ := bounds_u64 hn
  obtain ⟨N, rfl⟩ := Int.eq_ofNat_of_zero_le b1
  have hq : len ≤ maxLen := by
    rcases h with ⟨_, h, _⟩ | ⟨x, _, h1, h2, _⟩
    · rw [h]; decide
    · omega
  by_cases hl : 300 < len ∨ 300 < s.size
  · exact puts_long a len cap N s w hq hs hl
  · rcases h with ⟨rfl, rfl, rfl, rfl⟩ | ⟨x, rfl, h1, h2, h3, h4, h5⟩
    · exact puts_short none 0 0 N [] s w rfl (.inl ⟨rfl, rfl⟩) (fun _ => rfl) (by omega) (by omega) (by omega)
    · have hlen : ((zs.take len).map fun z => UInt8.ofNat z.toNat).length = len := by simp; omega
      refine puts_short (some x) len cap N ((zs.take len).map fun z => UInt8.ofNat z.toNat) s w hlen (.inr ⟨x, rfl, fun e => ?_, fun j hj => ?_⟩) (fun e => by cases e) (by omega) (by omega) (by omega)
      · have hpos : 0 < zs.length := by
          cases zs with
          | nil => simp at e
          | cons z T => simp
        have := h4 0 hpos
        rw [show x.add 0 = x by unfold Addr.add; simp] at this
        exact World.block_lt_of_cell? w x this
      · rw [hlen] at hj
        rw [h4 j (by omega)]
        have hz := bounds_u8 (h5 zs[j] (List.getElem_mem _))
        simp only [List.getElem_map, List.getElem_take]
        rw [UInt8.toNat_ofNat']
        have : zs.getD j 0 = zs[j] := by simp [List.getD, List.getElem?_eq_getElem (show j < zs.length by omega)]
        rw [this]
        congr 2
        omega
end Go.Proofs.Ytmfikjpmieoikaa
