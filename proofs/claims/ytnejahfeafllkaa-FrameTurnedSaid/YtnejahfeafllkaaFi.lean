/- PLAIN MATHEMATICS of records: of what was turned behind the length nothing is found. -/
import Derived.Test.YtnejahfeafllkaaFg
import Derived.Test.YtnejahfeafllkaaG
namespace Go.Proofs.Ytnejahfeafllkaa
open Go.RowKit
theorem leN_inj : ∀ (A B : List UInt8), A.length = B.length → leN A = leN B → A = B
  | [], [], _, _ => rfl
  | [], _ :: _, h, _ => by simp at h
  | _ :: _, [], h, _ => by simp at h
  | a :: A, b :: B, h, e => by
    simp only [leN] at e
    have ha := a.toNat_lt
    have hb := b.toNat_lt
    have h1 : a.toNat = b.toNat := by omega
    have h2 : leN A = leN B := by omega
    rw [UInt8.toNat_inj.1 h1, leN_inj A B (by simpa using h) h2]
theorem leN_take (L : List UInt8) (k : Nat) (hk : k ≤ L.length) : leN (L.take k) = leN L % 2 ^ (8 * k) := by
  have hl : (L.take k).length = k := by simp; omega
  have h := leN_app (L.take k) (L.drop k)
  rw [List.take_append_drop, hl] at h
  have hlt := leN_lt (L.take k)
  rw [hl] at hlt
  rw [h, Nat.mul_comm, ← add_xor hlt, Nat.add_mul_mod_self_left, Nat.mod_eq_of_lt hlt]
theorem turned_take {R L : List UInt8} {f m k : Nat} (h : Turned R L f 32 m) (hk : 8 * k ≤ f) (hl : k ≤ R.length) : L.take k = R.take k := by
  refine leN_inj _ _ (by have := h.len; simp; omega) ?_
  rw [leN_take L k (by rw [h.len]; exact hl), leN_take R k hl, h.num, Nat.xor_mod_two_pow]
  have : m * 2 ^ f % 2 ^ (8 * k) = 0 := by
    rw [show f = (f - 8 * k) + 8 * k by omega, Nat.pow_add, ← Nat.mul_assoc, Nat.mul_mod_left]
  rw [this, Nat.xor_zero]
/-- How long what stands ahead of the text is. -/
def frt (s : ByteArray) : Nat := 1 + (nb s.size).length
theorem frt_bd (s : ByteArray) (hs : s.size ≤ 65536) : 2 ≤ frt s ∧ frt s ≤ 11 := by
  have := nb_len s.size (by omega); unfold frt; omega
theorem nx_turned {s b : ByteArray} {L : List UInt8} {f m : Nat} (hs : s.size ≤ 65536) (hb : b = rec s) (h : Turned b.data.toList L f 32 m) (hm : 0 < m) (hf : 8 * frt s ≤ f) : nx ⟨L.toArray⟩ 0 = (⟨#[]⟩, 0, 7) := by
  subst hb
  have ho := opn_turned (s := rfr s) (b := rec s) rfl h hm
  have hr := rec_size s
  have hlen : L.length = (rec s).size := by rw [h.len, list_len]
  have hsz : (⟨L.toArray⟩ : ByteArray).size = L.length := by simp [ByteArray.size]
  have hfr : (rfr s).size = frt s + s.size := by rw [← list_len, rfr_list]; unfold frt; simp; omega
  have hrr : (rec s).size = frt s + s.size + 4 := by rw [hr]; unfold frt; omega
  have htk := turned_take h hf (by rw [list_len, hr]; unfold frt; omega)
  have hR : (rec s).data.toList.take (frt s) = 165 :: nb s.size := by
    rw [rec_list, List.cons_append, List.append_assoc]
    unfold frt
    rw [Nat.add_comm, List.take_succ_cons, List.take_left]
  rw [hR] at htk
  have hL : L = (165 :: nb s.size) ++ L.drop (frt s) := by rw [← htk, List.take_append_drop]
  have hd : (⟨L.toArray⟩ : ByteArray).data.toList.drop (0 + 1) = nb s.size ++ L.drop (frt s) := by
    show L.drop 1 = _
    conv => lhs; rw [hL]
    rfl
  have h0 : (⟨L.toArray⟩ : ByteArray).data.toList.getD 0 0 = 165 := by
    show L.getD 0 0 = 165
    rw [hL]; rfl
  unfold nx
  rw [if_neg (by omega), h0, if_neg (by simp), hd, gets_nb (by omega)]
  unfold nxB
  simp only
  rw [if_neg (by simp), if_neg (by omega), if_neg (by unfold frt at hrr; omega), if_pos]
  intro e
  unfold opn frontS tailS at ho
  rw [hsz, hlen, hrr, if_neg (by omega), Nat.add_sub_cancel] at ho
  rw [show 0 + 1 + (nb s.size).length + s.size = frt s + s.size by unfold frt; omega] at e
  rw [if_pos e] at ho
  have h7 : (0 : Int) = 7 := congrArg Prod.snd ho
  exact absurd h7 (by decide)
end Go.Proofs.Ytnejahfeafllkaa
