/- PLAIN MATHEMATICS of records: what is put is found, whatever stands ahead and behind; the page's example. -/
import Derived.Test.YtnejahfeafllkaaFa
namespace Go.Proofs.Ytnejahfeafllkaa
open Go.RowKit
theorem ba_list {a b : ByteArray} (h : a.data.toList = b.data.toList) : a = b := by
  apply ByteArray.ext; exact Array.toList_inj.1 h
theorem list_app (a b : ByteArray) : (a ++ b).data.toList = a.data.toList ++ b.data.toList := by simp
theorem list_len (a : ByteArray) : a.data.toList.length = a.size := by simp
/-- A part of a list of parts. -/
theorem mid {t : ByteArray} {A X B : List UInt8} (h : t.data.toList = A ++ (X ++ B)) {x : ByteArray} (hx : x.data.toList = X) {p q : Nat} (hp : p = A.length) (hq : q = p + X.length) : t.extract p q = x := by
  apply ba_list
  rw [Lib.extract_data, h, hx, hq, hp, List.drop_left, Nat.add_sub_cancel_left, List.take_left]
theorem txt_len (s : ByteArray) : (txt s).length = (nb s.size).length + s.size := by unfold txt; rw [List.length_append, list_len]
theorem rfr_list (s : ByteArray) : (rfr s).data.toList = 165 :: (nb s.size ++ s.data.toList) := by
  unfold rfr; rw [list_app, txtS_is]; rfl
theorem rec_list (s : ByteArray) : (rec s).data.toList = 165 :: (nb s.size ++ s.data.toList) ++ (markS (rfr s)).data.toList := by
  unfold rec; rw [list_app, rfr_list]
theorem rec_size (s : ByteArray) : (rec s).size = 1 + (nb s.size).length + s.size + 4 := by
  rw [← list_len, rec_list]
  have := markS_size (rfr s)
  simp only [List.length_append, List.length_cons, list_len, this]; omega
/-- WHAT IS PUT IS FOUND. -/
theorem nx_rec {t s : ByteArray} {A B : List UInt8} {p : Nat} (h : t.data.toList = A ++ ((rec s).data.toList ++ B)) (hp : p = A.length) (hs : s.size ≤ 65536) : nx t p = (s, p + (rec s).size, 0) := by
  have hz : t.size = A.length + (rec s).size + B.length := by rw [← list_len, h, List.length_append, List.length_append, list_len]; omega
  have hr := rec_size s
  have hm : (markS (rfr s)).data.toList.length = 4 := by rw [list_len]; exact markS_size _
  have hd : t.data.toList.drop (p + 1) = nb s.size ++ (s.data.toList ++ ((markS (rfr s)).data.toList ++ B)) := by
    rw [h, hp, List.drop_append, List.drop_of_length_le (by omega), show A.length + 1 - A.length = 1 by omega, rec_list]; simp
  have h0 : t.data.toList.getD p 0 = 165 := by
    rw [h, hp, List.getD_eq_getElem?_getD, List.getElem?_append_right (Nat.le_refl _), Nat.sub_self, rec_list]; rfl
  unfold nx
  rw [if_neg (by omega), h0, if_neg (by simp), hd, gets_nb (by omega)]
  unfold nxB
  simp only
  rw [if_neg (by simp), if_neg (by omega), if_neg (by omega)]
  have e1 : t.extract p (p + 1 + (nb s.size).length + s.size) = rfr s :=
    mid (A := A) (X := (rfr s).data.toList) (B := (markS (rfr s)).data.toList ++ B) (by rw [h, rec_list, rfr_list]; simp) rfl hp (by rw [rfr_list]; simp; omega)
  have e2 : t.extract (p + 1 + (nb s.size).length + s.size) (p + 1 + (nb s.size).length + s.size + 4) = markS (rfr s) :=
    mid (A := A ++ (rfr s).data.toList) (X := (markS (rfr s)).data.toList) (B := B) (by rw [h, rec_list, rfr_list]; simp) rfl (by rw [rfr_list]; simp; omega) (by rw [hm])
  have e3 : t.extract (p + 1 + (nb s.size).length) (p + 1 + (nb s.size).length + s.size) = s :=
    mid (A := A ++ (165 :: nb s.size)) (X := s.data.toList) (B := (markS (rfr s)).data.toList ++ B) (by rw [h, rec_list]; simp) rfl (by simp; omega) (by simp)
  rw [e1, e2, e3, if_neg (by simp), hr]
  congr 2
  omega
theorem nx_own (s : ByteArray) (hs : s.size ≤ 65536) : nx (rec s) 0 = (s, (rec s).size, 0) := by
  have := nx_rec (t := rec s) (s := s) (A := []) (B := []) (p := 0) (by simp) rfl hs
  simpa using this
theorem nb_zero : nb 0 = [0] := by decide
theorem rec_empty : ∃ a b c d : UInt8, rec ⟨#[]⟩ = ⟨#[165, 0, a, b, c, d]⟩ := by
  refine ⟨UInt8.ofNat (sm (rfr ⟨#[]⟩).data.toList), UInt8.ofNat (sm (rfr ⟨#[]⟩).data.toList / 256), UInt8.ofNat (sm (rfr ⟨#[]⟩).data.toList / 65536), UInt8.ofNat (sm (rfr ⟨#[]⟩).data.toList / 16777216), ba_list ?_⟩
  rw [rec_list, show (⟨#[]⟩ : ByteArray).size = 0 from rfl, nb_zero]
  rfl
end Go.Proofs.Ytnejahfeafllkaa
