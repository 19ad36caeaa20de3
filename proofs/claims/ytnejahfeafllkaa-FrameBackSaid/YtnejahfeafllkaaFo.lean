/- PLAIN MATHEMATICS of records one behind the other: all are found; of one that is cut short nothing is. -/
import Derived.Test.YtnejahfeafllkaaFk
namespace Go.Proofs.Ytnejahfeafllkaa
/-- Texts' records, one behind the other. -/
def catB (l : List ByteArray) : ByteArray := l.foldl (fun a x => a ++ rec x) ⟨#[]⟩
def catL (l : List ByteArray) : List UInt8 := (l.map fun x => (rec x).data.toList).flatten
theorem catB_snoc (l : List ByteArray) (x : ByteArray) : catB (l ++ [x]) = catB l ++ rec x := by simp [catB]
theorem catL_snoc (l : List ByteArray) (x : ByteArray) : catL (l ++ [x]) = catL l ++ (rec x).data.toList := by simp [catL]
theorem catL_cons (l : List ByteArray) (x : ByteArray) : catL (x :: l) = (rec x).data.toList ++ catL l := by simp [catL]
theorem catL_app (l m : List ByteArray) : catL (l ++ m) = catL l ++ catL m := by simp [catL]
theorem catB_list (l : List ByteArray) : (catB l).data.toList = catL l := by
  have : ∀ (l : List ByteArray) (a : ByteArray), (l.foldl (fun a x => a ++ rec x) a).data.toList = a.data.toList ++ catL l := by
    intro l
    induction l with
    | nil => intro a; simp [catL]
    | cons x l ih => intro a; rw [List.foldl_cons, ih, list_app, catL_cons, List.append_assoc]
  rw [catB, this]; rfl
theorem catB_size (l : List ByteArray) : (catB l).size = (catL l).length := by rw [← catB_list, list_len]
def places : Nat → List ByteArray → List Rc
  | _, [] => []
  | p, x :: l => (p, p + (rec x).size, x) :: places (p + (rec x).size) l
theorem places_txt : ∀ (p : Nat) (l : List ByteArray), (places p l).map (fun x => x.2.2) = l
  | _, [] => rfl
  | p, x :: l => by simp only [places, List.map_cons]; rw [places_txt]
theorem places_len (p : Nat) (l : List ByteArray) : (places p l).length = l.length := by
  have := congrArg List.length (places_txt p l); simpa using this
theorem places_end : ∀ (p : Nat) (l : List ByteArray), ((places p l).getLast?.map fun x => x.2.1) = if l = [] then none else some (p + (catL l).length)
  | _, [] => rfl
  | p, [x] => by
    simp only [places, catL_cons]
    simp [catL]
  | p, x :: y :: l => by
    have h := places_end (p + (rec x).size) (y :: l)
    have e : places p (x :: y :: l) = (p, p + (rec x).size, x) :: places (p + (rec x).size) (y :: l) := rfl
    rw [e, catL_cons (y :: l) x]
    have e2 : places (p + (rec x).size) (y :: l) = (p + (rec x).size, p + (rec x).size + (rec y).size, y) :: places (p + (rec x).size + (rec y).size) l := rfl
    rw [e2] at h ⊢
    rw [List.getLast?_cons_cons, h, if_neg (by simp), if_neg (by simp), List.length_append, list_len]
    congr 1; omega
theorem recsP_cat {t : ByteArray} {B : List UInt8} : ∀ (l : List ByteArray) (A : List UInt8) (p : Nat), t.data.toList = A ++ (catL l ++ B) → p = A.length → (∀ x ∈ l, x.size ≤ 65536) → recsP t p = places p l ++ recsP t (p + (catL l).length)
  | [], _, p, _, _, _ => by simp [places, catL]
  | x :: l, A, p, h, hp, hs => by
    rw [catL_cons, List.append_assoc] at h
    have hx := nx_rec (t := t) (s := x) (p := p) h hp (hs x (by simp))
    rw [recsP_ok (by rw [hx]), hx]
    have := recsP_cat l (A ++ (rec x).data.toList) (p + (rec x).size) (by rw [h, List.append_assoc]) (by rw [List.length_append, list_len, hp]) (fun y hy => hs y (by simp [hy]))
    rw [this, catL_cons, List.length_append, list_len]
    simp only [places, List.cons_append]
    rw [Nat.add_assoc]
theorem nx_end (t : ByteArray) : (nx t t.size).2.2 ≠ 0 := by unfold nx; rw [if_pos rfl]; decide
theorem recsP_all (l : List ByteArray) (hs : ∀ x ∈ l, x.size ≤ 65536) : recsP (catB l) 0 = places 0 l := by
  have h := recsP_cat (t := catB l) (B := []) l [] 0 (by rw [catB_list]; simp) rfl hs
  rw [h, Nat.zero_add, ← catB_size, recsP_no (nx_end _), List.append_nil]
theorem gets_cut {n j : Nat} (hn : n ≤ 65536) (hj : j < (nb n).length) : gets ((nb n).take j) = (3, 0, 0) := by
  have hp := hi_props 9 (n / 128) (by omega)
  have hl : (nb n).length = (hi 9 (n / 128)).length + 1 := by simp [nb]
  have e : (nb n).take j = (hi 9 (n / 128)).take j := by unfold nb; rw [List.take_append_of_le_length (by omega)]
  rw [e]
  refine gets_short (fun c hc => hp.1 c (List.mem_of_mem_take hc)) (by simp; omega) ?_
  cases j with
  | zero => simp
  | succ j => rw [List.head?_take]; simp only [Nat.add_eq_zero_iff, Nat.one_ne_zero, and_false, if_false]; exact hp.2.2.2.1
theorem nx_cut {t s : ByteArray} {A : List UInt8} {p k : Nat} (h : t.data.toList = A ++ (rec s).data.toList.take k) (hp : p = A.length) (hs : s.size ≤ 65536) (hk : k < (rec s).size) : (nx t p).2.2 ≠ 0 := by
  have hz : t.size = A.length + k := by rw [← list_len, h, List.length_append, List.length_take, list_len]; omega
  have hr := rec_size s
  unfold nx
  by_cases h0 : p = t.size
  · rw [if_pos h0]; decide
  · rw [if_neg h0]
    obtain ⟨j, rfl⟩ : ∃ j, k = j + 1 := ⟨k - 1, by omega⟩
    have e1 : (rec s).data.toList.take (j + 1) = 165 :: (nb s.size ++ (s.data.toList ++ (markS (rfr s)).data.toList)).take j := by
      rw [rec_list]; simp
    rw [e1] at h
    have h165 : t.data.toList.getD p 0 = 165 := by
      rw [h, hp, List.getD_eq_getElem?_getD, List.getElem?_append_right (Nat.le_refl _), Nat.sub_self]; rfl
    have hd : t.data.toList.drop (p + 1) = (nb s.size ++ (s.data.toList ++ (markS (rfr s)).data.toList)).take j := by
      rw [h, hp, List.drop_append, List.drop_of_length_le (by omega), show A.length + 1 - A.length = 1 by omega]; rfl
    rw [h165, if_neg (by simp), hd]
    by_cases hj : j < (nb s.size).length
    · rw [List.take_append_of_le_length (by omega), gets_cut hs hj]
      unfold nxB; rw [if_pos (by simp)]; decide
    · rw [List.take_append, List.take_of_length_le (by omega), gets_nb (by omega)]
      unfold nxB
      simp only
      rw [if_neg (by simp), if_neg (by omega), if_pos (by omega)]
      decide
/-- Cut short: all but the last one are found. -/
theorem recsP_cut {t x : ByteArray} {l : List ByteArray} {k : Nat} (h : t.data.toList = catL l ++ (rec x).data.toList.take k) (hs : ∀ y ∈ l, y.size ≤ 65536) (hx : x.size ≤ 65536) (hk : k < (rec x).size) : recsP t 0 = places 0 l := by
  have h1 := recsP_cat (t := t) (B := (rec x).data.toList.take k) l [] 0 (by rw [h]; simp) rfl hs
  rw [h1, Nat.zero_add, recsP_no (nx_cut h rfl hx hk), List.append_nil]
end Go.Proofs.Ytnejahfeafllkaa
