/- LUa -/
import Derived.Test.YtkfihhagcimcmaaGreatDoorY0
namespace Go.Proofs.YtkfihhagcimcmaaGreatDoor.Nu
def dgc (c:UInt8):Bool:=decide (48≤c.toNat)&&decide (c.toNat≤57)
def natL (D:List UInt8):Bool:=!D.isEmpty&&!(D.head?==some 48&&decide (1<D.length))&&D.all dgc
def vr:List UInt8→Int
 |[]=>0
 |c::T=>((c.toNat:Int)-48)*10^T.length+vr T
def negS (s:ByteArray):Bool:=s.data.toList.head?==some 45
def trimS (s:ByteArray):ByteArray:=if negS s then s.extract 1 s.size else s
def upTo (s:ByteArray) (k:Nat):Prop:=∀j (h:j<s.size),j<k→dgc s[j]=true
theorem size_list (s:ByteArray):s.size=s.data.toList.length:=by simp
theorem get_list (s:ByteArray) (k:Nat) (h:k<s.size):s[k]=s.data.toList[k]'(by simpa using h):=rfl
theorem list_ne (s:ByteArray) (h:0<s.size):¬s.toList=[]:=by
 intro q;rw [Lib.toList_data] at q;rw [size_list,q] at h;simp at h
theorem list_isE (s:ByteArray) (h:0<s.size):s.toList.isEmpty=false:=by
 have:=list_ne s h
 cases e:s.toList<;>simp_all
theorem list_nil (s:ByteArray) (h:¬0<s.size):s.toList=[]:=by
 rw [Lib.toList_data];rw [size_list] at h;exact List.eq_nil_of_length_eq_zero (by omega)
theorem upTo_zero (s:ByteArray):upTo s 0:=fun _ _ h=>absurd h (by omega)
theorem upTo_succ {s:ByteArray} {k:Nat} (h:upTo s k) (hk:k<s.size) (h1:48≤(s[k].toNat:Int)) (h2:(s[k].toNat:Int)≤57):upTo s (k+1):=by
 intro j hj hjk
 by_cases e:j=k
 ·subst e;simp [dgc];omega
 ·exact h j hj (by omega)
theorem head_list (s:ByteArray) (h:0<s.size):s.data.toList.head?=some s[0]:=by
 rw [get_list,List.head?_eq_getElem?,List.getElem?_eq_getElem]
theorem nat_end {s:ByteArray} (h0:0<s.size) (h1:¬(s[0].toNat:Int)=48∨s.size≤1) (hu:upTo s s.size):natL s.data.toList=true:=by
 have e:s.data.toList.isEmpty=false:=by rw [←Lib.toList_data];exact list_isE s h0
 have a:s.data.toList.all dgc=true:=by
  rw [List.all_eq_true]
  intro c hc
  obtain ⟨k,hk,rfl⟩:=List.getElem_of_mem hc
  exact hu k (by simpa using hk) (by simpa using hk)
 unfold natL
 rw [e,a,head_list s h0]
 rcases h1 with h1|h1
 ·have:(some s[0]==some 48)=false:=by
   simp;intro q;rw [q] at h1;exact h1 rfl
  simp [this]
 ·have:decide (1<s.data.toList.length)=false:=by rw [←size_list];simp;omega
  rw [this];simp
theorem nat_bad {s:ByteArray} {k:Nat} (hk:k<s.size) (h:(s[k].toNat:Int)<48∨57<(s[k].toNat:Int)):natL s.data.toList=false:=by
 have a:s.data.toList.all dgc=false:=by
  rw [List.all_eq_false]
  exact ⟨s[k],by rw [get_list];exact List.getElem_mem _,by simp [dgc];omega⟩
 simp [natL,a]
theorem nat_lead {s:ByteArray} (h0:0<s.size) (h:(s[0].toNat:Int)=48) (h1:1<s.size):natL s.data.toList=false:=by
 have e:s[0]=48:=by apply UInt8.toNat.inj;simp;omega
 have:decide (1<s.data.toList.length)=true:=by rw [←size_list];simp;omega
 unfold natL;rw [head_list s h0,e,this];simp
theorem nat_empty {s:ByteArray} (h:¬0<s.size):natL s.data.toList=false:=by
 have:=list_nil s h
 rw [Lib.toList_data] at this
 simp [natL,this]
theorem vr_snoc (T:List UInt8) (c:UInt8):vr (T++[c])=10*vr T+(c.toNat:Int)-48:=by
 induction T with
 |nil=>simp [vr]
 |cons d T ih=>
  simp only [List.cons_append,vr,ih,List.length_append,List.length_cons,List.length_nil,Nat.zero_add,Int.pow_succ]
  have:((d.toNat:Int)-48)*(10^T.length*10)=10*(((d.toNat:Int)-48)*10^T.length):=by
   rw [←Int.mul_assoc,Int.mul_comm _ 10]
  omega
theorem vr_take (D:List UInt8) (k:Nat) (h:k<D.length):vr (D.take (k+1))=10*vr (D.take k)+(D[k].toNat:Int)-48:=by
 rw [List.take_succ_eq_append_getElem h,vr_snoc]
theorem vr_drop (D:List UInt8) (k:Nat) (h:k<D.length):vr (D.drop (D.length-(k+1)))=vr (D.drop (D.length-k))+((D[D.length-1-k]'(by omega)).toNat-48:Int)*10^k:=by
 have e:D.length-(k+1)=D.length-1-k:=by omega
 rw [e,List.drop_eq_getElem_cons (by omega:D.length-1-k<D.length)]
 have e2:D.length-1-k+1=D.length-k:=by omega
 simp only [vr,e2,List.length_drop]
 rw [show D.length-(D.length-k)=k by omega,Int.add_comm]
theorem natL_all {D:List UInt8} (h:natL D=true):D.all dgc=true:=by simp [natL] at h⊢;exact h.2
theorem neg_size {s:ByteArray} (h:negS s=true):0<s.size:=by
 unfold negS at h;rw [size_list];cases e:s.data.toList<;>simp [e] at h⊢
theorem neg_test (s:ByteArray) (h:0<s.size):((s.extract 0 1).toList==[45])=negS s:=by
 rw [Lib.extract_toList]
 unfold negS
 rw [size_list] at h
 cases e:s.data.toList with
 |nil=>simp [e] at h
 |cons c T=>simp
theorem neg_get (s:ByteArray) (h:0<s.size):negS s=decide ((s[0].toNat:Int)=45):=by
 unfold negS
 rw [head_list s h,Bool.eq_iff_iff]
 simp
 constructor
 ·intro q;rw [q];rfl
 ·intro q;apply UInt8.toNat.inj;simp;omega
theorem trim_neg {s:ByteArray} (h:negS s=true):trimS s=s.extract 1 s.size:=by simp [trimS,h]
theorem trim_pos {s:ByteArray} (h:negS s=false):trimS s=s:=by simp [trimS,h]
theorem trim_size_neg {s:ByteArray} (h:negS s=true):(trimS s).size=s.size-1:=by rw [trim_neg h];simp
theorem trim_get_neg {s:ByteArray} (h:negS s=true) (k:Nat) (hk:k<(trimS s).size) (hk':k+1<s.size):(trimS s)[k]=s[k+1]:=by
 have e:(trimS s).data.toList=s.data.toList.drop 1:=by
  rw [trim_neg h,←Lib.toList_data,Lib.extract_toList]
  rw [List.take_of_length_le (by simp)]
 rw [get_list,get_list]
 simp [e]
def formOk (neg:Bool) (D:List UInt8):Bool:=natL D&&!(neg&&D==[48])
theorem form_nat {neg:Bool} {D:List UInt8} (h:natL D=false):formOk neg D=false:=by simp [formOk,h]
theorem form_zero {s:ByteArray} (h:(s.toList==[48])=true):formOk true s.data.toList=false:=by
 rw [Lib.toList_data] at h;simp only [formOk,h];simp
theorem form_neg {s:ByteArray} (h:(s.toList==[48])=false) (hn:natL s.data.toList=true):formOk true s.data.toList=true:=by
 rw [Lib.toList_data] at h;simp only [formOk,h,hn];rfl
theorem form_pos {D:List UInt8} (hn:natL D=true):formOk false D=true:=by simp [formOk,hn]
theorem all_get {s:ByteArray} (h:natL s.data.toList=true) (k:Nat) (hk:k<s.size):48≤(s[k].toNat:Int)∧(s[k].toNat:Int)≤57:=by
 have a:=List.all_eq_true.1 (natL_all h) s[k] (by rw [get_list];exact List.getElem_mem _)
 simp only [dgc,Bool.and_eq_true,decide_eq_true_eq] at a
 omega
structure FromEnd (s:ByteArray) (k:Nat) (n p:Int):Prop where
 val:n=vr (s.data.toList.drop (s.size-k))
 pow:p=10^k
 lo:0≤n
 hi:n<p
theorem FromEnd.first (s:ByteArray):FromEnd s 0 0 1:=⟨by rw [List.drop_of_length_le (by simp)];rfl,rfl,by omega,by omega⟩
theorem pow_le_15 (k:Nat) (h:k<16):(10:Int)^k≤1000000000000000∧(1:Int)≤10^k:=by
 have h1:(10:Nat)^k≤10^15:=Nat.pow_le_pow_right (by decide) (by omega)
 have h2:0<(10:Nat)^k:=Nat.pow_pos (by decide)
 have h3:((10:Int)^k)=((10^k:Nat):Int):=by simp
 rw [h3]
 omega
theorem FromEnd.bound {s:ByteArray} {k:Nat} {n p:Int} (h:FromEnd s k n p) (hk:k<16):0≤n∧n<p∧1≤p∧p≤1000000000000000:=by
 have:=pow_le_15 k hk
 have:=h.pow;have:=h.lo;have:=h.hi
 omega
theorem digit_mul (c p:Int) (h:48≤c) (h':c≤57) (hp:0≤p):0≤(c-48)*p∧(c-48)*p≤9*p:=
 ⟨Int.mul_nonneg (by omega) hp,Int.mul_le_mul_of_nonneg_right (by omega) hp⟩
theorem FromEnd.step {s:ByteArray} {k i:Nat} {n p:Int} (h:FromEnd s k n p) (hk:k<s.size) (hi:i<s.size) (hik:i=s.size-1-k) (h1:48≤(s[i].toNat:Int)) (h2:(s[i].toNat:Int)≤57):FromEnd s (k+1) (n+((s[i].toNat:Int)-48)*p) (p*10):=by
 subst hik
 have hd:=vr_drop s.data.toList k (by simpa using hk)
 have hm:=digit_mul (s[s.size-1-k].toNat:Int) p h1 h2 (by have:=h.lo;have:=h.hi;omega)
 obtain ⟨v,q,lo,hh⟩:=h
 refine ⟨?_,by rw [Int.pow_succ,q],by omega,by omega⟩
 subst v;subst q;exact hd.symm
theorem FromEnd.last {s:ByteArray} {n p:Int} (h:FromEnd s s.size n p):n=vr s.data.toList:=by
 have:=h.val;simpa using this
end Go.Proofs.YtkfihhagcimcmaaGreatDoor.Nu
