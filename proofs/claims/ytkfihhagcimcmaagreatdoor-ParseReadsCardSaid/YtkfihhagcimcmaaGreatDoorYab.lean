/- Na -/
import Derived.Test.YtkfihhagcimcmaaGreatDoorY0
namespace Go.Proofs.YtkfihhagcimcmaaGreatDoor.Nm
def wordsL:List (List UInt8):=[[97,110,121],[98,111,111,108],[99,111,109,112,117,116,101,100],[102,97,108,115,101],[105,110,116],[110,111,110,101],[114,101,115,111,117,114,99,101],[115,116,114,105,110,103],[116,114,117,101]]
def wordAt (r:Nat):ByteArray:=⟨(wordsL.getD r []).toArray⟩
def wordN (L:List UInt8):Int:=if (L==[97,110,121])=true then 1 else if (L==[98,111,111,108])=true then 2 else if (L==[99,111,109,112,117,116,101,100])=true then 3 else if (L==[102,97,108,115,101])=true then 4 else if (L==[105,110,116])=true then 5 else if (L==[110,111,110,101])=true then 6 else if (L==[114,101,115,111,117,114,99,101])=true then 7 else if (L==[115,116,114,105,110,103])=true then 8 else if (L==[116,114,117,101])=true then 9 else 0
structure Env (w:World):Prop where
 words:∀r,r<9→w.cell? ⟨4,r,none⟩=some (.string (wordAt r))
 one:7≤w.heap.size
theorem Env.below {w w':World} (h:Env w) (hb:RowKit.Below w.heap.size w w'):Env w':=by
 obtain ⟨h1,h3⟩:=h
 refine ⟨fun r hr=>?_,Nat.le_trans h3 hb.size⟩
 rw [hb.cell (p:=⟨4,r,none⟩) (by simp;omega)];exact h1 r hr
def letC (c:UInt8):Bool:=decide (97≤c.toNat)&&decide (c.toNat≤122)
def innC (c:UInt8):Bool:=letC c||(decide (48≤c.toNat)&&decide (c.toNat≤57))||decide (c.toNat=95)
def rightL (L:List UInt8):Bool:=decide (1≤L.length)&&decide (L.length≤16)&&(L.head?.map letC).getD false&&L.all innC&&decide (wordN L=0)
theorem size_list (s:ByteArray):s.size=s.toList.length:=by rw [Lib.toList_data];simp
theorem get_list (s:ByteArray) (k:Nat) (h:k<s.size):s[k]=s.toList[k]'(by rw [←size_list];exact h):=by
 have:∀(L:List UInt8) (e:L=s.data.toList) (hk:k<L.length),L[k]=s.data.toList[k]'(by simpa using h):=fun L e hk=>by subst e;rfl
 rw [this _ (Lib.toList_data s) _];rfl
theorem list_ne (s:ByteArray) (h:0<s.size):¬s.toList=[]:=by
 intro q;rw [size_list,q] at h;simp at h
theorem list_isE (s:ByteArray) (h:0<s.size):s.toList.isEmpty=false:=by
 have:=list_ne s h
 cases e:s.toList<;>simp_all
theorem list_nil (s:ByteArray) (h:¬0<s.size):s.toList=[]:=by
 rw [size_list] at h;exact List.eq_nil_of_length_eq_zero (by omega)
theorem head_list (s:ByteArray) (h:0<s.size):s.toList.head?=some s[0]:=by
 rw [get_list,List.head?_eq_getElem?,List.getElem?_eq_getElem]
def letB (r:Int):Bool:=decide (97≤r∧r≤122)
def innB (r:Int):Bool:=decide ((48≤r∧r≤57)∨r=95)
theorem letC_B (c:UInt8):letC c=letB (c.toNat:Int):=by
 unfold letC letB
 rw [Bool.eq_iff_iff];simp;omega
theorem innC_B (c:UInt8):innC c=(letB (c.toNat:Int)||innB (c.toNat:Int)):=by
 unfold innC innB
 rw [letC_B,Bool.or_assoc];congr 1;rw [Bool.eq_iff_iff];simp only [Bool.or_eq_true,Bool.and_eq_true,decide_eq_true_eq];omega
def Good (s:ByteArray) (k:Nat):Prop:=∀j (h:j<s.size),j<k→(j=0→letC s[j]=true)∧innC s[j]=true
theorem Good.first (s:ByteArray):Good s 0:=fun _ _ h=>absurd h (by omega)
theorem Good.succ {s:ByteArray} {k:Nat} (h:Good s k) (hk:k<s.size) (h1:letB (s[k].toNat:Int)=true∨(k≠0∧innB (s[k].toNat:Int)=true)):Good s (k+1):=fun j hj hjk=>by
 by_cases e:j=k
 ·subst e
  rw [innC_B,letC_B]
  rcases h1 with h1|⟨h0,h1⟩
  ·simp [h1]
  ·simp [h0,h1]
 ·exact h j hj (by omega)
theorem right_empty {L:List UInt8} (h:L.length<1∨16<L.length):rightL L=false:=by
 unfold rightL
 rcases h with h|h
 ·rw [show decide (1≤L.length)=false from decide_eq_false (by omega)];rfl
 ·rw [show decide (L.length≤16)=false from decide_eq_false (by omega)];simp
theorem right_bad {s:ByteArray} {k:Nat} (hk:k<s.size) (h1:letB (s[k].toNat:Int)=false) (h2:k=0∨innB (s[k].toNat:Int)=false):rightL s.toList=false:=by
 rcases h2 with rfl|h2
 ·unfold rightL;rw [head_list s hk]
  simp only [Option.map_some,Option.getD_some,letC_B,h1];simp
 ·have a:s.toList.all innC=false:=by
   rw [List.all_eq_false]
   exact ⟨s[k],by rw [get_list];exact List.getElem_mem _,by rw [innC_B,h1,h2];decide⟩
  unfold rightL;rw [a];simp
theorem right_end {s:ByteArray} (h0:0<s.size) (h1:s.size≤16) (hg:Good s s.size):rightL s.toList=(wordN s.toList==0):=by
 have a:s.toList.all innC=true:=by
  rw [List.all_eq_true]
  intro c hc
  obtain ⟨k,hk,rfl⟩:=List.getElem_of_mem hc
  have hk':k<s.size:=by rw [size_list];exact hk
  rw [←get_list s k hk']
  exact (hg k hk' hk').2
 have b:=(hg 0 h0 h0).1 rfl
 unfold rightL
 rw [a,head_list s h0,Option.map_some,Option.getD_some,b,←size_list,show decide (1≤s.size)=true from decide_eq_true (by omega),show decide (s.size≤16)=true from decide_eq_true h1]
 rw [Bool.eq_iff_iff];simp
theorem wordN_nonneg (L:List UInt8):0≤wordN L:=by
 unfold wordN;repeat' split
 all_goals decide
theorem right_word {L:List UInt8} (h:0<wordN L):rightL L=false:=by
 unfold rightL;rw [show decide (wordN L=0)=false from decide_eq_false (by omega)];simp
end Go.Proofs.YtkfihhagcimcmaaGreatDoor.Nm
