/- LMb -/
import Derived.Test.YtkfihhagcimcmaaGreatDoorChecked
import Derived.Test.YtkfihhagcimcmaaGreatDoorY0
import Derived.Test.YtkfihhagcimcmaaGreatDoorYap
namespace Go.Proofs.YtkfihhagcimcmaaGreatDoor.Lx
theorem txF_le:∀(n:Nat) (l acc:List UInt8) (k:Nat) (t:List UInt8) (k':Nat),txF n l acc k=some (t,k')→k'+1≤k+l.length
 |0,_,_,_,_,_,h=>by simp [txF] at h
 |n+1,[],acc,k,t,k',h=>by rw [txF_nil] at h;simp at h
 |n+1,c::l,acc,k,t,k',h=>by
  by_cases hq:(c.toNat:Int)=34
  ·rw [txF_quote (Nat.succ_pos _) hq] at h
   simp at h;simp;omega
  ·by_cases hp:(partL (c::l)).2=0
   ·rw [txF_bad hq hp] at h;simp at h
   ·rw [txF_step hq hp] at h
    have:=txF_le n _ _ _ _ _ h
    have h2:=(partL_ok (c::l)).1
    rw [List.length_drop] at this
    omega
theorem signL_mem {l:List UInt8}:signL l=[]∨(signL l≠[]∧(signL l).length≤l.length):=by
 unfold signL
 cases h:signsL.find? fun w=>w.isPrefixOf l with
 |none=>exact .inl rfl
 |some w=>
  have h1:=List.find?_some h
  have h2:=List.mem_of_find?_eq_some h
  right
  refine ⟨?_,?_⟩
  ·intro e
   have e:w=[]:=e
   subst e
   revert h2;decide
  ·obtain ⟨t,rfl⟩:=List.isPrefixOf_iff_prefix.1 h1
   simp
theorem readE_nil:Nu.readE false []=2:=rfl
theorem firstL_cons (c:UInt8) (l:List UInt8):firstL (c::l)=if dgB c=true then numberL (c::l) else if lwB c=true then wordL (c::l) else if (c.toNat:Int)=34 then textL (c::l) else signR (c::l):=rfl
theorem numberL_le (l:List UInt8):(numberL l).2.2≤l.length∧((numberL l).1=0→1≤(numberL l).2.2):=by
 refine ⟨rowN_le dgB l,fun h=>?_⟩
 show 1≤rowN dgB l
 by_cases h0:rowN dgB l=0
 ·exfalso
  have h1:(if Nu.readE false (l.take (rowN dgB l))=2 then 20 else Nu.readE false (l.take (rowN dgB l)))=(0:Int):=h
  rw [h0,List.take_zero,readE_nil,if_pos rfl] at h1
  exact absurd h1 (by decide)
 ·omega
theorem wordL_le (l:List UInt8):(wordL l).2.2≤l.length∧((wordL l).1=0→1≤(wordL l).2.2):=by
 unfold wordL
 dsimp only
 split
 ·refine ⟨rowN_le nmB l,fun hh=>?_⟩
  by_cases h0:rowN nmB l=0
  ·exfalso
   rename_i h
   rw [h0,List.take_zero] at h
   revert h;decide
  ·show 1≤rowN nmB l;omega
 ·exact ⟨Nat.zero_le _,fun h=>absurd h (by show ¬(20:Int)=0;decide)⟩
theorem textL_le {l:List UInt8} (hl:l≠[]):(textL l).2.2≤l.length∧((textL l).1=0→1≤(textL l).2.2):=by
 unfold textL
 cases h:txF (l.length+1) (l.drop 1) [] 1 with
 |none=>exact ⟨Nat.zero_le _,fun h=>absurd h (by show ¬(20:Int)=0;decide)⟩
 |some r=>
  obtain ⟨t,k⟩:=r
  have h2:=txF_le _ _ _ _ _ _ h
  have h3:0<l.length:=List.length_pos_iff.2 hl
  rw [List.length_drop] at h2
  dsimp only
  split
  ·exact ⟨Nat.zero_le _,fun h=>absurd h (by show ¬(4:Int)=0;decide)⟩
  ·exact ⟨by show k+1≤l.length;omega,fun _=>by show 1≤k+1;omega⟩
theorem signR_le (l:List UInt8):(signR l).2.2≤l.length∧((signR l).1=0→1≤(signR l).2.2):=by
 unfold signR
 rcases signL_mem (l:=l) with h|⟨h,h2⟩
 ·rw [if_pos h];exact ⟨Nat.zero_le _,fun h=>absurd h (by show ¬(20:Int)=0;decide)⟩
 ·rw [if_neg h];exact ⟨h2,fun _=>List.length_pos_iff.2 h⟩
theorem firstL_le {l:List UInt8} (hl:l≠[]):(firstL l).2.2≤l.length∧((firstL l).1=0→1≤(firstL l).2.2):=by
 cases l with
 |nil=>exact absurd rfl hl
 |cons c l=>
  rw [firstL_cons]
  split
  ·exact numberL_le _
  ·split
   ·exact wordL_le _
   ·split
    ·exact textL_le (by simp)
    ·exact signR_le _
theorem nextL_le {L:List UInt8} {p:Nat} (hp:p≤L.length):(nextL L p).2.2≤L.length∧((nextL L p).1=0→(nextL L p).2.1.x.k≠0→p+1≤(nextL L p).2.2):=by
 have h1:=skN_le false (L.drop p)
 rw [List.length_drop] at h1
 unfold nextL
 dsimp only
 split
 ·refine ⟨by dsimp only;omega,fun _ h=>absurd rfl h⟩
 ·rename_i hq
  have hne:L.drop (p+skN false (L.drop p))≠[]:=by
   intro e
   have:=List.drop_eq_nil_iff.1 e
   omega
  have h2:=firstL_le hne
  rw [List.length_drop] at h2
  split
  ·rename_i h0
   have h3:=h2.2 h0
   dsimp only
   exact ⟨by omega,fun _ _=>by omega⟩
  ·rename_i h0
   exact ⟨by dsimp only;omega,fun h=>absurd h h0⟩
end Go.Proofs.YtkfihhagcimcmaaGreatDoor.Lx
