/- Qx -/
import Derived.Test.YtkfihhagcimcmaaGreatDoorChecked
import Derived.Test.YtkfihhagcimcmaaGreatDoorProg
import Derived.Test.YtkfihhagcimcmaaGreatDoorY1
import Derived.Test.YtkfihhagcimcmaaGreatDoorYae
import Derived.Test.YtkfihhagcimcmaaGreatDoorYbb
namespace Go.Proofs.YtkfihhagcimcmaaGreatDoor.Ps
open Go.RowKit
open Lx (Tok bs)
def Rt (x:Ex):Prop:=rightB (lev x) x=true
theorem allN_same:∀(n m:Nat) (x:Ex),lev x≤n→lev x≤m→allN n x=allN m x
 |0,_,x,h,_=>by have:=lev_pos x;omega
 |_,0,x,_,h=>by have:=lev_pos x;omega
 |n+1,m+1,x,h,k=>by
  rw [allN,allN]
  congr 1
  have e:∀l:List Ex,(∀y∈l,lev y+1≤lev x)→l.flatMap (allN n)=l.flatMap (allN m):=fun l hl=>by
   induction l with
   |nil=>rfl
   |cons y l ih=>
    rw [List.flatMap_cons,List.flatMap_cons,ih fun z hz=>hl z (List.mem_cons_of_mem _ hz),allN_same n m y (by have:=hl y (List.mem_cons_self ..);omega) (by have:=hl y (List.mem_cons_self ..);omega)]
  exact e _ fun y hy=>lev_parts hy
theorem rt_mk {x:Ex} (ho:ownB x=true) (hp:∀y∈x.parts,Rt y):Rt x:=by
 unfold Rt rightB
 obtain ⟨n,hn⟩:∃n,lev x=n+1:=⟨lev x-1,by have:=lev_pos x;omega⟩
 rw [hn,allN,List.all_cons,ho,Bool.true_and,List.all_eq_true]
 intro z hz
 obtain ⟨y,hy,hz⟩:=List.mem_flatMap.1 hz
 have h1:=hp y hy
 unfold Rt rightB at h1
 rw [List.all_eq_true] at h1
 rw [allN_same n (lev y) y (by have:=lev_parts hy;omega) (Nat.le_refl _)] at hz
 exact h1 z hz
theorem rt_leaf {op n:Int} (h10:¬op=10) (ho:ownB (leaf op n)=true):Rt (leaf op n):=rt_mk ho fun y hy=>by
 unfold leaf Ex.parts at hy
 simp only [Ex.op,h10,if_false,Ex.ks] at hy
 cases hy
theorem OkL.tail {L:List Tok} (h:OkL L):OkL L.tail:=h.suf (List.tail_suffix _)
theorem rt_many {op:Int} (hop:op=11∨op=12) {l:List Ex} (h1:1≤l.length) (h32:l.length≤32) (hl:∀y∈l,Rt y):Rt (many op l):=by
 by_cases h:l.length=1
 ·obtain ⟨y,rfl⟩:∃y,l=[y]:=by
   match l,h with
   |[y],_=>exact ⟨y,rfl⟩
  exact hl y (List.mem_singleton.2 rfl)
 ·rw [many_more op h]
  refine rt_mk ?_ fun y hy=>hl y ?_
  ·rw [ownB_eq]
   have h2:2≤l.length:=by omega
   rcases hop with rfl|rfl<;>(simp [emB,h2,h32];rfl)
  ·unfold Ex.parts at hy
   rcases hop with rfl|rfl<;>simpa [Ex.op,Ex.ks] using hy
section
variable {part:List Tok→Res Ex} (hp:∀L,OkL L→∀x M,part L= .ok x M→Rt x) (hf:∀L,Fits cnt L (part L))
include hp hf
theorem kidsF_rt {E op:Int} (hop:op=11∨op=12) {sg:List UInt8}:∀(g:Nat) (acc:List Ex) (L:List Tok) (x:Ex) (M:List Tok),OkL L→(∀y∈acc,Rt y)→1≤acc.length→acc.length≤32→kidsF part E op sg g acc L= .ok x M→Rt x
 |0,_,_,_,_,_,_,_,_,h=>by cases h
 |g+1,acc,L,x,M,hL,ha,h1,h32,h=>by
  rw [kidsF] at h
  split at h
  ·split at h
   ·cases h
   ·rename_i hn
    obtain ⟨y,L1,e1,e2⟩:=bind_ok h
    have hy:=hp _ hL.tail _ _ e1
    exact kidsF_rt hop g _ _ _ _ (hL.tail.suf (hf _ _ _ e1).1) (fun z hz=>(List.mem_append.1 hz).elim (ha z) fun hz=>by rw [List.mem_singleton.1 hz];exact hy) (by rw [List.length_append];omega) (by rw [List.length_append];simp only [List.length_singleton];omega) e2
  ·cases h;exact rt_many hop h1 h32 ha
theorem kidsM_rt {E op:Int} (hop:op=11∨op=12) {sg:List UInt8} {L:List Tok} (hL:OkL L) {x:Ex} {M:List Tok} (h:kidsM part E op sg L= .ok x M):Rt x:=by
 unfold kidsM at h
 obtain ⟨y,L1,e1,e2⟩:=bind_ok h
 exact kidsF_rt hp hf hop _ _ _ _ _ (hL.suf (hf _ _ _ e1).1) (fun z hz=>by rw [List.mem_singleton.1 hz];exact hp _ hL _ _ e1) (by simp) (by simp) e2
theorem binF_rt {n:Nat}:∀(g:Nat) (a:Ex) (L:List Tok) (x:Ex) (M:List Tok),OkL L→Rt a→binF part n g a L= .ok x M→Rt x
 |0,_,_,_,_,_,_,h=>by cases h
 |g+1,a,L,x,M,hL,ha,h=>by
  rw [binF] at h
  split at h
  ·cases h;exact ha
  ·rename_i h0
   obtain ⟨y,L1,e1,e2⟩:=bind_ok h
   have hy:=hp _ hL.tail _ _ e1
   refine binF_rt g _ _ _ _ (hL.tail.suf (hf _ _ _ e1).1) ?_ e2
   have ho:opOf n L=13∨opOf n L=14∨opOf n L=15:=by
    unfold opOf at h0⊢
    split<;>split<;>simp_all<;>(try split)<;>simp_all
   refine rt_mk ?_ fun z hz=>?_
   ·unfold two
    rw [ownB_eq]
    rcases ho with e|e|e<;>rw [e]<;>(simp [emB];rfl)
   ·unfold two Ex.parts at hz
    have h10:¬opOf n L=10:=by omega
    simp only [Ex.op,h10,if_false,Ex.ks] at hz
    rcases List.mem_cons.1 hz with rfl|hz
    ·exact ha
    ·rw [List.mem_singleton.1 hz];exact hy
end
theorem num1_in {E:Int} {L M:List Tok} {n:Int} (hL:OkL L) (h:num1 E L= .ok n M): -9007199254740992≤n∧n≤9007199254740992:=by
 unfold num1 at h
 split at h
 ·rename_i hk
  obtain ⟨t,N,rfl,e⟩:=pk_cons (E:=E) (L:=L) (by rw [hk];decide)
  have:=hL t (List.mem_cons_self ..)
  cases h
  rw [e]
  exact ⟨this.lo,this.hi⟩
 ·cases h
theorem numM_in {E:Int} {L M:List Tok} {n:Int} (hL:OkL L) (h:numM E L= .ok n M):inB n=true:=by
 unfold numM at h
 have key:∀m:Int,-9007199254740992≤m∧m≤9007199254740992→inB m=true:=fun m hm=>by unfold inB;simp [hm.1,hm.2]
 split at h
 ·obtain ⟨y,K,e1,e2⟩:=bind_ok h
  have:=num1_in hL.tail e1
  cases e2
  exact key _ (by omega)
 ·exact key _ (num1_in hL h)
theorem pathF_rt {E:Int}:∀(g:Nat) (acc:List ByteArray) (L:List Tok) (p:List ByteArray) (M:List Tok),(∀y∈acc,Nm.rightL y.toList=true)→acc.length≤16→pathF E g acc L= .ok p M→1≤p.length∧p.length≤16∧∀y∈p,Nm.rightL y.toList=true
 |0,_,_,_,_,_,_,h=>by cases h
 |g+1,acc,L,p,M,ha,h16,h=>by
  have key:∀L,path1 (pathF E g) E acc L= .ok p M→1≤p.length∧p.length≤16∧∀y∈p,Nm.rightL y.toList=true:=fun L h=>by
   unfold path1 at h
   split at h
   ·rename_i hn
    split at h
    ·cases h
    ·rename_i hl
     refine pathF_rt g _ _ _ _ (fun y hy=>?_) (by rw [List.length_append];simp only [List.length_singleton];omega) h
     rcases List.mem_append.1 hy with hy|hy
     ·exact ha y hy
     ·rw [List.mem_singleton.1 hy,Lx.bs_list]
      obtain ⟨t,N,rfl,_,hr⟩:=nameB_cons hn
      exact hr
   ·cases h
  rw [pathF] at h
  split at h
  ·exact key _ h
  ·rename_i h0
   split at h
   ·exact key _ h
   ·cases h;exact ⟨by omega,h16,ha⟩
theorem rise_ris {l:List (ByteArray×Ex)} (h:l.Pairwise LtP) (hr:∀p∈l,Nm.rightL p.1.toList=true):Nm.risB (l.map (·.1))=true:=by
 refine (Nm.ris_yes fun k x hx hk=>?_).symm
 rw [List.getElem?_map] at hx
 obtain ⟨p,hp,rfl⟩:=Option.map_eq_some_iff.1 hx
 refine ⟨hr p (List.mem_of_getElem? hp),fun j y hj hy=>?_⟩
 rw [List.getElem?_map] at hy
 obtain ⟨q,hq,rfl⟩:=Option.map_eq_some_iff.1 hy
 obtain ⟨a1,b1⟩:=List.getElem?_eq_some_iff.1 hp
 obtain ⟨a2,b2⟩:=List.getElem?_eq_some_iff.1 hq
 have:=List.pairwise_iff_getElem.1 h j k a2 a1 (by omega)
 rw [b1,b2] at this
 exact this
theorem fieldsF_rt {join:List Tok→Res Ex} (hp:∀L,OkL L→∀x M,join L= .ok x M→Rt x) (hf:∀L,Fits cnt L (join L)) {E:Int}:∀(g:Nat) (acc:List (ByteArray×Ex)) (L:List Tok) (a:List (ByteArray×Ex)) (M:List Tok),OkL L→(∀p∈acc,Rt p.2∧Nm.rightL p.1.toList=true)→Apart acc→acc.length≤32→fieldsF join E g acc L= .ok a M→(∀p∈a,Rt p.2∧Nm.rightL p.1.toList=true)∧Apart a∧a.length≤32
 |0,_,_,_,_,_,_,_,_,h=>by cases h
 |g+1,acc,L,a,M,hL,ha,hA,h32,h=>by
  rw [fieldsF] at h
  split at h
  ·cases h;exact ⟨ha,hA,h32⟩
  ·obtain ⟨q,L1,e1,e2⟩:=bind_ok h
   obtain ⟨s1,-⟩:=pairM_fits hf E acc L _ _ e1
   obtain ⟨hh,hn⟩:=pairM_ok e1
   have hq:Rt q.2∧Nm.rightL q.1.toList=true:=by
    unfold pairM at e1
    split at e1
    ·rename_i hnb
     split at e1
     ·cases e1
     ·obtain ⟨_,L2,e3,e1⟩:=bind_ok e1
      obtain ⟨y,L3,e4,e1⟩:=bind_ok e1
      obtain ⟨_,L4,e5,e1⟩:=bind_ok e1
      cases e1
      obtain ⟨t,N,rfl,_,hr⟩:=nameB_cons hnb
      refine ⟨hp _ (hL.tail.suf ((must_fits _ _ _ _ _ e3).1)) _ _ e4,?_⟩
      rw [Lx.bs_list];exact hr
    ·cases e1
   exact fieldsF_rt hp hf g _ _ _ _ (hL.suf s1) (fun p hp2=>(List.mem_append.1 hp2).elim (ha p) fun hp2=>by rw [List.mem_singleton.1 hp2];exact hq) (has_app hA hh) (by rw [List.length_append];simp only [List.length_singleton];omega) e2
theorem brM_rt {inner:Int→List Tok→Res Ex} (hp:∀o L,OkL L→∀x M,inner o L= .ok x M→Rt x) {E o:Int} {last:List UInt8} {L:List Tok} (hL:OkL L) {x:Ex} {M:List Tok} (h:brM inner E last o L= .ok x M):Rt x:=by
 unfold brM at h
 split at h
 ·cases h
 ·obtain ⟨y,L1,e1,e2⟩:=bind_ok h
  obtain ⟨u,L2,e3,e4⟩:=bind_ok e2
  cases e4
  exact hp _ _ hL.tail _ _ e1
theorem fieldsM_rt {join:List Tok→Res Ex} (hp:∀L,OkL L→∀x M,join L= .ok x M→Rt x) (hf:∀L,Fits cnt L (join L)) {E:Int} {L:List Tok} (hL:OkL L) {x:Ex} {M:List Tok} (h:fieldsM join E L= .ok x M):Rt x:=by
 unfold fieldsM at h
 obtain ⟨a,L1,e1,e2⟩:=bind_ok h
 obtain ⟨h1,h2,h3⟩:=fieldsF_rt hp hf _ _ _ _ _ hL (fun p hp=>absurd hp (by simp)) .nil (by decide) e1
 injection e2 with e3 _
 subst e3
 refine rt_mk ?_ fun y hy=>?_
 ·rw [ownB_eq,if_pos rfl]
  have hr:=rise_ris (sort_rise h2) fun p hp=>(h1 p ((sort_perm h2).mem_iff.1 hp)).2
  have hl:(sortP a).length≤32:=by rw [(sort_perm h2).length_eq];exact h3
  unfold risP
  rw [hr]
  simp [hl,emB];rfl
 ·unfold Ex.parts at hy
  simp only [Ex.op,if_true,Ex.ps] at hy
  obtain ⟨p,hp,rfl⟩:=List.mem_map.1 hy
  exact (h1 p ((sort_perm h2).mem_iff.1 hp)).1
theorem mean_rt (t:List UInt8) (h:¬(meanL t).1=0):Rt (leaf (meanL t).1 (meanL t).2):=by
 have key:∀op n:Int,(op=3∧(n=0∨n=1))∨(op=4∧(n=1∨n=2∨n=3∨n=5))∨((op=5∨op=6)∧n=0)→Rt (leaf op n):=fun op n hh=>by
  rcases hh with ⟨rfl,rfl|rfl⟩|⟨rfl,rfl|rfl|rfl|rfl⟩|⟨rfl|rfl,rfl⟩<;>exact rt_leaf (by decide) (by unfold leaf;rw [ownB_eq];rfl)
 unfold meanL at h⊢
 repeat' split
 all_goals first
  |(apply key;decide)
  |(exfalso;revert h;simp_all)
theorem unitM_rt {join:Int→List Tok→Res Ex} (hp:∀o L,OkL L→∀x M,join o L= .ok x M→Rt x) (hf:∀o L,Fits cnt L (join o L)) {E o:Int} {L:List Tok} (hL:OkL L) {x:Ex} {M:List Tok} (h:unitM join E o L= .ok x M):Rt x:=by
 have num:∀(op:Int) (L:List Tok),op=1∨op=7∨op=8→OkL L→((numM E L).bind fun n L'=>Res.ok (leaf op n) L')= .ok x M→Rt x:=fun op L ho hL e=>by
  obtain ⟨n,K,e1,e2⟩:=bind_ok e
  have hn:=numM_in hL e1
  cases e2
  rcases ho with rfl|rfl|rfl<;>exact rt_leaf (by decide) (by unfold leaf;rw [ownB_eq];simp [numB,emB,hn];rfl)
 unfold unitM at h
 split at h
 ·exact num 1 L (.inl rfl) hL h
 split at h
 ·exact num 7 L.tail (.inr (.inl rfl)) hL.tail h
 split at h
 ·exact num 8 L.tail (.inr (.inr rfl)) hL.tail h
 split at h
 ·exact brM_rt hp hL h
 split at h
 ·exact brM_rt (fun o L hL x M e=>fieldsM_rt (hp o) (hf o) hL e) hL h
 split at h
 ·rename_i hk
  cases h
  obtain ⟨t,N,rfl,e⟩:=pk_cons (E:=E) (L:=L) (by rw [hk];decide)
  have h1:=(hL t (List.mem_cons_self ..)).txt (by rw [←e];exact hk)
  rw [e]
  refine rt_mk ?_ fun y hy=>?_
  ·rw [ownB_eq]
   have hz:(bs t.x.t).size≤256:=by rw [bs_size];exact h1
   simp [numB,emB,hz]
  ·unfold Ex.parts at hy
   simp only [Ex.op,Ex.ks,(by decide:¬(2:Int)=10),if_false] at hy
   cases hy
 split at h
 ·split at h
  ·obtain ⟨p,K,e1,e2⟩:=bind_ok h
   obtain ⟨h1,h2,h3⟩:=pathF_rt _ _ _ _ _ (fun y hy=>absurd hy (by simp)) (by decide) e1
   cases e2
   refine rt_mk ?_ fun y hy=>?_
   ·rw [ownB_eq]
    have hpb:Nm.pathB p=true:=by unfold Nm.pathB;simp only [Bool.and_eq_true,decide_eq_true_eq,List.all_eq_true];exact ⟨⟨h1,h2⟩,h3⟩
    simp [numB,emB,hpb];rfl
   ·unfold Ex.parts at hy
    simp only [Ex.op,Ex.ks,(by decide:¬(9:Int)=10),if_false] at hy
    cases hy
  ·unfold wordM at h
   split at h
   ·cases h
   ·rename_i h0
    cases h
    exact mean_rt _ h0
 ·cases h
theorem lv_rt (E:Int):∀(f n:Nat) (o:Int) (L:List Tok),OkL L→∀x M,lv E f n o L= .ok x M→Rt x
 |0,_,_,_,_,_,_,h=>by cases h
 |f+1,n,o,L,hL,x,M,h=>by
  rw [lv] at h
  split at h
  ·exact kidsM_rt (fun L hL=>lv_rt E f 2 o L hL) (fun L=>lv_fits E f 2 o L) (.inr rfl) hL h
  split at h
  ·exact kidsM_rt (fun L hL=>lv_rt E f 3 o L hL) (fun L=>lv_fits E f 3 o L) (.inl rfl) hL h
  split at h
  ·obtain ⟨y,L1,e1,e2⟩:=bind_ok h
   exact binF_rt (fun L hL=>lv_rt E f (n+1) o L hL) (fun L=>lv_fits E f (n+1) o L) _ _ _ _ _ (hL.suf (lv_fits _ _ _ _ _ _ _ e1).1) (lv_rt E f (n+1) o L hL _ _ e1) e2
  ·exact unitM_rt (fun o L hL=>lv_rt E f 1 o L hL) (fun o L=>lv_fits E f 1 o L) hL h
theorem whole_rt {E:Int} {L:List Tok} (hL:OkL L) {x:Ex} {M:List Tok} (h:wholeM E L= .ok x M):Rt x∧deep x≤16:=by
 unfold wholeM at h
 obtain ⟨y,L1,e1,e2⟩:=bind_ok h
 split at e2
 ·cases e2
 ·rename_i hd
  cases e2
  exact ⟨lv_rt _ _ _ _ _ hL _ _ e1,by omega⟩
end Go.Proofs.YtkfihhagcimcmaaGreatDoor.Ps
