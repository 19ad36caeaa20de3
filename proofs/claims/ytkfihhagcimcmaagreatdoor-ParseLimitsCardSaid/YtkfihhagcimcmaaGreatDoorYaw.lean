/- Pa, Pb -/
import Derived.Test.YtkfihhagcimcmaaGreatDoorChecked
import Derived.Test.YtkfihhagcimcmaaGreatDoorY1
import Derived.Test.YtkfihhagcimcmaaGreatDoorYal
import Derived.Test.YtkfihhagcimcmaaGreatDoorYap
namespace Go.Proofs.YtkfihhagcimcmaaGreatDoor
open Go.RowKit
end Go.Proofs.YtkfihhagcimcmaaGreatDoor
namespace Go.Proofs.YtkfihhagcimcmaaGreatDoor.Ps
open Go.RowKit
open Lx (Tok bs)
mutual
def lev:Ex→Nat
 | .mk _ _ _ _ ps _ ks=>1+max (levP ps) (levK ks)
def levP:List (ByteArray×Ex)→Nat
 |[]=>0
 |p::l=>max (lev1 p) (levP l)
def lev1:ByteArray×Ex→Nat
 |(_,x)=>lev x
def levK:List Ex→Nat
 |[]=>0
 |x::l=>max (lev x) (levK l)
end
theorem lev_p:∀{l:List (ByteArray×Ex)} {p:ByteArray×Ex},p∈l→lev p.2≤levP l
 |(_,_)::_,_,h=>by
  rw [levP]
  rcases List.mem_cons.1 h with rfl|h
  ·rw [lev1];exact Nat.le_max_left _ _
  ·have:=lev_p h;omega
theorem lev_k:∀{l:List Ex} {x:Ex},x∈l→lev x≤levK l
 |_::_,_,h=>by
  rw [levK]
  rcases List.mem_cons.1 h with rfl|h
  ·omega
  ·have:=lev_k h;omega
theorem lev_pos (x:Ex):1≤lev x:=by cases x;rw [lev];omega
theorem lev_ps {x:Ex} {p:ByteArray×Ex} (h:p∈x.ps):lev p.2+1≤lev x:=by
 cases x;rw [lev];have:=lev_p h;simp only [Ex.ps] at this;omega
theorem lev_ks {x y:Ex} (h:y∈x.ks):lev y+1≤lev x:=by
 cases x;rw [lev];have:=lev_k h;simp only [Ex.ks] at this;omega
theorem lev_parts {x y:Ex} (h:y∈x.parts):lev y+1≤lev x:=by
 unfold Ex.parts at h
 split at h
 ·obtain ⟨p,hp,rfl⟩:=List.mem_map.1 h;exact lev_ps hp
 ·exact lev_ks h
def XW (w:World) (h:Hd) (x:Ex):Prop:=InX w (lev x) h x
theorem XW.below {w w':World} {h:Hd} {x:Ex} (hx:XW w h x) (hb:Below w.heap.size w w'):XW w' h x:=InX.below hb hx
def deep (x:Ex):Int:=depW (lev x) x
def cnt (x:Ex):Nat:=tN (lev x) x
theorem tN_same:∀(n m:Nat) (x:Ex),lev x≤n→lev x≤m→tN n x=tN m x
 |0,_,x,h,_=>by have:=lev_pos x;omega
 |_,0,x,_,h=>by have:=lev_pos x;omega
 |n+1,m+1,x,h,k=>by
  rw [tN,tN]
  have e:(x.ps.map fun p=>tN n p.2)=x.ps.map fun p=>tN m p.2:=List.map_congr_left fun p hp=>tN_same n m p.2 (by have:=lev_ps hp;omega) (by have:=lev_ps hp;omega)
  have e2:x.ks.map (tN n)=x.ks.map (tN m):=List.map_congr_left fun y hy=>tN_same n m y (by have:=lev_ks hy;omega) (by have:=lev_ks hy;omega)
  rw [e,e2]
theorem cnt_eq (x:Ex):cnt x=1+(x.ps.map fun p=>cnt p.2).sum+(x.ks.map cnt).sum:=by
 unfold cnt
 obtain ⟨n,hn⟩:∃n,lev x=n+1:=⟨lev x-1,by have:=lev_pos x;omega⟩
 rw [hn,tN]
 have e:(x.ps.map fun p=>tN n p.2)=x.ps.map fun p=>tN (lev p.2) p.2:=List.map_congr_left fun p hp=>tN_same _ _ _ (by have:=lev_ps hp;omega) (Nat.le_refl _)
 have e2:x.ks.map (tN n)=x.ks.map fun y=>tN (lev y) y:=List.map_congr_left fun y hy=>tN_same _ _ _ (by have:=lev_ks hy;omega) (Nat.le_refl _)
 rw [e,e2]
theorem cnt_pos (x:Ex):1≤cnt x:=by rw [cnt_eq];omega
inductive Res (α:Type) where
 |ok (x:α) (L:List Tok):Res α
 |bad (a e:Int):Res α
def Res.bind {α β:Type} (r:Res α) (k:α→List Tok→Res β):Res β:=match r with| .ok x L=>k x L| .bad a e=> .bad a e
theorem bind_ok {α β:Type} {r:Res α} {k:α→List Tok→Res β} {y:β} {M:List Tok} (h:r.bind k= .ok y M):∃x L,r= .ok x L∧k x L= .ok y M:=by
 cases r with
 |ok x L=>exact ⟨x,L,rfl,h⟩
 |bad a e=>cases h
def pk (E:Int) (L:List Tok):Tok:=match L with|[]=>⟨⟨0,0,[]⟩,E⟩|t::_=>t
def isB (sg:List UInt8) (L:List Tok):Bool:=match L with|[]=>false|t::_=>t.x.k==4&&t.x.t==sg
def must (E:Int) (sg:List UInt8) (L:List Tok):Res Unit:=if isB sg L then .ok () L.tail else .bad (pk E L).at_ 21
def nameB (L:List Tok):Bool:=match L with|[]=>false|t::_=>t.x.k==2&&Nm.rightL t.x.t
def num1 (E:Int) (L:List Tok):Res Int:=if (pk E L).x.k=1 then .ok (pk E L).x.n L.tail else .bad (pk E L).at_ 21
def numM (E:Int) (L:List Tok):Res Int:=if isB [45] L then (num1 E L.tail).bind fun n M=> .ok (-n) M else num1 E L
def leaf (op n:Int):Ex:= .mk op n ⟨#[]⟩ [] [] false []
def two (op:Int) (a b:Ex):Ex:= .mk op 0 ⟨#[]⟩ [] [] false [a,b]
def many (op:Int) (l:List Ex):Ex:=match l with|[x]=>x|_=> .mk op 0 ⟨#[]⟩ [] [] false l
def kidsF (part:List Tok→Res Ex) (E op:Int) (sg:List UInt8):Nat→List Ex→List Tok→Res Ex
 |0,_,_=> .bad 0 0
 |g+1,acc,L=>
  if isB sg L then
   if acc.length=32 then .bad (pk E L).at_ 4 else (part L.tail).bind fun x L'=>kidsF part E op sg g (acc++[x]) L'
  else .ok (many op acc) L
def kidsM (part:List Tok→Res Ex) (E op:Int) (sg:List UInt8) (L:List Tok):Res Ex:=(part L).bind fun x L'=>kidsF part E op sg (L'.length+1) [x] L'
def opOf (n:Nat) (L:List Tok):Int:=if n=3 then (if isB [43] L then 13 else if isB [45] L then 14 else 0) else if isB [42] L then 15 else 0
def binF (part:List Tok→Res Ex) (n:Nat):Nat→Ex→List Tok→Res Ex
 |0,_,_=> .bad 0 0
 |g+1,x,L=>if opOf n L=0 then .ok x L else (part L.tail).bind fun y L'=>binF part n g (two (opOf n L) x y) L'
def path1 (k:List ByteArray→List Tok→Res (List ByteArray)) (E:Int) (acc:List ByteArray) (L:List Tok):Res (List ByteArray):=
 if nameB L then if acc.length=16 then .bad (pk E L).at_ 4 else k (acc++[bs (pk E L).x.t]) L.tail else .bad (pk E L).at_ 21
def pathF (E:Int):Nat→List ByteArray→List Tok→Res (List ByteArray)
 |0,_,_=> .bad 0 0
 |g+1,acc,L=>if acc.length=0 then path1 (pathF E g) E acc L else if isB [46] L then path1 (pathF E g) E acc L.tail else .ok acc L
def putP {β:Type}:List (ByteArray×β)→ByteArray×β→List (ByteArray×β)
 |[],p=>[p]
 |q::l,p=>if Op.bytesLess p.1.toList q.1.toList=true then p::q::l else q::putP l p
def sortP {β:Type} (l:List (ByteArray×β)):List (ByteArray×β):=l.foldl putP []
def hasB {β:Type} (l:List (ByteArray×β)) (s:ByteArray):Bool:=l.any fun p=>p.1.toList==s.toList
def pairM (join:List Tok→Res Ex) (E:Int) (acc:List (ByteArray×Ex)) (L:List Tok):Res (ByteArray×Ex):=
 if nameB L then
  if hasB acc (bs (pk E L).x.t) then .bad (pk E L).at_ 6
  else if acc.length=32 then .bad (pk E L).at_ 4
  else (must E [58] L.tail).bind fun _ L2=>(join L2).bind fun x L3=>(must E [59] L3).bind fun _ L4=> .ok (bs (pk E L).x.t,x) L4
 else .bad (pk E L).at_ 21
def fieldsF (join:List Tok→Res Ex) (E:Int):Nat→List (ByteArray×Ex)→List Tok→Res (List (ByteArray×Ex))
 |0,_,_=> .bad 0 0
 |g+1,acc,L=>
  if isB [46,46,46] L=true∨isB [125] L=true then .ok acc L
  else (pairM join E acc L).bind fun p L'=>fieldsF join E g (acc++[p]) L'
def fieldsM (join:List Tok→Res Ex) (E:Int) (L:List Tok):Res Ex:=
 (fieldsF join E (L.length+1) [] L).bind fun acc L1=> .ok (.mk 10 0 ⟨#[]⟩ [] (sortP acc) (isB [46,46,46] L1) []) (if isB [46,46,46] L1 then L1.tail else L1)
def brM (inner:Int→List Tok→Res Ex) (E:Int) (last:List UInt8) (o:Int) (L:List Tok):Res Ex:=
 if o=16 then .bad (pk E L).at_ 22 else (inner (o+1) L.tail).bind fun x L1=>(must E last L1).bind fun _ L2=> .ok x L2
def meanL (t:List UInt8):Int×Int:=
 if (t==[116,114,117,101])=true then (3,1) else if (t==[102,97,108,115,101])=true then (3,0) else if (t==[97,110,121])=true then (4,5) else if (t==[98,111,111,108])=true then (4,1) else if (t==[105,110,116])=true then (4,2) else if (t==[115,116,114,105,110,103])=true then (4,3) else if (t==[110,111,110,101])=true then (5,0) else if (t==[99,111,109,112,117,116,101,100])=true then (6,0) else (0,0)
def wordM (t:Tok) (L1:List Tok):Res Ex:=if (meanL t.x.t).1=0 then .bad t.at_ 21 else .ok (leaf (meanL t.x.t).1 (meanL t.x.t).2) L1
def unitM (join:Int→List Tok→Res Ex) (E o:Int) (L:List Tok):Res Ex:=
 if (pk E L).x.k=1∨isB [45] L=true then (numM E L).bind fun n L'=> .ok (leaf 1 n) L'
 else if isB [62,61] L then (numM E L.tail).bind fun n L'=> .ok (leaf 7 n) L'
 else if isB [60,61] L then (numM E L.tail).bind fun n L'=> .ok (leaf 8 n) L'
 else if isB [40] L then brM join E [41] o L
 else if isB [123] L then brM (fun o L=>fieldsM (join o) E L) E [125] o L
 else if (pk E L).x.k=3 then .ok (.mk 2 0 (bs (pk E L).x.t) [] [] false []) L.tail
 else if (pk E L).x.k=2 then
  if Nm.rightL (pk E L).x.t then (pathF E (L.length+1) [] L).bind fun p L'=> .ok (.mk 9 0 ⟨#[]⟩ p [] false []) L'
  else wordM (pk E L) L.tail
 else .bad (pk E L).at_ 21
def lv (E:Int):Nat→Nat→Int→List Tok→Res Ex
 |0,_,_,_=> .bad 0 0
 |f+1,n,o,L=>
  if n=1 then kidsM (lv E f 2 o) E 12 [124] L
  else if n=2 then kidsM (lv E f 3 o) E 11 [38] L
  else if n=3∨n=4 then (lv E f (n+1) o L).bind fun x L'=>binF (lv E f (n+1) o) n (L'.length+1) x L'
  else unitM (fun o L=>lv E f 1 o L) E o L
end Go.Proofs.YtkfihhagcimcmaaGreatDoor.Ps
namespace Go.Proofs.YtkfihhagcimcmaaGreatDoor.Ps
open Go.RowKit
open Lx (Tok)
def Fits {α:Type} (m:α→Nat) (L:List Tok) (r:Res α):Prop:=∀x L',r= .ok x L'→L'<:+L∧m x+L'.length≤L.length
theorem Fits.bind {α β:Type} {m:α→Nat} {m':β→Nat} {L M:List Tok} {r:Res α} {k:α→List Tok→Res β} (h:Fits m M r) (hk:∀x L1,L1<:+M→m x+L1.length≤M.length→∀y L',k x L1= .ok y L'→L'<:+L∧m' y+L'.length≤L.length):Fits m' L (r.bind k):=fun y L' e=>by
 obtain ⟨x,L1,e1,e2⟩:=bind_ok e
 obtain ⟨h1,h2⟩:=h x L1 e1
 exact hk x L1 h1 h2 y L' e2
theorem isB_cons {sg:List UInt8} {L:List Tok} (h:isB sg L=true):∃t M,L=t::M∧t.x.k=4∧t.x.t=sg:=by
 cases L with
 |nil=>cases h
 |cons t M=>exact ⟨t,M,rfl,by simpa [isB] using h⟩
theorem nameB_cons {L:List Tok} (h:nameB L=true):∃t M,L=t::M∧t.x.k=2∧Nm.rightL t.x.t=true:=by
 cases L with
 |nil=>cases h
 |cons t M=>exact ⟨t,M,rfl,by simpa [nameB] using h⟩
theorem pk_cons {E:Int} {L:List Tok} (h:(pk E L).x.k≠0):∃t M,L=t::M∧pk E L=t:=by
 cases L with
 |nil=>exact absurd rfl h
 |cons t M=>exact ⟨t,M,rfl,rfl⟩
theorem must_fits (E:Int) (sg:List UInt8) (L:List Tok):Fits (fun _=>1) L (must E sg L):=fun x L' e=>by
 unfold must at e
 split at e
 ·rename_i h
  obtain ⟨t,M,rfl,_,_⟩:=isB_cons h
  cases e
  exact ⟨List.suffix_cons _ _,by simp;omega⟩
 ·cases e
theorem num1_fits (E:Int) (L:List Tok):Fits (fun _=>1) L (num1 E L):=fun x L' e=>by
 unfold num1 at e
 split at e
 ·rename_i h
  obtain ⟨t,M,rfl,_⟩:=pk_cons (E:=E) (L:=L) (by rw [h];decide)
  cases e
  exact ⟨List.suffix_cons _ _,by simp;omega⟩
 ·cases e
theorem numM_fits (E:Int) (L:List Tok):Fits (fun _=>1) L (numM E L):=fun x L' e=>by
 unfold numM at e
 split at e
 ·obtain ⟨y,L1,e1,e2⟩:=bind_ok e
  cases e2
  obtain ⟨s1,c1⟩:=num1_fits _ _ _ _ e1
  exact ⟨s1.trans (List.tail_suffix _),Nat.le_trans c1 (List.tail_suffix L).length_le⟩
 ·exact num1_fits _ _ _ _ e
def cntK (l:List Ex):Nat:=(l.map cnt).sum
def cntP (l:List (ByteArray×Ex)):Nat:=(l.map fun p=>cnt p.2).sum
theorem cntK_app (l:List Ex) (x:Ex):cntK (l++[x])=cntK l+cnt x:=by simp [cntK]
theorem cntP_app (l:List (ByteArray×Ex)) (x:ByteArray×Ex):cntP (l++[x])=cntP l+cnt x.2:=by simp [cntP]
theorem cnt_mk (op n:Int) (s:ByteArray) (pa:List ByteArray) (ps:List (ByteArray×Ex)) (o:Bool) (ks:List Ex):cnt (.mk op n s pa ps o ks)=1+cntP ps+cntK ks:=cnt_eq _
theorem many_cnt (op:Int) {l:List Ex} (h:1≤l.length):cnt (many op l)+1≤cntK l+l.length:=by
 match l,h with
 |[x],_=>simp [many,cntK]
 |x::y::l,_=>
  show cnt (.mk op 0 ⟨#[]⟩ [] [] false (x::y::l))+1≤_
  rw [cnt_mk]
  simp [cntP]
  omega
theorem kidsF_fits {part:List Tok→Res Ex} (hp:∀L,Fits cnt L (part L)) (E op:Int) (sg:List UInt8):∀(g:Nat) (acc:List Ex) (L:List Tok) (x:Ex) (L':List Tok),1≤acc.length→kidsF part E op sg g acc L= .ok x L'→L'<:+L∧cnt x+L'.length+1≤cntK acc+acc.length+L.length
 |0,_,_,_,_,_,h=>by cases h
 |g+1,acc,L,x,L',h1,h=>by
  rw [kidsF] at h
  split at h
  ·rename_i hb
   obtain ⟨t,M,rfl,_,_⟩:=isB_cons hb
   split at h
   ·cases h
   ·obtain ⟨y,L1,e1,e2⟩:=bind_ok h
    obtain ⟨s1,c1⟩:=hp _ y L1 e1
    obtain ⟨s2,c2⟩:=kidsF_fits hp E op sg g _ _ _ _ (by simp) e2
    refine ⟨s2.trans (s1.trans (List.suffix_cons _ _)),?_⟩
    rw [cntK_app] at c2
    simp at c2 c1⊢
    omega
  ·cases h
   have:=many_cnt op h1
   exact ⟨List.suffix_rfl,by omega⟩
theorem kidsM_fits {part:List Tok→Res Ex} (hp:∀L,Fits cnt L (part L)) (E op:Int) (sg:List UInt8) (L:List Tok):Fits cnt L (kidsM part E op sg L):=
 (hp L).bind fun x L1 h1 h2 y L' e=>by
  obtain ⟨s2,c2⟩:=kidsF_fits hp E op sg _ _ _ _ _ (by simp) e
  refine ⟨s2.trans h1,?_⟩
  simp [cntK] at c2
  omega
theorem opOf_cons {n:Nat} {L:List Tok} (h:¬opOf n L=0):∃t M,L=t::M:=by
 cases L with
 |nil=>exact absurd (by unfold opOf;simp [isB]) h
 |cons t M=>exact ⟨t,M,rfl⟩
theorem binF_fits {part:List Tok→Res Ex} (hp:∀L,Fits cnt L (part L)) (n:Nat):∀(g:Nat) (x:Ex) (L:List Tok) (y:Ex) (L':List Tok),binF part n g x L= .ok y L'→L'<:+L∧cnt y+L'.length≤cnt x+L.length
 |0,_,_,_,_,h=>by cases h
 |g+1,x,L,y,L',h=>by
  rw [binF] at h
  split at h
  ·cases h
   exact ⟨List.suffix_rfl,Nat.le_refl _⟩
  ·rename_i hb
   obtain ⟨t,M,rfl⟩:=opOf_cons hb
   obtain ⟨z,L1,e1,e2⟩:=bind_ok h
   obtain ⟨s1,c1⟩:=hp _ z L1 e1
   obtain ⟨s2,c2⟩:=binF_fits hp n g _ _ _ _ e2
   refine ⟨s2.trans (s1.trans (List.suffix_cons _ _)),?_⟩
   unfold two at c2
   rw [cnt_mk] at c2
   simp [cntK,cntP] at c2 c1⊢
   omega
theorem path1_fits {k:List ByteArray→List Tok→Res (List ByteArray)} (hk:∀acc L x L',k acc L= .ok x L'→L'<:+L) (E:Int) (acc:List ByteArray) (L:List Tok):Fits (fun _=>1) L (path1 k E acc L):=fun x L' h=>by
 unfold path1 at h
 split at h
 ·rename_i hn
  obtain ⟨t,M,rfl,_,_⟩:=nameB_cons hn
  split at h
  ·cases h
  ·have s2:=hk _ _ _ _ h
   exact ⟨s2.trans (List.suffix_cons _ _),by have:=s2.length_le;simp at this⊢;omega⟩
 ·cases h
theorem pathF_suf (E:Int):∀(g:Nat) (acc:List ByteArray) (L:List Tok) (x:List ByteArray) (L':List Tok),pathF E g acc L= .ok x L'→L'<:+L
 |0,_,_,_,_,h=>by cases h
 |g+1,acc,L,x,L',h=>by
  rw [pathF] at h
  split at h
  ·exact (path1_fits (pathF_suf E g) E acc L x L' h).1
  ·split at h
   ·exact (path1_fits (pathF_suf E g) E acc _ x L' h).1.trans (List.tail_suffix _)
   ·cases h;exact List.suffix_rfl
theorem pathF_fits (E:Int) (g:Nat) (L:List Tok):Fits (fun _=>1) L (pathF E g [] L):=fun x L' h=>by
 cases g with
 |zero=>cases h
 |succ g=>exact path1_fits (pathF_suf E g) E [] L x L' h
theorem putP_cnt:∀(l:List (ByteArray×Ex)) (p:ByteArray×Ex),cntP (putP l p)=cntP l+cnt p.2
 |[],p=>by simp [putP,cntP]
 |q::l,p=>by
  rw [putP]
  split
  ·simp [cntP];omega
  ·have:=putP_cnt l p
   simp [cntP] at this⊢;omega
theorem sort_cnt (l:List (ByteArray×Ex)):∀(m:List (ByteArray×Ex)),cntP (l.foldl putP m)=cntP m+cntP l:=by
 induction l with
 |nil=>intro m;simp [cntP]
 |cons p l ih=>
  intro m
  rw [List.foldl_cons,ih,putP_cnt]
  simp [cntP];omega
theorem pairM_fits {join:List Tok→Res Ex} (hp:∀L,Fits cnt L (join L)) (E:Int) (acc:List (ByteArray×Ex)) (L:List Tok):Fits (fun p=>cnt p.2+3) L (pairM join E acc L):=fun x L' h=>by
 unfold pairM at h
 split at h
 ·rename_i hn
  obtain ⟨t,M,rfl,_,_⟩:=nameB_cons hn
  split at h
  ·cases h
  ·split at h
   ·cases h
   ·obtain ⟨_,L2,e1,h⟩:=bind_ok h
    obtain ⟨y,L3,e2,h⟩:=bind_ok h
    obtain ⟨_,L4,e3,h⟩:=bind_ok h
    cases h
    obtain ⟨s1,c1⟩:=must_fits _ _ _ _ _ e1
    obtain ⟨s2,c2⟩:=hp _ _ _ e2
    obtain ⟨s3,c3⟩:=must_fits _ _ _ _ _ e3
    refine ⟨s3.trans (s2.trans (s1.trans (List.suffix_cons _ _))),?_⟩
    simp at c1 c2 c3⊢
    omega
 ·cases h
theorem fieldsF_fits {join:List Tok→Res Ex} (hp:∀L,Fits cnt L (join L)) (E:Int):∀(g:Nat) (acc:List (ByteArray×Ex)) (L:List Tok) (x:List (ByteArray×Ex)) (L':List Tok),fieldsF join E g acc L= .ok x L'→L'<:+L∧cntP x+L'.length≤cntP acc+L.length
 |0,_,_,_,_,h=>by cases h
 |g+1,acc,L,x,L',h=>by
  rw [fieldsF] at h
  split at h
  ·cases h
   exact ⟨List.suffix_rfl,Nat.le_refl _⟩
  ·obtain ⟨p,L1,e1,e2⟩:=bind_ok h
   obtain ⟨s1,c1⟩:=pairM_fits hp E acc L p L1 e1
   obtain ⟨s2,c2⟩:=fieldsF_fits hp E g _ _ _ _ e2
   rw [cntP_app] at c2
   exact ⟨s2.trans s1,by dsimp only at c1;omega⟩
theorem fieldsM_fits {join:List Tok→Res Ex} (hp:∀L,Fits cnt L (join L)) (E:Int) (L:List Tok) (x:Ex) (L':List Tok) (h:fieldsM join E L= .ok x L'):L'<:+L∧cnt x+L'.length≤1+L.length:=by
 obtain ⟨acc,L1,e1,e2⟩:=bind_ok h
 obtain ⟨s1,c1⟩:=fieldsF_fits hp E _ _ _ _ _ e1
 cases e2
 rw [cnt_mk]
 unfold sortP
 rw [sort_cnt]
 simp only [cntK,cntP,List.map_nil,List.sum_nil] at c1⊢
 split
 ·exact ⟨(List.tail_suffix _).trans s1,by have:=(List.tail_suffix L1).length_le;omega⟩
 ·exact ⟨s1,by omega⟩
theorem brM_fits {inner:Int→List Tok→Res Ex} (E:Int) (last:List UInt8) (o:Int) {sg:List UInt8} {L:List Tok} (hb:isB sg L=true) (hp:∀M x L',inner (o+1) M= .ok x L'→L'<:+M∧cnt x+L'.length≤1+M.length):Fits cnt L (brM inner E last o L):=fun x L' h=>by
 unfold brM at h
 obtain ⟨t,M,rfl,_,_⟩:=isB_cons hb
 split at h
 ·cases h
 ·obtain ⟨y,L2,e1,h⟩:=bind_ok h
  obtain ⟨_,L3,e2,h⟩:=bind_ok h
  cases h
  obtain ⟨s1,c1⟩:=hp _ _ _ e1
  obtain ⟨s2,c2⟩:=must_fits _ _ _ _ _ e2
  refine ⟨s2.trans (s1.trans (List.suffix_cons _ _)),?_⟩
  simp at c1 c2⊢
  omega
theorem leaf_cnt (op n:Int):cnt (leaf op n)=1:=by unfold leaf;rw [cnt_mk];rfl
theorem unit_num {E op:Int} {L M:List Tok} (hs:M<:+L):Fits cnt L ((numM E M).bind fun n L'=> .ok (leaf op n) L'):=
 (numM_fits E M).bind fun x L1 h1 h2 y L' e=>by cases e;rw [leaf_cnt];exact ⟨h1.trans hs,Nat.le_trans h2 hs.length_le⟩
theorem unitM_fits {join:Int→List Tok→Res Ex} (hp:∀o L,Fits cnt L (join o L)) (E o:Int) (L:List Tok):Fits cnt L (unitM join E o L):=by
 unfold unitM
 split
 ·exact unit_num List.suffix_rfl
 split
 ·exact unit_num (List.tail_suffix _)
 split
 ·exact unit_num (List.tail_suffix _)
 split
 ·rename_i hb
  exact brM_fits E _ o hb fun M x L' e=>by
   obtain ⟨h1,h2⟩:=hp _ _ _ _ e
   exact ⟨h1,by omega⟩
 split
 ·rename_i hb
  exact brM_fits E _ o hb fun M x L' e=>fieldsM_fits (hp _) E M x L' e
 split
 ·rename_i hk
  obtain ⟨t,M,rfl,_⟩:=pk_cons (E:=E) (L:=L) (by rw [hk];decide)
  intro x L' e
  cases e
  rw [cnt_mk]
  exact ⟨List.suffix_cons _ _,by simp [cntP,cntK];omega⟩
 split
 ·rename_i hk
  obtain ⟨t,M,rfl,_⟩:=pk_cons (E:=E) (L:=L) (by rw [hk];decide)
  split
  ·intro x L' e
   obtain ⟨p,L1,e1,e2⟩:=bind_ok e
   cases e2
   obtain ⟨s1,c1⟩:=pathF_fits E _ _ _ _ e1
   rw [cnt_mk]
   exact ⟨s1,by simp [cntP,cntK] at c1⊢;omega⟩
  ·intro x L' e
   unfold wordM at e
   split at e
   ·cases e
   ·cases e
    rw [leaf_cnt]
    exact ⟨List.suffix_cons _ _,by simp;omega⟩
 ·intro x L' e
  cases e
theorem lv_fits (E:Int):∀(f n:Nat) (o:Int) (L:List Tok),Fits cnt L (lv E f n o L)
 |0,_,_,_=>fun x L' e=>by cases e
 |f+1,n,o,L=>by
  rw [lv]
  split
  ·exact kidsM_fits (fun L=>lv_fits E f 2 o L) E 12 _ L
  split
  ·exact kidsM_fits (fun L=>lv_fits E f 3 o L) E 11 _ L
  split
  ·exact (lv_fits E f (n+1) o L).bind fun x L1 h1 h2 y L' e=>by
    obtain ⟨s2,c2⟩:=binF_fits (fun L=>lv_fits E f (n+1) o L) n _ _ _ _ _ e
    exact ⟨s2.trans h1,by omega⟩
  ·exact unitM_fits (fun o L=>lv_fits E f 1 o L) E o L
end Go.Proofs.YtkfihhagcimcmaaGreatDoor.Ps
