/- Rb, Rc, Rd, Re -/
import Derived.Test.YtkfihhagcimcmaaGreatDoorChecked
import Derived.Test.YtkfihhagcimcmaaGreatDoorY0
import Derived.Test.YtkfihhagcimcmaaGreatDoorYaa
import Derived.Test.YtkfihhagcimcmaaGreatDoorYac
namespace Go.Proofs.YtkfihhagcimcmaaGreatDoor
open Go.RowKit Go.Shelf
inductive Ex where
 |mk (op n:Int) (s:ByteArray) (path:List ByteArray) (ps:List (ByteArray×Ex)) (o:Bool) (ks:List Ex):Ex
def Ex.op:Ex→Int| .mk op _ _ _ _ _ _=>op
def Ex.ps:Ex→List (ByteArray×Ex)| .mk _ _ _ _ ps _ _=>ps
def Ex.ks:Ex→List Ex| .mk _ _ _ _ _ _ ks=>ks
structure Hd where
 op:Int
 n:Int
 s:ByteArray
 p:Option Addr
 pl:Nat
 pc:Nat
 q:Option Addr
 ql:Nat
 qc:Nat
 o:Bool
 k:Option Addr
 kl:Nat
 kc:Nat
def Hd.vals (h:Hd):Array Value:=#[.int .i64 h.op,.int .i64 h.n,.string h.s,.slice h.p h.pl h.pc,.slice h.q h.ql h.qc,.bool h.o,.slice h.k h.kl h.kc]
def Hd.agg (h:Hd):Value:= .agg #[.int .i64 h.op,.int .i64 h.n,.string h.s,.slice h.p h.pl h.pc,.slice h.q h.ql h.qc,.bool h.o,.slice h.k h.kl h.kc]
structure HdAt (w:World) (b off:Nat) (h:Hd):Prop where
 c0:w.cell? ⟨b,off,none⟩=some (.int .i64 h.op)
 c1:w.cell? ⟨b,off+1,none⟩=some (.int .i64 h.n)
 c2:w.cell? ⟨b,off+2,none⟩=some (.string h.s)
 c3:w.cell? ⟨b,off+3,none⟩=some (.slice h.p h.pl h.pc)
 c4:w.cell? ⟨b,off+4,none⟩=some (.slice h.q h.ql h.qc)
 c5:w.cell? ⟨b,off+5,none⟩=some (.bool h.o)
 c6:w.cell? ⟨b,off+6,none⟩=some (.slice h.k h.kl h.kc)
structure InKs (I:Hd→Ex→Prop) (w:World) (a:Option Addr) (l:Nat) (ks:List Ex):Prop where
 count:ks.length=l
 max:l≤140737488355328
 at_:∀i (h:i<ks.length),∃(b off:Nat) (x:Hd),a=some ⟨b,off,none⟩∧b<w.heap.size∧HdAt w b (off+i*7) x∧I x ks[i]
structure InPs (I:Hd→Ex→Prop) (w:World) (a:Option Addr) (l:Nat) (ps:List (ByteArray×Ex)):Prop where
 count:ps.length=l
 max:l≤140737488355328
 at_:∀i (h:i<ps.length),∃(b off:Nat) (x:Hd),a=some ⟨b,off,none⟩∧b<w.heap.size∧ps[i].1.size≤140737488355328∧w.cell? ⟨b,off+i*8,none⟩=some (.string ps[i].1)∧HdAt w b (off+i*8+1) x∧I x ps[i].2
def InX (w:World):Nat→Hd→Ex→Prop
 |0,_,_=>False
 |n+1,h,.mk op m s path ps o ks=>h.op=op∧h.n=m∧h.s=s∧h.o=o∧s.size≤140737488355328∧Nm.StrRow w h.p h.pl path∧InPs (InX w n) w h.q h.ql ps∧InKs (InX w n) w h.k h.kl ks
theorem HdAt.below {w w':World} {b off:Nat} {h:Hd} (hh:HdAt w b off h) (hb:Below w.heap.size w w') (lt:b<w.heap.size):HdAt w' b off h:=by
 have e:∀i,w'.cell? ⟨b,i,none⟩=w.cell? ⟨b,i,none⟩:=fun i=>hb.cell (p:=⟨b,i,none⟩) lt
 exact ⟨(e _).trans hh.c0,(e _).trans hh.c1,(e _).trans hh.c2,(e _).trans hh.c3,(e _).trans hh.c4,(e _).trans hh.c5,(e _).trans hh.c6⟩
theorem InKs.below {I J:Hd→Ex→Prop} (hIJ:∀h e,I h e→J h e) {w w':World} (hb:Below w.heap.size w w') {a:Option Addr} {l:Nat} {ks:List Ex} (h:InKs I w a l ks):InKs J w' a l ks:=
 ⟨h.count,h.max,fun i hi=>by
  obtain ⟨b,off,x,e,lt,hx,hI⟩:=h.at_ i hi
  exact ⟨b,off,x,e,Nat.lt_of_lt_of_le lt hb.size,hx.below hb lt,hIJ _ _ hI⟩⟩
theorem InPs.below {I J:Hd→Ex→Prop} (hIJ:∀h e,I h e→J h e) {w w':World} (hb:Below w.heap.size w w') {a:Option Addr} {l:Nat} {ps:List (ByteArray×Ex)} (h:InPs I w a l ps):InPs J w' a l ps:=
 ⟨h.count,h.max,fun i hi=>by
  obtain ⟨b,off,x,e,lt,hz,hc,hx,hI⟩:=h.at_ i hi
  exact ⟨b,off,x,e,Nat.lt_of_lt_of_le lt hb.size,hz,(hb.cell (p:=⟨b,off+i*8,none⟩) lt).trans hc,hx.below hb lt,hIJ _ _ hI⟩⟩
theorem InX.below {w w':World} (hb:Below w.heap.size w w'):∀{n:Nat} {h:Hd} {e:Ex},InX w n h e→InX w' n h e
 |0,_,_,h=>h.elim
 |_+1,_,.mk _ _ _ _ _ _ _,⟨h1,h2,h3,h4,hz,h5,h6,h7⟩=>⟨h1,h2,h3,h4,hz,h5.below hb,h6.below (fun _ _ h=>InX.below hb h) hb,h7.below (fun _ _ h=>InX.below hb h) hb⟩
theorem InX.pos {w:World}:∀{n:Nat} {h:Hd} {e:Ex},InX w n h e→∃m,n=m+1
 |0,_,_,h=>h.elim
 |n+1,_,_,_=>⟨n,rfl⟩
def Ex.parts (e:Ex):List Ex:=if e.op=10 then e.ps.map (·.2) else e.ks
def allN:Nat→Ex→List Ex
 |0,_=>[]
 |n+1,e=>e::e.parts.flatMap (allN n)
abbrev HX:=Hd×Ex
def encX (x:HX):Array Value:=#[x.1.agg]
def FitX (w:World) (n:Nat) (x:HX):Prop:=InX w n x.1 x.2
def FitP (w:World) (n:Nat) (L:List Ex) (pre:List HX) (x:HX):Prop:=FitX w n x∧(pre++[x]).map (·.2)<+:L
end Go.Proofs.YtkfihhagcimcmaaGreatDoor
namespace Go.Proofs.YtkfihhagcimcmaaGreatDoor
open Go.RowKit Go.Shelf
attribute [local go_sem] Oper.semAt_some
theorem take_it {α:Type} (l:List α) (i:Nat) (h:i<l.length):l.take (i+1)=l.take i++[l[i]]:=by
 rw [List.take_succ_eq_append_getElem h]
set_option maxRecDepth 100000 in
set_option maxHeartbeats 2000000 in
theorem vals_fit (w0:World) (n be:Nat) (a:Option Addr) (ll c:Nat) (ks:List Ex) (h:InKs (InX w0 n) w0 a ll ks):
  FitSeq Tryz.prog 208 #[.pointer (some ⟨be,0,none⟩)] encX (fun X=>Below w0.heap.size w0 X∧Boxed X be 33 (.slice a ll c)) (FitP w0 n ks) (fun xs=>xs.map (·.2)=ks) (fun pre=>pre.map (·.2)<+:ks):=by
 intro l J Jx W hJ hJx hInv hY h0
 obtain ⟨_,hbox⟩:=hInv _ [] W h0
 have hbl:=hbox.lt
 have hbc:=hbox.cell
 have hl:=h.count
 have hmax:=h.max
 subst hl
 have HJ:=Lib.hid hJ
 have HY:=Lib.hid hY
 have HI:=Lib.hid hInv
 have HK:=Lib.hid h
 clear hJ hJx hY hInv h
 refine (callsIn_wide (n:=9)).1 ?_
 refine callsIn_of_wp Tryz.func208 rfl trivial ?_ rfl
 simp only [Tryz.ntmps208,List.size_toArray,List.length_cons,List.length_nil,Nat.reduceAdd,Nat.reduceSub,Array.replicate_succ,Array.replicate_zero,List.push_toArray,List.append_toArray,List.nil_append,List.cons_append]
 gi_wp2
 gi_loopw [7] (fun x wr=>∃(pre:List HX) (i:Nat),i≤ks.length∧x= .int .i64 i∧pre.map (·.2)=ks.take i∧J none_ pre wr) (fun x _=>ks.length-(intOf x).toNat)
 case atStart=>exact ⟨[],0,Nat.zero_le _,rfl,rfl,h0⟩
 case round=>
  obtain ⟨pre,i,hi,rfl,hpm,hj⟩:=hrel
  rename World=>wr
  obtain ⟨hbw,_⟩:=HI.out _ pre wr hj
  have HJ2:=Lib.hid hj
  have HP:=Lib.hid hpm
  clear hj hpm
  by_cases hlt:i<ks.length
  ·obtain ⟨b,off,x,rfl,lt,hx,hI⟩:=HK.out.at_ i hlt
   have hx2:=HdAt.below hx hbw lt
   have HF:Hid (FitX w0 n (x,ks[i])):=hI
   obtain ⟨op,nn,s,p,pl,pc,q,ql,qc,o,k,kl,kc⟩:=x
   obtain ⟨c0,c1,c2,c3,c4,c5,c6⟩:=hx2
   clear hx hI hbw
   dsimp only at c0 c1 c2 c3 c4 c5 c6
   have HP3:=Lib.hid (show (pre++[((⟨op,nn,s,p,pl,pc,q,ql,qc,o,k,kl,kc⟩,ks[i]):HX)]).map (·.2)=ks.take (i+1) by rw [List.map_append,HP.out,take_it _ i hlt];rfl)
   obtain ⟨fn,tmps,assign,body,hy,hR⟩:=HY.out 8 none_ pre (⟨op,nn,s,p,pl,pc,q,ql,qc,o,k,kl,kc⟩,ks[i]) (wr.alloc (.cells #[.int .i64 op,.int .i64 nn,.string s,.slice p pl pc,.slice q ql qc,.bool o,.slice k kl kc] 35)) (HJ.out.alloc HJ2.out _) ⟨HF.out,by rw [HP3.out];exact List.take_prefix _ _⟩
   dsimp only [encX,Hd.agg] at hy
   gi_wp2
   refine hR.mono ?_
   rintro e W3 (⟨rfl,hJ3,-⟩|⟨rfl,hJx3,-⟩)
   ·have HJ4:=Lib.hid hJ3
    clear hy hR hJ3
    gi_wp2
    go_roundw
    case rel=>exact ⟨_,i+1,by omega,by go_num,HP3.out,HJ4.out⟩
    case measure=>simp [intOf];omega
   ·have HJ4:=Lib.hid hJx3
    clear hy hR hJx3
    gi_wp2
    refine bodyPost_ret (results_none rfl _ _ _) rfl ?_
    exact ⟨⟨_,rfl⟩,.inr ⟨_,by rw [HP3.out];exact List.take_prefix _ _,HJ4.out⟩⟩
  ·obtain rfl:i=ks.length:=by omega
   gi_wp2
   go_end0
   exact ⟨⟨_,rfl⟩,.inl ⟨pre,by rw [HP.out,List.take_length],HJ2.out⟩⟩
end Go.Proofs.YtkfihhagcimcmaaGreatDoor
namespace Go.Proofs.YtkfihhagcimcmaaGreatDoor
open Go.RowKit Go.Shelf
attribute [local go_sem] Oper.semAt_some
def BoxH (X:World) (b:Nat) (h:Hd):Prop:=X.heap[b]?=some (.cells h.vals 35)
theorem BoxH.lt {X:World} {b:Nat} {h:Hd} (hb:BoxH X b h):b<X.heap.size:=(Array.getElem?_eq_some_iff.1 hb).1
theorem BoxH.cells {X:World} {b:Nat} {h:Hd} (hb:BoxH X b h):HdAt X b 0 h:=by
 unfold BoxH at hb
 constructor<;>simp [World.cell?,hb,Hd.vals]
set_option maxRecDepth 100000 in
set_option maxHeartbeats 2000000 in
theorem pairs_fit (w0:World) (n be:Nat) (hd:Hd) (ps:List (ByteArray×Ex)) (h:InPs (InX w0 n) w0 hd.q hd.ql ps):
  FitSeq Tryz.prog 179 #[.pointer (some ⟨be,0,none⟩)] encX (fun X=>Below w0.heap.size w0 X∧BoxH X be hd) (FitP w0 n (ps.map (·.2))) (fun xs=>xs.map (·.2)=ps.map (·.2)) (fun pre=>pre.map (·.2)<+:ps.map (·.2)):=by
 intro l J Jx W hJ hJx hInv hY h0
 obtain ⟨_,hbox⟩:=hInv _ [] W h0
 have hbl:=hbox.lt
 have hbc:=hbox.cells.c4
 obtain ⟨hop,hn,hs,hp,hpl,hpc,a,ll,c,ho,hk,hkl,hkc⟩:=hd
 dsimp only at hbc h
 simp only [Nat.zero_add] at hbc
 have hl:=h.count
 have hmax:=h.max
 subst hl
 have HJ:=Lib.hid hJ
 have HY:=Lib.hid hY
 have HI:=Lib.hid hInv
 have HK:=Lib.hid h
 clear hJ hJx hY hInv h hbox
 refine (callsIn_wide (n:=9)).1 ?_
 refine callsIn_of_wp Tryz.func179 rfl trivial ?_ rfl
 simp only [Tryz.ntmps179,List.size_toArray,List.length_cons,List.length_nil,Nat.reduceAdd,Nat.reduceSub,Array.replicate_succ,Array.replicate_zero,List.push_toArray,List.append_toArray,List.nil_append,List.cons_append]
 gi_wp2
 gi_loopw [8] (fun x wr=>∃(pre:List HX) (i:Nat),i≤ps.length∧x= .int .i64 i∧pre.map (·.2)=(ps.map (·.2)).take i∧J none_ pre wr) (fun x _=>ps.length-(intOf x).toNat)
 case atStart=>exact ⟨[],0,Nat.zero_le _,rfl,rfl,h0⟩
 case round=>
  obtain ⟨pre,i,hi,rfl,hpm,hj⟩:=hrel
  rename World=>wr
  obtain ⟨hbw,_⟩:=HI.out _ pre wr hj
  have HJ2:=Lib.hid hj
  have HP:=Lib.hid hpm
  clear hj hpm
  by_cases hlt:i<ps.length
  ·obtain ⟨b,off,x,rfl,lt,hz,hc,hx,hI⟩:=HK.out.at_ i hlt
   have hx2:=HdAt.below hx hbw lt
   have hc2:=(hbw.cell (p:=⟨b,off+i*8,none⟩) lt).trans hc
   generalize hnm:(ps[i]).1=nm at hc2
   have HF:Hid (FitX w0 n (x,ps[i].2)):=hI
   obtain ⟨op,nn,s,p,pl,pc,q,ql,qc,o,k,kl,kc⟩:=x
   obtain ⟨c0,c1,c2,c3,c4,c5,c6⟩:=hx2
   clear hx hI hbw hnm hc hz
   dsimp only at c0 c1 c2 c3 c4 c5 c6
   have HT:=Lib.hid (show (pre++[((⟨op,nn,s,p,pl,pc,q,ql,qc,o,k,kl,kc⟩,ps[i].2):HX)]).map (·.2)=(ps.map (·.2)).take (i+1) by rw [List.map_append,HP.out,take_it _ i (by simpa using hlt)];simp)
   obtain ⟨fn,tmps,assign,body,hy,hR⟩:=HY.out 8 none_ pre (⟨op,nn,s,p,pl,pc,q,ql,qc,o,k,kl,kc⟩,ps[i].2) (wr.alloc (.cells #[.string nm,.int .i64 op,.int .i64 nn,.string s,.slice p pl pc,.slice q ql qc,.bool o,.slice k kl kc] 109)) (HJ.out.alloc HJ2.out _) ⟨HF.out,by rw [HT.out];exact List.take_prefix _ _⟩
   dsimp only [encX,Hd.agg] at hy
   gi_wp2
   refine hR.mono ?_
   rintro e W3 (⟨rfl,hJ3,-⟩|⟨rfl,hJx3,-⟩)
   ·have HJ4:=Lib.hid hJ3
    clear hy hR hJ3
    gi_wp2
    go_roundw
    case rel=>exact ⟨_,i+1,by omega,by go_num,HT.out,HJ4.out⟩
    case measure=>simp [intOf];omega
   ·have HJ4:=Lib.hid hJx3
    clear hy hR hJx3
    gi_wp2
    refine bodyPost_ret (results_none rfl _ _ _) rfl ?_
    exact ⟨⟨_,rfl⟩,.inr ⟨_,by rw [HT.out];exact List.take_prefix _ _,HJ4.out⟩⟩
  ·obtain rfl:i=ps.length:=by omega
   gi_wp2
   go_end0
   exact ⟨⟨_,rfl⟩,.inl ⟨pre,by rw [HP.out];exact List.take_of_length_le (by simp),HJ2.out⟩⟩
end Go.Proofs.YtkfihhagcimcmaaGreatDoor
namespace Go.Proofs.YtkfihhagcimcmaaGreatDoor
open Go.RowKit Go.Shelf
theorem grown_below {w X:World} (h:Below w.heap.size w X):w.grownBy X none:=⟨h.os,h.tape,h.output,h.size,fun i hi _=>h.block i hi⟩
theorem heap_new1 (w:World) (o o2:Obj):((w.alloc o).alloc o2).heap[w.heap.size+1]?=some o2:=by
 have:=World.alloc_heap_new (w.alloc o) o2
 rwa [World.size_alloc] at this
theorem below_alloc {w X:World} (h:Below w.heap.size w X) (o:Obj):Below w.heap.size w (X.alloc o):=h.alloc h.size o
theorem below_step {w X Y:World} (h:Below w.heap.size w X) (k:Below X.heap.size X Y):Below w.heap.size w Y:=h.trans (k.mono h.size)
set_option maxHeartbeats 400000 in
theorem values_any (a:Option Addr) (l c:Nat) (w:World):Calls Tryz.prog 178 #[.slice a l c] w fun e w'=>e= .returned (.func (.func 208) #[] #[.pointer (some ⟨w.heap.size,0,none⟩)])∧w'=w.alloc (.cells #[.slice a l c] 33):=by
 go_enter Tryz.func178,Tryz.ntmps178
 go_wp2
 go_ret
 exact ⟨rfl,rfl⟩
def PartsPost (w0:World) (n:Nat) (x:Ex) (w:World) (e:Ending) (w':World):Prop:=∃(gf be:Nat) (ob:Obj),e= .returned (.func (.func gf) #[] #[.pointer (some ⟨be,0,none⟩)])∧w.heap.size≤be∧w'.heap[be]?=some ob∧
 Below w.heap.size w w'∧(∀args W,(callFunc gf args).run Tryz.prog W= .ok (.enter gf args) W)∧
 FitSeq Tryz.prog gf #[.pointer (some ⟨be,0,none⟩)] encX (fun X=>Below w0.heap.size w0 X∧X.heap[be]?=some ob) (FitP w0 n x.parts) (fun xs=>xs.map (·.2)=x.parts) (fun pre=>pre.map (·.2)<+:x.parts)
set_option maxHeartbeats 1000000 in
theorem parts_any (w0:World) (n:Nat) (h:Hd) (x:Ex) (w:World) (hx:InX w0 (n+1) h x):Calls Tryz.prog 148 #[h.agg] w (PartsPost w0 n x w):=by
 obtain ⟨xop,xn,xs,xpath,xps,xo,xks⟩:=x
 have hV:=fun a l c W=>Lib.hid (values_any a l c W)
 obtain ⟨op,nn,s,p,pl,pc,q,ql,qc,o,k,kl,kc⟩:=h
 obtain ⟨rfl,rfl,rfl,rfl,_,_,hps,hks⟩:=hx
 dsimp only at hps hks
 have HP:=Lib.hid (pairs_fit w0 n w.heap.size ⟨op,nn,s,p,pl,pc,q,ql,qc,o,k,kl,kc⟩ xps hps)
 have HK:=Lib.hid (vals_fit w0 n (w.heap.size+1) k kl kc xks hks)
 clear hps hks
 unfold Hd.agg
 by_cases h10:op=10
 ·subst h10
  go_enter Tryz.func148,Tryz.ntmps148
  go_wp2_with fail
  go_ret
  refine ⟨179,w.heap.size,_,rfl,Nat.le_refl _,World.alloc_heap_new w _,below_alloc (Below.refl _ _) _,enters_of Tryz.func179 (by kernel_rfl) rfl,HP.out⟩
 ·have e1:(op==10)=false:=by simpa using h10
  have e2:(op !=10)=true:=by simpa using h10
  have H10:=Lib.hid h10
  clear h10
  go_enter Tryz.func148,Tryz.ntmps148
  go_wp2_with (go_at_call 178;refine (hV _ _ _ _).out.mono ?_;rintro e w' ⟨rfl,rfl⟩)
  go_ret
  refine ⟨208,w.heap.size+1,_,by simp,by omega,heap_new1 _ _ _,below_alloc (below_alloc (Below.refl _ _) _) _,enters_of Tryz.func208 (by kernel_rfl) rfl,?_⟩
  have e3:(Ex.mk op nn s xpath xps o xks).parts=xks:=if_neg H10.out
  rw [e3];exact HK.out
end Go.Proofs.YtkfihhagcimcmaaGreatDoor
