/- Px, Py, Pz -/
import Derived.Test.YtkfihhagcimcmaaGreatDoorChecked
import Derived.Test.YtkfihhagcimcmaaGreatDoorProg
import Derived.Test.YtkfihhagcimcmaaGreatDoorY1
import Derived.Test.YtkfihhagcimcmaaGreatDoorYax
namespace Go.Proofs.YtkfihhagcimcmaaGreatDoor.Ps
open Go.RowKit
open Lx (bl_alloc)
theorem assert151 (a e:Int) (w:World):(Instr.typeAssert (fv a e) 20 151 true).run Tryz.prog w= .ok (.tuple #[.agg #[.int .i64 a,.int .i64 e],.bool true]) w:=by kernel_rfl
theorem assertNil (w:World):(Instr.typeAssert .nilIface 20 151 true).run Tryz.prog w= .ok (.tuple #[.agg #[.int .i64 0,.int .i64 0],.bool false]) w:=by kernel_rfl
set_option maxRecDepth 100000 in
set_option maxHeartbeats 2000000 in
theorem catch_fault (w:World) (r s:Nat) (x y at_ e0:Int) (hrs:r≠s) (hr:Bx w r #[.int .i64 x] 3) (hs:Bx w s #[.int .i64 y] 24):CallsD Tryz.prog 95 #[.pointer (some ⟨r,0,none⟩),.pointer (some ⟨s,0,none⟩)] (.panicking [{v:=fv at_ e0,recovered:=false}]) w fun e u' w'=>e= .returned (.tuple #[])∧u'= .panicking [{v:=fv at_ e0,recovered:=true}]∧Bx w' r #[.int .i64 at_] 3∧Bx w' s #[.int .i64 e0] 24∧∀N,N≤r→N≤s→Below N w w':=by
 have H1:=assert151
 unfold fv at*
 refine callsD_of_wpS Tryz.func95 rfl fun c₀ cs hu=>?_
 apply wpS_seq
 apply wpS_region
 simp [wpOpsS,go_sem,recoverD,hu,Tryz.ntmps95,Exit.thenS]
 apply wpS_seq
 apply wpS_region
 simp [wpOpsS,go_sem,Exit.thenS,H1]
 apply wpS_seq
 apply wpS_region
 simp [wpOpsS,go_sem,Exit.thenS]
 refine wpS_cond (t:=true) (by simp [Act.eval,Array.replicate]) ?_
 simp only [if_true]
 refine wpS_of_wp ?_
 obtain ⟨W0,hW0⟩:∃W0:World,W0=w.alloc (.cells #[.int .i64 at_,.int .i64 e0] 151):=⟨_,rfl⟩
 have hb0:Below w.heap.size w W0:=by rw [hW0];exact bl_alloc (Below.refl _ _)
 have B0:Bx W0 w.heap.size #[.int .i64 at_,.int .i64 e0] 151:=by rw [hW0];exact Bx.new w _ _
 rw [←hW0]
 clear hW0 H1
 refine wp_region_held (S:=fun _=>True) (by kernel_rfl) ?_
 obtain ⟨wd,hwd⟩:∃wd:World,wd={W0 with drawn:=W0.drawn+1}:=⟨_,rfl⟩
 have hbd:Below W0.heap.size W0 wd:=by rw [hwd];exact (Below.refl _ W0).drew
 rw [←hwd]
 clear hwd
 have hrl:=hr.lt
 have hzr:w.heap.size≠r:=fun e=>by have:=hr.lt;omega
 have hzs:w.heap.size≠s:=fun e=>by have:=hs.lt;omega
 have hB:Below w.heap.size w wd:=hb0.trans (hbd.mono hb0.size)
 have B1:=B0.below hbd
 have R1:=hr.below hB
 have S1:=hs.below hB
 have B2:=B1.other (i:=0) (v:= .int .i64 at_) hzr
 have R2:=R1.set (i:=0) (v:= .int .i64 at_)
 have S2:=S1.other (i:=0) (v:= .int .i64 at_) (fun e=>hrs e.symm)
 have R3:=R2.other (i:=0) (v:= .int .i64 e0) hrs
 have S3:=S2.set (i:=0) (v:= .int .i64 e0)
 have a10:=B1.cell 0 rfl
 have a11:=B1.cell 1 rfl
 have a20:=B2.cell 0 rfl
 have a21:=B2.cell 1 rfl
 have f1:=R1.fz 0
 have f2:=S2.fz 0
 have c1:=R1.cell 0 rfl
 have c2:=S2.cell 0 rfl
 have hEnd:∀N,N≤r→N≤s→Below N w ((wd.setCell ⟨r,0,none⟩ (.int .i64 at_)).setCell ⟨s,0,none⟩ (.int .i64 e0)):=fun N h1 h2=>by
  have hBN:Below N w wd:=hB.mono (by omega)
  exact (hBN.setCell (p:=⟨r,0,none⟩) h1 _).setCell (p:=⟨s,0,none⟩) h2 _
 simp only [List.setIfInBounds_toArray,List.set_cons_zero] at R3 S3
 clear B0 hb0 hbd B1 R1 S1 B2 R2 S2 hB hr hs
 simp [Array.replicate,List.replicate]
 refine take_at' (i:=0) 12 (v:= .pointer (some ⟨w.heap.size,0,none⟩)) rfl rfl (by kernel_rfl) (by kernel_rfl) (by kernel_rfl) (fun _ _ _ h=>h) (Or.inl ⟨by rfl,fun w' _=>by go_simp⟩) trivial ?_
 refine take_at' (i:=2) 14 (v:= .pointer (some ⟨w.heap.size,1,none⟩)) rfl rfl (by kernel_rfl) (by kernel_rfl) (by kernel_rfl) (fun _ _ _ h=>h) (Or.inl ⟨by rfl,fun w' _=>by go_simp⟩) trivial ?_
 simp only [List.setIfInBounds_toArray,List.set_cons_succ,List.set_cons_zero]
 refine wpAnyH_all (rs:=[1,3]) (by kernel_rfl) (by simp) ?_
 intro i hi
 have hi2:i=1∨i=3:=by simpa using hi
 rcases hi2 with rfl|rfl
 ·refine value_at 13 (v:= .int .i64 at_) (w':=wd) rfl rfl rfl (by go_simp) ⟨trivial,?_⟩
  simp only [List.setIfInBounds_toArray,List.set_cons_succ,List.set_cons_zero]
  refine wpAnyH_all (rs:=[3,4]) (by kernel_rfl) (by simp) ?_
  intro i hi
  have hi2:i=3∨i=4:=by simpa using hi
  rcases hi2 with rfl|rfl
  ·refine value_at 15 (v:= .int .i64 e0) (w':=wd) rfl rfl rfl (by go_simp) ⟨trivial,?_⟩
   simp only [List.setIfInBounds_toArray,List.set_cons_succ,List.set_cons_zero]
   refine wpAnyH_all (rs:=[4]) (by kernel_rfl) (by simp) ?_
   intro i hi
   obtain rfl:i=4:=by simpa using hi
   refine skip_at (w':=wd.setCell ⟨r,0,none⟩ (.int .i64 at_)) rfl rfl rfl (by go_simp) ⟨trivial,?_⟩
   simp only [List.setIfInBounds_toArray,List.set_cons_succ,List.set_cons_zero]
   refine wpAnyH_all (rs:=[5]) (by kernel_rfl) (by simp) ?_
   intro i hi
   obtain rfl:i=5:=by simpa using hi
   refine skip_at (w':=((wd.setCell ⟨r,0,none⟩ (.int .i64 at_)).setCell ⟨s,0,none⟩ (.int .i64 e0))) rfl rfl rfl (by go_simp) ⟨trivial,?_⟩
   refine wpAnyH_done (by kernel_rfl) ?_ _
   cases c₀
   simp_all [bodyPostS,results,Tryz.results95]
  ·refine skip_at (w':=wd.setCell ⟨r,0,none⟩ (.int .i64 at_)) rfl rfl rfl (by go_simp) ⟨trivial,?_⟩
   simp only [List.setIfInBounds_toArray,List.set_cons_succ,List.set_cons_zero]
   refine wpAnyH_all (rs:=[3]) (by kernel_rfl) (by simp) ?_
   intro i hi
   obtain rfl:i=3:=by simpa using hi
   refine value_at 15 (v:= .int .i64 e0) (w':=(wd.setCell ⟨r,0,none⟩ (.int .i64 at_))) rfl rfl rfl (by go_simp) ⟨trivial,?_⟩
   simp only [List.setIfInBounds_toArray,List.set_cons_succ,List.set_cons_zero]
   refine wpAnyH_all (rs:=[5]) (by kernel_rfl) (by simp) ?_
   intro i hi
   obtain rfl:i=5:=by simpa using hi
   refine skip_at (w':=((wd.setCell ⟨r,0,none⟩ (.int .i64 at_)).setCell ⟨s,0,none⟩ (.int .i64 e0))) rfl rfl rfl (by go_simp) ⟨trivial,?_⟩
   refine wpAnyH_done (by kernel_rfl) ?_ _
   cases c₀
   simp_all [bodyPostS,results,Tryz.results95]
 ·refine value_at 15 (v:= .int .i64 e0) (w':=wd) rfl rfl rfl (by go_simp) ⟨trivial,?_⟩
  simp only [List.setIfInBounds_toArray,List.set_cons_succ,List.set_cons_zero]
  refine wpAnyH_all (rs:=[1]) (by kernel_rfl) (by simp) ?_
  intro i hi
  obtain rfl:i=1:=by simpa using hi
  refine value_at 13 (v:= .int .i64 at_) (w':=wd) rfl rfl rfl (by go_simp) ⟨trivial,?_⟩
  simp only [List.setIfInBounds_toArray,List.set_cons_succ,List.set_cons_zero]
  refine wpAnyH_all (rs:=[4]) (by kernel_rfl) (by simp) ?_
  intro i hi
  obtain rfl:i=4:=by simpa using hi
  refine skip_at (w':=wd.setCell ⟨r,0,none⟩ (.int .i64 at_)) rfl rfl rfl (by go_simp) ⟨trivial,?_⟩
  simp only [List.setIfInBounds_toArray,List.set_cons_succ,List.set_cons_zero]
  refine wpAnyH_all (rs:=[5]) (by kernel_rfl) (by simp) ?_
  intro i hi
  obtain rfl:i=5:=by simpa using hi
  refine skip_at (w':=((wd.setCell ⟨r,0,none⟩ (.int .i64 at_)).setCell ⟨s,0,none⟩ (.int .i64 e0))) rfl rfl rfl (by go_simp) ⟨trivial,?_⟩
  refine wpAnyH_done (by kernel_rfl) ?_ _
  cases c₀
  simp_all [bodyPostS,results,Tryz.results95]
set_option maxRecDepth 100000 in
set_option maxHeartbeats 2000000 in
theorem catch_idle (w:World) (r s:Nat):CallsD Tryz.prog 95 #[.pointer (some ⟨r,0,none⟩),.pointer (some ⟨s,0,none⟩)] .returning w fun e u' w'=>e= .returned (.tuple #[])∧u'= .returning∧Below w.heap.size w w':=by
 have H1:=assertNil
 have hn:∀W:World,(binOp .neq 20 .nilIface .nilIface).run Tryz.prog W= .ok (.bool false) W:=fun W=>by kernel_rfl
 have hb0:=bl_alloc (o:= .cells #[.int .i64 0,.int .i64 0] 151) (Below.refl w.heap.size w)
 refine callsD_of_wpS Tryz.func95 rfl fun c₀ cs hu=>?_
 apply wpS_seq
 apply wpS_region
 simp [wpOpsS,go_sem,recoverD,hu,Tryz.ntmps95,Exit.thenS]
 apply wpS_seq
 apply wpS_region
 simp [wpOpsS,go_sem,Exit.thenS,H1]
 apply wpS_seq
 apply wpS_region
 simp [wpOpsS,go_sem,Exit.thenS]
 refine wpS_cond (t:=false) (by simp [Act.eval,Array.replicate]) ?_
 simp only [Bool.false_eq_true,if_false]
 apply wpS_seq
 apply wpS_region
 simp [wpOpsS,go_sem,Exit.thenS,hn]
 refine wpS_cond (t:=false) (by simp [Act.eval,Array.replicate]) ?_
 simp only [Bool.false_eq_true,if_false]
 refine wpS_of_wp (wp_skip ?_)
 cases c₀
 simp_all [bodyPostS,results,Tryz.results95]
end Go.Proofs.YtkfihhagcimcmaaGreatDoor.Ps
namespace Go.Proofs.YtkfihhagcimcmaaGreatDoor.Lx
open Go.RowKit
theorem trow_own_q {w:World} {base n:Nat} {E:TypeId} {v:Value} {L:List Tok} (h:w.ownsRow base E 4 v n (encs L)) (hn:n=L.length):∃a cap,v= .slice a n cap∧TRow w a L∧L.length≤cap∧∀b off,a=some ⟨b,off,none⟩→b<w.heap.size:=by
 obtain ⟨a,cap,hv,hT⟩:=trow_own h hn
 refine ⟨a,cap,hv,hT,?_⟩
 rcases h.2 with ⟨e,hn0⟩|⟨g,cap2,cur,e,hb,hg,hcap,hm,hsz,htake⟩
 ·rw [hv] at e;cases e;exact ⟨by omega,fun b off e=>by cases e⟩
 ·rw [hv] at e;cases e;exact ⟨by omega,fun b off e=>by cases e;exact (Array.getElem?_eq_some_iff.1 hg).1⟩
def LexQ (R:List Tok×Nat×Int) (w:World) (e:Ending) (w':World):Prop:=∃a cap,e= .returned (.tuple #[.slice a R.1.length cap,.int .i64 (R.2.1:Int),.int .i64 R.2.2])∧TRow w' a R.1∧R.1.length≤cap∧(∀b off,a=some ⟨b,off,none⟩→b<w'.heap.size)∧Below w.heap.size w w'
set_option maxRecDepth 100000 in
set_option maxHeartbeats 4000000 in
theorem lexq_any (s:ByteArray) (w:World) (hE:Ent w) (hs:s.size≤4096):Calls Tryz.prog 94 #[.string s] w (LexQ (lexL s.toList) w):=by
 obtain ⟨R,hR⟩:∃R,lexL s.toList=R:=⟨_,rfl⟩
 have HX:Hid (LxAt s R 0 []):=Lib.hid (by rw [←hR];exact LxAt.first)
 rw [hR]
 clear hR
 have HE:=Lib.hid hE
 clear hE
 obtain ⟨i0,hi,hz0,hz1,hz2⟩:=info_parts Tryz.info155
 have HI:=Lib.hid hi
 have HZ0:=Lib.hid hz0
 have HZ1:=Lib.hid hz1
 have HZ2:=Lib.hid hz2
 clear hi hz0 hz1 hz2
 go_enter Tryz.func94,Tryz.ntmps94
 go_wp2_with fail
 go_loopw [2,3] (fun v i wr=>∃(k:Nat) (acc:List Tok) (a:Option Addr) (cp:Nat),k≤s.size∧i= .int .i64 k∧acc.length≤k∧v= .slice a acc.length cp∧Hid (wr.ownsRow w.heap.size 155 4 (.slice a acc.length cp) acc.length (encs acc))∧Hid (LxAt s R k acc)∧Hid (Below (w.heap.size) w wr)) (fun _ i _=>s.size-(intOf i).toNat)
 case atStart=>exact ⟨0,[],none,0,by omega,rfl,by decide,rfl,Lib.hid (World.ownsRow_nil _ _ _ _),HX,Lib.hid (Below.refl _ _)⟩
 case round=>
  obtain ⟨k,acc,a,cp,hk,rfl,hak,rfl,hO,hX,hB⟩:=hrel
  rename World=>wr
  obtain ⟨⟨E,⟨⟨tk,tn,tt⟩,ta⟩,z⟩,hr⟩:∃r,nextL s.toList k=r:=⟨_,rfl⟩
  have HR:Hid (nextL s.toList k=(E,⟨⟨tk,tn,(bs tt).toList⟩,ta⟩,z)):=Lib.hid (by rw [bs_list];exact hr)
  by_cases hE0:E=0
  ·subst hE0
   by_cases hk0:tk=0
   ·subst hk0
    have HRR:=Lib.hid (hX.out.end_ hr rfl rfl)
    clear hr
    go_wp2_with (go_at_call 140;((with_reducible refine (next_as s k 0 0 tn ta (bs tt) z _ (HE.out.below hB.out) (by omega) hk HR).mono ?_);rintro e w1 ⟨rfl,hb⟩;have HO:=Lib.hid (owns_below hO.out hb);have HB:=Lib.hid (bl_step hB.out hb);clear hb))
    obtain ⟨a',c',e1,hT,hc1,hl1⟩:=trow_own_q HO.out rfl
    cases e1
    go_ret3
    rw [HRR.out]
    exact ⟨a,cp,rfl,hT.below (bl_alloc (Below.refl _ _)),hc1,fun b off e=>by have:=hl1 b off e;simp;omega,bl_alloc HB.out⟩
   ·have hk1:(tk==0)=false:=by simpa using hk0
    obtain ⟨s1,s2,s3⟩:=hX.out.step hr hk rfl hk0
    have HXS:=Lib.hid s3
    have HU:=Lib.hid (encs_app acc ⟨⟨tk,tn,tt⟩,ta⟩)
    have HLL:Hid ((acc++[(⟨⟨tk,tn,tt⟩,ta⟩:Tok)]).length=acc.length+1):=Lib.hid (by rw [List.length_append];rfl)
    have hacc:acc.length≤4096:=by omega
    clear hr hk0 s3
    generalize hL:acc.length=m at*
    have HL:=Lib.hid hL
    clear hL
    go_wp2_with (first|(go_at_call 140;((with_reducible refine (next_as s k 0 tk tn ta (bs tt) z _ (HE.out.below hB.out) (by omega) hk HR).mono ?_);rintro e w1 ⟨rfl,hb⟩;have HO:=Lib.hid (owns_below hO.out (bl_alloc (o:= .cells #[.int .i64 tk,.int .i64 tn,.string (bs tt),.int .i64 ta] 155) hb));have HB:=Lib.hid (bl_step hB.out hb);clear hb))|(at_builtin;refine wpList_append_own _ rfl _ _ 147 rfl w.heap.size 155 i0 (.agg #[.int .i64 0,.int .i64 0,.string ByteArray.empty,.int .i64 0]) 4 40 Tryz.underlying147 HI.out HZ0.out HZ1.out HZ2.out rfl (by decide) _ _ _ rfl (HO.out.alloc _) ⟨w1.heap.size+1,0,none⟩ 1 1 [.int .i64 tk,.int .i64 tn,.string (bs tt),.int .i64 ta] rfl rfl ?q2 ?q3 (by unfold maxLen;omega) (by omega) ?q5 ?_))
    case q2=>
     intro i u hu
     have e:(w1.alloc (.cells #[.int .i64 tk,.int .i64 tn,.string (bs tt),.int .i64 ta] 155)).heap.size=w1.heap.size+1:=by simp
     rw [←e]
     exact new4 _ hu
    case q3=>
     intro u hu
     simp only [List.mem_cons,List.not_mem_nil,or_false] at hu
     rcases hu with rfl|rfl|rfl|rfl<;>rfl
    case q5=>have:=HB.out.size;simp;omega
    intro v' w4 hown' hgrow4 hnil4
    have hOW:w4.ownsRow w.heap.size 155 4 v' (m+1) (encs (acc++[⟨⟨tk,tn,tt⟩,ta⟩])):=by rw [HU.out];exact hown'
    have hB4:=(bl_alloc (bl_alloc HB.out)).grown hgrow4 (by have:=HB.out.size;simp;omega) (own_base HO.out)
    obtain ⟨a',c',e1,hT⟩:=trow_own hOW HLL.out.symm
    subst e1
    have HOW:=Lib.hid hOW
    have HB4:=Lib.hid hB4
    clear hOW hB4 hT hown' hgrow4 hnil4
    go_wp2_with fail
    go_roundw
    case rel=>exact ⟨z,acc++[⟨⟨tk,tn,tt⟩,ta⟩],a',c',s2,rfl,by rw [HLL.out];omega,by rw [HLL.out],by rw [HLL.out];exact HOW,HXS,HB4⟩
    case measure=>simp [intOf];omega
  ·have hE1:(E !=0)=true:=by simpa using hE0
   have HRR:=Lib.hid (hX.out.bad hr hE0)
   clear hr hE0
   go_wp2_with (go_at_call 140;((with_reducible refine (next_as s k E tk tn ta (bs tt) z _ (HE.out.below hB.out) (by omega) hk HR).mono ?_);rintro e w1 ⟨rfl,hb⟩;have HB:=Lib.hid (bl_step hB.out hb);clear hb))
   go_ret3
   rw [HRR.out]
   exact ⟨none,0,rfl,fun j hj=>absurd hj (Nat.not_lt_zero _),Nat.le_refl _,(fun b off e=>nomatch e),bl_alloc HB.out⟩
end Go.Proofs.YtkfihhagcimcmaaGreatDoor.Lx
namespace Go.Proofs.YtkfihhagcimcmaaGreatDoor.Ps
open Go.RowKit
open Lx (Tok Tk firstL nextL lexF lexL numberL wordL textL signR signL signsL)
theorem readV_in (D:List UInt8): -9007199254740992≤Nu.readV false D∧Nu.readV false D≤9007199254740992:=by
 unfold Nu.readV
 cases Nu.formOk false D
 ·simp
 ·simp only [cond_true]
  split
  ·simp
  ·unfold Nu.outV
   cases h:Nu.inB (Nu.sgnV false (Nu.vr D))
   ·simp
   ·simpa using Nu.inB_yes h
structure TkOk (t:Tk):Prop where
 k:t.k≠0
 lo: -9007199254740992≤t.n
 hi:t.n≤9007199254740992
 len:t.t.length≤4096
 txt:t.k=3→t.t.length≤256
theorem sign_short (l:List UInt8):(signL l).length≤3:=by
 unfold signL
 cases h:signsL.find? fun w=>w.isPrefixOf l with
 |none=>simp
 |some w=>
  have hall:∀w∈signsL,w.length≤3:=by decide
  exact hall w (List.mem_of_find?_eq_some h)
theorem tk_ok {k:Int} {t:List UInt8} (hk:k≠0) (hl:t.length≤4096) (ht:k=3→t.length≤256):TkOk ⟨k,0,t⟩:=⟨hk,(by decide:(-9007199254740992:Int)≤0),(by decide:(0:Int)≤9007199254740992),hl,ht⟩
theorem first_ok {l:List UInt8} (hl:l.length≤4096) (h:(firstL l).1=0):TkOk (firstL l).2.1:=by
 cases l with
 |nil=>exact absurd h (by decide)
 |cons c M=>
  rw [Lx.firstL_cons] at h⊢
  split at h
  ·rename_i hd
   rw [if_pos hd]
   exact ⟨(by decide:(1:Int)≠0),(readV_in _).1,(readV_in _).2,by simp [numberL],by simp [numberL]⟩
  ·rename_i hd
   rw [if_neg hd]
   split at h
   ·rename_i hw
    rw [if_pos hw]
    unfold wordL at h⊢
    dsimp only at h⊢
    split at h
    ·rename_i hr
     rw [if_pos hr]
     exact tk_ok (by decide) (by rw [List.length_take];exact Nat.le_trans (Nat.min_le_right _ _) hl) (fun e=>absurd e (by decide))
    ·exact absurd h (by decide)
   ·rename_i hw
    rw [if_neg hw]
    split at h
    ·rename_i hq
     rw [if_pos hq]
     unfold textL at h⊢
     cases hx:Lx.txF ((c::M).length+1) ((c::M).drop 1) [] 1 with
     |none=>rw [hx] at h;exact absurd h (by decide)
     |some r=>
      obtain ⟨t,k⟩:=r
      rw [hx] at h
      dsimp only at h⊢
      split at h
      ·exact absurd h (by decide)
      ·rename_i h256
       rw [if_neg h256]
       exact tk_ok (by decide) (by omega) (fun _=>by omega)
    ·rename_i hq
     rw [if_neg hq]
     unfold signR at h⊢
     split at h
     ·exact absurd h (by decide)
     ·rename_i hs
      rw [if_neg hs]
      exact tk_ok (by decide) (by have:=sign_short (c::M);omega) (fun e=>absurd e (by decide))
theorem next_ok {L:List UInt8} {p:Nat} (hL:L.length≤4096) (h:(nextL L p).1=0) (hk:(nextL L p).2.1.x.k≠0):TokOk (nextL L p).2.1:=by
 unfold nextL at h hk⊢
 dsimp only at h hk⊢
 split at h
 ·rename_i hq
  rw [if_pos hq] at hk
  exact absurd rfl hk
 ·rename_i hq
  rw [if_neg hq] at hk⊢
  split at h
  ·rename_i h0
   rw [if_pos h0] at hk⊢
   have:=first_ok (l:=L.drop (p+Lx.skN false (L.drop p))) (by rw [List.length_drop];omega) h0
   exact ⟨this.k,this.lo,this.hi,this.len,this.txt⟩
  ·rename_i h0
   exact absurd h h0
theorem lexF_ok {L:List UInt8} (hL:L.length≤4096):∀(f p:Nat) (acc:List Tok),OkL acc→OkL (lexF f L p acc).1
 |0,_,_,_=>fun t ht=>by cases ht
 |f+1,p,acc,h=>by
  unfold lexF
  split
  ·exact fun t ht=>by cases ht
  ·rename_i h0
   split
   ·exact h
   ·rename_i hk
    refine lexF_ok hL f _ _ fun t ht=>?_
    rcases List.mem_append.1 ht with ht|ht
    ·exact h t ht
    ·rw [List.mem_singleton.1 ht]
     exact next_ok hL (by simpa using h0) hk
theorem lex_ok {L:List UInt8} (hL:L.length≤4096):OkL (lexL L).1:=lexF_ok hL _ _ _ fun t ht=>by cases ht
end Go.Proofs.YtkfihhagcimcmaaGreatDoor.Ps
