/- Qv, Qw -/
import Derived.Test.YtkfihhagcimcmaaGreatDoorYbf
import Derived.Test.YtkfihhagcimcmaaGreatDoorChecked
import Derived.Test.YtkfihhagcimcmaaGreatDoorProg
import Derived.Test.YtkfihhagcimcmaaGreatDoorY1
import Derived.Test.YtkfihhagcimcmaaGreatDoorYbr
namespace Go.Proofs.YtkfihhagcimcmaaGreatDoor.Ps
open Go.RowKit
open Lx (Tok TRow bl_alloc bl_step lexL)
theorem lexF_len {L:List UInt8}:∀(f p:Nat) (acc:List Tok),acc.length≤p→p≤L.length→(Lx.lexF f L p acc).1.length≤L.length
 |0,_,_,_,_=>Nat.zero_le _
 |f+1,p,acc,ha,hp=>by
  have hle:=Lx.nextL_le (L:=L) (p:=p) hp
  unfold Lx.lexF
  split
  ·exact Nat.zero_le _
  ·rename_i h0
   split
   ·exact Nat.le_trans ha hp
   ·rename_i hk
    have h1:=hle.2 (by simpa using h0) hk
    exact lexF_len f _ _ (by rw [List.length_append];simp only [List.length_singleton];omega) hle.1
theorem lex_len (L:List UInt8):(lexL L).1.length≤L.length:=lexF_len _ _ _ (Nat.le_refl _) (Nat.zero_le _)
theorem Sv.lt {s S:St} {M:List Tok} (h:Sv s S M):S.i<s.T.length↔¬M.length=0:=by
 have h1:=h.L
 unfold St.L at h1
 rw [h.kin.T] at h1
 rw [←h1,List.length_drop]
 omega
def ExQ (s:ByteArray) (R:Ex×Int×Int):Prop:=R.2.2=0→∃M,wholeM (s.size:Int) (lexL s.toList).1= .ok R.1 M
def RxQ (s:ByteArray) (R:Ex×Int×Int) (w:World) (e:Ending) (w':World):Prop:=ParseQ VX R w e w'∧ExQ s R
theorem base_sw {w:World} {a:Option Addr} {cap:Nat} {L:List Tok} {E:Int} (hT:TRow w a L) (hok:OkL L) (hl:L.length≤4096):SW w ⟨a,cap,L,0,E,0,0,0⟩:=⟨hT,hok,hl,(by decide:0≤100000)⟩
theorem base_sv (a:Option Addr) (cap:Nat) (L:List Tok) (E:Int):Sv ⟨a,cap,L,0,E,0,0,0⟩ ⟨a,cap,L,0,E,0,0,0⟩ L:=Sv.refl (s:=⟨a,cap,L,0,E,0,0,0⟩) ⟨rfl,rfl⟩ (Nat.zero_le _)
set_option maxRecDepth 100000 in
set_option maxHeartbeats 16000000 in
theorem rexpr_any (s:ByteArray) (w:World) (hs:s.size≤4096):Calls Tryz.prog 19 #[.string s] w (RxQ s (exprM s.toList) w):=by
 obtain ⟨R,hR⟩:∃R,exprM s.toList=R:=⟨_,rfl⟩
 rw [hR]
 unfold exprM readM at hR
 obtain ⟨⟨L,la,le⟩,hl⟩:∃r,lexL s.toList=r:=⟨_,rfl⟩
 have hsz:s.toList.length=s.size:=(Nm.size_list s).symm
 have hok:OkL L:=by have:=lex_ok (L:=s.toList) (by omega);rw [hl] at this;exact this
 have hlen:L.length≤4096:=by have:=lex_len s.toList;rw [hl] at this;dsimp only at this;omega
 rw [hl,hsz] at hR
 dsimp only at hR
 have HLEX:=Lib.hid hl
 have HLX:∀W,Hid (Calls Tryz.prog 33 #[.string s] W (Lx.LexP (L,la,le) W)):=fun W=>Lib.hid (by have:=Lx.rlex_any s W hs;rw [hl] at this;exact this)
 have HF:=Lib.hid ((Fr.start w).new_ #[.int .i64 0,.int .i64 0,.string ⟨#[]⟩,.slice none 0 0,.slice none 0 0,.bool false,.slice none 0 0] 35 (n:=w.heap.size) rfl)
 have f:=HF.out.facts;dsimp only [Fs,Nes,List.map] at f
 by_cases hle:le=0
 ·subst hle
  rw [if_pos rfl] at hR
  obtain ⟨r7,hr7⟩:∃r,wholeM (s.size:Int) L=r:=⟨_,rfl⟩
  unfold aloneM at hR
  rw [hr7] at hR
  have HOK:=Lib.hid (And.intro hok hlen)
  have HR7:=Lib.hid hr7
  have HWH:∀(a:Option Addr) (cap:Nat) (W:World),Hid (TRow W a L)→Hid (Calls Tryz.prog 59 #[.agg #[.slice a L.length cap,.int .i64 0,.int .i64 (s.size:Int),.int .i64 0,.int .i64 0,.int .i64 0]] W (LevQ (⟨a,cap,L,0,(s.size:Int),0,0,0⟩:St) (⟨a,cap,L,0,(s.size:Int),0,0,0⟩:St) r7 W)):=fun a cap W hT=>Lib.hid (by
   have h6:=whole_q (pre:= .ok () L) (base_sv a cap L (s.size:Int)) (base_sw hT.out HOK.out.1 HOK.out.2) rfl
   have h7:LevQ (⟨a,cap,L,0,(s.size:Int),0,0,0⟩:St) (⟨a,cap,L,0,(s.size:Int),0,0,0⟩:St) ((Res.ok () L).bind fun _ M=>wholeM (s.size:Int) M) W=LevQ (⟨a,cap,L,0,(s.size:Int),0,0,0⟩:St) (⟨a,cap,L,0,(s.size:Int),0,0,0⟩:St) r7 W:=by rw [←HR7.out];rfl
   exact h7▸h6)
  have HLL:=Lib.hid hlen
  clear hok hl hs hr7
  cases hq:r7 with
  |bad ba bx=>
   rw [hq] at hR
   have HRR:Hid (R=(exO,ba,bx)):=Lib.hid (by rw [←hR];rfl)
   have HQ:=Lib.hid hq
   clear hR hq
   go_enter Tryz.func19,Tryz.ntmps19
   go_wp2_with (first
    |(go_at_call 33;refine (HLX _).out.mono ?_;rintro e w4 ⟨a,n,cap,rfl,rfl,htr,hb⟩;dsimp only;replace HF:=Lib.hid (HF.out.call hb);have HTR:=Lib.hid htr;clear f;have f:=HF.out.facts;dsimp only [Fs,Nes,List.map] at f;clear hb htr)
    |(go_at_call 59;refine (HWH a cap _ HTR).out.mono ?_;rintro e w5 ⟨hb,S1,hd1,rfl,hst,hx⟩;have HX:=Lib.hid (fun x K e=>XF.of (hx x K e) HF.out HF.out.size);clear hx;obtain ⟨a1,cap1,T1,i1,E1,o1,b1,x1⟩:=S1;obtain ⟨op,nn,s1,p,pl,pc,q,ql,qc,oo,ka,kl,kc⟩:=hd1;unfold St.v Hd.agg;dsimp only;replace HF:=Lib.hid (HF.out.call hb);replace HF:=Lib.hid (HF.out.new_ #[.slice a1 T1.length cap1,.int .i64 (i1:Int),.int .i64 E1,.int .i64 o1,.int .i64 b1,.int .i64 x1] 95 (n:=w5.heap.size) (rfl));replace HF:=Lib.hid (HF.out.new_ #[.int .i64 op,.int .i64 nn,.string s1,.slice p pl pc,.slice q ql qc,.bool oo,.slice ka kl kc] 35 (n:=w5.heap.size+1) (World.size_alloc _ _));replace HX:=Lib.hid (fun x K e=>((HX.out x K e).new_ #[.slice a1 T1.length cap1,.int .i64 (i1:Int),.int .i64 E1,.int .i64 o1,.int .i64 b1,.int .i64 x1] 95 (n:=w5.heap.size) rfl).new_ #[.int .i64 op,.int .i64 nn,.string s1,.slice p pl pc,.slice q ql qc,.bool oo,.slice ka kl kc] 35 (n:=w5.heap.size+1) (World.size_alloc _ _));rw [HQ.out] at hst;have hdd:Dd _ _ _ _:=hst;have hxb:x1=bx:=hdd.err;have hba:b1=ba:=hdd.bad;have hxz:=hdd.x;have hxa:(x1==0)=false:=(by rw [hxb];simpa using hxz);have hxc:(x1 !=0)=true:=(by rw [hxb];simpa using hxz);have HXB:=Lib.hid (And.intro hba hxb);have HNZ:=Lib.hid hxz;clear hst hdd hxb hba hxz;clear f;have f:=HF.out.facts;dsimp only [Fs,Nes,List.map] at f;clear hb))
   go_region
   go_wp2_with fail
   refine bodyPost_ret (v:= .tuple #[.agg #[.int .i64 0,.int .i64 0,.string ⟨#[]⟩,.slice none 0 0,.slice none 0 0,.bool false,.slice none 0 0],.int .i64 b1,.int .i64 x1]) (by simp [results,Tryz.results19,go_sem,f]) rfl ?_
   exact ⟨⟨_,_,by rw [HRR.out,HXB.out.1,HXB.out.2],Nat.le_refl _,by rw [HRR.out];exact VX.zero _ _,((HF.out.put7 2 rfl (.int .i64 0) (.int .i64 0) (.string ⟨#[]⟩) (.slice none 0 0) (.slice none 0 0) (.bool false) (.slice none 0 0)).drew).bl⟩,fun h=>by rw [HRR.out] at h;exact absurd h HNZ.out⟩
  |ok x L1=>
   rw [hq] at hR
   have HQ:=Lib.hid hq
   by_cases hL1:L1.length=0
   ·have HRR:Hid (R=(x,0,0)):=Lib.hid (by rw [←hR];simp only [Res.bind,hL1,if_true])
    have HLZ:=Lib.hid hL1
    clear hR hq hL1
    go_enter Tryz.func19,Tryz.ntmps19
    go_wp2_with (first
     |(go_at_call 33;refine (HLX _).out.mono ?_;rintro e w4 ⟨a,n,cap,rfl,rfl,htr,hb⟩;dsimp only;replace HF:=Lib.hid (HF.out.call hb);have HTR:=Lib.hid htr;clear f;have f:=HF.out.facts;dsimp only [Fs,Nes,List.map] at f;clear hb htr)
     |(go_at_call 59;refine (HWH a cap _ HTR).out.mono ?_;rintro e w5 ⟨hb,S1,hd1,rfl,hst,hx⟩;have HX:=Lib.hid (fun x K e=>XF.of (hx x K e) HF.out HF.out.size);clear hx;obtain ⟨a1,cap1,T1,i1,E1,o1,b1,x1⟩:=S1;obtain ⟨op,nn,s1,p,pl,pc,q,ql,qc,oo,ka,kl,kc⟩:=hd1;unfold St.v Hd.agg;dsimp only;replace HF:=Lib.hid (HF.out.call hb);replace HF:=Lib.hid (HF.out.new_ #[.slice a1 T1.length cap1,.int .i64 (i1:Int),.int .i64 E1,.int .i64 o1,.int .i64 b1,.int .i64 x1] 95 (n:=w5.heap.size) (rfl));replace HF:=Lib.hid (HF.out.new_ #[.int .i64 op,.int .i64 nn,.string s1,.slice p pl pc,.slice q ql qc,.bool oo,.slice ka kl kc] 35 (n:=w5.heap.size+1) (World.size_alloc _ _));replace HX:=Lib.hid (fun x K e=>((HX.out x K e).new_ #[.slice a1 T1.length cap1,.int .i64 (i1:Int),.int .i64 E1,.int .i64 o1,.int .i64 b1,.int .i64 x1] 95 (n:=w5.heap.size) rfl).new_ #[.int .i64 op,.int .i64 nn,.string s1,.slice p pl pc,.slice q ql qc,.bool oo,.slice ka kl kc] 35 (n:=w5.heap.size+1) (World.size_alloc _ _));rw [HQ.out] at hst;have hsv:Sv _ _ _:=hst;have hxb:x1=0:=hsv.err;have hxa:(x1==0)=true:=(by rw [hxb];rfl);have hxc:(x1 !=0)=false:=(by rw [hxb];rfl);have hnl:¬i1<L.length:=(fun h=>(hsv.lt.1 h) HLZ.out);clear hst hsv hxb;clear f;have f:=HF.out.facts;dsimp only [Fs,Nes,List.map] at f;clear hb))
    refine bodyPost_ret (v:= .tuple #[.agg #[.int .i64 op,.int .i64 nn,.string s1,.slice p pl pc,.slice q ql qc,.bool oo,.slice ka kl kc],.int .i64 0,.int .i64 0]) (by simp [results,Tryz.results19,go_sem,f]) rfl ?_
    exact ⟨⟨_,w.heap.size,by rw [HRR.out],Nat.le_refl _,by rw [HRR.out];exact ⟨⟨op,nn,s1,p,pl,pc,q,ql,qc,oo,ka,kl,kc⟩,rfl,((HX.out x L1 HQ.out).put7 2 rfl (.int .i64 op) (.int .i64 nn) (.string s1) (.slice p pl pc) (.slice q ql qc) (.bool oo) (.slice ka kl kc)).less fun b _ hb=>hb.1⟩,(HF.out.put7 2 rfl (.int .i64 op) (.int .i64 nn) (.string s1) (.slice p pl pc) (.slice q ql qc) (.bool oo) (.slice ka kl kc)).bl⟩,fun _=>⟨L1,by rw [HRR.out,HLEX.out];exact HR7.out.trans HQ.out⟩⟩
   ·have HRR:Hid (R=(exO,(pk (s.size:Int) L1).at_,21)):=Lib.hid (by rw [←hR];simp only [Res.bind,hL1,if_false])
    have HLZ:=Lib.hid hL1
    clear hR hq hL1
    go_enter Tryz.func19,Tryz.ntmps19
    go_wp2_with (first
     |(go_at_call 33;refine (HLX _).out.mono ?_;rintro e w4 ⟨a,n,cap,rfl,rfl,htr,hb⟩;dsimp only;replace HF:=Lib.hid (HF.out.call hb);have HTR:=Lib.hid htr;clear f;have f:=HF.out.facts;dsimp only [Fs,Nes,List.map] at f;clear hb htr)
     |(go_at_call 59;refine (HWH a cap _ HTR).out.mono ?_;rintro e w5 ⟨hb,S1,hd1,rfl,hst,hx⟩;have HX:=Lib.hid (fun x K e=>XF.of (hx x K e) HF.out HF.out.size);clear hx;obtain ⟨a1,cap1,T1,i1,E1,o1,b1,x1⟩:=S1;obtain ⟨op,nn,s1,p,pl,pc,q,ql,qc,oo,ka,kl,kc⟩:=hd1;unfold St.v Hd.agg;dsimp only;replace HF:=Lib.hid (HF.out.call hb);replace HF:=Lib.hid (HF.out.new_ #[.slice a1 T1.length cap1,.int .i64 (i1:Int),.int .i64 E1,.int .i64 o1,.int .i64 b1,.int .i64 x1] 95 (n:=w5.heap.size) (rfl));replace HF:=Lib.hid (HF.out.new_ #[.int .i64 op,.int .i64 nn,.string s1,.slice p pl pc,.slice q ql qc,.bool oo,.slice ka kl kc] 35 (n:=w5.heap.size+1) (World.size_alloc _ _));replace HX:=Lib.hid (fun x K e=>((HX.out x K e).new_ #[.slice a1 T1.length cap1,.int .i64 (i1:Int),.int .i64 E1,.int .i64 o1,.int .i64 b1,.int .i64 x1] 95 (n:=w5.heap.size) rfl).new_ #[.int .i64 op,.int .i64 nn,.string s1,.slice p pl pc,.slice q ql qc,.bool oo,.slice ka kl kc] 35 (n:=w5.heap.size+1) (World.size_alloc _ _));rw [HQ.out] at hst;have hsv:Sv _ _ _:=hst;have hxb:x1=0:=hsv.err;have hxa:(x1==0)=true:=(by rw [hxb];rfl);have hnl:i1<L.length:=hsv.lt.2 HLZ.out;have HSV:=Lib.hid hsv;have HSW5:=Lib.hid (fun (W:World) (hW:Below w4.heap.size w4 W)=>(base_sw (cap:=cap) (E:=(s.size:Int)) HTR.out HOK.out.1 HOK.out.2).kin hW hsv.kin);have HB5:=Lib.hid hb;clear hst hsv hxb;clear f;have f:=HF.out.facts;dsimp only [Fs,Nes,List.map] at f;clear hb))
    obtain ⟨k,n,tx,at_,htk⟩:=St.pk_get ⟨a1,cap1,T1,i1,E1,o1,b1,x1⟩
    have HT:=Lib.hid htk
    have hD:=HSV.out.fail ⟨⟨k,n,tx.toList⟩,at_⟩ 21 (by decide)
    obtain ⟨a5,cap5,T5,i5,E5,o5,b5,x5,hn5⟩:=(St.fail ⟨a1,cap1,T1,i1,E1,o1,b1,x1⟩ ⟨⟨k,n,tx.toList⟩,at_⟩ 21).get
    rw [hn5] at hD
    have HN5:=Lib.hid hn5
    have hat:(pk (s.size:Int) L1).at_=at_:=by have:=HSV.out.pk;rw [htk] at this;rw [←this]
    have HXB:Hid (b5=(pk (s.size:Int) L1).at_∧x5=21):=Lib.hid ⟨by rw [hat];exact hD.bad,hD.err⟩
    have hx5:(x5 !=0)=true:=by rw [HXB.out.2];rfl
    have HFL:∀W,Hid (Calls Tryz.prog 55 #[.agg #[.slice a1 T1.length cap1,.int .i64 (i1:Int),.int .i64 E1,.int .i64 o1,.int .i64 b1,.int .i64 x1],.agg #[.int .i64 k,.int .i64 n,.string tx,.int .i64 at_],.int .i64 21] W (Ans (.agg #[.slice a5 T5.length cap5,.int .i64 (i5:Int),.int .i64 E5,.int .i64 o5,.int .i64 b5,.int .i64 x5]) W)):=fun W=>Lib.hid (sfail_as W ⟨a1,cap1,T1,i1,E1,o1,b1,x1⟩ ⟨a5,cap5,T5,i5,E5,o5,b5,x5⟩ k n tx at_ 21 HN5)
    have HB6:=Lib.hid (bl_step (bl_step HB5.out (bl_alloc (o:= .cells #[.slice a1 T1.length cap1,.int .i64 (i1:Int),.int .i64 E1,.int .i64 o1,.int .i64 b1,.int .i64 x1] 95) (Below.refl _ _))) (bl_alloc (o:= .cells #[.int .i64 op,.int .i64 nn,.string s1,.slice p pl pc,.slice q ql qc,.bool oo,.slice ka kl kc] 35) (Below.refl _ _)))
    obtain ⟨wk,hwk⟩:∃x,x=(w5.alloc (.cells #[.slice a1 T1.length cap1,.int .i64 (i1:Int),.int .i64 E1,.int .i64 o1,.int .i64 b1,.int .i64 x1] 95)).alloc (.cells #[.int .i64 op,.int .i64 nn,.string s1,.slice p pl pc,.slice q ql qc,.bool oo,.slice ka kl kc] 35):=⟨_,rfl⟩
    rw [←hwk]
    rw [←hwk] at HF HB6
    clear htk hD hn5 hat f hwk HX
    have f:=HF.out.facts
    dsimp only [Fs,Nes,List.map] at f
    refine wp_region_held (S:=fun _=>True) (by kernel_rfl) ?_
    obtain ⟨wd,hwd⟩:∃wd:World,wd={wk with drawn:=wk.drawn+1}:=⟨_,rfl⟩
    have hbd:Below wk.heap.size wk wd:=by rw [hwd];exact (Below.refl _ wk).drew
    rw [←hwd]
    clear hwd
    replace HF:=Lib.hid (HF.out.call hbd)
    replace HB6:=Lib.hid (bl_step HB6.out hbd)
    clear f hbd
    have f:=HF.out.facts
    dsimp only [Fs,Nes,List.map] at f
    try simp only [List.setIfInBounds_toArray,List.set_cons_succ,List.set_cons_zero]
    refine wpAnyH_all (rs:=[0,1]) (by kernel_rfl) (by simp) ?_
    intro i hi
    have hi2:i=0∨i=1:=by simpa using hi
    rcases hi2 with rfl|rfl
    ·refine value_at 39 (v:= .agg #[.slice a1 T1.length cap1,.int .i64 (i1:Int),.int .i64 E1,.int .i64 o1,.int .i64 b1,.int .i64 x1]) (w':=wd) rfl rfl rfl (by go_simp) ⟨trivial,?_⟩
     try simp only [List.setIfInBounds_toArray,List.set_cons_succ,List.set_cons_zero]
     refine wpAnyH_all (rs:=[1]) (by kernel_rfl) (by simp) ?_
     intro i hi
     obtain rfl:i=1:=by simpa using hi
     refine value_at 40 (v:= .agg #[.slice a1 T1.length cap1,.int .i64 (i1:Int),.int .i64 E1,.int .i64 o1,.int .i64 b1,.int .i64 x1]) (w':=wd) rfl rfl rfl (by go_simp) ⟨trivial,?_⟩
     try simp only [List.setIfInBounds_toArray,List.set_cons_succ,List.set_cons_zero]
     refine wpAnyH_all (rs:=[2]) (by kernel_rfl) (by simp) ?_
     intro i hi
     obtain rfl:i=2:=by simpa using hi
     refine call_at 41 (f:=54) (args:=#[.agg #[.slice a1 T1.length cap1,.int .i64 (i1:Int),.int .i64 E1,.int .i64 o1,.int .i64 b1,.int .i64 x1]]) (w':=wd) rfl rfl rfl (by go_simp) ((peek_as _ ⟨a1,cap1,T1,i1,E1,o1,b1,x1⟩ k n at_ tx (HSW5.out _ HB6.out) HT).mono ?_)
     rintro e v3 ⟨rfl,hb⟩
     replace HF:=Lib.hid (HF.out.call hb)
     clear f hb
     have f:=HF.out.facts
     dsimp only [Fs,Nes,List.map] at f
     refine ⟨_,rfl,trivial,?_⟩
     try simp only [List.setIfInBounds_toArray,List.set_cons_succ,List.set_cons_zero]
     refine wpAnyH_all (rs:=[3]) (by kernel_rfl) (by simp) ?_
     intro i hi
     obtain rfl:i=3:=by simpa using hi
     refine call_at 42 (f:=55) (args:=#[.agg #[.slice a1 T1.length cap1,.int .i64 (i1:Int),.int .i64 E1,.int .i64 o1,.int .i64 b1,.int .i64 x1],.agg #[.int .i64 k,.int .i64 n,.string tx,.int .i64 at_],.int .i64 21]) (w':=v3) rfl rfl rfl (by go_simp) (((HFL _).out).mono ?_)
     rintro e v4 ⟨rfl,hb⟩
     replace HF:=Lib.hid (HF.out.call hb)
     clear f hb
     have f:=HF.out.facts
     dsimp only [Fs,Nes,List.map] at f
     refine ⟨_,rfl,trivial,?_⟩
     try simp only [List.setIfInBounds_toArray,List.set_cons_succ,List.set_cons_zero]
     refine wpAnyH_all (rs:=[4]) (by kernel_rfl) (by simp) ?_
     intro i hi
     obtain rfl:i=4:=by simpa using hi
     have HF2:=Lib.hid (by have t:=HF.out.put6 1 rfl (.slice a5 T5.length cap5) (.int .i64 (i5:Int)) (.int .i64 E5) (.int .i64 o5) (.int .i64 b5) (.int .i64 x5);simp only [List.set_cons_succ,List.set_cons_zero] at t;exact t)
     obtain ⟨v5,hwn⟩:∃x,x=put6 v4 (w5.heap.size) (.slice a5 T5.length cap5) (.int .i64 (i5:Int)) (.int .i64 E5) (.int .i64 o5) (.int .i64 b5) (.int .i64 x5):=⟨_,rfl⟩
     rw [←hwn] at HF2
     have f2:=HF2.out.facts
     dsimp only [Fs,Nes,List.map] at f2
     refine skip_at (w':=v5) rfl rfl rfl (by rw [hwn];unfold put6;clear f2;go_simp) ⟨trivial,?_⟩
     clear hwn f HF
     have HF:=HF2
     have f:=f2
     clear HF2 f2
     try simp only [List.setIfInBounds_toArray,List.set_cons_succ,List.set_cons_zero]
     refine wpAnyH_done (by kernel_rfl) ?_ _
     go_wp2_with fail
     go_region
     go_wp2_with fail
     refine bodyPost_ret (v:= .tuple #[.agg #[.int .i64 0,.int .i64 0,.string ⟨#[]⟩,.slice none 0 0,.slice none 0 0,.bool false,.slice none 0 0],.int .i64 b5,.int .i64 x5]) (by simp [results,Tryz.results19,go_sem,f]) rfl ?_
     exact ⟨⟨_,_,by rw [HRR.out,HXB.out.1,HXB.out.2],Nat.le_refl _,by rw [HRR.out];exact VX.zero _ _,((HF.out.put7 2 rfl (.int .i64 0) (.int .i64 0) (.string ⟨#[]⟩) (.slice none 0 0) (.slice none 0 0) (.bool false) (.slice none 0 0)).drew).bl⟩,fun h=>by rw [HRR.out] at h;exact absurd (show (21:Int)=0 from h) (by decide)⟩
    ·refine value_at 40 (v:= .agg #[.slice a1 T1.length cap1,.int .i64 (i1:Int),.int .i64 E1,.int .i64 o1,.int .i64 b1,.int .i64 x1]) (w':=wd) rfl rfl rfl (by go_simp) ⟨trivial,?_⟩
     try simp only [List.setIfInBounds_toArray,List.set_cons_succ,List.set_cons_zero]
     refine wpAnyH_all (rs:=[0,2]) (by kernel_rfl) (by simp) ?_
     intro i hi
     have hi2:i=0∨i=2:=by simpa using hi
     rcases hi2 with rfl|rfl
     ·refine value_at 39 (v:= .agg #[.slice a1 T1.length cap1,.int .i64 (i1:Int),.int .i64 E1,.int .i64 o1,.int .i64 b1,.int .i64 x1]) (w':=wd) rfl rfl rfl (by go_simp) ⟨trivial,?_⟩
      try simp only [List.setIfInBounds_toArray,List.set_cons_succ,List.set_cons_zero]
      refine wpAnyH_all (rs:=[2]) (by kernel_rfl) (by simp) ?_
      intro i hi
      obtain rfl:i=2:=by simpa using hi
      refine call_at 41 (f:=54) (args:=#[.agg #[.slice a1 T1.length cap1,.int .i64 (i1:Int),.int .i64 E1,.int .i64 o1,.int .i64 b1,.int .i64 x1]]) (w':=wd) rfl rfl rfl (by go_simp) ((peek_as _ ⟨a1,cap1,T1,i1,E1,o1,b1,x1⟩ k n at_ tx (HSW5.out _ HB6.out) HT).mono ?_)
      rintro e v8 ⟨rfl,hb⟩
      replace HF:=Lib.hid (HF.out.call hb)
      clear f hb
      have f:=HF.out.facts
      dsimp only [Fs,Nes,List.map] at f
      refine ⟨_,rfl,trivial,?_⟩
      try simp only [List.setIfInBounds_toArray,List.set_cons_succ,List.set_cons_zero]
      refine wpAnyH_all (rs:=[3]) (by kernel_rfl) (by simp) ?_
      intro i hi
      obtain rfl:i=3:=by simpa using hi
      refine call_at 42 (f:=55) (args:=#[.agg #[.slice a1 T1.length cap1,.int .i64 (i1:Int),.int .i64 E1,.int .i64 o1,.int .i64 b1,.int .i64 x1],.agg #[.int .i64 k,.int .i64 n,.string tx,.int .i64 at_],.int .i64 21]) (w':=v8) rfl rfl rfl (by go_simp) (((HFL _).out).mono ?_)
      rintro e v9 ⟨rfl,hb⟩
      replace HF:=Lib.hid (HF.out.call hb)
      clear f hb
      have f:=HF.out.facts
      dsimp only [Fs,Nes,List.map] at f
      refine ⟨_,rfl,trivial,?_⟩
      try simp only [List.setIfInBounds_toArray,List.set_cons_succ,List.set_cons_zero]
      refine wpAnyH_all (rs:=[4]) (by kernel_rfl) (by simp) ?_
      intro i hi
      obtain rfl:i=4:=by simpa using hi
      have HF2:=Lib.hid (by have t:=HF.out.put6 1 rfl (.slice a5 T5.length cap5) (.int .i64 (i5:Int)) (.int .i64 E5) (.int .i64 o5) (.int .i64 b5) (.int .i64 x5);simp only [List.set_cons_succ,List.set_cons_zero] at t;exact t)
      obtain ⟨v10,hwn⟩:∃x,x=put6 v9 (w5.heap.size) (.slice a5 T5.length cap5) (.int .i64 (i5:Int)) (.int .i64 E5) (.int .i64 o5) (.int .i64 b5) (.int .i64 x5):=⟨_,rfl⟩
      rw [←hwn] at HF2
      have f2:=HF2.out.facts
      dsimp only [Fs,Nes,List.map] at f2
      refine skip_at (w':=v10) rfl rfl rfl (by rw [hwn];unfold put6;clear f2;go_simp) ⟨trivial,?_⟩
      clear hwn f HF
      have HF:=HF2
      have f:=f2
      clear HF2 f2
      try simp only [List.setIfInBounds_toArray,List.set_cons_succ,List.set_cons_zero]
      refine wpAnyH_done (by kernel_rfl) ?_ _
      go_wp2_with fail
      go_region
      go_wp2_with fail
      refine bodyPost_ret (v:= .tuple #[.agg #[.int .i64 0,.int .i64 0,.string ⟨#[]⟩,.slice none 0 0,.slice none 0 0,.bool false,.slice none 0 0],.int .i64 b5,.int .i64 x5]) (by simp [results,Tryz.results19,go_sem,f]) rfl ?_
      exact ⟨⟨_,_,by rw [HRR.out,HXB.out.1,HXB.out.2],Nat.le_refl _,by rw [HRR.out];exact VX.zero _ _,((HF.out.put7 2 rfl (.int .i64 0) (.int .i64 0) (.string ⟨#[]⟩) (.slice none 0 0) (.slice none 0 0) (.bool false) (.slice none 0 0)).drew).bl⟩,fun h=>by rw [HRR.out] at h;exact absurd (show (21:Int)=0 from h) (by decide)⟩
     ·refine call_at 41 (f:=54) (args:=#[.agg #[.slice a1 T1.length cap1,.int .i64 (i1:Int),.int .i64 E1,.int .i64 o1,.int .i64 b1,.int .i64 x1]]) (w':=wd) rfl rfl rfl (by go_simp) ((peek_as _ ⟨a1,cap1,T1,i1,E1,o1,b1,x1⟩ k n at_ tx (HSW5.out _ HB6.out) HT).mono ?_)
      rintro e v11 ⟨rfl,hb⟩
      replace HF:=Lib.hid (HF.out.call hb)
      clear f hb
      have f:=HF.out.facts
      dsimp only [Fs,Nes,List.map] at f
      refine ⟨_,rfl,trivial,?_⟩
      try simp only [List.setIfInBounds_toArray,List.set_cons_succ,List.set_cons_zero]
      refine wpAnyH_all (rs:=[0]) (by kernel_rfl) (by simp) ?_
      intro i hi
      obtain rfl:i=0:=by simpa using hi
      refine value_at 39 (v:= .agg #[.slice a1 T1.length cap1,.int .i64 (i1:Int),.int .i64 E1,.int .i64 o1,.int .i64 b1,.int .i64 x1]) (w':=v11) rfl rfl rfl (by go_simp) ⟨trivial,?_⟩
      try simp only [List.setIfInBounds_toArray,List.set_cons_succ,List.set_cons_zero]
      refine wpAnyH_all (rs:=[3]) (by kernel_rfl) (by simp) ?_
      intro i hi
      obtain rfl:i=3:=by simpa using hi
      refine call_at 42 (f:=55) (args:=#[.agg #[.slice a1 T1.length cap1,.int .i64 (i1:Int),.int .i64 E1,.int .i64 o1,.int .i64 b1,.int .i64 x1],.agg #[.int .i64 k,.int .i64 n,.string tx,.int .i64 at_],.int .i64 21]) (w':=v11) rfl rfl rfl (by go_simp) (((HFL _).out).mono ?_)
      rintro e v13 ⟨rfl,hb⟩
      replace HF:=Lib.hid (HF.out.call hb)
      clear f hb
      have f:=HF.out.facts
      dsimp only [Fs,Nes,List.map] at f
      refine ⟨_,rfl,trivial,?_⟩
      try simp only [List.setIfInBounds_toArray,List.set_cons_succ,List.set_cons_zero]
      refine wpAnyH_all (rs:=[4]) (by kernel_rfl) (by simp) ?_
      intro i hi
      obtain rfl:i=4:=by simpa using hi
      have HF2:=Lib.hid (by have t:=HF.out.put6 1 rfl (.slice a5 T5.length cap5) (.int .i64 (i5:Int)) (.int .i64 E5) (.int .i64 o5) (.int .i64 b5) (.int .i64 x5);simp only [List.set_cons_succ,List.set_cons_zero] at t;exact t)
      obtain ⟨v14,hwn⟩:∃x,x=put6 v13 (w5.heap.size) (.slice a5 T5.length cap5) (.int .i64 (i5:Int)) (.int .i64 E5) (.int .i64 o5) (.int .i64 b5) (.int .i64 x5):=⟨_,rfl⟩
      rw [←hwn] at HF2
      have f2:=HF2.out.facts
      dsimp only [Fs,Nes,List.map] at f2
      refine skip_at (w':=v14) rfl rfl rfl (by rw [hwn];unfold put6;clear f2;go_simp) ⟨trivial,?_⟩
      clear hwn f HF
      have HF:=HF2
      have f:=f2
      clear HF2 f2
      try simp only [List.setIfInBounds_toArray,List.set_cons_succ,List.set_cons_zero]
      refine wpAnyH_done (by kernel_rfl) ?_ _
      go_wp2_with fail
      go_region
      go_wp2_with fail
      refine bodyPost_ret (v:= .tuple #[.agg #[.int .i64 0,.int .i64 0,.string ⟨#[]⟩,.slice none 0 0,.slice none 0 0,.bool false,.slice none 0 0],.int .i64 b5,.int .i64 x5]) (by simp [results,Tryz.results19,go_sem,f]) rfl ?_
      exact ⟨⟨_,_,by rw [HRR.out,HXB.out.1,HXB.out.2],Nat.le_refl _,by rw [HRR.out];exact VX.zero _ _,((HF.out.put7 2 rfl (.int .i64 0) (.int .i64 0) (.string ⟨#[]⟩) (.slice none 0 0) (.slice none 0 0) (.bool false) (.slice none 0 0)).drew).bl⟩,fun h=>by rw [HRR.out] at h;exact absurd (show (21:Int)=0 from h) (by decide)⟩
 ·rw [if_neg hle] at hR
  have HRR:=Lib.hid hR.symm
  have hle2:(le !=0)=true:=by simpa using hle
  have HLE:=Lib.hid hle
  clear hR hok hlen hl hs hle
  go_enter Tryz.func19,Tryz.ntmps19
  go_wp2_with (go_at_call 33;refine (HLX _).out.mono ?_;rintro e w4 ⟨a,n,cap,rfl,rfl,htr,hb⟩;dsimp only;replace HF:=Lib.hid (HF.out.call hb);have HTR:=Lib.hid htr;clear f;have f:=HF.out.facts;dsimp only [Fs,Nes,List.map] at f;clear hb htr)
  refine bodyPost_ret (v:= .tuple #[.agg #[.int .i64 0,.int .i64 0,.string ⟨#[]⟩,.slice none 0 0,.slice none 0 0,.bool false,.slice none 0 0],.int .i64 (la:Int),.int .i64 le]) (by simp [results,Tryz.results19,go_sem,f]) rfl ?_
  exact ⟨⟨_,_,by rw [HRR.out],Nat.le_refl _,by rw [HRR.out];exact VX.zero _ _,(HF.out.put7 0 rfl (.int .i64 0) (.int .i64 0) (.string ⟨#[]⟩) (.slice none 0 0) (.slice none 0 0) (.bool false) (.slice none 0 0)).bl⟩,fun h=>by rw [HRR.out] at h;exact absurd h HLE.out⟩
end Go.Proofs.YtkfihhagcimcmaaGreatDoor.Ps
namespace Go.Proofs.YtkfihhagcimcmaaGreatDoor.Ps
open Go.RowKit
open Lx (bs)
def exA:De:=⟨false,bs [97],.mk 12 0 ⟨#[]⟩ [] [] false [leaf 1 1,.mk 11 0 ⟨#[]⟩ [] [] false [leaf 1 2,.mk 9 0 ⟨#[]⟩ [bs [98]] [] false []]]⟩
theorem parse_ex:parseM [97,58,32,49,32,124,32,50,32,38,32,98,59]=([exA],0,0):=by kernel_rfl
def AwP (w:World) (e:Ending) (w':World):Prop:=∃g c kb ko kc,e= .returned (.tuple #[.slice (some ⟨g,0,none⟩) 1 c,.int .i64 0,.int .i64 0])∧w'.cell? ⟨g,0,none⟩=some (.string ⟨#[97]⟩)∧w'.cell? ⟨g,2,none⟩=some (.int .i64 12)∧w'.cell? ⟨g,8,none⟩=some (.slice (some ⟨kb,ko,none⟩) 2 kc)∧w'.cell? ⟨kb,ko+1,none⟩=some (.int .i64 1)∧w'.cell? ⟨kb,ko+7,none⟩=some (.int .i64 11)∧Below w.heap.size w w'
theorem awp_of {w w':World} {e:Ending} (h:ParseQ VL ([exA],0,0) w e w'):AwP w e w':=by
 obtain ⟨v,B,he,hB,⟨L,hLm,-,hown,hels,-⟩,hb⟩:=h
 have h1:L.length=1:=by have:=congrArg List.length hLm;simpa using this
 obtain ⟨⟨hd,d⟩,rfl⟩:∃y,L=[y]:=by
  match L,h1 with
  |[y],_=>exact ⟨y,rfl⟩
 have hd2:d=exA:=by simpa using hLm
 subst hd2
 obtain ⟨a,c,rfl⟩:=own_sliceD hown
 rcases hown.2 with ⟨e1,hn0⟩|⟨g,cap,cur,e1,hb1,hg,rest⟩
 ·simp at hn0
 ·injection e1 with e2 e3 e4
  subst e2 e4
  have hc:∀i v,(dcells [(hd,exA)])[i]?=some v→w'.cell? ⟨g,i,none⟩=some v:=fun i v hi=>by
   rw [show (⟨g,i,none⟩:Addr)=(⟨g,0,none⟩:Addr).add i by simp [Addr.add]]
   exact hown.cells (g:=g) rfl i v hi
  have hX:=hels _ (List.mem_singleton.2 rfl)
  obtain ⟨op,n,s,p,pl,pc,q,ql,qc,o,ka,kl,kc⟩:=hd
  have hX2:=hX.xw
  unfold XW at hX2
  obtain ⟨m,hm⟩:∃m,lev exA.x=m+1:=⟨lev exA.x-1,by have:=lev_pos exA.x;omega⟩
  dsimp only at hX2
  rw [hm] at hX2
  obtain ⟨x1,-,-,-,-,-,-,hk⟩:=hX2
  dsimp only at x1 hk
  subst x1
  have hl:=hk.count
  dsimp only [List.length_cons,List.length_nil] at hl
  subst hl
  obtain ⟨b0,o0,y0,e0,lt0,hh0,hI0⟩:=hk.at_ 0 (by decide)
  obtain ⟨b1,o1,y1,e5,lt1,hh1,hI1⟩:=hk.at_ 1 (by decide)
  rw [e0] at e5
  injection e5 with e5
  injection e5 with e6 e7
  subst e6 e7
  cases m with
  |zero=>exact hI0.elim
  |succ m=>
   obtain ⟨-,n0,-⟩:=hI0
   obtain ⟨p1,-⟩:=hI1
   have c0:=hh0.c1
   have c1:=hh1.c0
   rw [n0] at c0
   rw [p1] at c1
   refine ⟨g,c,b0,o0,kc,he,?_,?_,?_,?_,?_,hb⟩
   ·exact hc 0 _ rfl
   ·exact hc 2 _ rfl
   ·rw [e0] at hc;exact hc 8 _ rfl
   ·simpa using c0
   ·simpa using c1
set_option maxRecDepth 100000 in
set_option maxHeartbeats 8000000 in
theorem awake_any (w:World) (hE:Lx.Ent w):Calls Tryz.prog 14 #[] w (Ans (.bool true) w):=by
 have HP:Hid (Calls Tryz.prog 15 #[.string ⟨#[97,58,32,49,32,124,32,50,32,38,32,98,59]⟩] w (AwP w)):=Lib.hid (by
  have h1:=parse_any ⟨#[97,58,32,49,32,124,32,50,32,38,32,98,59]⟩ w hE (by decide)
  rw [Lib.toList_data] at h1
  rw [show parseM (#[97,58,32,49,32,124,32,50,32,38,32,98,59]:Array UInt8).toList=([exA],0,0) from parse_ex] at h1
  exact h1.mono fun e w' hq=>awp_of hq)
 clear hE
 go_enter Tryz.func14,Tryz.ntmps14
 go_wp2_with (go_at_call 15;refine HP.out.mono ?_;rintro e w1 ⟨g,c,kb,ko,kc,rfl,c0,c2,c8,k1,k7,hb⟩;have HB:=Lib.hid hb;clear hb)
 go_ret
 exact ⟨rfl,HB.out⟩
end Go.Proofs.YtkfihhagcimcmaaGreatDoor.Ps
