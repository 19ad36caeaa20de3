/- Qzc -/
import Derived.Test.YtkfihhagcimcmaaGreatDoorYbf
import Derived.Test.YtkfihhagcimcmaaGreatDoorChecked
import Derived.Test.YtkfihhagcimcmaaGreatDoorProg
import Derived.Test.YtkfihhagcimcmaaGreatDoorY1
import Derived.Test.YtkfihhagcimcmaaGreatDoorYbs
import Derived.Test.YtkfihhagcimcmaaGreatDoorYbu
namespace Go.Proofs.YtkfihhagcimcmaaGreatDoor.Ps
open Go.RowKit
open Lx (Tok bl_alloc bl_step lexL)
set_option maxRecDepth 100000 in
set_option maxHeartbeats 16000000 in
theorem rparse_any (s:ByteArray) (w:World) (hs:s.size≤4096):Calls Tryz.prog 16 #[.string s] w (ParseQ VL (parseM s.toList) w):=by
 obtain ⟨R,hR⟩:∃R,parseM s.toList=R:=⟨_,rfl⟩
 rw [hR]
 unfold parseM readM at hR
 obtain ⟨⟨TL,la,le⟩,hl⟩:∃r,lexL s.toList=r:=⟨_,rfl⟩
 have hsz:s.toList.length=s.size:=(Nm.size_list s).symm
 have hok:OkL TL:=by have:=lex_ok (L:=s.toList) (by omega);rw [hl] at this;exact this
 have hlen:TL.length≤4096:=by have:=lex_len s.toList;rw [hl] at this;dsimp only at this;omega
 rw [hl,hsz] at hR
 dsimp only at hR
 have HSZ:Hid (s.size≤4096):=Lib.hid hs
 have HLX:∀W,Hid (Calls Tryz.prog 33 #[.string s] W (Lx.LexP (TL,la,le) W)):=fun W=>Lib.hid (by have:=Lx.rlex_any s W hs;rw [hl] at this;exact this)
 by_cases hle:le=0
 ·subst hle
  rw [if_pos rfl] at hR
  obtain ⟨RF,hRF⟩:∃r,fileF (s.size:Int) (TL.length+1) [] TL=r:=⟨_,rfl⟩
  rw [hRF] at hR
  have HA:Hid (FileAt (s.size:Int) RF (([]:List DX).map (·.2)) TL):=Lib.hid ⟨TL.length+1,by omega,hRF⟩
  have HRR:=Lib.hid hR
  have HOK:=Lib.hid (And.intro hok hlen)
  obtain ⟨i0,hi,hz0,hz1,hz2⟩:=info_parts info55
  have HI:=Lib.hid hi
  have HI0:=Lib.hid hz0
  have HI1:=Lib.hid hz1
  have HI2:=Lib.hid hz2
  have hfd:=field97
  clear hok hl hs hR hRF hsz hi hz0 hz1 hz2
  go_enter Tryz.func16,Tryz.ntmps16
  go_wp2_with (go_at_call 33;refine (HLX _).out.mono ?_;rintro e w4 ⟨a,n,cap,rfl,rfl,htr,hb⟩;dsimp only;have HTR:=Lib.hid htr;have HB4:=Lib.hid hb;have HF:=Lib.hid ((Fr.start w4).new_ #[.slice a TL.length cap,.int .i64 0,.int .i64 (s.size:Int),.int .i64 0,.int .i64 0,.int .i64 0] 95 (n:=w4.heap.size) rfl);have f:=HF.out.facts;dsimp only [Fs,Nes,List.map] at f;(try unfold put72 at f);(try unfold put7 at f);(try unfold put6 at f);clear hb htr)
  have HSW:Hid (∀{W:World} {S:St},Below w4.heap.size w4 W→Kin (⟨a,cap,TL,0,(s.size:Int),0,0,0⟩:St) S→SW W S):=Lib.hid fun hW hk=>(base_sw (cap:=cap) (E:=(s.size:Int)) HTR.out HOK.out.1 HOK.out.2).kin hW hk
  go_loopw [9] (fun v wr=>∃(a2:Option Addr) (cap2:Nat) (T2:List Tok) (i2:Nat) (E2 o2 b2 x2:Int) (ra:Option Addr) (rl rc:Nat),v= .slice ra rl rc∧Hid (Fr w4 wr [(w4.heap.size,#[.slice a2 T2.length cap2,.int .i64 (i2:Int),.int .i64 E2,.int .i64 o2,.int .i64 b2,.int .i64 x2],95)])∧((∃(L:List DX) (M:List Tok),rl≤256∧Hid (L.length=rl)∧Hid (DF w4.heap.size [(w4.heap.size,#[.slice a2 T2.length cap2,.int .i64 (i2:Int),.int .i64 E2,.int .i64 o2,.int .i64 b2,.int .i64 x2],95)] wr (.slice ra rl rc) L)∧Hid (Sv (⟨a,cap,TL,0,(s.size:Int),0,0,0⟩:St) ⟨a2,cap2,T2,i2,E2,o2,b2,x2⟩ M)∧Hid (FileAt (s.size:Int) RF (L.map (·.2)) M)∧Hid (∀y∈L,y.2.nm.size≤4096))∨(∃aa xx,Hid (Dd (⟨a,cap,TL,0,(s.size:Int),0,0,0⟩:St) ⟨a2,cap2,T2,i2,E2,o2,b2,x2⟩ aa xx)∧Hid (RF= .bad aa xx)))) (fun _ wr=>leftS wr w4.heap.size)
  case atStart=>
   exact ⟨_,_,_,0,_,_,_,_,none,0,0,rfl,HF,.inl ⟨[],TL,by decide,Lib.hid rfl,Lib.hid .nil,Lib.hid (base_sv a cap TL (s.size:Int)),HA,Lib.hid (fun y hy=>absurd hy (by simp))⟩⟩
  case round=>
   obtain ⟨a2,cap2,T2,i2,E2,o2,b2,x2,ra,rl,rc,rfl,HFr,hh⟩:=hrel
   rename World=>wr
   clear HF f
   have HF:=HFr
   clear HFr
   have f:=HF.out.facts;dsimp only [Fs,Nes,List.map] at f;(try unfold put72 at f);(try unfold put7 at f);(try unfold put6 at f);
   rcases hh with ⟨L,M,hql,hL,hP,hS,hFA,hNZ⟩|⟨aa,xx,hD,hRF⟩
   ·have HP:=hP
    have hx2:(x2==0)=true:=by have h2:=hS.out.err;dsimp only at h2;simpa using h2
    have hx2':(x2 !=0)=false:=by have h2:=hS.out.err;dsimp only at h2;simp [h2]
    have HL2:Hid (leftS wr w4.heap.size=M.length+1):=Lib.hid (hS.out.leftS (HF.out.bx (i:=0) rfl))
    by_cases hM:M.length=0
    ·have hnl:¬i2<TL.length:=fun h=>(hS.out.lt.1 h) hM
     have HM:=Lib.hid hM
     clear hM
     go_wp2_with fail
     refine bodyPost_ret (v:= .tuple #[.slice ra rl rc,.int .i64 0,.int .i64 0]) (by simp [results,Tryz.results16,go_sem]) rfl ?_
     have hRF:=hFA.out.last HM.out
     have hr:R=(L.map (·.2),0,0):=by rw [←HRR.out,hRF]
     exact ⟨_,w4.heap.size,by rw [hr],HB4.out.size,by rw [hr];exact hP.out.vl rfl (by rw [hL.out];exact hql) hNZ.out,bl_step HB4.out HF.out.bl⟩
    ·have hil:i2<TL.length:=hS.out.lt.2 hM
     have HM:=Lib.hid hM
     obtain ⟨k,n,tx,at_,htk⟩:=St.pk_get ⟨a2,cap2,T2,i2,E2,o2,b2,x2⟩
     have HT:=Lib.hid htk
     have hpk:Ps.pk (s.size:Int) M=⟨⟨k,n,tx.toList⟩,at_⟩:=by rw [←htk];exact (hS.out.pk).symm
     have hres:=resB_pk (s.size:Int) M
     rw [hpk] at hres
     dsimp only at hres
     have HTK:=Lib.hid htk
     have HKN:Hid (Kin (⟨a,cap,TL,0,(s.size:Int),0,0,0⟩:St) ⟨a2,cap2,T2,i2,E2,o2,b2,x2⟩):=Lib.hid hS.out.kin
     clear htk hpk hM
     obtain ⟨b1,hb1⟩:∃b,((rl:Int)==256)=b:=⟨_,rfl⟩
     have HB1:Hid ((L.map (·.2)).length=256↔b1=true):=Lib.hid (by rw [List.length_map,hL.out,←hb1];simp;omega)
     have hcase:((k==2)=true∧(tx.toList==[114,101,115,111,117,114,99,101])=true∧resB M=true)∨(((k==2)=false∨(k==2)=true∧(tx.toList==[114,101,115,111,117,114,99,101])=false)∧resB M=false):=by
      rw [hres]
      cases (k==2)<;>cases (tx.toList==[114,101,115,111,117,114,99,101])<;>simp
     clear hres
     rcases hcase with ⟨hk2,htb,hres⟩|⟨hcase,hres⟩
     ·have HR:=Lib.hid hres
      clear hres
      cases b1 with
      |false=>
       have HKN2:=HKN
       obtain ⟨a4,cap4,T4,i4,E4,o4,b4,x4,hn4⟩:=(St.next ⟨a2,cap2,T2,i2,E2,o2,b2,x2⟩).get
       have HN4:=Lib.hid hn4
       obtain ⟨t9,N9,hM9⟩:=resB_cons HR.out
       have HK3:Hid (Kin (⟨a,cap,TL,0,(s.size:Int),0,0,0⟩:St) ⟨a2,cap2,T2,i2,E2,o2,b2,x2⟩):=Lib.hid (hS.out.kin)
       have hS4:=hS.out.next hM9
       rw [hn4] at hS4
       have hK4:Kin (⟨a,cap,TL,0,(s.size:Int),0,0,0⟩:St) ⟨a4,cap4,T4,i4,E4,o4,b4,x4⟩:=hS4.kin
       have hi3:i2≤100000:=by have h1:=HK3.out.i;have h2:=HOK.out.2;dsimp only at h1;omega
       have HTT:Hid (Sv (⟨a,cap,TL,0,(s.size:Int),0,0,0⟩:St) ⟨a4,cap4,T4,i4,E4,o4,b4,x4⟩ (if resB M=true then M.tail else M)∨(L.map (·.2)).length=256):=Lib.hid (.inl (by rw [HR.out,if_pos rfl,hM9];exact hS4))
       obtain ⟨wd,hwd⟩:∃wd,(St.named ⟨a4,cap4,T4,i4,E4,o4,b4,x4⟩).2=wd:=⟨_,rfl⟩
       obtain ⟨a5,cap5,T5,i5,E5,o5,b5,x5,hn5⟩:=(St.named ⟨a4,cap4,T4,i4,E4,o4,b4,x4⟩).1.get
       have HNW:Hid ((St.named ⟨a4,cap4,T4,i4,E4,o4,b4,x4⟩).1=⟨a5,cap5,T5,i5,E5,o5,b5,x5⟩∧(St.named ⟨a4,cap4,T4,i4,E4,o4,b4,x4⟩).2=wd):=Lib.hid ⟨hn5,hwd⟩
       have HK4:=Lib.hid hK4
       have HNM:∀W,Hid (Below w4.heap.size w4 W)→Hid (Calls Tryz.prog 57 #[.agg #[.slice a4 T4.length cap4,.int .i64 (i4:Int),.int .i64 E4,.int .i64 o4,.int .i64 b4,.int .i64 x4]] W (Ans (.tuple #[.agg #[.slice a5 T5.length cap5,.int .i64 (i5:Int),.int .i64 E5,.int .i64 o5,.int .i64 b5,.int .i64 x5],.string wd]) W)):=fun W hW=>Lib.hid (by
        have:=snamed_any W ⟨a4,cap4,T4,i4,E4,o4,b4,x4⟩ (HSW.out hW.out HK4.out)
        rw [HNW.out.1,HNW.out.2] at this
        exact this)
       have hK5:Kin (⟨a,cap,TL,0,(s.size:Int),0,0,0⟩:St) ⟨a5,cap5,T5,i5,E5,o5,b5,x5⟩:=by
        have h1:Stt (⟨a,cap,TL,0,(s.size:Int),0,0,0⟩:St) ⟨a4,cap4,T4,i4,E4,o4,b4,x4⟩ (Res.ok () _:Res Unit):=hS4
        have h2:=h1.named.kin
        rw [hn5] at h2
        exact h2
       obtain ⟨a6,cap6,T6,i6,E6,o6,b6,x6,hn6⟩:=(St.must ⟨a5,cap5,T5,i5,E5,o5,b5,x5⟩ [58]).get
       have hpre:=preD_state hS.out false (L.map (·.2)) HB1.out
       rw [HR.out,HTK.out] at hpre
       simp only [if_true,Bool.false_eq_true,if_false] at hpre
       rw [hn4,hn5,hn6] at hpre
       have HPRE:=Lib.hid hpre
       have HN6:Hid (St.must ⟨a5,cap5,T5,i5,E5,o5,b5,x5⟩ (ByteArray.mk #[58]).toList=⟨a6,cap6,T6,i6,E6,o6,b6,x6⟩):=Lib.hid (by rw [Lib.toList_data];exact hn6)
       have HK5:=Lib.hid hK5
       obtain ⟨r7,hr7⟩:∃r,((preD (s.size:Int) (L.map (·.2)) M).bind fun _ M2=>wholeM (s.size:Int) M2)=r:=⟨_,rfl⟩
       have HR7:=Lib.hid hr7
       have HWH:∀W,Hid (Below w4.heap.size w4 W)→Hid (Calls Tryz.prog 59 #[.agg #[.slice a6 T6.length cap6,.int .i64 (i6:Int),.int .i64 E6,.int .i64 o6,.int .i64 b6,.int .i64 x6]] W (LevQ (⟨a,cap,TL,0,(s.size:Int),0,0,0⟩:St) ⟨a6,cap6,T6,i6,E6,o6,b6,x6⟩ r7 W)):=fun W hW=>Lib.hid (by
        have h5:=whole_q HPRE.out (HSW.out hW.out HPRE.out.kin) rfl
        have h6:LevQ (⟨a,cap,TL,0,(s.size:Int),0,0,0⟩:St) ⟨a6,cap6,T6,i6,E6,o6,b6,x6⟩ ((preD (s.size:Int) (L.map (·.2)) M).bind fun _ M2=>wholeM (s.size:Int) M2) W=LevQ (⟨a,cap,TL,0,(s.size:Int),0,0,0⟩:St) ⟨a6,cap6,T6,i6,E6,o6,b6,x6⟩ r7 W:=by rw [HR7.out]
        exact h6▸h5)
       have P3:=Lib.hid (Nat.le_refl 0)
       clear hpre hn6 hr7 hwd hn5 hK4 hK5 hn4 hM9 hS4
       have f0:=f
       clear f
       have f:=f0
       clear f0
       go_wp2_with (first
        |(go_at_call 54;refine (peek_as _ ⟨a2,cap2,T2,i2,E2,o2,b2,x2⟩ k n at_ tx (HSW.out HF.out.bl HKN2.out) HT).mono ?_;rintro e w5 ⟨rfl,hb⟩;replace HF:=Lib.hid (HF.out.call hb);replace HP:=Lib.hid (HP.out.call hb);clear f;have f1:=HF.out.facts;dsimp only [Fs,Nes,List.map] at f1;replace HF:=Lib.hid (HF.out.new_ #[.int .i64 k,.int .i64 n,.string tx,.int .i64 at_] 97 (n:=w5.heap.size) (rfl));replace HP:=Lib.hid (HP.out.new_ #[.int .i64 k,.int .i64 n,.string tx,.int .i64 at_] 97 (n:=w5.heap.size) (rfl));have f2:=HF.out.facts;dsimp only [Fs,Nes,List.map] at f2;replace HF:=Lib.hid (HF.out.new_ #[.string ⟨#[]⟩,.bool true,.int .i64 0,.int .i64 0,.string ⟨#[]⟩,.slice none 0 0,.slice none 0 0,.bool false,.slice none 0 0] 55 (n:=w5.heap.size+1) (World.size_alloc _ _));replace HP:=Lib.hid (HP.out.new_ #[.string ⟨#[]⟩,.bool true,.int .i64 0,.int .i64 0,.string ⟨#[]⟩,.slice none 0 0,.slice none 0 0,.bool false,.slice none 0 0] 55 (n:=w5.heap.size+1) (World.size_alloc _ _));have f:=HF.out.facts;dsimp only [Fs,Nes,List.map] at f;clear hb)
        |(go_at_call 56;refine (snext_as _ ⟨a2,cap2,T2,i2,E2,o2,b2,x2⟩ ⟨a4,cap4,T4,i4,E4,o4,b4,x4⟩ hi3 HN4).mono ?_;rintro e w7 ⟨rfl,hb⟩;unfold St.v;dsimp only;replace HF:=Lib.hid (HF.out.call hb);replace HP:=Lib.hid (HP.out.call hb);clear f f1 f2;have f1:=HF.out.facts;dsimp only [Fs,Nes,List.map] at f1;replace HF:=Lib.hid (by have t:=HF.out.put6 2 rfl (.slice a4 T4.length cap4) (.int .i64 (i4:Int)) (.int .i64 E4) (.int .i64 o4) (.int .i64 b4) (.int .i64 x4);simp only [List.set_cons_succ,List.set_cons_zero] at t;exact t);replace HP:=Lib.hid (by have t:=HP.out.put6 2 rfl (.slice a4 T4.length cap4) (.int .i64 (i4:Int)) (.int .i64 E4) (.int .i64 o4) (.int .i64 b4) (.int .i64 x4);simp only [List.set_cons_succ,List.set_cons_zero] at t;exact t);have f:=HF.out.facts;dsimp only [Fs,Nes,List.map] at f;unfold put6 at f;clear hb)
        |(go_at_call 57;refine (HNM _ (Lib.hid HF.out.bl)).out.mono ?_;rintro e w8 ⟨rfl,hb⟩;replace HF:=Lib.hid (HF.out.call hb);replace HP:=Lib.hid (HP.out.call hb);(try clear f2);clear f f1;have f1:=HF.out.facts;dsimp only [Fs,Nes,List.map] at f1;replace HF:=Lib.hid (by have t:=HF.out.put6 2 rfl (.slice a5 T5.length cap5) (.int .i64 (i5:Int)) (.int .i64 E5) (.int .i64 o5) (.int .i64 b5) (.int .i64 x5);simp only [List.set_cons_succ,List.set_cons_zero] at t;exact t);replace HP:=Lib.hid (by have t:=HP.out.put6 2 rfl (.slice a5 T5.length cap5) (.int .i64 (i5:Int)) (.int .i64 E5) (.int .i64 o5) (.int .i64 b5) (.int .i64 x5);simp only [List.set_cons_succ,List.set_cons_zero] at t;exact t);have f:=HF.out.facts;dsimp only [Fs,Nes,List.map] at f;unfold put6 at f;clear hb)
        |(go_at_call 58;clear P3;refine (smust_as _ ⟨a5,cap5,T5,i5,E5,o5,b5,x5⟩ ⟨a6,cap6,T6,i6,E6,o6,b6,x6⟩ ⟨#[58]⟩ (HSW.out HF.out.bl HK5.out) HN6).mono ?_;rintro e w10 ⟨rfl,hb⟩;unfold St.v;dsimp only;replace HF:=Lib.hid (HF.out.call hb);replace HP:=Lib.hid (HP.out.call hb);clear f f1;have f1:=HF.out.facts;dsimp only [Fs,Nes,List.map] at f1;replace HF:=Lib.hid (by have t:=HF.out.put6 2 rfl (.slice a6 T6.length cap6) (.int .i64 (i6:Int)) (.int .i64 E6) (.int .i64 o6) (.int .i64 b6) (.int .i64 x6);simp only [List.set_cons_succ,List.set_cons_zero] at t;exact t);replace HP:=Lib.hid (by have t:=HP.out.put6 2 rfl (.slice a6 T6.length cap6) (.int .i64 (i6:Int)) (.int .i64 E6) (.int .i64 o6) (.int .i64 b6) (.int .i64 x6);simp only [List.set_cons_succ,List.set_cons_zero] at t;exact t);have f2:=HF.out.facts;dsimp only [Fs,Nes,List.map] at f2;unfold put6 at f2;replace HF:=Lib.hid (HF.out.new_ #[.int .i64 0,.int .i64 0,.string ⟨#[]⟩,.slice none 0 0,.slice none 0 0,.bool false,.slice none 0 0] 35 (n:=w10.heap.size) (put6_size _ _ _ _ _ _ _ _));replace HP:=Lib.hid (HP.out.new_ #[.int .i64 0,.int .i64 0,.string ⟨#[]⟩,.slice none 0 0,.slice none 0 0,.bool false,.slice none 0 0] 35 (n:=w10.heap.size) (put6_size _ _ _ _ _ _ _ _));have f:=HF.out.facts;dsimp only [Fs,Nes,List.map] at f;unfold put6 at f;clear hb)
        |(go_at_call 59;refine (HWH _ (Lib.hid HF.out.bl)).out.mono ?_;rintro e w11 ⟨hb,S7,hd7,rfl,hst7,hx7⟩;have HY:=Lib.hid (fun x K e=>KE.of9 (hx7 x K e) HF.out HF.out.size HP.out);clear hx7;obtain ⟨a7,cap7,T7,i7,E7,o7,b7,x7⟩:=S7;obtain ⟨op,nn,s1,p,pl,pc,q,ql,qc,oo,ka,kl,kc⟩:=hd7;unfold St.v Hd.agg;dsimp only;replace HF:=Lib.hid (HF.out.call hb);replace HP:=Lib.hid (HP.out.call hb);clear f f1 f2;have f1:=HF.out.facts;dsimp only [Fs,Nes,List.map] at f1;replace HF:=Lib.hid (by have t:=HF.out.put6 3 rfl (.slice a7 T7.length cap7) (.int .i64 (i7:Int)) (.int .i64 E7) (.int .i64 o7) (.int .i64 b7) (.int .i64 x7);simp only [List.set_cons_succ,List.set_cons_zero] at t;exact t);replace HP:=Lib.hid (by have t:=HP.out.put6 3 rfl (.slice a7 T7.length cap7) (.int .i64 (i7:Int)) (.int .i64 E7) (.int .i64 o7) (.int .i64 b7) (.int .i64 x7);simp only [List.set_cons_succ,List.set_cons_zero] at t;exact t);have f2:=HF.out.facts;dsimp only [Fs,Nes,List.map] at f2;unfold put6 at f2;replace HF:=Lib.hid (by have t:=HF.out.put7 0 rfl (.int .i64 op) (.int .i64 nn) (.string s1) (.slice p pl pc) (.slice q ql qc) (.bool oo) (.slice ka kl kc);simp only [List.set_cons_zero] at t;exact t);replace HP:=Lib.hid (by have t:=HP.out.put7 0 rfl (.int .i64 op) (.int .i64 nn) (.string s1) (.slice p pl pc) (.slice q ql qc) (.bool oo) (.slice ka kl kc);simp only [List.set_cons_zero] at t;exact t);replace HY:=Lib.hid (fun x K e=>((HY.out x K e).put (i:=3) (cs':=#[.slice a7 T7.length cap7,.int .i64 (i7:Int),.int .i64 E7,.int .i64 o7,.int .i64 b7,.int .i64 x7]) rfl (put6_grown w11 w4.heap.size (.slice a7 T7.length cap7) (.int .i64 (i7:Int)) (.int .i64 E7) (.int .i64 o7) (.int .i64 b7) (.int .i64 x7))).put (i:=0) (cs':=#[.int .i64 op,.int .i64 nn,.string s1,.slice p pl pc,.slice q ql qc,.bool oo,.slice ka kl kc]) rfl (put7_grown (Ps.put6 w11 w4.heap.size (.slice a7 T7.length cap7) (.int .i64 (i7:Int)) (.int .i64 E7) (.int .i64 o7) (.int .i64 b7) (.int .i64 x7)) w10.heap.size (.int .i64 op) (.int .i64 nn) (.string s1) (.slice p pl pc) (.slice q ql qc) (.bool oo) (.slice ka kl kc)));obtain ⟨a8,cap8,T8,i8,E8,o8,b8,x8,hn8⟩:=(St.must ⟨a7,cap7,T7,i7,E7,o7,b7,x7⟩ [59]).get;have hst8:=hst7.must [59];rw [hn8] at hst8;have HST:=Lib.hid hst8;have HN8:Hid (St.must ⟨a7,cap7,T7,i7,E7,o7,b7,x7⟩ (ByteArray.mk #[59]).toList=⟨a8,cap8,T8,i8,E8,o8,b8,x8⟩):=Lib.hid (by rw [Lib.toList_data];exact hn8);have HK7:=Lib.hid hst7.kin;clear hst7 hst8 hn8;have f:=HF.out.facts;dsimp only [Fs,Nes,List.map] at f;unfold put6 put7 at f;clear hb)
        |(go_at_call 58;refine (smust_as _ ⟨a7,cap7,T7,i7,E7,o7,b7,x7⟩ ⟨a8,cap8,T8,i8,E8,o8,b8,x8⟩ ⟨#[59]⟩ (HSW.out HF.out.bl HK7.out) HN8).mono ?_;rintro e w12 ⟨rfl,hb⟩;unfold St.v;dsimp only;replace HF:=Lib.hid (HF.out.call hb);replace HP:=Lib.hid (HP.out.call hb);clear f f1 f2;replace HY:=Lib.hid (fun x K e=>(HY.out x K e).call hb);have f1:=HF.out.facts;dsimp only [Fs,Nes,List.map] at f1;replace HF:=Lib.hid (by have t:=HF.out.put6 3 rfl (.slice a8 T8.length cap8) (.int .i64 (i8:Int)) (.int .i64 E8) (.int .i64 o8) (.int .i64 b8) (.int .i64 x8);simp only [List.set_cons_succ,List.set_cons_zero] at t;exact t);replace HP:=Lib.hid (by have t:=HP.out.put6 3 rfl (.slice a8 T8.length cap8) (.int .i64 (i8:Int)) (.int .i64 E8) (.int .i64 o8) (.int .i64 b8) (.int .i64 x8);simp only [List.set_cons_succ,List.set_cons_zero] at t;exact t);have f2:=HF.out.facts;dsimp only [Fs,Nes,List.map] at f2;unfold put6 at f2;replace HF:=Lib.hid (by have t:=HF.out.set 1 0 rfl (.string wd);simp only [List.set_cons_succ,List.set_cons_zero,List.setIfInBounds_toArray] at t;exact t);have f3:=HF.out.facts;dsimp only [Fs,Nes,List.map] at f3;unfold put6 at f3;replace HF:=Lib.hid (by have t:=HF.out.put72 1 rfl (.int .i64 op) (.int .i64 nn) (.string s1) (.slice p pl pc) (.slice q ql qc) (.bool oo) (.slice ka kl kc);simp only [List.set_cons_succ,List.set_cons_zero] at t;exact t);replace HP:=Lib.hid (by have t:=(HP.out.put (i:=1) (cs':=#[.string wd,.bool true,.int .i64 0,.int .i64 0,.string ⟨#[]⟩,.slice none 0 0,.slice none 0 0,.bool false,.slice none 0 0]) rfl (setCell_grown (Ps.put6 w12 w4.heap.size (.slice a8 T8.length cap8) (.int .i64 (i8:Int)) (.int .i64 E8) (.int .i64 o8) (.int .i64 b8) (.int .i64 x8)) (w5.heap.size+1) 0 (.string wd))).put (i:=1) (cs':=#[.string wd,.bool true,.int .i64 op,.int .i64 nn,.string s1,.slice p pl pc,.slice q ql qc,.bool oo,.slice ka kl kc]) rfl (put72_grown ((Ps.put6 w12 w4.heap.size (.slice a8 T8.length cap8) (.int .i64 (i8:Int)) (.int .i64 E8) (.int .i64 o8) (.int .i64 b8) (.int .i64 x8)).setCell ⟨w5.heap.size+1,0,none⟩ (.string wd)) (w5.heap.size+1) (.int .i64 op) (.int .i64 nn) (.string s1) (.slice p pl pc) (.slice q ql qc) (.bool oo) (.slice ka kl kc));simp only [List.set_cons_succ,List.set_cons_zero] at t;exact t);replace HY:=Lib.hid (fun x K e=>(((HY.out x K e).put (i:=3) (cs':=#[.slice a8 T8.length cap8,.int .i64 (i8:Int),.int .i64 E8,.int .i64 o8,.int .i64 b8,.int .i64 x8]) rfl (put6_grown w12 w4.heap.size (.slice a8 T8.length cap8) (.int .i64 (i8:Int)) (.int .i64 E8) (.int .i64 o8) (.int .i64 b8) (.int .i64 x8))).put (i:=1) (cs':=#[.string wd,.bool true,.int .i64 0,.int .i64 0,.string ⟨#[]⟩,.slice none 0 0,.slice none 0 0,.bool false,.slice none 0 0]) rfl (setCell_grown (Ps.put6 w12 w4.heap.size (.slice a8 T8.length cap8) (.int .i64 (i8:Int)) (.int .i64 E8) (.int .i64 o8) (.int .i64 b8) (.int .i64 x8)) (w5.heap.size+1) 0 (.string wd))).put (i:=1) (cs':=#[.string wd,.bool true,.int .i64 op,.int .i64 nn,.string s1,.slice p pl pc,.slice q ql qc,.bool oo,.slice ka kl kc]) rfl (put72_grown ((Ps.put6 w12 w4.heap.size (.slice a8 T8.length cap8) (.int .i64 (i8:Int)) (.int .i64 E8) (.int .i64 o8) (.int .i64 b8) (.int .i64 x8)).setCell ⟨w5.heap.size+1,0,none⟩ (.string wd)) (w5.heap.size+1) (.int .i64 op) (.int .i64 nn) (.string s1) (.slice p pl pc) (.slice q ql qc) (.bool oo) (.slice ka kl kc)));have f:=HF.out.facts;dsimp only [Fs,Nes,List.map] at f;(try unfold put72 at f);(try unfold put7 at f);(try unfold put6 at f);have g:=(HF.out.old (.cells #[.string wd,.bool true,.int .i64 op,.int .i64 nn,.string s1,.slice p pl pc,.slice q ql qc,.bool oo,.slice ka kl kc] 55)).facts;dsimp only [Fs,Nes,List.map] at g;unfold put72 put6 at g;have HWZ:Hid ((Ps.put72 ((Ps.put6 w12 w4.heap.size (.slice a8 T8.length cap8) (.int .i64 (i8:Int)) (.int .i64 E8) (.int .i64 o8) (.int .i64 b8) (.int .i64 x8)).setCell ⟨w5.heap.size+1,0,none⟩ (.string wd)) (w5.heap.size+1) (.int .i64 op) (.int .i64 nn) (.string s1) (.slice p pl pc) (.slice q ql qc) (.bool oo) (.slice ka kl kc)).heap.size=w12.heap.size):=Lib.hid (by rw [put72_size];simp [World.setCell,Ps.put6]);have HCN:=Lib.hid (World.news_of_block (Lx.heap_new (Ps.put72 ((Ps.put6 w12 w4.heap.size (.slice a8 T8.length cap8) (.int .i64 (i8:Int)) (.int .i64 E8) (.int .i64 o8) (.int .i64 b8) (.int .i64 x8)).setCell ⟨w5.heap.size+1,0,none⟩ (.string wd)) (w5.heap.size+1) (.int .i64 op) (.int .i64 nn) (.string s1) (.slice p pl pc) (.slice q ql qc) (.bool oo) (.slice ka kl kc)) (.cells #[.string wd,.bool true,.int .i64 op,.int .i64 nn,.string s1,.slice p pl pc,.slice q ql qc,.bool oo,.slice ka kl kc] 55)));rw [HWZ.out] at HCN;clear hb)
        |(at_builtin;refine wpList_append_own_at _ rfl _ _ 23 rfl w4.heap.size 55 i0 _ 9 136 Tryz.underlying23 HI.out HI0.out HI1.out HI2.out rfl (by decide) _ rl (dcells L) rfl (by have h9:=HP.out.own.alloc (.cells #[.string wd,.bool true,.int .i64 op,.int .i64 nn,.string s1,.slice p pl pc,.slice q ql qc,.bool oo,.slice ka kl kc] 55);rw [hL.out] at h9;exact h9) ⟨w12.heap.size,0,none⟩ 1 1 [.string wd,.bool true,.int .i64 op,.int .i64 nn,.string s1,.slice p pl pc,.slice q ql qc,.bool oo,.slice ka kl kc] rfl rfl HCN.out (fun x hx=>by simp at hx;rcases hx with rfl|rfl|rfl|rfl|rfl|rfl|rfl|rfl|rfl<;>rfl) (by unfold maxLen;omega) (by omega) (Nat.le_trans HF.out.size (bl_alloc (Below.refl _ _)).size) ?_))
       intro v9 w9 hown hgrow hnil hob
       obtain ⟨qa2,qc2,rfl⟩:=own_any hown
       have hF:=HF.out.rowD HP.out hgrow
       have hfr:=HF.out.fresh (Nat.le_succ _)
       rcases decl_rel (s:=(⟨a,cap,TL,0,(s.size:Int),0,0,0⟩:St)) HOK.out.1 HM.out (by rw [List.length_map,hL.out];exact hql) hFA.out HTT.out HNW.out.2 HR7.out.symm HST.out with ⟨x,K,M',hS8,hlt,hFA',h256',hz,hr7,hval⟩|⟨aa,xx,hD,hRF⟩
       ·rw [HR.out] at hFA'
        have hA:=HP.out.app (nm:=wd) (r:=true) (h:=(⟨op,nn,s1,p,pl,pc,q,ql,qc,oo,ka,kl,kc⟩:Hd)) (x:=x) (HY.out x K hr7) rfl hgrow (by rw [hL.out];exact hown) (by rw [HWZ.out];exact hob) hfr
        go_wp2_with fail
        go_roundw
        case rel=>exact ⟨_,_,_,_,_,_,_,_,qa2,rl+1,qc2,rfl,Lib.hid hF.tail.tail.tail,.inl ⟨L++[((⟨op,nn,s1,p,pl,pc,q,ql,qc,oo,ka,kl,kc⟩:Hd),⟨true,wd,x⟩)],M',by rw [List.length_map,hL.out] at h256';exact h256',Lib.hid (by rw [List.length_append,hL.out];rfl),Lib.hid hA.tail.tail.tail,Lib.hid hS8,Lib.hid (by rw [List.map_append];exact hFA'),Lib.hid (fun y hy=>(List.mem_append.1 hy).elim (hNZ.out y) (fun hy=>by rw [List.mem_singleton.1 hy];exact hz))⟩⟩
        case measure=>
         show leftS _ w4.heap.size<leftS wr w4.heap.size
         refine Nat.lt_of_le_of_lt (Nat.le_of_eq (Sv.leftS hS8 (hF.bx (i:=3) rfl))) ?_
         rw [HL2.out]
         omega
       ·go_wp2_with fail
        go_roundw
        case rel=>exact ⟨_,_,_,_,_,_,_,_,qa2,rl+1,qc2,rfl,Lib.hid hF.tail.tail.tail,.inr ⟨aa,xx,Lib.hid hD,Lib.hid hRF⟩⟩
        case measure=>
         show leftS _ w4.heap.size<leftS wr w4.heap.size
         refine Nat.lt_of_le_of_lt (Nat.le_of_eq (Dd.leftS hD (hF.bx (i:=3) rfl))) ?_
         rw [HL2.out]
         omega
      |true=>
       have HKN2:=HKN
       obtain ⟨a3,cap3,T3,i3,E3,o3,b3,x3,hn3⟩:=(St.fail ⟨a2,cap2,T2,i2,E2,o2,b2,x2⟩ ⟨⟨k,n,tx.toList⟩,at_⟩ 4).get
       have HN3:=Lib.hid hn3
       have hD3:=hS.out.fail ⟨⟨k,n,tx.toList⟩,at_⟩ 4 (by decide)
       rw [hn3] at hD3
       obtain ⟨a4,cap4,T4,i4,E4,o4,b4,x4,hn4⟩:=(St.next ⟨a3,cap3,T3,i3,E3,o3,b3,x3⟩).get
       have HN4:=Lib.hid hn4
       obtain ⟨t9,N9,hM9⟩:=resB_cons HR.out
       have HK3:Hid (Kin (⟨a,cap,TL,0,(s.size:Int),0,0,0⟩:St) ⟨a3,cap3,T3,i3,E3,o3,b3,x3⟩):=Lib.hid (hD3.kin)
       have hK4:Kin (⟨a,cap,TL,0,(s.size:Int),0,0,0⟩:St) ⟨a4,cap4,T4,i4,E4,o4,b4,x4⟩:=by rw [←hn4,hD3.next];exact hD3.kin
       have hi3:i3≤100000:=by have h1:=HK3.out.i;have h2:=HOK.out.2;dsimp only at h1;omega
       have HTT:Hid (Sv (⟨a,cap,TL,0,(s.size:Int),0,0,0⟩:St) ⟨a4,cap4,T4,i4,E4,o4,b4,x4⟩ (if resB M=true then M.tail else M)∨(L.map (·.2)).length=256):=Lib.hid (.inr (HB1.out.2 rfl))
       obtain ⟨wd,hwd⟩:∃wd,(St.named ⟨a4,cap4,T4,i4,E4,o4,b4,x4⟩).2=wd:=⟨_,rfl⟩
       obtain ⟨a5,cap5,T5,i5,E5,o5,b5,x5,hn5⟩:=(St.named ⟨a4,cap4,T4,i4,E4,o4,b4,x4⟩).1.get
       have HNW:Hid ((St.named ⟨a4,cap4,T4,i4,E4,o4,b4,x4⟩).1=⟨a5,cap5,T5,i5,E5,o5,b5,x5⟩∧(St.named ⟨a4,cap4,T4,i4,E4,o4,b4,x4⟩).2=wd):=Lib.hid ⟨hn5,hwd⟩
       have HK4:=Lib.hid hK4
       have HNM:∀W,Hid (Below w4.heap.size w4 W)→Hid (Calls Tryz.prog 57 #[.agg #[.slice a4 T4.length cap4,.int .i64 (i4:Int),.int .i64 E4,.int .i64 o4,.int .i64 b4,.int .i64 x4]] W (Ans (.tuple #[.agg #[.slice a5 T5.length cap5,.int .i64 (i5:Int),.int .i64 E5,.int .i64 o5,.int .i64 b5,.int .i64 x5],.string wd]) W)):=fun W hW=>Lib.hid (by
        have:=snamed_any W ⟨a4,cap4,T4,i4,E4,o4,b4,x4⟩ (HSW.out hW.out HK4.out)
        rw [HNW.out.1,HNW.out.2] at this
        exact this)
       have hK5:Kin (⟨a,cap,TL,0,(s.size:Int),0,0,0⟩:St) ⟨a5,cap5,T5,i5,E5,o5,b5,x5⟩:=by
        have h1:Stt (⟨a,cap,TL,0,(s.size:Int),0,0,0⟩:St) ⟨a4,cap4,T4,i4,E4,o4,b4,x4⟩ (Res.bad at_ 4:Res Unit):=by rw [←hn4,hD3.next];exact hD3
        have h2:=h1.named.kin
        rw [hn5] at h2
        exact h2
       obtain ⟨a6,cap6,T6,i6,E6,o6,b6,x6,hn6⟩:=(St.must ⟨a5,cap5,T5,i5,E5,o5,b5,x5⟩ [58]).get
       have hpre:=preD_state hS.out true (L.map (·.2)) HB1.out
       rw [HR.out,HTK.out] at hpre
       simp only [if_true] at hpre
       rw [hn3,hn4,hn5,hn6] at hpre
       have HPRE:=Lib.hid hpre
       have HN6:Hid (St.must ⟨a5,cap5,T5,i5,E5,o5,b5,x5⟩ (ByteArray.mk #[58]).toList=⟨a6,cap6,T6,i6,E6,o6,b6,x6⟩):=Lib.hid (by rw [Lib.toList_data];exact hn6)
       have HK5:=Lib.hid hK5
       obtain ⟨r7,hr7⟩:∃r,((preD (s.size:Int) (L.map (·.2)) M).bind fun _ M2=>wholeM (s.size:Int) M2)=r:=⟨_,rfl⟩
       have HR7:=Lib.hid hr7
       have HWH:∀W,Hid (Below w4.heap.size w4 W)→Hid (Calls Tryz.prog 59 #[.agg #[.slice a6 T6.length cap6,.int .i64 (i6:Int),.int .i64 E6,.int .i64 o6,.int .i64 b6,.int .i64 x6]] W (LevQ (⟨a,cap,TL,0,(s.size:Int),0,0,0⟩:St) ⟨a6,cap6,T6,i6,E6,o6,b6,x6⟩ r7 W)):=fun W hW=>Lib.hid (by
        have h5:=whole_q HPRE.out (HSW.out hW.out HPRE.out.kin) rfl
        have h6:LevQ (⟨a,cap,TL,0,(s.size:Int),0,0,0⟩:St) ⟨a6,cap6,T6,i6,E6,o6,b6,x6⟩ ((preD (s.size:Int) (L.map (·.2)) M).bind fun _ M2=>wholeM (s.size:Int) M2) W=LevQ (⟨a,cap,TL,0,(s.size:Int),0,0,0⟩:St) ⟨a6,cap6,T6,i6,E6,o6,b6,x6⟩ r7 W:=by rw [HR7.out]
        exact h6▸h5)
       have P3:=Lib.hid (Nat.le_refl 0)
       clear hpre hn6 hr7 hwd hn5 hK4 hK5 hn3 hD3 hn4 hM9
       have f0:=f
       clear f
       have f:=f0
       clear f0
       go_wp2_with (first
        |(go_at_call 54;refine (peek_as _ ⟨a2,cap2,T2,i2,E2,o2,b2,x2⟩ k n at_ tx (HSW.out HF.out.bl HKN2.out) HT).mono ?_;rintro e w5 ⟨rfl,hb⟩;replace HF:=Lib.hid (HF.out.call hb);replace HP:=Lib.hid (HP.out.call hb);clear f;have f1:=HF.out.facts;dsimp only [Fs,Nes,List.map] at f1;replace HF:=Lib.hid (HF.out.new_ #[.int .i64 k,.int .i64 n,.string tx,.int .i64 at_] 97 (n:=w5.heap.size) (rfl));replace HP:=Lib.hid (HP.out.new_ #[.int .i64 k,.int .i64 n,.string tx,.int .i64 at_] 97 (n:=w5.heap.size) (rfl));have f:=HF.out.facts;dsimp only [Fs,Nes,List.map] at f;clear hb)
        |(go_at_call 55;refine (sfail_as _ ⟨a2,cap2,T2,i2,E2,o2,b2,x2⟩ ⟨a3,cap3,T3,i3,E3,o3,b3,x3⟩ k n tx at_ 4 HN3).mono ?_;rintro e w6 ⟨rfl,hb⟩;unfold St.v;dsimp only;replace HF:=Lib.hid (HF.out.call hb);replace HP:=Lib.hid (HP.out.call hb);clear f f1;have f1:=HF.out.facts;dsimp only [Fs,Nes,List.map] at f1;replace HF:=Lib.hid (by have t:=HF.out.put6 1 rfl (.slice a3 T3.length cap3) (.int .i64 (i3:Int)) (.int .i64 E3) (.int .i64 o3) (.int .i64 b3) (.int .i64 x3);simp only [List.set_cons_succ,List.set_cons_zero] at t;exact t);replace HP:=Lib.hid (by have t:=HP.out.put6 1 rfl (.slice a3 T3.length cap3) (.int .i64 (i3:Int)) (.int .i64 E3) (.int .i64 o3) (.int .i64 b3) (.int .i64 x3);simp only [List.set_cons_succ,List.set_cons_zero] at t;exact t);have f2:=HF.out.facts;dsimp only [Fs,Nes,List.map] at f2;unfold put6 at f2;replace HF:=Lib.hid (HF.out.new_ #[.string ⟨#[]⟩,.bool true,.int .i64 0,.int .i64 0,.string ⟨#[]⟩,.slice none 0 0,.slice none 0 0,.bool false,.slice none 0 0] 55 (n:=w6.heap.size) (put6_size _ _ _ _ _ _ _ _));replace HP:=Lib.hid (HP.out.new_ #[.string ⟨#[]⟩,.bool true,.int .i64 0,.int .i64 0,.string ⟨#[]⟩,.slice none 0 0,.slice none 0 0,.bool false,.slice none 0 0] 55 (n:=w6.heap.size) (put6_size _ _ _ _ _ _ _ _));have f:=HF.out.facts;dsimp only [Fs,Nes,List.map] at f;unfold put6 at f;clear hb)
        |(go_at_call 56;refine (snext_as _ ⟨a3,cap3,T3,i3,E3,o3,b3,x3⟩ ⟨a4,cap4,T4,i4,E4,o4,b4,x4⟩ hi3 HN4).mono ?_;rintro e w7 ⟨rfl,hb⟩;unfold St.v;dsimp only;replace HF:=Lib.hid (HF.out.call hb);replace HP:=Lib.hid (HP.out.call hb);clear f f1 f2;have f1:=HF.out.facts;dsimp only [Fs,Nes,List.map] at f1;replace HF:=Lib.hid (by have t:=HF.out.put6 2 rfl (.slice a4 T4.length cap4) (.int .i64 (i4:Int)) (.int .i64 E4) (.int .i64 o4) (.int .i64 b4) (.int .i64 x4);simp only [List.set_cons_succ,List.set_cons_zero] at t;exact t);replace HP:=Lib.hid (by have t:=HP.out.put6 2 rfl (.slice a4 T4.length cap4) (.int .i64 (i4:Int)) (.int .i64 E4) (.int .i64 o4) (.int .i64 b4) (.int .i64 x4);simp only [List.set_cons_succ,List.set_cons_zero] at t;exact t);have f:=HF.out.facts;dsimp only [Fs,Nes,List.map] at f;unfold put6 at f;clear hb)
        |(go_at_call 57;refine (HNM _ (Lib.hid HF.out.bl)).out.mono ?_;rintro e w8 ⟨rfl,hb⟩;replace HF:=Lib.hid (HF.out.call hb);replace HP:=Lib.hid (HP.out.call hb);(try clear f2);clear f f1;have f1:=HF.out.facts;dsimp only [Fs,Nes,List.map] at f1;replace HF:=Lib.hid (by have t:=HF.out.put6 2 rfl (.slice a5 T5.length cap5) (.int .i64 (i5:Int)) (.int .i64 E5) (.int .i64 o5) (.int .i64 b5) (.int .i64 x5);simp only [List.set_cons_succ,List.set_cons_zero] at t;exact t);replace HP:=Lib.hid (by have t:=HP.out.put6 2 rfl (.slice a5 T5.length cap5) (.int .i64 (i5:Int)) (.int .i64 E5) (.int .i64 o5) (.int .i64 b5) (.int .i64 x5);simp only [List.set_cons_succ,List.set_cons_zero] at t;exact t);have f:=HF.out.facts;dsimp only [Fs,Nes,List.map] at f;unfold put6 at f;clear hb)
        |(go_at_call 58;clear P3;refine (smust_as _ ⟨a5,cap5,T5,i5,E5,o5,b5,x5⟩ ⟨a6,cap6,T6,i6,E6,o6,b6,x6⟩ ⟨#[58]⟩ (HSW.out HF.out.bl HK5.out) HN6).mono ?_;rintro e w10 ⟨rfl,hb⟩;unfold St.v;dsimp only;replace HF:=Lib.hid (HF.out.call hb);replace HP:=Lib.hid (HP.out.call hb);clear f f1;have f1:=HF.out.facts;dsimp only [Fs,Nes,List.map] at f1;replace HF:=Lib.hid (by have t:=HF.out.put6 2 rfl (.slice a6 T6.length cap6) (.int .i64 (i6:Int)) (.int .i64 E6) (.int .i64 o6) (.int .i64 b6) (.int .i64 x6);simp only [List.set_cons_succ,List.set_cons_zero] at t;exact t);replace HP:=Lib.hid (by have t:=HP.out.put6 2 rfl (.slice a6 T6.length cap6) (.int .i64 (i6:Int)) (.int .i64 E6) (.int .i64 o6) (.int .i64 b6) (.int .i64 x6);simp only [List.set_cons_succ,List.set_cons_zero] at t;exact t);have f2:=HF.out.facts;dsimp only [Fs,Nes,List.map] at f2;unfold put6 at f2;replace HF:=Lib.hid (HF.out.new_ #[.int .i64 0,.int .i64 0,.string ⟨#[]⟩,.slice none 0 0,.slice none 0 0,.bool false,.slice none 0 0] 35 (n:=w10.heap.size) (put6_size _ _ _ _ _ _ _ _));replace HP:=Lib.hid (HP.out.new_ #[.int .i64 0,.int .i64 0,.string ⟨#[]⟩,.slice none 0 0,.slice none 0 0,.bool false,.slice none 0 0] 35 (n:=w10.heap.size) (put6_size _ _ _ _ _ _ _ _));have f:=HF.out.facts;dsimp only [Fs,Nes,List.map] at f;unfold put6 at f;clear hb)
        |(go_at_call 59;refine (HWH _ (Lib.hid HF.out.bl)).out.mono ?_;rintro e w11 ⟨hb,S7,hd7,rfl,hst7,hx7⟩;have HY:=Lib.hid (fun x K e=>KE.of9 (hx7 x K e) HF.out HF.out.size HP.out);clear hx7;obtain ⟨a7,cap7,T7,i7,E7,o7,b7,x7⟩:=S7;obtain ⟨op,nn,s1,p,pl,pc,q,ql,qc,oo,ka,kl,kc⟩:=hd7;unfold St.v Hd.agg;dsimp only;replace HF:=Lib.hid (HF.out.call hb);replace HP:=Lib.hid (HP.out.call hb);clear f f1 f2;have f1:=HF.out.facts;dsimp only [Fs,Nes,List.map] at f1;replace HF:=Lib.hid (by have t:=HF.out.put6 3 rfl (.slice a7 T7.length cap7) (.int .i64 (i7:Int)) (.int .i64 E7) (.int .i64 o7) (.int .i64 b7) (.int .i64 x7);simp only [List.set_cons_succ,List.set_cons_zero] at t;exact t);replace HP:=Lib.hid (by have t:=HP.out.put6 3 rfl (.slice a7 T7.length cap7) (.int .i64 (i7:Int)) (.int .i64 E7) (.int .i64 o7) (.int .i64 b7) (.int .i64 x7);simp only [List.set_cons_succ,List.set_cons_zero] at t;exact t);have f2:=HF.out.facts;dsimp only [Fs,Nes,List.map] at f2;unfold put6 at f2;replace HF:=Lib.hid (by have t:=HF.out.put7 0 rfl (.int .i64 op) (.int .i64 nn) (.string s1) (.slice p pl pc) (.slice q ql qc) (.bool oo) (.slice ka kl kc);simp only [List.set_cons_zero] at t;exact t);replace HP:=Lib.hid (by have t:=HP.out.put7 0 rfl (.int .i64 op) (.int .i64 nn) (.string s1) (.slice p pl pc) (.slice q ql qc) (.bool oo) (.slice ka kl kc);simp only [List.set_cons_zero] at t;exact t);replace HY:=Lib.hid (fun x K e=>((HY.out x K e).put (i:=3) (cs':=#[.slice a7 T7.length cap7,.int .i64 (i7:Int),.int .i64 E7,.int .i64 o7,.int .i64 b7,.int .i64 x7]) rfl (put6_grown w11 w4.heap.size (.slice a7 T7.length cap7) (.int .i64 (i7:Int)) (.int .i64 E7) (.int .i64 o7) (.int .i64 b7) (.int .i64 x7))).put (i:=0) (cs':=#[.int .i64 op,.int .i64 nn,.string s1,.slice p pl pc,.slice q ql qc,.bool oo,.slice ka kl kc]) rfl (put7_grown (Ps.put6 w11 w4.heap.size (.slice a7 T7.length cap7) (.int .i64 (i7:Int)) (.int .i64 E7) (.int .i64 o7) (.int .i64 b7) (.int .i64 x7)) w10.heap.size (.int .i64 op) (.int .i64 nn) (.string s1) (.slice p pl pc) (.slice q ql qc) (.bool oo) (.slice ka kl kc)));obtain ⟨a8,cap8,T8,i8,E8,o8,b8,x8,hn8⟩:=(St.must ⟨a7,cap7,T7,i7,E7,o7,b7,x7⟩ [59]).get;have hst8:=hst7.must [59];rw [hn8] at hst8;have HST:=Lib.hid hst8;have HN8:Hid (St.must ⟨a7,cap7,T7,i7,E7,o7,b7,x7⟩ (ByteArray.mk #[59]).toList=⟨a8,cap8,T8,i8,E8,o8,b8,x8⟩):=Lib.hid (by rw [Lib.toList_data];exact hn8);have HK7:=Lib.hid hst7.kin;clear hst7 hst8 hn8;have f:=HF.out.facts;dsimp only [Fs,Nes,List.map] at f;unfold put6 put7 at f;clear hb)
        |(go_at_call 58;refine (smust_as _ ⟨a7,cap7,T7,i7,E7,o7,b7,x7⟩ ⟨a8,cap8,T8,i8,E8,o8,b8,x8⟩ ⟨#[59]⟩ (HSW.out HF.out.bl HK7.out) HN8).mono ?_;rintro e w12 ⟨rfl,hb⟩;unfold St.v;dsimp only;replace HF:=Lib.hid (HF.out.call hb);replace HP:=Lib.hid (HP.out.call hb);clear f f1 f2;replace HY:=Lib.hid (fun x K e=>(HY.out x K e).call hb);have f1:=HF.out.facts;dsimp only [Fs,Nes,List.map] at f1;replace HF:=Lib.hid (by have t:=HF.out.put6 3 rfl (.slice a8 T8.length cap8) (.int .i64 (i8:Int)) (.int .i64 E8) (.int .i64 o8) (.int .i64 b8) (.int .i64 x8);simp only [List.set_cons_succ,List.set_cons_zero] at t;exact t);replace HP:=Lib.hid (by have t:=HP.out.put6 3 rfl (.slice a8 T8.length cap8) (.int .i64 (i8:Int)) (.int .i64 E8) (.int .i64 o8) (.int .i64 b8) (.int .i64 x8);simp only [List.set_cons_succ,List.set_cons_zero] at t;exact t);have f2:=HF.out.facts;dsimp only [Fs,Nes,List.map] at f2;unfold put6 at f2;replace HF:=Lib.hid (by have t:=HF.out.set 1 0 rfl (.string wd);simp only [List.set_cons_succ,List.set_cons_zero,List.setIfInBounds_toArray] at t;exact t);have f3:=HF.out.facts;dsimp only [Fs,Nes,List.map] at f3;unfold put6 at f3;replace HF:=Lib.hid (by have t:=HF.out.put72 1 rfl (.int .i64 op) (.int .i64 nn) (.string s1) (.slice p pl pc) (.slice q ql qc) (.bool oo) (.slice ka kl kc);simp only [List.set_cons_succ,List.set_cons_zero] at t;exact t);replace HP:=Lib.hid (by have t:=(HP.out.put (i:=1) (cs':=#[.string wd,.bool true,.int .i64 0,.int .i64 0,.string ⟨#[]⟩,.slice none 0 0,.slice none 0 0,.bool false,.slice none 0 0]) rfl (setCell_grown (Ps.put6 w12 w4.heap.size (.slice a8 T8.length cap8) (.int .i64 (i8:Int)) (.int .i64 E8) (.int .i64 o8) (.int .i64 b8) (.int .i64 x8)) (w6.heap.size) 0 (.string wd))).put (i:=1) (cs':=#[.string wd,.bool true,.int .i64 op,.int .i64 nn,.string s1,.slice p pl pc,.slice q ql qc,.bool oo,.slice ka kl kc]) rfl (put72_grown ((Ps.put6 w12 w4.heap.size (.slice a8 T8.length cap8) (.int .i64 (i8:Int)) (.int .i64 E8) (.int .i64 o8) (.int .i64 b8) (.int .i64 x8)).setCell ⟨w6.heap.size,0,none⟩ (.string wd)) (w6.heap.size) (.int .i64 op) (.int .i64 nn) (.string s1) (.slice p pl pc) (.slice q ql qc) (.bool oo) (.slice ka kl kc));simp only [List.set_cons_succ,List.set_cons_zero] at t;exact t);replace HY:=Lib.hid (fun x K e=>(((HY.out x K e).put (i:=3) (cs':=#[.slice a8 T8.length cap8,.int .i64 (i8:Int),.int .i64 E8,.int .i64 o8,.int .i64 b8,.int .i64 x8]) rfl (put6_grown w12 w4.heap.size (.slice a8 T8.length cap8) (.int .i64 (i8:Int)) (.int .i64 E8) (.int .i64 o8) (.int .i64 b8) (.int .i64 x8))).put (i:=1) (cs':=#[.string wd,.bool true,.int .i64 0,.int .i64 0,.string ⟨#[]⟩,.slice none 0 0,.slice none 0 0,.bool false,.slice none 0 0]) rfl (setCell_grown (Ps.put6 w12 w4.heap.size (.slice a8 T8.length cap8) (.int .i64 (i8:Int)) (.int .i64 E8) (.int .i64 o8) (.int .i64 b8) (.int .i64 x8)) (w6.heap.size) 0 (.string wd))).put (i:=1) (cs':=#[.string wd,.bool true,.int .i64 op,.int .i64 nn,.string s1,.slice p pl pc,.slice q ql qc,.bool oo,.slice ka kl kc]) rfl (put72_grown ((Ps.put6 w12 w4.heap.size (.slice a8 T8.length cap8) (.int .i64 (i8:Int)) (.int .i64 E8) (.int .i64 o8) (.int .i64 b8) (.int .i64 x8)).setCell ⟨w6.heap.size,0,none⟩ (.string wd)) (w6.heap.size) (.int .i64 op) (.int .i64 nn) (.string s1) (.slice p pl pc) (.slice q ql qc) (.bool oo) (.slice ka kl kc)));have f:=HF.out.facts;dsimp only [Fs,Nes,List.map] at f;(try unfold put72 at f);(try unfold put7 at f);(try unfold put6 at f);have g:=(HF.out.old (.cells #[.string wd,.bool true,.int .i64 op,.int .i64 nn,.string s1,.slice p pl pc,.slice q ql qc,.bool oo,.slice ka kl kc] 55)).facts;dsimp only [Fs,Nes,List.map] at g;unfold put72 put6 at g;have HWZ:Hid ((Ps.put72 ((Ps.put6 w12 w4.heap.size (.slice a8 T8.length cap8) (.int .i64 (i8:Int)) (.int .i64 E8) (.int .i64 o8) (.int .i64 b8) (.int .i64 x8)).setCell ⟨w6.heap.size,0,none⟩ (.string wd)) (w6.heap.size) (.int .i64 op) (.int .i64 nn) (.string s1) (.slice p pl pc) (.slice q ql qc) (.bool oo) (.slice ka kl kc)).heap.size=w12.heap.size):=Lib.hid (by rw [put72_size];simp [World.setCell,Ps.put6]);have HCN:=Lib.hid (World.news_of_block (Lx.heap_new (Ps.put72 ((Ps.put6 w12 w4.heap.size (.slice a8 T8.length cap8) (.int .i64 (i8:Int)) (.int .i64 E8) (.int .i64 o8) (.int .i64 b8) (.int .i64 x8)).setCell ⟨w6.heap.size,0,none⟩ (.string wd)) (w6.heap.size) (.int .i64 op) (.int .i64 nn) (.string s1) (.slice p pl pc) (.slice q ql qc) (.bool oo) (.slice ka kl kc)) (.cells #[.string wd,.bool true,.int .i64 op,.int .i64 nn,.string s1,.slice p pl pc,.slice q ql qc,.bool oo,.slice ka kl kc] 55)));rw [HWZ.out] at HCN;clear hb)
        |(at_builtin;refine wpList_append_own_at _ rfl _ _ 23 rfl w4.heap.size 55 i0 _ 9 136 Tryz.underlying23 HI.out HI0.out HI1.out HI2.out rfl (by decide) _ rl (dcells L) rfl (by have h9:=HP.out.own.alloc (.cells #[.string wd,.bool true,.int .i64 op,.int .i64 nn,.string s1,.slice p pl pc,.slice q ql qc,.bool oo,.slice ka kl kc] 55);rw [hL.out] at h9;exact h9) ⟨w12.heap.size,0,none⟩ 1 1 [.string wd,.bool true,.int .i64 op,.int .i64 nn,.string s1,.slice p pl pc,.slice q ql qc,.bool oo,.slice ka kl kc] rfl rfl HCN.out (fun x hx=>by simp at hx;rcases hx with rfl|rfl|rfl|rfl|rfl|rfl|rfl|rfl|rfl<;>rfl) (by unfold maxLen;omega) (by omega) (Nat.le_trans HF.out.size (bl_alloc (Below.refl _ _)).size) ?_))
       intro v9 w9 hown hgrow hnil hob
       obtain ⟨qa2,qc2,rfl⟩:=own_any hown
       have hF:=HF.out.rowD HP.out hgrow
       have hfr:=HF.out.fresh (Nat.le_succ _)
       rcases decl_rel (s:=(⟨a,cap,TL,0,(s.size:Int),0,0,0⟩:St)) HOK.out.1 HM.out (by rw [List.length_map,hL.out];exact hql) hFA.out HTT.out HNW.out.2 HR7.out.symm HST.out with ⟨x,K,M',hS8,hlt,hFA',h256',hz,hr7,hval⟩|⟨aa,xx,hD,hRF⟩
       ·rw [HR.out] at hFA'
        have hA:=HP.out.app (nm:=wd) (r:=true) (h:=(⟨op,nn,s1,p,pl,pc,q,ql,qc,oo,ka,kl,kc⟩:Hd)) (x:=x) (HY.out x K hr7) rfl hgrow (by rw [hL.out];exact hown) (by rw [HWZ.out];exact hob) hfr
        go_wp2_with fail
        go_roundw
        case rel=>exact ⟨_,_,_,_,_,_,_,_,qa2,rl+1,qc2,rfl,Lib.hid hF.tail.tail.tail,.inl ⟨L++[((⟨op,nn,s1,p,pl,pc,q,ql,qc,oo,ka,kl,kc⟩:Hd),⟨true,wd,x⟩)],M',by rw [List.length_map,hL.out] at h256';exact h256',Lib.hid (by rw [List.length_append,hL.out];rfl),Lib.hid hA.tail.tail.tail,Lib.hid hS8,Lib.hid (by rw [List.map_append];exact hFA'),Lib.hid (fun y hy=>(List.mem_append.1 hy).elim (hNZ.out y) (fun hy=>by rw [List.mem_singleton.1 hy];exact hz))⟩⟩
        case measure=>
         show leftS _ w4.heap.size<leftS wr w4.heap.size
         refine Nat.lt_of_le_of_lt (Nat.le_of_eq (Sv.leftS hS8 (hF.bx (i:=3) rfl))) ?_
         rw [HL2.out]
         omega
       ·go_wp2_with fail
        go_roundw
        case rel=>exact ⟨_,_,_,_,_,_,_,_,qa2,rl+1,qc2,rfl,Lib.hid hF.tail.tail.tail,.inr ⟨aa,xx,Lib.hid hD,Lib.hid hRF⟩⟩
        case measure=>
         show leftS _ w4.heap.size<leftS wr w4.heap.size
         refine Nat.lt_of_le_of_lt (Nat.le_of_eq (Dd.leftS hD (hF.bx (i:=3) rfl))) ?_
         rw [HL2.out]
         omega
     ·have HR:=Lib.hid hres
      clear hres
      cases b1 with
      |false=>
       rcases hcase with hk2|⟨hk2,htb⟩
       all_goals
        have HKN2:=HKN
        have hK4:Kin (⟨a,cap,TL,0,(s.size:Int),0,0,0⟩:St) ⟨a2,cap2,T2,i2,E2,o2,b2,x2⟩:=hS.out.kin
        have HTT:Hid (Sv (⟨a,cap,TL,0,(s.size:Int),0,0,0⟩:St) ⟨a2,cap2,T2,i2,E2,o2,b2,x2⟩ (if resB M=true then M.tail else M)∨(L.map (·.2)).length=256):=Lib.hid (.inl (by rw [HR.out,if_neg (by decide)];exact hS.out))
        obtain ⟨wd,hwd⟩:∃wd,(St.named ⟨a2,cap2,T2,i2,E2,o2,b2,x2⟩).2=wd:=⟨_,rfl⟩
        obtain ⟨a5,cap5,T5,i5,E5,o5,b5,x5,hn5⟩:=(St.named ⟨a2,cap2,T2,i2,E2,o2,b2,x2⟩).1.get
        have HNW:Hid ((St.named ⟨a2,cap2,T2,i2,E2,o2,b2,x2⟩).1=⟨a5,cap5,T5,i5,E5,o5,b5,x5⟩∧(St.named ⟨a2,cap2,T2,i2,E2,o2,b2,x2⟩).2=wd):=Lib.hid ⟨hn5,hwd⟩
        have HK4:=Lib.hid hK4
        have HNM:∀W,Hid (Below w4.heap.size w4 W)→Hid (Calls Tryz.prog 57 #[.agg #[.slice a2 T2.length cap2,.int .i64 (i2:Int),.int .i64 E2,.int .i64 o2,.int .i64 b2,.int .i64 x2]] W (Ans (.tuple #[.agg #[.slice a5 T5.length cap5,.int .i64 (i5:Int),.int .i64 E5,.int .i64 o5,.int .i64 b5,.int .i64 x5],.string wd]) W)):=fun W hW=>Lib.hid (by
         have:=snamed_any W ⟨a2,cap2,T2,i2,E2,o2,b2,x2⟩ (HSW.out hW.out HK4.out)
         rw [HNW.out.1,HNW.out.2] at this
         exact this)
        have hK5:Kin (⟨a,cap,TL,0,(s.size:Int),0,0,0⟩:St) ⟨a5,cap5,T5,i5,E5,o5,b5,x5⟩:=by
         have h1:Stt (⟨a,cap,TL,0,(s.size:Int),0,0,0⟩:St) ⟨a2,cap2,T2,i2,E2,o2,b2,x2⟩ (Res.ok () _:Res Unit):=hS.out
         have h2:=h1.named.kin
         rw [hn5] at h2
         exact h2
        obtain ⟨a6,cap6,T6,i6,E6,o6,b6,x6,hn6⟩:=(St.must ⟨a5,cap5,T5,i5,E5,o5,b5,x5⟩ [58]).get
        have hpre:=preD_state hS.out false (L.map (·.2)) HB1.out
        rw [HR.out,HTK.out] at hpre
        simp only [Bool.false_eq_true,if_false] at hpre
        rw [hn5,hn6] at hpre
        have HPRE:=Lib.hid hpre
        have HN6:Hid (St.must ⟨a5,cap5,T5,i5,E5,o5,b5,x5⟩ (ByteArray.mk #[58]).toList=⟨a6,cap6,T6,i6,E6,o6,b6,x6⟩):=Lib.hid (by rw [Lib.toList_data];exact hn6)
        have HK5:=Lib.hid hK5
        obtain ⟨r7,hr7⟩:∃r,((preD (s.size:Int) (L.map (·.2)) M).bind fun _ M2=>wholeM (s.size:Int) M2)=r:=⟨_,rfl⟩
        have HR7:=Lib.hid hr7
        have HWH:∀W,Hid (Below w4.heap.size w4 W)→Hid (Calls Tryz.prog 59 #[.agg #[.slice a6 T6.length cap6,.int .i64 (i6:Int),.int .i64 E6,.int .i64 o6,.int .i64 b6,.int .i64 x6]] W (LevQ (⟨a,cap,TL,0,(s.size:Int),0,0,0⟩:St) ⟨a6,cap6,T6,i6,E6,o6,b6,x6⟩ r7 W)):=fun W hW=>Lib.hid (by
         have h5:=whole_q HPRE.out (HSW.out hW.out HPRE.out.kin) rfl
         have h6:LevQ (⟨a,cap,TL,0,(s.size:Int),0,0,0⟩:St) ⟨a6,cap6,T6,i6,E6,o6,b6,x6⟩ ((preD (s.size:Int) (L.map (·.2)) M).bind fun _ M2=>wholeM (s.size:Int) M2) W=LevQ (⟨a,cap,TL,0,(s.size:Int),0,0,0⟩:St) ⟨a6,cap6,T6,i6,E6,o6,b6,x6⟩ r7 W:=by rw [HR7.out]
         exact h6▸h5)
        have P3:=Lib.hid (Nat.le_refl 0)
        clear hpre hn6 hr7 hwd hn5 hK4 hK5
        have f0:=f
        clear f
        have f:=f0
        clear f0
        go_wp2_with (first
         |(go_at_call 54;refine (peek_as _ ⟨a2,cap2,T2,i2,E2,o2,b2,x2⟩ k n at_ tx (HSW.out HF.out.bl HKN2.out) HT).mono ?_;rintro e w5 ⟨rfl,hb⟩;replace HF:=Lib.hid (HF.out.call hb);replace HP:=Lib.hid (HP.out.call hb);clear f;have f1:=HF.out.facts;dsimp only [Fs,Nes,List.map] at f1;replace HF:=Lib.hid (HF.out.new_ #[.int .i64 k,.int .i64 n,.string tx,.int .i64 at_] 97 (n:=w5.heap.size) (rfl));replace HP:=Lib.hid (HP.out.new_ #[.int .i64 k,.int .i64 n,.string tx,.int .i64 at_] 97 (n:=w5.heap.size) (rfl));have f2:=HF.out.facts;dsimp only [Fs,Nes,List.map] at f2;replace HF:=Lib.hid (HF.out.new_ #[.string ⟨#[]⟩,.bool false,.int .i64 0,.int .i64 0,.string ⟨#[]⟩,.slice none 0 0,.slice none 0 0,.bool false,.slice none 0 0] 55 (n:=w5.heap.size+1) (World.size_alloc _ _));replace HP:=Lib.hid (HP.out.new_ #[.string ⟨#[]⟩,.bool false,.int .i64 0,.int .i64 0,.string ⟨#[]⟩,.slice none 0 0,.slice none 0 0,.bool false,.slice none 0 0] 55 (n:=w5.heap.size+1) (World.size_alloc _ _));have f:=HF.out.facts;dsimp only [Fs,Nes,List.map] at f;clear hb)
         |(go_at_call 57;refine (HNM _ (Lib.hid HF.out.bl)).out.mono ?_;rintro e w8 ⟨rfl,hb⟩;replace HF:=Lib.hid (HF.out.call hb);replace HP:=Lib.hid (HP.out.call hb);(try clear f2);clear f f1;have f1:=HF.out.facts;dsimp only [Fs,Nes,List.map] at f1;replace HF:=Lib.hid (by have t:=HF.out.put6 2 rfl (.slice a5 T5.length cap5) (.int .i64 (i5:Int)) (.int .i64 E5) (.int .i64 o5) (.int .i64 b5) (.int .i64 x5);simp only [List.set_cons_succ,List.set_cons_zero] at t;exact t);replace HP:=Lib.hid (by have t:=HP.out.put6 2 rfl (.slice a5 T5.length cap5) (.int .i64 (i5:Int)) (.int .i64 E5) (.int .i64 o5) (.int .i64 b5) (.int .i64 x5);simp only [List.set_cons_succ,List.set_cons_zero] at t;exact t);have f:=HF.out.facts;dsimp only [Fs,Nes,List.map] at f;unfold put6 at f;clear hb)
         |(go_at_call 58;clear P3;refine (smust_as _ ⟨a5,cap5,T5,i5,E5,o5,b5,x5⟩ ⟨a6,cap6,T6,i6,E6,o6,b6,x6⟩ ⟨#[58]⟩ (HSW.out HF.out.bl HK5.out) HN6).mono ?_;rintro e w10 ⟨rfl,hb⟩;unfold St.v;dsimp only;replace HF:=Lib.hid (HF.out.call hb);replace HP:=Lib.hid (HP.out.call hb);clear f f1;have f1:=HF.out.facts;dsimp only [Fs,Nes,List.map] at f1;replace HF:=Lib.hid (by have t:=HF.out.put6 2 rfl (.slice a6 T6.length cap6) (.int .i64 (i6:Int)) (.int .i64 E6) (.int .i64 o6) (.int .i64 b6) (.int .i64 x6);simp only [List.set_cons_succ,List.set_cons_zero] at t;exact t);replace HP:=Lib.hid (by have t:=HP.out.put6 2 rfl (.slice a6 T6.length cap6) (.int .i64 (i6:Int)) (.int .i64 E6) (.int .i64 o6) (.int .i64 b6) (.int .i64 x6);simp only [List.set_cons_succ,List.set_cons_zero] at t;exact t);have f2:=HF.out.facts;dsimp only [Fs,Nes,List.map] at f2;unfold put6 at f2;replace HF:=Lib.hid (HF.out.new_ #[.int .i64 0,.int .i64 0,.string ⟨#[]⟩,.slice none 0 0,.slice none 0 0,.bool false,.slice none 0 0] 35 (n:=w10.heap.size) (put6_size _ _ _ _ _ _ _ _));replace HP:=Lib.hid (HP.out.new_ #[.int .i64 0,.int .i64 0,.string ⟨#[]⟩,.slice none 0 0,.slice none 0 0,.bool false,.slice none 0 0] 35 (n:=w10.heap.size) (put6_size _ _ _ _ _ _ _ _));have f:=HF.out.facts;dsimp only [Fs,Nes,List.map] at f;unfold put6 at f;clear hb)
         |(go_at_call 59;refine (HWH _ (Lib.hid HF.out.bl)).out.mono ?_;rintro e w11 ⟨hb,S7,hd7,rfl,hst7,hx7⟩;have HY:=Lib.hid (fun x K e=>KE.of9 (hx7 x K e) HF.out HF.out.size HP.out);clear hx7;obtain ⟨a7,cap7,T7,i7,E7,o7,b7,x7⟩:=S7;obtain ⟨op,nn,s1,p,pl,pc,q,ql,qc,oo,ka,kl,kc⟩:=hd7;unfold St.v Hd.agg;dsimp only;replace HF:=Lib.hid (HF.out.call hb);replace HP:=Lib.hid (HP.out.call hb);clear f f1 f2;have f1:=HF.out.facts;dsimp only [Fs,Nes,List.map] at f1;replace HF:=Lib.hid (by have t:=HF.out.put6 3 rfl (.slice a7 T7.length cap7) (.int .i64 (i7:Int)) (.int .i64 E7) (.int .i64 o7) (.int .i64 b7) (.int .i64 x7);simp only [List.set_cons_succ,List.set_cons_zero] at t;exact t);replace HP:=Lib.hid (by have t:=HP.out.put6 3 rfl (.slice a7 T7.length cap7) (.int .i64 (i7:Int)) (.int .i64 E7) (.int .i64 o7) (.int .i64 b7) (.int .i64 x7);simp only [List.set_cons_succ,List.set_cons_zero] at t;exact t);have f2:=HF.out.facts;dsimp only [Fs,Nes,List.map] at f2;unfold put6 at f2;replace HF:=Lib.hid (by have t:=HF.out.put7 0 rfl (.int .i64 op) (.int .i64 nn) (.string s1) (.slice p pl pc) (.slice q ql qc) (.bool oo) (.slice ka kl kc);simp only [List.set_cons_zero] at t;exact t);replace HP:=Lib.hid (by have t:=HP.out.put7 0 rfl (.int .i64 op) (.int .i64 nn) (.string s1) (.slice p pl pc) (.slice q ql qc) (.bool oo) (.slice ka kl kc);simp only [List.set_cons_zero] at t;exact t);replace HY:=Lib.hid (fun x K e=>((HY.out x K e).put (i:=3) (cs':=#[.slice a7 T7.length cap7,.int .i64 (i7:Int),.int .i64 E7,.int .i64 o7,.int .i64 b7,.int .i64 x7]) rfl (put6_grown w11 w4.heap.size (.slice a7 T7.length cap7) (.int .i64 (i7:Int)) (.int .i64 E7) (.int .i64 o7) (.int .i64 b7) (.int .i64 x7))).put (i:=0) (cs':=#[.int .i64 op,.int .i64 nn,.string s1,.slice p pl pc,.slice q ql qc,.bool oo,.slice ka kl kc]) rfl (put7_grown (Ps.put6 w11 w4.heap.size (.slice a7 T7.length cap7) (.int .i64 (i7:Int)) (.int .i64 E7) (.int .i64 o7) (.int .i64 b7) (.int .i64 x7)) w10.heap.size (.int .i64 op) (.int .i64 nn) (.string s1) (.slice p pl pc) (.slice q ql qc) (.bool oo) (.slice ka kl kc)));obtain ⟨a8,cap8,T8,i8,E8,o8,b8,x8,hn8⟩:=(St.must ⟨a7,cap7,T7,i7,E7,o7,b7,x7⟩ [59]).get;have hst8:=hst7.must [59];rw [hn8] at hst8;have HST:=Lib.hid hst8;have HN8:Hid (St.must ⟨a7,cap7,T7,i7,E7,o7,b7,x7⟩ (ByteArray.mk #[59]).toList=⟨a8,cap8,T8,i8,E8,o8,b8,x8⟩):=Lib.hid (by rw [Lib.toList_data];exact hn8);have HK7:=Lib.hid hst7.kin;clear hst7 hst8 hn8;have f:=HF.out.facts;dsimp only [Fs,Nes,List.map] at f;unfold put6 put7 at f;clear hb)
         |(go_at_call 58;refine (smust_as _ ⟨a7,cap7,T7,i7,E7,o7,b7,x7⟩ ⟨a8,cap8,T8,i8,E8,o8,b8,x8⟩ ⟨#[59]⟩ (HSW.out HF.out.bl HK7.out) HN8).mono ?_;rintro e w12 ⟨rfl,hb⟩;unfold St.v;dsimp only;replace HF:=Lib.hid (HF.out.call hb);replace HP:=Lib.hid (HP.out.call hb);clear f f1 f2;replace HY:=Lib.hid (fun x K e=>(HY.out x K e).call hb);have f1:=HF.out.facts;dsimp only [Fs,Nes,List.map] at f1;replace HF:=Lib.hid (by have t:=HF.out.put6 3 rfl (.slice a8 T8.length cap8) (.int .i64 (i8:Int)) (.int .i64 E8) (.int .i64 o8) (.int .i64 b8) (.int .i64 x8);simp only [List.set_cons_succ,List.set_cons_zero] at t;exact t);replace HP:=Lib.hid (by have t:=HP.out.put6 3 rfl (.slice a8 T8.length cap8) (.int .i64 (i8:Int)) (.int .i64 E8) (.int .i64 o8) (.int .i64 b8) (.int .i64 x8);simp only [List.set_cons_succ,List.set_cons_zero] at t;exact t);have f2:=HF.out.facts;dsimp only [Fs,Nes,List.map] at f2;unfold put6 at f2;replace HF:=Lib.hid (by have t:=HF.out.set 1 0 rfl (.string wd);simp only [List.set_cons_succ,List.set_cons_zero,List.setIfInBounds_toArray] at t;exact t);have f3:=HF.out.facts;dsimp only [Fs,Nes,List.map] at f3;unfold put6 at f3;replace HF:=Lib.hid (by have t:=HF.out.put72 1 rfl (.int .i64 op) (.int .i64 nn) (.string s1) (.slice p pl pc) (.slice q ql qc) (.bool oo) (.slice ka kl kc);simp only [List.set_cons_succ,List.set_cons_zero] at t;exact t);replace HP:=Lib.hid (by have t:=(HP.out.put (i:=1) (cs':=#[.string wd,.bool false,.int .i64 0,.int .i64 0,.string ⟨#[]⟩,.slice none 0 0,.slice none 0 0,.bool false,.slice none 0 0]) rfl (setCell_grown (Ps.put6 w12 w4.heap.size (.slice a8 T8.length cap8) (.int .i64 (i8:Int)) (.int .i64 E8) (.int .i64 o8) (.int .i64 b8) (.int .i64 x8)) (w5.heap.size+1) 0 (.string wd))).put (i:=1) (cs':=#[.string wd,.bool false,.int .i64 op,.int .i64 nn,.string s1,.slice p pl pc,.slice q ql qc,.bool oo,.slice ka kl kc]) rfl (put72_grown ((Ps.put6 w12 w4.heap.size (.slice a8 T8.length cap8) (.int .i64 (i8:Int)) (.int .i64 E8) (.int .i64 o8) (.int .i64 b8) (.int .i64 x8)).setCell ⟨w5.heap.size+1,0,none⟩ (.string wd)) (w5.heap.size+1) (.int .i64 op) (.int .i64 nn) (.string s1) (.slice p pl pc) (.slice q ql qc) (.bool oo) (.slice ka kl kc));simp only [List.set_cons_succ,List.set_cons_zero] at t;exact t);replace HY:=Lib.hid (fun x K e=>(((HY.out x K e).put (i:=3) (cs':=#[.slice a8 T8.length cap8,.int .i64 (i8:Int),.int .i64 E8,.int .i64 o8,.int .i64 b8,.int .i64 x8]) rfl (put6_grown w12 w4.heap.size (.slice a8 T8.length cap8) (.int .i64 (i8:Int)) (.int .i64 E8) (.int .i64 o8) (.int .i64 b8) (.int .i64 x8))).put (i:=1) (cs':=#[.string wd,.bool false,.int .i64 0,.int .i64 0,.string ⟨#[]⟩,.slice none 0 0,.slice none 0 0,.bool false,.slice none 0 0]) rfl (setCell_grown (Ps.put6 w12 w4.heap.size (.slice a8 T8.length cap8) (.int .i64 (i8:Int)) (.int .i64 E8) (.int .i64 o8) (.int .i64 b8) (.int .i64 x8)) (w5.heap.size+1) 0 (.string wd))).put (i:=1) (cs':=#[.string wd,.bool false,.int .i64 op,.int .i64 nn,.string s1,.slice p pl pc,.slice q ql qc,.bool oo,.slice ka kl kc]) rfl (put72_grown ((Ps.put6 w12 w4.heap.size (.slice a8 T8.length cap8) (.int .i64 (i8:Int)) (.int .i64 E8) (.int .i64 o8) (.int .i64 b8) (.int .i64 x8)).setCell ⟨w5.heap.size+1,0,none⟩ (.string wd)) (w5.heap.size+1) (.int .i64 op) (.int .i64 nn) (.string s1) (.slice p pl pc) (.slice q ql qc) (.bool oo) (.slice ka kl kc)));have f:=HF.out.facts;dsimp only [Fs,Nes,List.map] at f;(try unfold put72 at f);(try unfold put7 at f);(try unfold put6 at f);have g:=(HF.out.old (.cells #[.string wd,.bool false,.int .i64 op,.int .i64 nn,.string s1,.slice p pl pc,.slice q ql qc,.bool oo,.slice ka kl kc] 55)).facts;dsimp only [Fs,Nes,List.map] at g;unfold put72 put6 at g;have HWZ:Hid ((Ps.put72 ((Ps.put6 w12 w4.heap.size (.slice a8 T8.length cap8) (.int .i64 (i8:Int)) (.int .i64 E8) (.int .i64 o8) (.int .i64 b8) (.int .i64 x8)).setCell ⟨w5.heap.size+1,0,none⟩ (.string wd)) (w5.heap.size+1) (.int .i64 op) (.int .i64 nn) (.string s1) (.slice p pl pc) (.slice q ql qc) (.bool oo) (.slice ka kl kc)).heap.size=w12.heap.size):=Lib.hid (by rw [put72_size];simp [World.setCell,Ps.put6]);have HCN:=Lib.hid (World.news_of_block (Lx.heap_new (Ps.put72 ((Ps.put6 w12 w4.heap.size (.slice a8 T8.length cap8) (.int .i64 (i8:Int)) (.int .i64 E8) (.int .i64 o8) (.int .i64 b8) (.int .i64 x8)).setCell ⟨w5.heap.size+1,0,none⟩ (.string wd)) (w5.heap.size+1) (.int .i64 op) (.int .i64 nn) (.string s1) (.slice p pl pc) (.slice q ql qc) (.bool oo) (.slice ka kl kc)) (.cells #[.string wd,.bool false,.int .i64 op,.int .i64 nn,.string s1,.slice p pl pc,.slice q ql qc,.bool oo,.slice ka kl kc] 55)));rw [HWZ.out] at HCN;clear hb)
         |(at_builtin;refine wpList_append_own_at _ rfl _ _ 23 rfl w4.heap.size 55 i0 _ 9 136 Tryz.underlying23 HI.out HI0.out HI1.out HI2.out rfl (by decide) _ rl (dcells L) rfl (by have h9:=HP.out.own.alloc (.cells #[.string wd,.bool false,.int .i64 op,.int .i64 nn,.string s1,.slice p pl pc,.slice q ql qc,.bool oo,.slice ka kl kc] 55);rw [hL.out] at h9;exact h9) ⟨w12.heap.size,0,none⟩ 1 1 [.string wd,.bool false,.int .i64 op,.int .i64 nn,.string s1,.slice p pl pc,.slice q ql qc,.bool oo,.slice ka kl kc] rfl rfl HCN.out (fun x hx=>by simp at hx;rcases hx with rfl|rfl|rfl|rfl|rfl|rfl|rfl|rfl|rfl<;>rfl) (by unfold maxLen;omega) (by omega) (Nat.le_trans HF.out.size (bl_alloc (Below.refl _ _)).size) ?_))
        intro v9 w9 hown hgrow hnil hob
        obtain ⟨qa2,qc2,rfl⟩:=own_any hown
        have hF:=HF.out.rowD HP.out hgrow
        have hfr:=HF.out.fresh (Nat.le_succ _)
        rcases decl_rel (s:=(⟨a,cap,TL,0,(s.size:Int),0,0,0⟩:St)) HOK.out.1 HM.out (by rw [List.length_map,hL.out];exact hql) hFA.out HTT.out HNW.out.2 HR7.out.symm HST.out with ⟨x,K,M',hS8,hlt,hFA',h256',hz,hr7,hval⟩|⟨aa,xx,hD,hRF⟩
        ·rw [HR.out] at hFA'
         have hA:=HP.out.app (nm:=wd) (r:=false) (h:=(⟨op,nn,s1,p,pl,pc,q,ql,qc,oo,ka,kl,kc⟩:Hd)) (x:=x) (HY.out x K hr7) rfl hgrow (by rw [hL.out];exact hown) (by rw [HWZ.out];exact hob) hfr
         go_wp2_with fail
         go_roundw
         case rel=>exact ⟨_,_,_,_,_,_,_,_,qa2,rl+1,qc2,rfl,Lib.hid hF.tail.tail.tail,.inl ⟨L++[((⟨op,nn,s1,p,pl,pc,q,ql,qc,oo,ka,kl,kc⟩:Hd),⟨false,wd,x⟩)],M',by rw [List.length_map,hL.out] at h256';exact h256',Lib.hid (by rw [List.length_append,hL.out];rfl),Lib.hid hA.tail.tail.tail,Lib.hid hS8,Lib.hid (by rw [List.map_append];exact hFA'),Lib.hid (fun y hy=>(List.mem_append.1 hy).elim (hNZ.out y) (fun hy=>by rw [List.mem_singleton.1 hy];exact hz))⟩⟩
         case measure=>
          show leftS _ w4.heap.size<leftS wr w4.heap.size
          refine Nat.lt_of_le_of_lt (Nat.le_of_eq (Sv.leftS hS8 (hF.bx (i:=3) rfl))) ?_
          rw [HL2.out]
          omega
        ·go_wp2_with fail
         go_roundw
         case rel=>exact ⟨_,_,_,_,_,_,_,_,qa2,rl+1,qc2,rfl,Lib.hid hF.tail.tail.tail,.inr ⟨aa,xx,Lib.hid hD,Lib.hid hRF⟩⟩
         case measure=>
          show leftS _ w4.heap.size<leftS wr w4.heap.size
          refine Nat.lt_of_le_of_lt (Nat.le_of_eq (Dd.leftS hD (hF.bx (i:=3) rfl))) ?_
          rw [HL2.out]
          omega
      |true=>
       rcases hcase with hk2|⟨hk2,htb⟩
       all_goals
        have HKN2:=HKN
        obtain ⟨a3,cap3,T3,i3,E3,o3,b3,x3,hn3⟩:=(St.fail ⟨a2,cap2,T2,i2,E2,o2,b2,x2⟩ ⟨⟨k,n,tx.toList⟩,at_⟩ 4).get
        have HN3:=Lib.hid hn3
        have hD3:=hS.out.fail ⟨⟨k,n,tx.toList⟩,at_⟩ 4 (by decide)
        rw [hn3] at hD3
        have hK4:Kin (⟨a,cap,TL,0,(s.size:Int),0,0,0⟩:St) ⟨a3,cap3,T3,i3,E3,o3,b3,x3⟩:=hD3.kin
        have HTT:Hid (Sv (⟨a,cap,TL,0,(s.size:Int),0,0,0⟩:St) ⟨a3,cap3,T3,i3,E3,o3,b3,x3⟩ (if resB M=true then M.tail else M)∨(L.map (·.2)).length=256):=Lib.hid (.inr (HB1.out.2 rfl))
        obtain ⟨wd,hwd⟩:∃wd,(St.named ⟨a3,cap3,T3,i3,E3,o3,b3,x3⟩).2=wd:=⟨_,rfl⟩
        obtain ⟨a5,cap5,T5,i5,E5,o5,b5,x5,hn5⟩:=(St.named ⟨a3,cap3,T3,i3,E3,o3,b3,x3⟩).1.get
        have HNW:Hid ((St.named ⟨a3,cap3,T3,i3,E3,o3,b3,x3⟩).1=⟨a5,cap5,T5,i5,E5,o5,b5,x5⟩∧(St.named ⟨a3,cap3,T3,i3,E3,o3,b3,x3⟩).2=wd):=Lib.hid ⟨hn5,hwd⟩
        have HK4:=Lib.hid hK4
        have HNM:∀W,Hid (Below w4.heap.size w4 W)→Hid (Calls Tryz.prog 57 #[.agg #[.slice a3 T3.length cap3,.int .i64 (i3:Int),.int .i64 E3,.int .i64 o3,.int .i64 b3,.int .i64 x3]] W (Ans (.tuple #[.agg #[.slice a5 T5.length cap5,.int .i64 (i5:Int),.int .i64 E5,.int .i64 o5,.int .i64 b5,.int .i64 x5],.string wd]) W)):=fun W hW=>Lib.hid (by
         have:=snamed_any W ⟨a3,cap3,T3,i3,E3,o3,b3,x3⟩ (HSW.out hW.out HK4.out)
         rw [HNW.out.1,HNW.out.2] at this
         exact this)
        have hK5:Kin (⟨a,cap,TL,0,(s.size:Int),0,0,0⟩:St) ⟨a5,cap5,T5,i5,E5,o5,b5,x5⟩:=by
         have h1:Stt (⟨a,cap,TL,0,(s.size:Int),0,0,0⟩:St) ⟨a3,cap3,T3,i3,E3,o3,b3,x3⟩ (Res.bad at_ 4:Res Unit):=hD3
         have h2:=h1.named.kin
         rw [hn5] at h2
         exact h2
        obtain ⟨a6,cap6,T6,i6,E6,o6,b6,x6,hn6⟩:=(St.must ⟨a5,cap5,T5,i5,E5,o5,b5,x5⟩ [58]).get
        have hpre:=preD_state hS.out true (L.map (·.2)) HB1.out
        rw [HR.out,HTK.out] at hpre
        simp only [if_true,Bool.false_eq_true,if_false] at hpre
        rw [hn3,hn5,hn6] at hpre
        have HPRE:=Lib.hid hpre
        have HN6:Hid (St.must ⟨a5,cap5,T5,i5,E5,o5,b5,x5⟩ (ByteArray.mk #[58]).toList=⟨a6,cap6,T6,i6,E6,o6,b6,x6⟩):=Lib.hid (by rw [Lib.toList_data];exact hn6)
        have HK5:=Lib.hid hK5
        obtain ⟨r7,hr7⟩:∃r,((preD (s.size:Int) (L.map (·.2)) M).bind fun _ M2=>wholeM (s.size:Int) M2)=r:=⟨_,rfl⟩
        have HR7:=Lib.hid hr7
        have HWH:∀W,Hid (Below w4.heap.size w4 W)→Hid (Calls Tryz.prog 59 #[.agg #[.slice a6 T6.length cap6,.int .i64 (i6:Int),.int .i64 E6,.int .i64 o6,.int .i64 b6,.int .i64 x6]] W (LevQ (⟨a,cap,TL,0,(s.size:Int),0,0,0⟩:St) ⟨a6,cap6,T6,i6,E6,o6,b6,x6⟩ r7 W)):=fun W hW=>Lib.hid (by
         have h5:=whole_q HPRE.out (HSW.out hW.out HPRE.out.kin) rfl
         have h6:LevQ (⟨a,cap,TL,0,(s.size:Int),0,0,0⟩:St) ⟨a6,cap6,T6,i6,E6,o6,b6,x6⟩ ((preD (s.size:Int) (L.map (·.2)) M).bind fun _ M2=>wholeM (s.size:Int) M2) W=LevQ (⟨a,cap,TL,0,(s.size:Int),0,0,0⟩:St) ⟨a6,cap6,T6,i6,E6,o6,b6,x6⟩ r7 W:=by rw [HR7.out]
         exact h6▸h5)
        have P3:=Lib.hid (Nat.le_refl 0)
        clear hpre hn6 hr7 hwd hn5 hK4 hK5 hn3 hD3
        have f0:=f
        clear f
        have f:=f0
        clear f0
        go_wp2_with (first
         |(go_at_call 54;refine (peek_as _ ⟨a2,cap2,T2,i2,E2,o2,b2,x2⟩ k n at_ tx (HSW.out HF.out.bl HKN2.out) HT).mono ?_;rintro e w5 ⟨rfl,hb⟩;replace HF:=Lib.hid (HF.out.call hb);replace HP:=Lib.hid (HP.out.call hb);clear f;have f1:=HF.out.facts;dsimp only [Fs,Nes,List.map] at f1;replace HF:=Lib.hid (HF.out.new_ #[.int .i64 k,.int .i64 n,.string tx,.int .i64 at_] 97 (n:=w5.heap.size) (rfl));replace HP:=Lib.hid (HP.out.new_ #[.int .i64 k,.int .i64 n,.string tx,.int .i64 at_] 97 (n:=w5.heap.size) (rfl));have f:=HF.out.facts;dsimp only [Fs,Nes,List.map] at f;clear hb)
         |(go_at_call 55;refine (sfail_as _ ⟨a2,cap2,T2,i2,E2,o2,b2,x2⟩ ⟨a3,cap3,T3,i3,E3,o3,b3,x3⟩ k n tx at_ 4 HN3).mono ?_;rintro e w6 ⟨rfl,hb⟩;unfold St.v;dsimp only;replace HF:=Lib.hid (HF.out.call hb);replace HP:=Lib.hid (HP.out.call hb);clear f f1;have f1:=HF.out.facts;dsimp only [Fs,Nes,List.map] at f1;replace HF:=Lib.hid (by have t:=HF.out.put6 1 rfl (.slice a3 T3.length cap3) (.int .i64 (i3:Int)) (.int .i64 E3) (.int .i64 o3) (.int .i64 b3) (.int .i64 x3);simp only [List.set_cons_succ,List.set_cons_zero] at t;exact t);replace HP:=Lib.hid (by have t:=HP.out.put6 1 rfl (.slice a3 T3.length cap3) (.int .i64 (i3:Int)) (.int .i64 E3) (.int .i64 o3) (.int .i64 b3) (.int .i64 x3);simp only [List.set_cons_succ,List.set_cons_zero] at t;exact t);have f2:=HF.out.facts;dsimp only [Fs,Nes,List.map] at f2;unfold put6 at f2;replace HF:=Lib.hid (HF.out.new_ #[.string ⟨#[]⟩,.bool false,.int .i64 0,.int .i64 0,.string ⟨#[]⟩,.slice none 0 0,.slice none 0 0,.bool false,.slice none 0 0] 55 (n:=w6.heap.size) (put6_size _ _ _ _ _ _ _ _));replace HP:=Lib.hid (HP.out.new_ #[.string ⟨#[]⟩,.bool false,.int .i64 0,.int .i64 0,.string ⟨#[]⟩,.slice none 0 0,.slice none 0 0,.bool false,.slice none 0 0] 55 (n:=w6.heap.size) (put6_size _ _ _ _ _ _ _ _));have f:=HF.out.facts;dsimp only [Fs,Nes,List.map] at f;unfold put6 at f;clear hb)
         |(go_at_call 57;refine (HNM _ (Lib.hid HF.out.bl)).out.mono ?_;rintro e w8 ⟨rfl,hb⟩;replace HF:=Lib.hid (HF.out.call hb);replace HP:=Lib.hid (HP.out.call hb);(try clear f2);clear f f1;have f1:=HF.out.facts;dsimp only [Fs,Nes,List.map] at f1;replace HF:=Lib.hid (by have t:=HF.out.put6 2 rfl (.slice a5 T5.length cap5) (.int .i64 (i5:Int)) (.int .i64 E5) (.int .i64 o5) (.int .i64 b5) (.int .i64 x5);simp only [List.set_cons_succ,List.set_cons_zero] at t;exact t);replace HP:=Lib.hid (by have t:=HP.out.put6 2 rfl (.slice a5 T5.length cap5) (.int .i64 (i5:Int)) (.int .i64 E5) (.int .i64 o5) (.int .i64 b5) (.int .i64 x5);simp only [List.set_cons_succ,List.set_cons_zero] at t;exact t);have f:=HF.out.facts;dsimp only [Fs,Nes,List.map] at f;unfold put6 at f;clear hb)
         |(go_at_call 58;clear P3;refine (smust_as _ ⟨a5,cap5,T5,i5,E5,o5,b5,x5⟩ ⟨a6,cap6,T6,i6,E6,o6,b6,x6⟩ ⟨#[58]⟩ (HSW.out HF.out.bl HK5.out) HN6).mono ?_;rintro e w10 ⟨rfl,hb⟩;unfold St.v;dsimp only;replace HF:=Lib.hid (HF.out.call hb);replace HP:=Lib.hid (HP.out.call hb);clear f f1;have f1:=HF.out.facts;dsimp only [Fs,Nes,List.map] at f1;replace HF:=Lib.hid (by have t:=HF.out.put6 2 rfl (.slice a6 T6.length cap6) (.int .i64 (i6:Int)) (.int .i64 E6) (.int .i64 o6) (.int .i64 b6) (.int .i64 x6);simp only [List.set_cons_succ,List.set_cons_zero] at t;exact t);replace HP:=Lib.hid (by have t:=HP.out.put6 2 rfl (.slice a6 T6.length cap6) (.int .i64 (i6:Int)) (.int .i64 E6) (.int .i64 o6) (.int .i64 b6) (.int .i64 x6);simp only [List.set_cons_succ,List.set_cons_zero] at t;exact t);have f2:=HF.out.facts;dsimp only [Fs,Nes,List.map] at f2;unfold put6 at f2;replace HF:=Lib.hid (HF.out.new_ #[.int .i64 0,.int .i64 0,.string ⟨#[]⟩,.slice none 0 0,.slice none 0 0,.bool false,.slice none 0 0] 35 (n:=w10.heap.size) (put6_size _ _ _ _ _ _ _ _));replace HP:=Lib.hid (HP.out.new_ #[.int .i64 0,.int .i64 0,.string ⟨#[]⟩,.slice none 0 0,.slice none 0 0,.bool false,.slice none 0 0] 35 (n:=w10.heap.size) (put6_size _ _ _ _ _ _ _ _));have f:=HF.out.facts;dsimp only [Fs,Nes,List.map] at f;unfold put6 at f;clear hb)
         |(go_at_call 59;refine (HWH _ (Lib.hid HF.out.bl)).out.mono ?_;rintro e w11 ⟨hb,S7,hd7,rfl,hst7,hx7⟩;have HY:=Lib.hid (fun x K e=>KE.of9 (hx7 x K e) HF.out HF.out.size HP.out);clear hx7;obtain ⟨a7,cap7,T7,i7,E7,o7,b7,x7⟩:=S7;obtain ⟨op,nn,s1,p,pl,pc,q,ql,qc,oo,ka,kl,kc⟩:=hd7;unfold St.v Hd.agg;dsimp only;replace HF:=Lib.hid (HF.out.call hb);replace HP:=Lib.hid (HP.out.call hb);clear f f1 f2;have f1:=HF.out.facts;dsimp only [Fs,Nes,List.map] at f1;replace HF:=Lib.hid (by have t:=HF.out.put6 3 rfl (.slice a7 T7.length cap7) (.int .i64 (i7:Int)) (.int .i64 E7) (.int .i64 o7) (.int .i64 b7) (.int .i64 x7);simp only [List.set_cons_succ,List.set_cons_zero] at t;exact t);replace HP:=Lib.hid (by have t:=HP.out.put6 3 rfl (.slice a7 T7.length cap7) (.int .i64 (i7:Int)) (.int .i64 E7) (.int .i64 o7) (.int .i64 b7) (.int .i64 x7);simp only [List.set_cons_succ,List.set_cons_zero] at t;exact t);have f2:=HF.out.facts;dsimp only [Fs,Nes,List.map] at f2;unfold put6 at f2;replace HF:=Lib.hid (by have t:=HF.out.put7 0 rfl (.int .i64 op) (.int .i64 nn) (.string s1) (.slice p pl pc) (.slice q ql qc) (.bool oo) (.slice ka kl kc);simp only [List.set_cons_zero] at t;exact t);replace HP:=Lib.hid (by have t:=HP.out.put7 0 rfl (.int .i64 op) (.int .i64 nn) (.string s1) (.slice p pl pc) (.slice q ql qc) (.bool oo) (.slice ka kl kc);simp only [List.set_cons_zero] at t;exact t);replace HY:=Lib.hid (fun x K e=>((HY.out x K e).put (i:=3) (cs':=#[.slice a7 T7.length cap7,.int .i64 (i7:Int),.int .i64 E7,.int .i64 o7,.int .i64 b7,.int .i64 x7]) rfl (put6_grown w11 w4.heap.size (.slice a7 T7.length cap7) (.int .i64 (i7:Int)) (.int .i64 E7) (.int .i64 o7) (.int .i64 b7) (.int .i64 x7))).put (i:=0) (cs':=#[.int .i64 op,.int .i64 nn,.string s1,.slice p pl pc,.slice q ql qc,.bool oo,.slice ka kl kc]) rfl (put7_grown (Ps.put6 w11 w4.heap.size (.slice a7 T7.length cap7) (.int .i64 (i7:Int)) (.int .i64 E7) (.int .i64 o7) (.int .i64 b7) (.int .i64 x7)) w10.heap.size (.int .i64 op) (.int .i64 nn) (.string s1) (.slice p pl pc) (.slice q ql qc) (.bool oo) (.slice ka kl kc)));obtain ⟨a8,cap8,T8,i8,E8,o8,b8,x8,hn8⟩:=(St.must ⟨a7,cap7,T7,i7,E7,o7,b7,x7⟩ [59]).get;have hst8:=hst7.must [59];rw [hn8] at hst8;have HST:=Lib.hid hst8;have HN8:Hid (St.must ⟨a7,cap7,T7,i7,E7,o7,b7,x7⟩ (ByteArray.mk #[59]).toList=⟨a8,cap8,T8,i8,E8,o8,b8,x8⟩):=Lib.hid (by rw [Lib.toList_data];exact hn8);have HK7:=Lib.hid hst7.kin;clear hst7 hst8 hn8;have f:=HF.out.facts;dsimp only [Fs,Nes,List.map] at f;unfold put6 put7 at f;clear hb)
         |(go_at_call 58;refine (smust_as _ ⟨a7,cap7,T7,i7,E7,o7,b7,x7⟩ ⟨a8,cap8,T8,i8,E8,o8,b8,x8⟩ ⟨#[59]⟩ (HSW.out HF.out.bl HK7.out) HN8).mono ?_;rintro e w12 ⟨rfl,hb⟩;unfold St.v;dsimp only;replace HF:=Lib.hid (HF.out.call hb);replace HP:=Lib.hid (HP.out.call hb);clear f f1 f2;replace HY:=Lib.hid (fun x K e=>(HY.out x K e).call hb);have f1:=HF.out.facts;dsimp only [Fs,Nes,List.map] at f1;replace HF:=Lib.hid (by have t:=HF.out.put6 3 rfl (.slice a8 T8.length cap8) (.int .i64 (i8:Int)) (.int .i64 E8) (.int .i64 o8) (.int .i64 b8) (.int .i64 x8);simp only [List.set_cons_succ,List.set_cons_zero] at t;exact t);replace HP:=Lib.hid (by have t:=HP.out.put6 3 rfl (.slice a8 T8.length cap8) (.int .i64 (i8:Int)) (.int .i64 E8) (.int .i64 o8) (.int .i64 b8) (.int .i64 x8);simp only [List.set_cons_succ,List.set_cons_zero] at t;exact t);have f2:=HF.out.facts;dsimp only [Fs,Nes,List.map] at f2;unfold put6 at f2;replace HF:=Lib.hid (by have t:=HF.out.set 1 0 rfl (.string wd);simp only [List.set_cons_succ,List.set_cons_zero,List.setIfInBounds_toArray] at t;exact t);have f3:=HF.out.facts;dsimp only [Fs,Nes,List.map] at f3;unfold put6 at f3;replace HF:=Lib.hid (by have t:=HF.out.put72 1 rfl (.int .i64 op) (.int .i64 nn) (.string s1) (.slice p pl pc) (.slice q ql qc) (.bool oo) (.slice ka kl kc);simp only [List.set_cons_succ,List.set_cons_zero] at t;exact t);replace HP:=Lib.hid (by have t:=(HP.out.put (i:=1) (cs':=#[.string wd,.bool false,.int .i64 0,.int .i64 0,.string ⟨#[]⟩,.slice none 0 0,.slice none 0 0,.bool false,.slice none 0 0]) rfl (setCell_grown (Ps.put6 w12 w4.heap.size (.slice a8 T8.length cap8) (.int .i64 (i8:Int)) (.int .i64 E8) (.int .i64 o8) (.int .i64 b8) (.int .i64 x8)) (w6.heap.size) 0 (.string wd))).put (i:=1) (cs':=#[.string wd,.bool false,.int .i64 op,.int .i64 nn,.string s1,.slice p pl pc,.slice q ql qc,.bool oo,.slice ka kl kc]) rfl (put72_grown ((Ps.put6 w12 w4.heap.size (.slice a8 T8.length cap8) (.int .i64 (i8:Int)) (.int .i64 E8) (.int .i64 o8) (.int .i64 b8) (.int .i64 x8)).setCell ⟨w6.heap.size,0,none⟩ (.string wd)) (w6.heap.size) (.int .i64 op) (.int .i64 nn) (.string s1) (.slice p pl pc) (.slice q ql qc) (.bool oo) (.slice ka kl kc));simp only [List.set_cons_succ,List.set_cons_zero] at t;exact t);replace HY:=Lib.hid (fun x K e=>(((HY.out x K e).put (i:=3) (cs':=#[.slice a8 T8.length cap8,.int .i64 (i8:Int),.int .i64 E8,.int .i64 o8,.int .i64 b8,.int .i64 x8]) rfl (put6_grown w12 w4.heap.size (.slice a8 T8.length cap8) (.int .i64 (i8:Int)) (.int .i64 E8) (.int .i64 o8) (.int .i64 b8) (.int .i64 x8))).put (i:=1) (cs':=#[.string wd,.bool false,.int .i64 0,.int .i64 0,.string ⟨#[]⟩,.slice none 0 0,.slice none 0 0,.bool false,.slice none 0 0]) rfl (setCell_grown (Ps.put6 w12 w4.heap.size (.slice a8 T8.length cap8) (.int .i64 (i8:Int)) (.int .i64 E8) (.int .i64 o8) (.int .i64 b8) (.int .i64 x8)) (w6.heap.size) 0 (.string wd))).put (i:=1) (cs':=#[.string wd,.bool false,.int .i64 op,.int .i64 nn,.string s1,.slice p pl pc,.slice q ql qc,.bool oo,.slice ka kl kc]) rfl (put72_grown ((Ps.put6 w12 w4.heap.size (.slice a8 T8.length cap8) (.int .i64 (i8:Int)) (.int .i64 E8) (.int .i64 o8) (.int .i64 b8) (.int .i64 x8)).setCell ⟨w6.heap.size,0,none⟩ (.string wd)) (w6.heap.size) (.int .i64 op) (.int .i64 nn) (.string s1) (.slice p pl pc) (.slice q ql qc) (.bool oo) (.slice ka kl kc)));have f:=HF.out.facts;dsimp only [Fs,Nes,List.map] at f;(try unfold put72 at f);(try unfold put7 at f);(try unfold put6 at f);have g:=(HF.out.old (.cells #[.string wd,.bool false,.int .i64 op,.int .i64 nn,.string s1,.slice p pl pc,.slice q ql qc,.bool oo,.slice ka kl kc] 55)).facts;dsimp only [Fs,Nes,List.map] at g;unfold put72 put6 at g;have HWZ:Hid ((Ps.put72 ((Ps.put6 w12 w4.heap.size (.slice a8 T8.length cap8) (.int .i64 (i8:Int)) (.int .i64 E8) (.int .i64 o8) (.int .i64 b8) (.int .i64 x8)).setCell ⟨w6.heap.size,0,none⟩ (.string wd)) (w6.heap.size) (.int .i64 op) (.int .i64 nn) (.string s1) (.slice p pl pc) (.slice q ql qc) (.bool oo) (.slice ka kl kc)).heap.size=w12.heap.size):=Lib.hid (by rw [put72_size];simp [World.setCell,Ps.put6]);have HCN:=Lib.hid (World.news_of_block (Lx.heap_new (Ps.put72 ((Ps.put6 w12 w4.heap.size (.slice a8 T8.length cap8) (.int .i64 (i8:Int)) (.int .i64 E8) (.int .i64 o8) (.int .i64 b8) (.int .i64 x8)).setCell ⟨w6.heap.size,0,none⟩ (.string wd)) (w6.heap.size) (.int .i64 op) (.int .i64 nn) (.string s1) (.slice p pl pc) (.slice q ql qc) (.bool oo) (.slice ka kl kc)) (.cells #[.string wd,.bool false,.int .i64 op,.int .i64 nn,.string s1,.slice p pl pc,.slice q ql qc,.bool oo,.slice ka kl kc] 55)));rw [HWZ.out] at HCN;clear hb)
         |(at_builtin;refine wpList_append_own_at _ rfl _ _ 23 rfl w4.heap.size 55 i0 _ 9 136 Tryz.underlying23 HI.out HI0.out HI1.out HI2.out rfl (by decide) _ rl (dcells L) rfl (by have h9:=HP.out.own.alloc (.cells #[.string wd,.bool false,.int .i64 op,.int .i64 nn,.string s1,.slice p pl pc,.slice q ql qc,.bool oo,.slice ka kl kc] 55);rw [hL.out] at h9;exact h9) ⟨w12.heap.size,0,none⟩ 1 1 [.string wd,.bool false,.int .i64 op,.int .i64 nn,.string s1,.slice p pl pc,.slice q ql qc,.bool oo,.slice ka kl kc] rfl rfl HCN.out (fun x hx=>by simp at hx;rcases hx with rfl|rfl|rfl|rfl|rfl|rfl|rfl|rfl|rfl<;>rfl) (by unfold maxLen;omega) (by omega) (Nat.le_trans HF.out.size (bl_alloc (Below.refl _ _)).size) ?_))
        intro v9 w9 hown hgrow hnil hob
        obtain ⟨qa2,qc2,rfl⟩:=own_any hown
        have hF:=HF.out.rowD HP.out hgrow
        have hfr:=HF.out.fresh (Nat.le_succ _)
        rcases decl_rel (s:=(⟨a,cap,TL,0,(s.size:Int),0,0,0⟩:St)) HOK.out.1 HM.out (by rw [List.length_map,hL.out];exact hql) hFA.out HTT.out HNW.out.2 HR7.out.symm HST.out with ⟨x,K,M',hS8,hlt,hFA',h256',hz,hr7,hval⟩|⟨aa,xx,hD,hRF⟩
        ·rw [HR.out] at hFA'
         have hA:=HP.out.app (nm:=wd) (r:=false) (h:=(⟨op,nn,s1,p,pl,pc,q,ql,qc,oo,ka,kl,kc⟩:Hd)) (x:=x) (HY.out x K hr7) rfl hgrow (by rw [hL.out];exact hown) (by rw [HWZ.out];exact hob) hfr
         go_wp2_with fail
         go_roundw
         case rel=>exact ⟨_,_,_,_,_,_,_,_,qa2,rl+1,qc2,rfl,Lib.hid hF.tail.tail.tail,.inl ⟨L++[((⟨op,nn,s1,p,pl,pc,q,ql,qc,oo,ka,kl,kc⟩:Hd),⟨false,wd,x⟩)],M',by rw [List.length_map,hL.out] at h256';exact h256',Lib.hid (by rw [List.length_append,hL.out];rfl),Lib.hid hA.tail.tail.tail,Lib.hid hS8,Lib.hid (by rw [List.map_append];exact hFA'),Lib.hid (fun y hy=>(List.mem_append.1 hy).elim (hNZ.out y) (fun hy=>by rw [List.mem_singleton.1 hy];exact hz))⟩⟩
         case measure=>
          show leftS _ w4.heap.size<leftS wr w4.heap.size
          refine Nat.lt_of_le_of_lt (Nat.le_of_eq (Sv.leftS hS8 (hF.bx (i:=3) rfl))) ?_
          rw [HL2.out]
          omega
        ·go_wp2_with fail
         go_roundw
         case rel=>exact ⟨_,_,_,_,_,_,_,_,qa2,rl+1,qc2,rfl,Lib.hid hF.tail.tail.tail,.inr ⟨aa,xx,Lib.hid hD,Lib.hid hRF⟩⟩
         case measure=>
          show leftS _ w4.heap.size<leftS wr w4.heap.size
          refine Nat.lt_of_le_of_lt (Nat.le_of_eq (Dd.leftS hD (hF.bx (i:=3) rfl))) ?_
          rw [HL2.out]
          omega
   ·have hx2:(x2==0)=false:=by have h2:=hD.out.err;have h3:=hD.out.x;dsimp only at h2;simp;omega
    have hx2':(x2 !=0)=true:=by have h2:=hD.out.err;have h3:=hD.out.x;dsimp only at h2;simp;omega
    go_wp2_with fail
    go_region
    go_wp2_with fail
    refine bodyPost_ret (v:= .tuple #[.slice none 0 0,.int .i64 b2,.int .i64 x2]) (by simp [results,Tryz.results16,go_sem]) rfl ?_
    have hr:R=([],aa,xx):=by rw [←HRR.out,hRF.out]
    have h1:=hD.out.bad
    have h2:=hD.out.err
    dsimp only at h1 h2
    exact ⟨_,w4.heap.size,by rw [hr,h1,h2],HB4.out.size,by rw [hr];exact VL.zero _ _,bl_step HB4.out (HF.out.drew).bl⟩
 ·rw [if_neg hle] at hR
  have HRR:=Lib.hid hR.symm
  have hle2:(le !=0)=true:=by simpa using hle
  clear hR hok hlen hl hs hle
  go_enter Tryz.func16,Tryz.ntmps16
  go_wp2_with (go_at_call 33;refine (HLX _).out.mono ?_;rintro e w4 ⟨a,n,cap,rfl,rfl,htr,hb⟩;dsimp only;have HB4:=Lib.hid hb;clear hb htr)
  refine bodyPost_ret (v:= .tuple #[.slice none 0 0,.int .i64 (la:Int),.int .i64 le]) (by simp [results,Tryz.results16,go_sem]) rfl ?_
  exact ⟨_,w.heap.size,by rw [HRR.out],Nat.le_refl _,by rw [HRR.out];exact VL.zero _ _,HB4.out⟩
end Go.Proofs.YtkfihhagcimcmaaGreatDoor.Ps
