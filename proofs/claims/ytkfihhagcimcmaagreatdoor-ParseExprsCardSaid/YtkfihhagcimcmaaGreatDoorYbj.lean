/- Qp -/
import Derived.Test.YtkfihhagcimcmaaGreatDoorChecked
import Derived.Test.YtkfihhagcimcmaaGreatDoorProg
import Derived.Test.YtkfihhagcimcmaaGreatDoorY1
import Derived.Test.YtkfihhagcimcmaaGreatDoorYbi
namespace Go.Proofs.YtkfihhagcimcmaaGreatDoor.Ps
open Go.RowKit
open Lx (Tok)
theorem field97 (k n at_:Int) (tx:ByteArray) (w:World):(Instr.field 97 (.agg #[.int .i64 k,.int .i64 n,.string tx,.int .i64 at_]) 0).run Tryz.prog w= .ok (.int .i64 k) w:=by kernel_rfl
theorem sizes_of {L:List PX} {acc:List (ByteArray×Ex)} (hu:unP L=sortP acc) (hA:Apart acc) (hz:∀p∈acc,p.1.size≤4096):∀y∈L,y.1.size≤4096:=fun y hy=>by
 have h1:(y.1,y.2.2)∈unP L:=List.mem_map.2 ⟨y,hy,rfl⟩
 rw [hu] at h1
 exact hz _ ((sort_perm hA).mem_iff.1 h1)
set_option maxRecDepth 100000 in
set_option maxHeartbeats 16000000 in
theorem sfields_any (join:Int→List Tok→Res Ex) (w:World) (s:St) (h:SW w s) (h0:s.err=0∧s.bad=0) (hi:s.i≤s.T.length) (ho:0≤s.o∧s.o≤16) (hb:isB [123] s.L=true) (hfit:∀o L,Fits cnt L (join o L))
  (ask:∀(W:World) (S:St),SW W S→S.err=0∧S.bad=0→S.i≤S.T.length→S.o=s.o+1→S.o≤16→S.E=s.E→S.L.length<s.L.length→Calls Tryz.prog 100 #[S.v,.int .i64 1] W (SRes (VX W.heap.size) W S (join S.o S.L))):
  Calls Tryz.prog 167 #[s.v] w (SRes (VX w.heap.size) w s (brM (fun o L=>fieldsM (join o) s.E L) s.E [125] s.o s.L)):=by
 obtain ⟨RF,hRF⟩:∃RF,fieldsF (join (s.o+1)) s.E (s.L.tail.length+1) [] s.L.tail=RF:=⟨_,rfl⟩
 obtain ⟨R,hR⟩:∃R,brM (fun o L=>fieldsM (join o) s.E L) s.E [125] s.o s.L=R:=⟨_,rfl⟩
 rw [hR]
 have H:=Lib.hid h
 have HASK:=Lib.hid ask
 have HFIT:=Lib.hid hfit
 have HO:=Lib.hid ho
 obtain ⟨t0,M0,hL0,-,-⟩:=isB_cons hb
 obtain ⟨a1,cap1,T1,i1,E1,o1,b1,x1,h1⟩:=s.open_.get
 have HL0:Hid (s.L.length=M0.length+1):=Lib.hid (by rw [hL0];rfl)
 have HA:Hid ((Sv {s with o:=s.o+1} ⟨a1,cap1,T1,i1,E1,o1,b1,x1⟩ M0∧FieldsAt (join (s.o+1)) s.E RF [] M0∧R=((RF.bind fun acc L1=> .ok (.mk 10 0 ⟨#[]⟩ [] (sortP acc) (isB [46,46,46] L1) []) (if isB [46,46,46] L1=true then L1.tail else L1):Res Ex).bind fun x L1=>(must s.E [125] L1).bind fun _ L2=> .ok x L2)∧s.o+1≤16)∨∃a x,Dx s ⟨a1,cap1,T1,i1,E1,o1,b1,x1⟩ a x∧R= .bad a x):=Lib.hid (by
  unfold St.open_ at h1
  by_cases h16:s.o=16
  ·rw [if_pos h16] at h1
   have hd:=(Sv.refl h0 hi).fail s.pk 22 (by decide)
   rw [h1] at hd
   refine .inr ⟨_,_,⟨hd.kin,hd.bad,hd.err,hd.x,?_,by have:=hd.hi;omega⟩,?_⟩
   ·have e:(s.fail s.pk 22).o=s.o:=by unfold St.fail;split<;>rfl
    rw [h1] at e
    dsimp only at e⊢
    omega
   ·rw [←hR];unfold brM;rw [if_pos h16];rfl
  ·rw [if_neg h16] at h1
   have hs:=Sv.refl (s:={s with o:=s.o+1}) h0 hi
   have hs2:=hs.next (t:=t0) (N:=M0) hL0
   rw [h1] at hs2
   refine .inl ⟨hs2,⟨M0.length+1,Nat.lt_succ_self _,by rw [hL0] at hRF;exact hRF⟩,?_,by omega⟩
   rw [←hR,←hRF];unfold brM;rw [if_neg h16];rfl)
 have HN1:=Lib.hid h1
 obtain ⟨a0,cap0,T0,i0,E0,o0,b0,x0,hs0⟩:=s.get
 have HS0:=Lib.hid hs0
 have HOP:∀W,Hid (Below w.heap.size w W)→Hid (Calls Tryz.prog 166 #[.agg #[.slice a0 T0.length cap0,.int .i64 (i0:Int),.int .i64 E0,.int .i64 o0,.int .i64 b0,.int .i64 x0]] W (Ans (.agg #[.slice a1 T1.length cap1,.int .i64 (i1:Int),.int .i64 E1,.int .i64 o1,.int .i64 b1,.int .i64 x1]) W)):=fun W hW=>Lib.hid (by
  have:=sopen_any W s (H.out.below hW.out) ⟨by have:=HO.out;omega,by have:=HO.out;omega⟩
  rw [HN1.out,HS0.out] at this
  exact this)
 have HF:=Lib.hid (Fr.start3 w #[.slice a0 T0.length cap0,.int .i64 (i0:Int),.int .i64 E0,.int .i64 o0,.int .i64 b0,.int .i64 x0] #[.slice none 0 0,.int .i64 0,.int .i64 0,.int .i64 0,.int .i64 0,.int .i64 0] #[.int .i64 0,.int .i64 0,.string ⟨#[]⟩,.slice none 0 0,.slice none 0 0,.bool false,.slice none 0 0] 95 95 35)
 have f:=HF.out.facts;dsimp only [Fs,Nes,List.map] at f
 rw [show s.v= .agg #[.slice a0 T0.length cap0,.int .i64 (i0:Int),.int .i64 E0,.int .i64 o0,.int .i64 b0,.int .i64 x0] by rw [hs0];rfl]
 clear hs0 h h0 hi ho hb hfit ask hRF hR hL0 h1
 go_enter Tryz.func167,Tryz.ntmps167
 go_wp2_with (go_at_call 166;refine (HOP _ (Lib.hid HF.out.bl)).out.mono ?_;rintro e w3 ⟨rfl,hb⟩;replace HF:=Lib.hid (HF.out.call hb);clear f;have f1:=HF.out.facts;dsimp only [Fs,Nes,List.map] at f1;replace HF:=Lib.hid (by have t:=HF.out.put6 2 rfl (.slice a1 T1.length cap1) (.int .i64 (i1:Int)) (.int .i64 E1) (.int .i64 o1) (.int .i64 b1) (.int .i64 x1);simp only [List.set_cons_succ,List.set_cons_zero] at t;exact t);replace HF:=Lib.hid (HF.out.new_ #[.int .i64 10,.int .i64 0,.string ⟨#[]⟩,.slice none 0 0,.slice none 0 0,.bool false,.slice none 0 0] 35 (n:=w3.heap.size) (put6_size _ _ _ _ _ _ _ _));have f2:=HF.out.facts;dsimp only [Fs,Nes,List.map] at f2;clear hb)
 clear f1 f2
 have HEB:=Lib.hid (HF.out.lt (i:=0) rfl)
 go_loopw [] (fun wr=>∃(a2:Option Addr) (cap2:Nat) (T2:List Tok) (i2:Nat) (E2 o2 b2 x2:Int) (L:List PX) (ra:Option Addr) (rl rc:Nat),Hid (Fr w wr [(w3.heap.size,#[.int .i64 10,.int .i64 0,.string ⟨#[]⟩,.slice none 0 0,.slice ra rl rc,.bool false,.slice none 0 0],35),(w.heap.size+2,#[.int .i64 0,.int .i64 0,.string ⟨#[]⟩,.slice none 0 0,.slice none 0 0,.bool false,.slice none 0 0],35),(w.heap.size+1,#[.slice none 0 0,.int .i64 0,.int .i64 0,.int .i64 0,.int .i64 0,.int .i64 0],95),(w.heap.size,#[.slice a2 T2.length cap2,.int .i64 (i2:Int),.int .i64 E2,.int .i64 o2,.int .i64 b2,.int .i64 x2],95)])∧((∃(acc:List (ByteArray×Ex)) (M:List Tok),rl≤32∧Hid (M.length≤M0.length)∧Hid (s.o+1≤16)∧Hid (L.length=rl)∧Hid (PF w.heap.size [(w3.heap.size,#[.int .i64 10,.int .i64 0,.string ⟨#[]⟩,.slice none 0 0,.slice ra rl rc,.bool false,.slice none 0 0],35),(w.heap.size+2,#[.int .i64 0,.int .i64 0,.string ⟨#[]⟩,.slice none 0 0,.slice none 0 0,.bool false,.slice none 0 0],35),(w.heap.size+1,#[.slice none 0 0,.int .i64 0,.int .i64 0,.int .i64 0,.int .i64 0,.int .i64 0],95),(w.heap.size,#[.slice a2 T2.length cap2,.int .i64 (i2:Int),.int .i64 E2,.int .i64 o2,.int .i64 b2,.int .i64 x2],95)] wr (.slice ra rl rc) L)∧Hid (Sv {s with o:=s.o+1} ⟨a2,cap2,T2,i2,E2,o2,b2,x2⟩ M)∧Hid (unP L=sortP acc∧Apart acc∧acc.length≤32∧∀p∈acc,p.1.size≤4096)∧Hid (FieldsAt (join (s.o+1)) s.E RF acc M)∧Hid (R=((RF.bind fun acc L1=> .ok (.mk 10 0 ⟨#[]⟩ [] (sortP acc) (isB [46,46,46] L1) []) (if isB [46,46,46] L1=true then L1.tail else L1):Res Ex).bind fun x L1=>(must s.E [125] L1).bind fun _ L2=> .ok x L2)))∨(∃a x,Hid (Dx s ⟨a2,cap2,T2,i2,E2,o2,b2,x2⟩ a x)∧Hid (R= .bad a x)))) (fun wr=>leftS wr w.heap.size)
 case atStart=>
  refine ⟨_,_,_,_,_,_,_,_,[],none,0,0,HF,?_⟩
  rcases HA.out with ⟨h1,h2,h3,h4⟩|⟨a,x,h1,h2⟩
  ·exact .inl ⟨[],M0,by decide,Lib.hid (Nat.le_refl _),Lib.hid h4,Lib.hid rfl,Lib.hid ⟨World.ownsRow_nil _ _ _ _,(fun b _ e=>by cases e),fun y hy=>absurd hy (by simp)⟩,Lib.hid h1,Lib.hid ⟨rfl,.nil,by decide,fun p hp=>absurd hp (by simp)⟩,Lib.hid h2,Lib.hid h3⟩
  ·exact .inr ⟨a,x,Lib.hid h1,Lib.hid h2⟩
 case round=>
  obtain ⟨a2,cap2,T2,i2,E2,o2,b2,x2,L,ra,rl,rc,HF,hh⟩:=hrel
  rename World=>wr
  rcases hh with ⟨acc,M,hql,HML,HO16,hL,hP,hS,hu,hFA,hRR⟩|⟨a,x,hD,hRR⟩
  ·obtain ⟨k,n,tx,at_,htk⟩:=St.pk_get ⟨a2,cap2,T2,i2,E2,o2,b2,x2⟩
   have HT:=Lib.hid htk
   have hpk:Ps.pk s.E M=⟨⟨k,n,tx.toList⟩,at_⟩:=by rw [←htk];exact (hS.out.pk).symm
   have hx2:(x2==0)=true:=by have h2:=hS.out.err;dsimp only at h2;simpa using h2
   have HSW:Hid (∀{W:World},Below w.heap.size w W→SW W ⟨a2,cap2,T2,i2,E2,o2,b2,x2⟩):=Lib.hid fun hW=>H.out.kin hW hS.out.kin.ofo
   have HKN:Hid (Kin s ⟨a2,cap2,T2,i2,E2,o2,b2,x2⟩):=Lib.hid hS.out.kin.ofo
   have hfd:=field97 k n at_ tx
   by_cases hk:k=2
   ·have hk2:(k==2)=true:=by simpa using hk
    have HP:=hP
    have hlen:acc.length=rl:=by have h1:=congrArg List.length hu.out.1;rw [unP_len,(sort_perm hu.out.2.1).length_eq,hL.out] at h1;omega
    obtain ⟨wd,hwd⟩:∃wd,(St.named ⟨a2,cap2,T2,i2,E2,o2,b2,x2⟩).2=wd:=⟨_,rfl⟩
    obtain ⟨a3,cap3,T3,i3,E3,o3,b3,x3,hn3⟩:=(St.named ⟨a2,cap2,T2,i2,E2,o2,b2,x2⟩).1.get
    have HNW:Hid ((St.named ⟨a2,cap2,T2,i2,E2,o2,b2,x2⟩).1=⟨a3,cap3,T3,i3,E3,o3,b3,x3⟩∧(St.named ⟨a2,cap2,T2,i2,E2,o2,b2,x2⟩).2=wd):=Lib.hid ⟨hn3,hwd⟩
    have HNM:∀W,Hid (Below w.heap.size w W)→Hid (Calls Tryz.prog 57 #[.agg #[.slice a2 T2.length cap2,.int .i64 (i2:Int),.int .i64 E2,.int .i64 o2,.int .i64 b2,.int .i64 x2]] W (Ans (.tuple #[.agg #[.slice a3 T3.length cap3,.int .i64 (i3:Int),.int .i64 E3,.int .i64 o3,.int .i64 b3,.int .i64 x3],.string wd]) W)):=fun W hW=>Lib.hid (by
     have:=snamed_any W ⟨a2,cap2,T2,i2,E2,o2,b2,x2⟩ (HSW.out hW.out)
     rw [HNW.out.1,HNW.out.2] at this
     exact this)
    obtain ⟨b1,hb1⟩:∃b,hasB L wd=b:=⟨_,rfl⟩
    obtain ⟨b2,hb2⟩:∃b,((rl:Int)==32)=b:=⟨_,rfl⟩
    have hpre:=pre_state hS.out b1 b2 acc (fun _=>by rw [hwd,←hb1,←hasB_unP,hu.out.1,hasB_sort hu.out.2.1]) (by rw [hlen,←hb2];simp;omega)
    rw [hn3,htk] at hpre
    have HB1:=Lib.hid hb1
    have hK3:Kin s ⟨a3,cap3,T3,i3,E3,o3,b3,x3⟩:=by have:=(Stt.named (r:=Res.ok () M) hS.out).kin;rw [hn3] at this;exact this.ofo
    have HLQ:=hL
    have hkM:(Ps.pk s.E M).x.k=2:=by rw [hpk];exact hk
    have HKM:=Lib.hid hkM
    have HMS:=Lib.hid hpre
    obtain ⟨r7,hr7⟩:∃r,((preM s.E acc M).bind fun _ M2=>join (s.o+1) M2)=r:=⟨_,rfl⟩
    have HR7:=Lib.hid hr7
    have HL2:Hid (leftS wr w.heap.size=M.length+1):=Lib.hid (hS.out.leftS (HF.out.bx (i:=3) rfl))
    clear hlen hwd hn3 hb1 hpre htk hpk hk hkM hr7
    have hql2:(rl:Int)+1≤33:=by omega
    cases b1 with
    |false=>
     cases b2 with
     |false=>
      have hpre:=HMS.out
      simp only [Bool.false_eq_true,if_false] at hpre
      obtain ⟨a6,cap6,T6,i6,E6,o6,b6,x6,hn6⟩:=(St.must ⟨a3,cap3,T3,i3,E3,o3,b3,x3⟩ [58]).get
      rw [hn6] at hpre
      have HN6:Hid (St.must ⟨a3,cap3,T3,i3,E3,o3,b3,x3⟩ (ByteArray.mk #[58]).toList=⟨a6,cap6,T6,i6,E6,o6,b6,x6⟩):=Lib.hid (by rw [Lib.toList_data];exact hn6)
      have HPRE:=Lib.hid hpre
      have HK5:=Lib.hid hK3
      clear hpre hn6
      have HLV:∀W,Hid (Below w.heap.size w W)→Hid (Calls Tryz.prog 100 #[.agg #[.slice a6 T6.length cap6,.int .i64 (i6:Int),.int .i64 E6,.int .i64 o6,.int .i64 b6,.int .i64 x6],.int .i64 1] W (LevQ {s with o:=s.o+1} ⟨a6,cap6,T6,i6,E6,o6,b6,x6⟩ r7 W)):=fun W hW=>Lib.hid (by
       have hsw:=H.out.kin hW.out (HPRE.out.kin.ofo)
       rw [←HR7.out]
       refine lev_q (join (s.o+1)) HPRE.out hsw fun u K hp hK=>?_
       have e1:=hK.eq
       have e2:(⟨a6,cap6,T6,i6,E6,o6,b6,x6⟩:St).o=s.o+1:=by rw [e1]
       have h5:=HASK.out W ⟨a6,cap6,T6,i6,E6,o6,b6,x6⟩ hsw ⟨hK.err,by rw [e1];exact hK.ok.2⟩ (by have:=hK.i;rw [hK.kin.T];exact this) e2 (by rw [e2];exact HO16.out) hK.kin.E (by rw [hK.L];have:=preM_len hp;have:=HL0.out;have:=HML.out;omega)
       rw [e2,hK.L] at h5
       exact h5)
      have P1:=Lib.hid (Nat.le_refl 0)
      have P3:=Lib.hid (Nat.le_refl 0)
      have f:=HF.out.facts
      dsimp only [Fs,Nes,List.map] at f
      go_wp2_with (first
       |(go_at_call 54;clear P1;refine (peek_as _ ⟨a2,cap2,T2,i2,E2,o2,b2,x2⟩ k n at_ tx (HSW.out HF.out.bl) HT).mono ?_;rintro e w4 ⟨rfl,hb⟩;replace HF:=Lib.hid (HF.out.call hb);replace HP:=Lib.hid (HP.out.call hb);clear f;have f:=HF.out.facts;dsimp only [Fs,Nes,List.map] at f;clear hb)
       |(go_at_call 54;refine (peek_as _ ⟨a2,cap2,T2,i2,E2,o2,b2,x2⟩ k n at_ tx (HSW.out HF.out.bl) HT).mono ?_;rintro e w5 ⟨rfl,hb⟩;replace HF:=Lib.hid (HF.out.call hb);replace HP:=Lib.hid (HP.out.call hb);clear f;have f1:=HF.out.facts;dsimp only [Fs,Nes,List.map] at f1;replace HF:=Lib.hid (HF.out.new_ #[.int .i64 k,.int .i64 n,.string tx,.int .i64 at_] 97 (n:=w5.heap.size) (rfl));replace HP:=Lib.hid (HP.out.new_ #[.int .i64 k,.int .i64 n,.string tx,.int .i64 at_] 97 (n:=w5.heap.size) (rfl));have f:=HF.out.facts;dsimp only [Fs,Nes,List.map] at f;clear hb)
       |(go_at_call 57;refine (HNM _ (Lib.hid HF.out.bl)).out.mono ?_;rintro e w6 ⟨rfl,hb⟩;replace HF:=Lib.hid (HF.out.call hb);replace HP:=Lib.hid (HP.out.call hb);clear f f1;have f1:=HF.out.facts;dsimp only [Fs,Nes,List.map] at f1;replace HF:=Lib.hid (by have t:=HF.out.put6 4 rfl (.slice a3 T3.length cap3) (.int .i64 (i3:Int)) (.int .i64 E3) (.int .i64 o3) (.int .i64 b3) (.int .i64 x3);simp only [List.set_cons_succ,List.set_cons_zero] at t;exact t);replace HP:=Lib.hid (by have t:=HP.out.put6 4 rfl (.slice a3 T3.length cap3) (.int .i64 (i3:Int)) (.int .i64 E3) (.int .i64 o3) (.int .i64 b3) (.int .i64 x3);simp only [List.set_cons_succ,List.set_cons_zero] at t;exact t);have f:=HF.out.facts;dsimp only [Fs,Nes,List.map] at f;unfold put6 at f;clear hb)
       |(go_at_call 205;refine (shas_as L wd false ra rl rc _ HLQ (by omega) HP.out.row HB1).mono ?_;rintro e w7 ⟨rfl,hb⟩;replace HF:=Lib.hid (HF.out.call hb);replace HP:=Lib.hid (HP.out.call hb);clear f f1;have f1:=HF.out.facts;dsimp only [Fs,Nes,List.map] at f1;have f:=HF.out.facts;dsimp only [Fs,Nes,List.map] at f;clear hb)
       |(go_at_call 58;clear P3;refine (smust_as _ ⟨a3,cap3,T3,i3,E3,o3,b3,x3⟩ ⟨a6,cap6,T6,i6,E6,o6,b6,x6⟩ ⟨#[58]⟩ (H.out.kin HF.out.bl HK5.out) HN6).mono ?_;rintro e w10 ⟨rfl,hb⟩;unfold St.v;dsimp only;replace HF:=Lib.hid (HF.out.call hb);replace HP:=Lib.hid (HP.out.call hb);clear f f1;have f1:=HF.out.facts;dsimp only [Fs,Nes,List.map] at f1;replace HF:=Lib.hid (by have t:=HF.out.put6 4 rfl (.slice a6 T6.length cap6) (.int .i64 (i6:Int)) (.int .i64 E6) (.int .i64 o6) (.int .i64 b6) (.int .i64 x6);simp only [List.set_cons_succ,List.set_cons_zero] at t;exact t);replace HP:=Lib.hid (by have t:=HP.out.put6 4 rfl (.slice a6 T6.length cap6) (.int .i64 (i6:Int)) (.int .i64 E6) (.int .i64 o6) (.int .i64 b6) (.int .i64 x6);simp only [List.set_cons_succ,List.set_cons_zero] at t;exact t);have f2:=HF.out.facts;dsimp only [Fs,Nes,List.map] at f2;unfold put6 at f2;replace HF:=Lib.hid (HF.out.new_ #[.int .i64 0,.int .i64 0,.string ⟨#[]⟩,.slice none 0 0,.slice none 0 0,.bool false,.slice none 0 0] 35 (n:=w10.heap.size) (put6_size _ _ _ _ _ _ _ _));replace HP:=Lib.hid (HP.out.new_ #[.int .i64 0,.int .i64 0,.string ⟨#[]⟩,.slice none 0 0,.slice none 0 0,.bool false,.slice none 0 0] 35 (n:=w10.heap.size) (put6_size _ _ _ _ _ _ _ _));have f:=HF.out.facts;dsimp only [Fs,Nes,List.map] at f;unfold put6 at f;clear hb)
       |(go_at_call 100;refine (HLV _ (Lib.hid HF.out.bl)).out.mono ?_;rintro e w11 ⟨hb,S7,hd7,rfl,hst7,hx7⟩;have HX:=Lib.hid (fun x K e=>XF.of (hx7 x K e) HF.out HF.out.size);clear hx7;obtain ⟨a7,cap7,T7,i7,E7,o7,b7,x7⟩:=S7;obtain ⟨op,nn,s1,p,pl,pc,q,ql,qc,oo,ka,kl,kc⟩:=hd7;unfold St.v Hd.agg;dsimp only;replace HF:=Lib.hid (HF.out.call hb);replace HP:=Lib.hid (HP.out.call hb);clear f f1 f2;have f1:=HF.out.facts;dsimp only [Fs,Nes,List.map] at f1;replace HF:=Lib.hid (by have t:=HF.out.put6 5 rfl (.slice a7 T7.length cap7) (.int .i64 (i7:Int)) (.int .i64 E7) (.int .i64 o7) (.int .i64 b7) (.int .i64 x7);simp only [List.set_cons_succ,List.set_cons_zero] at t;exact t);replace HP:=Lib.hid (by have t:=HP.out.put6 5 rfl (.slice a7 T7.length cap7) (.int .i64 (i7:Int)) (.int .i64 E7) (.int .i64 o7) (.int .i64 b7) (.int .i64 x7);simp only [List.set_cons_succ,List.set_cons_zero] at t;exact t);replace HX:=Lib.hid (fun x K e=>(HX.out x K e).put6 5 rfl (.slice a7 T7.length cap7) (.int .i64 (i7:Int)) (.int .i64 E7) (.int .i64 o7) (.int .i64 b7) (.int .i64 x7));have f2:=HF.out.facts;dsimp only [Fs,Nes,List.map] at f2;unfold put6 at f2;replace HF:=Lib.hid (by have t:=HF.out.put7 0 rfl (.int .i64 op) (.int .i64 nn) (.string s1) (.slice p pl pc) (.slice q ql qc) (.bool oo) (.slice ka kl kc);simp only [List.set_cons_zero] at t;exact t);replace HP:=Lib.hid (by have t:=HP.out.put7 0 rfl (.int .i64 op) (.int .i64 nn) (.string s1) (.slice p pl pc) (.slice q ql qc) (.bool oo) (.slice ka kl kc);simp only [List.set_cons_zero] at t;exact t);replace HX:=Lib.hid (fun x K e=>(HX.out x K e).put7 0 rfl (.int .i64 op) (.int .i64 nn) (.string s1) (.slice p pl pc) (.slice q ql qc) (.bool oo) (.slice ka kl kc));obtain ⟨a8,cap8,T8,i8,E8,o8,b8,x8,hn8⟩:=(St.must ⟨a7,cap7,T7,i7,E7,o7,b7,x7⟩ [59]).get;have hst8:=hst7.must [59];rw [hn8] at hst8;have HST:=Lib.hid hst8;have HN8:Hid (St.must ⟨a7,cap7,T7,i7,E7,o7,b7,x7⟩ (ByteArray.mk #[59]).toList=⟨a8,cap8,T8,i8,E8,o8,b8,x8⟩):=Lib.hid (by rw [Lib.toList_data];exact hn8);have HK7:=Lib.hid hst7.kin.ofo;clear hst7 hst8 hn8;have f:=HF.out.facts;dsimp only [Fs,Nes,List.map] at f;unfold put6 put7 at f;clear hb)
       |(go_at_call 58;refine (smust_as _ ⟨a7,cap7,T7,i7,E7,o7,b7,x7⟩ ⟨a8,cap8,T8,i8,E8,o8,b8,x8⟩ ⟨#[59]⟩ (H.out.kin HF.out.bl HK7.out) HN8).mono ?_;rintro e w12 ⟨rfl,hb⟩;unfold St.v;dsimp only;replace HF:=Lib.hid (HF.out.call hb);replace HP:=Lib.hid (HP.out.call hb);replace HX:=Lib.hid (fun x K e=>(HX.out x K e).call hb);clear f f1 f2;have f1:=HF.out.facts;dsimp only [Fs,Nes,List.map] at f1;replace HF:=Lib.hid (by have t:=HF.out.put6 5 rfl (.slice a8 T8.length cap8) (.int .i64 (i8:Int)) (.int .i64 E8) (.int .i64 o8) (.int .i64 b8) (.int .i64 x8);simp only [List.set_cons_succ,List.set_cons_zero] at t;exact t);replace HP:=Lib.hid (by have t:=HP.out.put6 5 rfl (.slice a8 T8.length cap8) (.int .i64 (i8:Int)) (.int .i64 E8) (.int .i64 o8) (.int .i64 b8) (.int .i64 x8);simp only [List.set_cons_succ,List.set_cons_zero] at t;exact t);replace HX:=Lib.hid (fun x K e=>(HX.out x K e).put6 5 rfl (.slice a8 T8.length cap8) (.int .i64 (i8:Int)) (.int .i64 E8) (.int .i64 o8) (.int .i64 b8) (.int .i64 x8));have f:=HF.out.facts;dsimp only [Fs,Nes,List.map] at f;unfold put6 at f;clear hb)
       |(go_at_call 206;refine (sput_any L wd ⟨op,nn,s1,p,pl,pc,q,ql,qc,oo,ka,kl,kc⟩ (r7.val exO) ra rl rc _ HLQ.out.symm (by omega) HP.out.row).mono ?_;rintro e w13 ⟨v,rfl,hown,hb⟩;obtain ⟨qa2,qc2,rfl⟩:=own_sliceP hown;have HOWN:=Lib.hid hown;have HBB:=Lib.hid hb;have HFW:=HF;replace HF:=Lib.hid (HF.out.call hb);clear f f1;have f1:=HF.out.facts;dsimp only [Fs,Nes,List.map] at f1;have HLP:Hid ((putP L (wd,(⟨op,nn,s1,p,pl,pc,q,ql,qc,oo,ka,kl,kc⟩:Hd),r7.val exO)).length=rl+1):=Lib.hid (by rw [putP_len,HLQ.out]);rw [HLP.out];clear hown hb))
      have hF:=HF.out.set 2 4 rfl (.slice qa2 (rl+1) qc2)
      simp only [List.set_cons_succ,List.set_cons_zero,List.setIfInBounds_toArray] at hF
      have hg:=setCell_grown w13 w3.heap.size 4 (.slice qa2 (rl+1) qc2)
      rcases pair_rel (hd:=(⟨op,nn,s1,p,pl,pc,q,ql,qc,oo,ka,kl,kc⟩:Hd)) (HFIT.out _) hS.out H.out.ok HKM.out hu.out hFA.out HR7.out.symm HST.out with ⟨acc',M',hS8,hlt,hu',hFA',x,K,hr7,hval⟩|⟨a,x,hD,hRF⟩
      ·rw [HNW.out.2] at hu'
       have h9:=HP.out.next (l':=[(w3.heap.size,#[.int .i64 10,.int .i64 0,.string ⟨#[]⟩,.slice none 0 0,.slice qa2 (rl+1) qc2,.bool false,.slice none 0 0],35),(w.heap.size+2,#[.int .i64 0,.int .i64 0,.string ⟨#[]⟩,.slice none 0 0,.slice none 0 0,.bool false,.slice none 0 0],35),(w.heap.size+1,#[.slice none 0 0,.int .i64 0,.int .i64 0,.int .i64 0,.int .i64 0,.int .i64 0],95),(w.heap.size,#[.slice a8 T8.length cap8,.int .i64 (i8:Int),.int .i64 E8,.int .i64 o8,.int .i64 b8,.int .i64 x8],95)]) (by rw [hval];exact HX.out x K hr7) HBB.out HOWN.out HFW.out.size (fun b hb=>HFW.out.fresh hb) (c:=w3.heap.size) (by simp) hg (fun b hb=>List.mem_cons_of_mem _ (List.mem_cons_of_mem _ hb))
       rw [HLP.out] at h9
       have hq:acc'.length=rl+1:=by have h1:=congrArg List.length hu'.1;rw [unP_len,(sort_perm hu'.2.1).length_eq,HLP.out] at h1;omega
       go_roundw
       case rel=>exact ⟨_,_,_,_,_,_,_,_,(putP L (wd,(⟨op,nn,s1,p,pl,pc,q,ql,qc,oo,ka,kl,kc⟩:Hd),r7.val exO)),qa2,rl+1,qc2,Lib.hid hF.tail.tail,.inl ⟨acc',M',by have:=hu'.2.2.1;omega,Lib.hid (Nat.le_trans (Nat.le_of_lt hlt) HML.out),HO16,HLP,Lib.hid h9,Lib.hid hS8,Lib.hid hu',Lib.hid hFA',hRR⟩⟩
       case measure=>
        show leftS _ w.heap.size<leftS wr w.heap.size
        rw [HL2.out,hS8.leftS (hF.bx (i:=5) rfl)]
        omega
      ·go_roundw
       case rel=>exact ⟨_,_,_,_,_,_,_,_,(putP L (wd,(⟨op,nn,s1,p,pl,pc,q,ql,qc,oo,ka,kl,kc⟩:Hd),r7.val exO)),qa2,rl+1,qc2,Lib.hid hF.tail.tail,.inr ⟨a,x,Lib.hid (Dx.of hD),Lib.hid (by rw [hRR.out,hRF];rfl)⟩⟩
       case measure=>
        show leftS _ w.heap.size<leftS wr w.heap.size
        rw [HL2.out,hD.leftS (hF.bx (i:=5) rfl)]
        omega
     |true=>
      have hpre:=HMS.out
      simp only [if_true,Bool.false_eq_true,if_false] at hpre
      obtain ⟨a5,cap5,T5,i5,E5,o5,b5,x5,hn5⟩:=(St.fail ⟨a3,cap3,T3,i3,E3,o3,b3,x3⟩ ⟨⟨k,n,tx.toList⟩,at_⟩ 4).get
      rw [hn5] at hpre
      have HN5:=Lib.hid hn5
      have hK5:Kin s ⟨a5,cap5,T5,i5,E5,o5,b5,x5⟩:=by rw [←hn5];exact hK3.fail _ _
      clear hn5
      obtain ⟨a6,cap6,T6,i6,E6,o6,b6,x6,hn6⟩:=(St.must ⟨a5,cap5,T5,i5,E5,o5,b5,x5⟩ [58]).get
      rw [hn6] at hpre
      have HN6:Hid (St.must ⟨a5,cap5,T5,i5,E5,o5,b5,x5⟩ (ByteArray.mk #[58]).toList=⟨a6,cap6,T6,i6,E6,o6,b6,x6⟩):=Lib.hid (by rw [Lib.toList_data];exact hn6)
      have HPRE:=Lib.hid hpre
      have HK5:=Lib.hid hK5
      clear hpre hn6
      have HLV:∀W,Hid (Below w.heap.size w W)→Hid (Calls Tryz.prog 100 #[.agg #[.slice a6 T6.length cap6,.int .i64 (i6:Int),.int .i64 E6,.int .i64 o6,.int .i64 b6,.int .i64 x6],.int .i64 1] W (LevQ {s with o:=s.o+1} ⟨a6,cap6,T6,i6,E6,o6,b6,x6⟩ r7 W)):=fun W hW=>Lib.hid (by
       have hsw:=H.out.kin hW.out (HPRE.out.kin.ofo)
       rw [←HR7.out]
       refine lev_q (join (s.o+1)) HPRE.out hsw fun u K hp hK=>?_
       have e1:=hK.eq
       have e2:(⟨a6,cap6,T6,i6,E6,o6,b6,x6⟩:St).o=s.o+1:=by rw [e1]
       have h5:=HASK.out W ⟨a6,cap6,T6,i6,E6,o6,b6,x6⟩ hsw ⟨hK.err,by rw [e1];exact hK.ok.2⟩ (by have:=hK.i;rw [hK.kin.T];exact this) e2 (by rw [e2];exact HO16.out) hK.kin.E (by rw [hK.L];have:=preM_len hp;have:=HL0.out;have:=HML.out;omega)
       rw [e2,hK.L] at h5
       exact h5)
      have P1:=Lib.hid (Nat.le_refl 0)
      have P3:=Lib.hid (Nat.le_refl 0)
      have f:=HF.out.facts
      dsimp only [Fs,Nes,List.map] at f
      clear hK5
      go_wp2_with (first
       |(go_at_call 54;clear P1;refine (peek_as _ ⟨a2,cap2,T2,i2,E2,o2,b2,x2⟩ k n at_ tx (HSW.out HF.out.bl) HT).mono ?_;rintro e w4 ⟨rfl,hb⟩;replace HF:=Lib.hid (HF.out.call hb);replace HP:=Lib.hid (HP.out.call hb);clear f;have f:=HF.out.facts;dsimp only [Fs,Nes,List.map] at f;clear hb)
       |(go_at_call 54;refine (peek_as _ ⟨a2,cap2,T2,i2,E2,o2,b2,x2⟩ k n at_ tx (HSW.out HF.out.bl) HT).mono ?_;rintro e w5 ⟨rfl,hb⟩;replace HF:=Lib.hid (HF.out.call hb);replace HP:=Lib.hid (HP.out.call hb);clear f;have f1:=HF.out.facts;dsimp only [Fs,Nes,List.map] at f1;replace HF:=Lib.hid (HF.out.new_ #[.int .i64 k,.int .i64 n,.string tx,.int .i64 at_] 97 (n:=w5.heap.size) (rfl));replace HP:=Lib.hid (HP.out.new_ #[.int .i64 k,.int .i64 n,.string tx,.int .i64 at_] 97 (n:=w5.heap.size) (rfl));have f:=HF.out.facts;dsimp only [Fs,Nes,List.map] at f;clear hb)
       |(go_at_call 57;refine (HNM _ (Lib.hid HF.out.bl)).out.mono ?_;rintro e w6 ⟨rfl,hb⟩;replace HF:=Lib.hid (HF.out.call hb);replace HP:=Lib.hid (HP.out.call hb);clear f f1;have f1:=HF.out.facts;dsimp only [Fs,Nes,List.map] at f1;replace HF:=Lib.hid (by have t:=HF.out.put6 4 rfl (.slice a3 T3.length cap3) (.int .i64 (i3:Int)) (.int .i64 E3) (.int .i64 o3) (.int .i64 b3) (.int .i64 x3);simp only [List.set_cons_succ,List.set_cons_zero] at t;exact t);replace HP:=Lib.hid (by have t:=HP.out.put6 4 rfl (.slice a3 T3.length cap3) (.int .i64 (i3:Int)) (.int .i64 E3) (.int .i64 o3) (.int .i64 b3) (.int .i64 x3);simp only [List.set_cons_succ,List.set_cons_zero] at t;exact t);have f:=HF.out.facts;dsimp only [Fs,Nes,List.map] at f;unfold put6 at f;clear hb)
       |(go_at_call 205;refine (shas_as L wd false ra rl rc _ HLQ (by omega) HP.out.row HB1).mono ?_;rintro e w7 ⟨rfl,hb⟩;replace HF:=Lib.hid (HF.out.call hb);replace HP:=Lib.hid (HP.out.call hb);clear f f1;have f1:=HF.out.facts;dsimp only [Fs,Nes,List.map] at f1;have f:=HF.out.facts;dsimp only [Fs,Nes,List.map] at f;clear hb)
       |(go_at_call 55;refine (sfail_as _ ⟨a3,cap3,T3,i3,E3,o3,b3,x3⟩ ⟨a5,cap5,T5,i5,E5,o5,b5,x5⟩ k n tx at_ 4 HN5).mono ?_;rintro e w9 ⟨rfl,hb⟩;unfold St.v;dsimp only;replace HF:=Lib.hid (HF.out.call hb);replace HP:=Lib.hid (HP.out.call hb);clear f f1;have f1:=HF.out.facts;dsimp only [Fs,Nes,List.map] at f1;replace HF:=Lib.hid (by have t:=HF.out.put6 4 rfl (.slice a5 T5.length cap5) (.int .i64 (i5:Int)) (.int .i64 E5) (.int .i64 o5) (.int .i64 b5) (.int .i64 x5);simp only [List.set_cons_succ,List.set_cons_zero] at t;exact t);replace HP:=Lib.hid (by have t:=HP.out.put6 4 rfl (.slice a5 T5.length cap5) (.int .i64 (i5:Int)) (.int .i64 E5) (.int .i64 o5) (.int .i64 b5) (.int .i64 x5);simp only [List.set_cons_succ,List.set_cons_zero] at t;exact t);have f:=HF.out.facts;dsimp only [Fs,Nes,List.map] at f;unfold put6 at f;clear hb)
       |(go_at_call 58;clear P3;refine (smust_as _ ⟨a5,cap5,T5,i5,E5,o5,b5,x5⟩ ⟨a6,cap6,T6,i6,E6,o6,b6,x6⟩ ⟨#[58]⟩ (H.out.kin HF.out.bl HK5.out) HN6).mono ?_;rintro e w10 ⟨rfl,hb⟩;unfold St.v;dsimp only;replace HF:=Lib.hid (HF.out.call hb);replace HP:=Lib.hid (HP.out.call hb);clear f f1;have f1:=HF.out.facts;dsimp only [Fs,Nes,List.map] at f1;replace HF:=Lib.hid (by have t:=HF.out.put6 4 rfl (.slice a6 T6.length cap6) (.int .i64 (i6:Int)) (.int .i64 E6) (.int .i64 o6) (.int .i64 b6) (.int .i64 x6);simp only [List.set_cons_succ,List.set_cons_zero] at t;exact t);replace HP:=Lib.hid (by have t:=HP.out.put6 4 rfl (.slice a6 T6.length cap6) (.int .i64 (i6:Int)) (.int .i64 E6) (.int .i64 o6) (.int .i64 b6) (.int .i64 x6);simp only [List.set_cons_succ,List.set_cons_zero] at t;exact t);have f2:=HF.out.facts;dsimp only [Fs,Nes,List.map] at f2;unfold put6 at f2;replace HF:=Lib.hid (HF.out.new_ #[.int .i64 0,.int .i64 0,.string ⟨#[]⟩,.slice none 0 0,.slice none 0 0,.bool false,.slice none 0 0] 35 (n:=w10.heap.size) (put6_size _ _ _ _ _ _ _ _));replace HP:=Lib.hid (HP.out.new_ #[.int .i64 0,.int .i64 0,.string ⟨#[]⟩,.slice none 0 0,.slice none 0 0,.bool false,.slice none 0 0] 35 (n:=w10.heap.size) (put6_size _ _ _ _ _ _ _ _));have f:=HF.out.facts;dsimp only [Fs,Nes,List.map] at f;unfold put6 at f;clear hb)
       |(go_at_call 100;refine (HLV _ (Lib.hid HF.out.bl)).out.mono ?_;rintro e w11 ⟨hb,S7,hd7,rfl,hst7,hx7⟩;have HX:=Lib.hid (fun x K e=>XF.of (hx7 x K e) HF.out HF.out.size);clear hx7;obtain ⟨a7,cap7,T7,i7,E7,o7,b7,x7⟩:=S7;obtain ⟨op,nn,s1,p,pl,pc,q,ql,qc,oo,ka,kl,kc⟩:=hd7;unfold St.v Hd.agg;dsimp only;replace HF:=Lib.hid (HF.out.call hb);replace HP:=Lib.hid (HP.out.call hb);clear f f1 f2;have f1:=HF.out.facts;dsimp only [Fs,Nes,List.map] at f1;replace HF:=Lib.hid (by have t:=HF.out.put6 5 rfl (.slice a7 T7.length cap7) (.int .i64 (i7:Int)) (.int .i64 E7) (.int .i64 o7) (.int .i64 b7) (.int .i64 x7);simp only [List.set_cons_succ,List.set_cons_zero] at t;exact t);replace HP:=Lib.hid (by have t:=HP.out.put6 5 rfl (.slice a7 T7.length cap7) (.int .i64 (i7:Int)) (.int .i64 E7) (.int .i64 o7) (.int .i64 b7) (.int .i64 x7);simp only [List.set_cons_succ,List.set_cons_zero] at t;exact t);replace HX:=Lib.hid (fun x K e=>(HX.out x K e).put6 5 rfl (.slice a7 T7.length cap7) (.int .i64 (i7:Int)) (.int .i64 E7) (.int .i64 o7) (.int .i64 b7) (.int .i64 x7));have f2:=HF.out.facts;dsimp only [Fs,Nes,List.map] at f2;unfold put6 at f2;replace HF:=Lib.hid (by have t:=HF.out.put7 0 rfl (.int .i64 op) (.int .i64 nn) (.string s1) (.slice p pl pc) (.slice q ql qc) (.bool oo) (.slice ka kl kc);simp only [List.set_cons_zero] at t;exact t);replace HP:=Lib.hid (by have t:=HP.out.put7 0 rfl (.int .i64 op) (.int .i64 nn) (.string s1) (.slice p pl pc) (.slice q ql qc) (.bool oo) (.slice ka kl kc);simp only [List.set_cons_zero] at t;exact t);replace HX:=Lib.hid (fun x K e=>(HX.out x K e).put7 0 rfl (.int .i64 op) (.int .i64 nn) (.string s1) (.slice p pl pc) (.slice q ql qc) (.bool oo) (.slice ka kl kc));obtain ⟨a8,cap8,T8,i8,E8,o8,b8,x8,hn8⟩:=(St.must ⟨a7,cap7,T7,i7,E7,o7,b7,x7⟩ [59]).get;have hst8:=hst7.must [59];rw [hn8] at hst8;have HST:=Lib.hid hst8;have HN8:Hid (St.must ⟨a7,cap7,T7,i7,E7,o7,b7,x7⟩ (ByteArray.mk #[59]).toList=⟨a8,cap8,T8,i8,E8,o8,b8,x8⟩):=Lib.hid (by rw [Lib.toList_data];exact hn8);have HK7:=Lib.hid hst7.kin.ofo;clear hst7 hst8 hn8;have f:=HF.out.facts;dsimp only [Fs,Nes,List.map] at f;unfold put6 put7 at f;clear hb)
       |(go_at_call 58;refine (smust_as _ ⟨a7,cap7,T7,i7,E7,o7,b7,x7⟩ ⟨a8,cap8,T8,i8,E8,o8,b8,x8⟩ ⟨#[59]⟩ (H.out.kin HF.out.bl HK7.out) HN8).mono ?_;rintro e w12 ⟨rfl,hb⟩;unfold St.v;dsimp only;replace HF:=Lib.hid (HF.out.call hb);replace HP:=Lib.hid (HP.out.call hb);replace HX:=Lib.hid (fun x K e=>(HX.out x K e).call hb);clear f f1 f2;have f1:=HF.out.facts;dsimp only [Fs,Nes,List.map] at f1;replace HF:=Lib.hid (by have t:=HF.out.put6 5 rfl (.slice a8 T8.length cap8) (.int .i64 (i8:Int)) (.int .i64 E8) (.int .i64 o8) (.int .i64 b8) (.int .i64 x8);simp only [List.set_cons_succ,List.set_cons_zero] at t;exact t);replace HP:=Lib.hid (by have t:=HP.out.put6 5 rfl (.slice a8 T8.length cap8) (.int .i64 (i8:Int)) (.int .i64 E8) (.int .i64 o8) (.int .i64 b8) (.int .i64 x8);simp only [List.set_cons_succ,List.set_cons_zero] at t;exact t);replace HX:=Lib.hid (fun x K e=>(HX.out x K e).put6 5 rfl (.slice a8 T8.length cap8) (.int .i64 (i8:Int)) (.int .i64 E8) (.int .i64 o8) (.int .i64 b8) (.int .i64 x8));have f:=HF.out.facts;dsimp only [Fs,Nes,List.map] at f;unfold put6 at f;clear hb)
       |(go_at_call 206;refine (sput_any L wd ⟨op,nn,s1,p,pl,pc,q,ql,qc,oo,ka,kl,kc⟩ (r7.val exO) ra rl rc _ HLQ.out.symm (by omega) HP.out.row).mono ?_;rintro e w13 ⟨v,rfl,hown,hb⟩;obtain ⟨qa2,qc2,rfl⟩:=own_sliceP hown;have HOWN:=Lib.hid hown;have HBB:=Lib.hid hb;have HFW:=HF;replace HF:=Lib.hid (HF.out.call hb);clear f f1;have f1:=HF.out.facts;dsimp only [Fs,Nes,List.map] at f1;have HLP:Hid ((putP L (wd,(⟨op,nn,s1,p,pl,pc,q,ql,qc,oo,ka,kl,kc⟩:Hd),r7.val exO)).length=rl+1):=Lib.hid (by rw [putP_len,HLQ.out]);rw [HLP.out];clear hown hb))
      have hF:=HF.out.set 2 4 rfl (.slice qa2 (rl+1) qc2)
      simp only [List.set_cons_succ,List.set_cons_zero,List.setIfInBounds_toArray] at hF
      have hg:=setCell_grown w13 w3.heap.size 4 (.slice qa2 (rl+1) qc2)
      rcases pair_rel (hd:=(⟨op,nn,s1,p,pl,pc,q,ql,qc,oo,ka,kl,kc⟩:Hd)) (HFIT.out _) hS.out H.out.ok HKM.out hu.out hFA.out HR7.out.symm HST.out with ⟨acc',M',hS8,hlt,hu',hFA',x,K,hr7,hval⟩|⟨a,x,hD,hRF⟩
      ·rw [HNW.out.2] at hu'
       have h9:=HP.out.next (l':=[(w3.heap.size,#[.int .i64 10,.int .i64 0,.string ⟨#[]⟩,.slice none 0 0,.slice qa2 (rl+1) qc2,.bool false,.slice none 0 0],35),(w.heap.size+2,#[.int .i64 0,.int .i64 0,.string ⟨#[]⟩,.slice none 0 0,.slice none 0 0,.bool false,.slice none 0 0],35),(w.heap.size+1,#[.slice none 0 0,.int .i64 0,.int .i64 0,.int .i64 0,.int .i64 0,.int .i64 0],95),(w.heap.size,#[.slice a8 T8.length cap8,.int .i64 (i8:Int),.int .i64 E8,.int .i64 o8,.int .i64 b8,.int .i64 x8],95)]) (by rw [hval];exact HX.out x K hr7) HBB.out HOWN.out HFW.out.size (fun b hb=>HFW.out.fresh hb) (c:=w3.heap.size) (by simp) hg (fun b hb=>List.mem_cons_of_mem _ (List.mem_cons_of_mem _ hb))
       rw [HLP.out] at h9
       have hq:acc'.length=rl+1:=by have h1:=congrArg List.length hu'.1;rw [unP_len,(sort_perm hu'.2.1).length_eq,HLP.out] at h1;omega
       go_roundw
       case rel=>exact ⟨_,_,_,_,_,_,_,_,(putP L (wd,(⟨op,nn,s1,p,pl,pc,q,ql,qc,oo,ka,kl,kc⟩:Hd),r7.val exO)),qa2,rl+1,qc2,Lib.hid hF.tail.tail,.inl ⟨acc',M',by have:=hu'.2.2.1;omega,Lib.hid (Nat.le_trans (Nat.le_of_lt hlt) HML.out),HO16,HLP,Lib.hid h9,Lib.hid hS8,Lib.hid hu',Lib.hid hFA',hRR⟩⟩
       case measure=>
        show leftS _ w.heap.size<leftS wr w.heap.size
        rw [HL2.out,hS8.leftS (hF.bx (i:=5) rfl)]
        omega
      ·go_roundw
       case rel=>exact ⟨_,_,_,_,_,_,_,_,(putP L (wd,(⟨op,nn,s1,p,pl,pc,q,ql,qc,oo,ka,kl,kc⟩:Hd),r7.val exO)),qa2,rl+1,qc2,Lib.hid hF.tail.tail,.inr ⟨a,x,Lib.hid (Dx.of hD),Lib.hid (by rw [hRR.out,hRF];rfl)⟩⟩
       case measure=>
        show leftS _ w.heap.size<leftS wr w.heap.size
        rw [HL2.out,hD.leftS (hF.bx (i:=5) rfl)]
        omega
    |true=>
     cases b2 with
     |false=>
      have hpre:=HMS.out
      simp only [if_true,Bool.false_eq_true,if_false] at hpre
      obtain ⟨a4,cap4,T4,i4,E4,o4,b4,x4,hn4⟩:=(St.fail ⟨a3,cap3,T3,i3,E3,o3,b3,x3⟩ ⟨⟨k,n,tx.toList⟩,at_⟩ 6).get
      rw [hn4] at hpre
      have HN4:=Lib.hid hn4
      have hK4:Kin s ⟨a4,cap4,T4,i4,E4,o4,b4,x4⟩:=by rw [←hn4];exact hK3.fail _ _
      clear hn4
      obtain ⟨a6,cap6,T6,i6,E6,o6,b6,x6,hn6⟩:=(St.must ⟨a4,cap4,T4,i4,E4,o4,b4,x4⟩ [58]).get
      rw [hn6] at hpre
      have HN6:Hid (St.must ⟨a4,cap4,T4,i4,E4,o4,b4,x4⟩ (ByteArray.mk #[58]).toList=⟨a6,cap6,T6,i6,E6,o6,b6,x6⟩):=Lib.hid (by rw [Lib.toList_data];exact hn6)
      have HPRE:=Lib.hid hpre
      have HK5:=Lib.hid hK4
      clear hpre hn6
      have HLV:∀W,Hid (Below w.heap.size w W)→Hid (Calls Tryz.prog 100 #[.agg #[.slice a6 T6.length cap6,.int .i64 (i6:Int),.int .i64 E6,.int .i64 o6,.int .i64 b6,.int .i64 x6],.int .i64 1] W (LevQ {s with o:=s.o+1} ⟨a6,cap6,T6,i6,E6,o6,b6,x6⟩ r7 W)):=fun W hW=>Lib.hid (by
       have hsw:=H.out.kin hW.out (HPRE.out.kin.ofo)
       rw [←HR7.out]
       refine lev_q (join (s.o+1)) HPRE.out hsw fun u K hp hK=>?_
       have e1:=hK.eq
       have e2:(⟨a6,cap6,T6,i6,E6,o6,b6,x6⟩:St).o=s.o+1:=by rw [e1]
       have h5:=HASK.out W ⟨a6,cap6,T6,i6,E6,o6,b6,x6⟩ hsw ⟨hK.err,by rw [e1];exact hK.ok.2⟩ (by have:=hK.i;rw [hK.kin.T];exact this) e2 (by rw [e2];exact HO16.out) hK.kin.E (by rw [hK.L];have:=preM_len hp;have:=HL0.out;have:=HML.out;omega)
       rw [e2,hK.L] at h5
       exact h5)
      have P1:=Lib.hid (Nat.le_refl 0)
      have P3:=Lib.hid (Nat.le_refl 0)
      have f:=HF.out.facts
      dsimp only [Fs,Nes,List.map] at f
      clear hK4
      go_wp2_with (first
       |(go_at_call 54;clear P1;refine (peek_as _ ⟨a2,cap2,T2,i2,E2,o2,b2,x2⟩ k n at_ tx (HSW.out HF.out.bl) HT).mono ?_;rintro e w4 ⟨rfl,hb⟩;replace HF:=Lib.hid (HF.out.call hb);replace HP:=Lib.hid (HP.out.call hb);clear f;have f:=HF.out.facts;dsimp only [Fs,Nes,List.map] at f;clear hb)
       |(go_at_call 54;refine (peek_as _ ⟨a2,cap2,T2,i2,E2,o2,b2,x2⟩ k n at_ tx (HSW.out HF.out.bl) HT).mono ?_;rintro e w5 ⟨rfl,hb⟩;replace HF:=Lib.hid (HF.out.call hb);replace HP:=Lib.hid (HP.out.call hb);clear f;have f1:=HF.out.facts;dsimp only [Fs,Nes,List.map] at f1;replace HF:=Lib.hid (HF.out.new_ #[.int .i64 k,.int .i64 n,.string tx,.int .i64 at_] 97 (n:=w5.heap.size) (rfl));replace HP:=Lib.hid (HP.out.new_ #[.int .i64 k,.int .i64 n,.string tx,.int .i64 at_] 97 (n:=w5.heap.size) (rfl));have f:=HF.out.facts;dsimp only [Fs,Nes,List.map] at f;clear hb)
       |(go_at_call 57;refine (HNM _ (Lib.hid HF.out.bl)).out.mono ?_;rintro e w6 ⟨rfl,hb⟩;replace HF:=Lib.hid (HF.out.call hb);replace HP:=Lib.hid (HP.out.call hb);clear f f1;have f1:=HF.out.facts;dsimp only [Fs,Nes,List.map] at f1;replace HF:=Lib.hid (by have t:=HF.out.put6 4 rfl (.slice a3 T3.length cap3) (.int .i64 (i3:Int)) (.int .i64 E3) (.int .i64 o3) (.int .i64 b3) (.int .i64 x3);simp only [List.set_cons_succ,List.set_cons_zero] at t;exact t);replace HP:=Lib.hid (by have t:=HP.out.put6 4 rfl (.slice a3 T3.length cap3) (.int .i64 (i3:Int)) (.int .i64 E3) (.int .i64 o3) (.int .i64 b3) (.int .i64 x3);simp only [List.set_cons_succ,List.set_cons_zero] at t;exact t);have f:=HF.out.facts;dsimp only [Fs,Nes,List.map] at f;unfold put6 at f;clear hb)
       |(go_at_call 205;refine (shas_as L wd true ra rl rc _ HLQ (by omega) HP.out.row HB1).mono ?_;rintro e w7 ⟨rfl,hb⟩;replace HF:=Lib.hid (HF.out.call hb);replace HP:=Lib.hid (HP.out.call hb);clear f f1;have f1:=HF.out.facts;dsimp only [Fs,Nes,List.map] at f1;have f:=HF.out.facts;dsimp only [Fs,Nes,List.map] at f;clear hb)
       |(go_at_call 55;refine (sfail_as _ ⟨a3,cap3,T3,i3,E3,o3,b3,x3⟩ ⟨a4,cap4,T4,i4,E4,o4,b4,x4⟩ k n tx at_ 6 HN4).mono ?_;rintro e w8 ⟨rfl,hb⟩;unfold St.v;dsimp only;replace HF:=Lib.hid (HF.out.call hb);replace HP:=Lib.hid (HP.out.call hb);clear f f1;have f1:=HF.out.facts;dsimp only [Fs,Nes,List.map] at f1;replace HF:=Lib.hid (by have t:=HF.out.put6 4 rfl (.slice a4 T4.length cap4) (.int .i64 (i4:Int)) (.int .i64 E4) (.int .i64 o4) (.int .i64 b4) (.int .i64 x4);simp only [List.set_cons_succ,List.set_cons_zero] at t;exact t);replace HP:=Lib.hid (by have t:=HP.out.put6 4 rfl (.slice a4 T4.length cap4) (.int .i64 (i4:Int)) (.int .i64 E4) (.int .i64 o4) (.int .i64 b4) (.int .i64 x4);simp only [List.set_cons_succ,List.set_cons_zero] at t;exact t);have f:=HF.out.facts;dsimp only [Fs,Nes,List.map] at f;unfold put6 at f;clear hb)
       |(go_at_call 58;clear P3;refine (smust_as _ ⟨a4,cap4,T4,i4,E4,o4,b4,x4⟩ ⟨a6,cap6,T6,i6,E6,o6,b6,x6⟩ ⟨#[58]⟩ (H.out.kin HF.out.bl HK5.out) HN6).mono ?_;rintro e w10 ⟨rfl,hb⟩;unfold St.v;dsimp only;replace HF:=Lib.hid (HF.out.call hb);replace HP:=Lib.hid (HP.out.call hb);clear f f1;have f1:=HF.out.facts;dsimp only [Fs,Nes,List.map] at f1;replace HF:=Lib.hid (by have t:=HF.out.put6 4 rfl (.slice a6 T6.length cap6) (.int .i64 (i6:Int)) (.int .i64 E6) (.int .i64 o6) (.int .i64 b6) (.int .i64 x6);simp only [List.set_cons_succ,List.set_cons_zero] at t;exact t);replace HP:=Lib.hid (by have t:=HP.out.put6 4 rfl (.slice a6 T6.length cap6) (.int .i64 (i6:Int)) (.int .i64 E6) (.int .i64 o6) (.int .i64 b6) (.int .i64 x6);simp only [List.set_cons_succ,List.set_cons_zero] at t;exact t);have f2:=HF.out.facts;dsimp only [Fs,Nes,List.map] at f2;unfold put6 at f2;replace HF:=Lib.hid (HF.out.new_ #[.int .i64 0,.int .i64 0,.string ⟨#[]⟩,.slice none 0 0,.slice none 0 0,.bool false,.slice none 0 0] 35 (n:=w10.heap.size) (put6_size _ _ _ _ _ _ _ _));replace HP:=Lib.hid (HP.out.new_ #[.int .i64 0,.int .i64 0,.string ⟨#[]⟩,.slice none 0 0,.slice none 0 0,.bool false,.slice none 0 0] 35 (n:=w10.heap.size) (put6_size _ _ _ _ _ _ _ _));have f:=HF.out.facts;dsimp only [Fs,Nes,List.map] at f;unfold put6 at f;clear hb)
       |(go_at_call 100;refine (HLV _ (Lib.hid HF.out.bl)).out.mono ?_;rintro e w11 ⟨hb,S7,hd7,rfl,hst7,hx7⟩;have HX:=Lib.hid (fun x K e=>XF.of (hx7 x K e) HF.out HF.out.size);clear hx7;obtain ⟨a7,cap7,T7,i7,E7,o7,b7,x7⟩:=S7;obtain ⟨op,nn,s1,p,pl,pc,q,ql,qc,oo,ka,kl,kc⟩:=hd7;unfold St.v Hd.agg;dsimp only;replace HF:=Lib.hid (HF.out.call hb);replace HP:=Lib.hid (HP.out.call hb);clear f f1 f2;have f1:=HF.out.facts;dsimp only [Fs,Nes,List.map] at f1;replace HF:=Lib.hid (by have t:=HF.out.put6 5 rfl (.slice a7 T7.length cap7) (.int .i64 (i7:Int)) (.int .i64 E7) (.int .i64 o7) (.int .i64 b7) (.int .i64 x7);simp only [List.set_cons_succ,List.set_cons_zero] at t;exact t);replace HP:=Lib.hid (by have t:=HP.out.put6 5 rfl (.slice a7 T7.length cap7) (.int .i64 (i7:Int)) (.int .i64 E7) (.int .i64 o7) (.int .i64 b7) (.int .i64 x7);simp only [List.set_cons_succ,List.set_cons_zero] at t;exact t);replace HX:=Lib.hid (fun x K e=>(HX.out x K e).put6 5 rfl (.slice a7 T7.length cap7) (.int .i64 (i7:Int)) (.int .i64 E7) (.int .i64 o7) (.int .i64 b7) (.int .i64 x7));have f2:=HF.out.facts;dsimp only [Fs,Nes,List.map] at f2;unfold put6 at f2;replace HF:=Lib.hid (by have t:=HF.out.put7 0 rfl (.int .i64 op) (.int .i64 nn) (.string s1) (.slice p pl pc) (.slice q ql qc) (.bool oo) (.slice ka kl kc);simp only [List.set_cons_zero] at t;exact t);replace HP:=Lib.hid (by have t:=HP.out.put7 0 rfl (.int .i64 op) (.int .i64 nn) (.string s1) (.slice p pl pc) (.slice q ql qc) (.bool oo) (.slice ka kl kc);simp only [List.set_cons_zero] at t;exact t);replace HX:=Lib.hid (fun x K e=>(HX.out x K e).put7 0 rfl (.int .i64 op) (.int .i64 nn) (.string s1) (.slice p pl pc) (.slice q ql qc) (.bool oo) (.slice ka kl kc));obtain ⟨a8,cap8,T8,i8,E8,o8,b8,x8,hn8⟩:=(St.must ⟨a7,cap7,T7,i7,E7,o7,b7,x7⟩ [59]).get;have hst8:=hst7.must [59];rw [hn8] at hst8;have HST:=Lib.hid hst8;have HN8:Hid (St.must ⟨a7,cap7,T7,i7,E7,o7,b7,x7⟩ (ByteArray.mk #[59]).toList=⟨a8,cap8,T8,i8,E8,o8,b8,x8⟩):=Lib.hid (by rw [Lib.toList_data];exact hn8);have HK7:=Lib.hid hst7.kin.ofo;clear hst7 hst8 hn8;have f:=HF.out.facts;dsimp only [Fs,Nes,List.map] at f;unfold put6 put7 at f;clear hb)
       |(go_at_call 58;refine (smust_as _ ⟨a7,cap7,T7,i7,E7,o7,b7,x7⟩ ⟨a8,cap8,T8,i8,E8,o8,b8,x8⟩ ⟨#[59]⟩ (H.out.kin HF.out.bl HK7.out) HN8).mono ?_;rintro e w12 ⟨rfl,hb⟩;unfold St.v;dsimp only;replace HF:=Lib.hid (HF.out.call hb);replace HP:=Lib.hid (HP.out.call hb);replace HX:=Lib.hid (fun x K e=>(HX.out x K e).call hb);clear f f1 f2;have f1:=HF.out.facts;dsimp only [Fs,Nes,List.map] at f1;replace HF:=Lib.hid (by have t:=HF.out.put6 5 rfl (.slice a8 T8.length cap8) (.int .i64 (i8:Int)) (.int .i64 E8) (.int .i64 o8) (.int .i64 b8) (.int .i64 x8);simp only [List.set_cons_succ,List.set_cons_zero] at t;exact t);replace HP:=Lib.hid (by have t:=HP.out.put6 5 rfl (.slice a8 T8.length cap8) (.int .i64 (i8:Int)) (.int .i64 E8) (.int .i64 o8) (.int .i64 b8) (.int .i64 x8);simp only [List.set_cons_succ,List.set_cons_zero] at t;exact t);replace HX:=Lib.hid (fun x K e=>(HX.out x K e).put6 5 rfl (.slice a8 T8.length cap8) (.int .i64 (i8:Int)) (.int .i64 E8) (.int .i64 o8) (.int .i64 b8) (.int .i64 x8));have f:=HF.out.facts;dsimp only [Fs,Nes,List.map] at f;unfold put6 at f;clear hb)
       |(go_at_call 206;refine (sput_any L wd ⟨op,nn,s1,p,pl,pc,q,ql,qc,oo,ka,kl,kc⟩ (r7.val exO) ra rl rc _ HLQ.out.symm (by omega) HP.out.row).mono ?_;rintro e w13 ⟨v,rfl,hown,hb⟩;obtain ⟨qa2,qc2,rfl⟩:=own_sliceP hown;have HOWN:=Lib.hid hown;have HBB:=Lib.hid hb;have HFW:=HF;replace HF:=Lib.hid (HF.out.call hb);clear f f1;have f1:=HF.out.facts;dsimp only [Fs,Nes,List.map] at f1;have HLP:Hid ((putP L (wd,(⟨op,nn,s1,p,pl,pc,q,ql,qc,oo,ka,kl,kc⟩:Hd),r7.val exO)).length=rl+1):=Lib.hid (by rw [putP_len,HLQ.out]);rw [HLP.out];clear hown hb))
      have hF:=HF.out.set 2 4 rfl (.slice qa2 (rl+1) qc2)
      simp only [List.set_cons_succ,List.set_cons_zero,List.setIfInBounds_toArray] at hF
      have hg:=setCell_grown w13 w3.heap.size 4 (.slice qa2 (rl+1) qc2)
      rcases pair_rel (hd:=(⟨op,nn,s1,p,pl,pc,q,ql,qc,oo,ka,kl,kc⟩:Hd)) (HFIT.out _) hS.out H.out.ok HKM.out hu.out hFA.out HR7.out.symm HST.out with ⟨acc',M',hS8,hlt,hu',hFA',x,K,hr7,hval⟩|⟨a,x,hD,hRF⟩
      ·rw [HNW.out.2] at hu'
       have h9:=HP.out.next (l':=[(w3.heap.size,#[.int .i64 10,.int .i64 0,.string ⟨#[]⟩,.slice none 0 0,.slice qa2 (rl+1) qc2,.bool false,.slice none 0 0],35),(w.heap.size+2,#[.int .i64 0,.int .i64 0,.string ⟨#[]⟩,.slice none 0 0,.slice none 0 0,.bool false,.slice none 0 0],35),(w.heap.size+1,#[.slice none 0 0,.int .i64 0,.int .i64 0,.int .i64 0,.int .i64 0,.int .i64 0],95),(w.heap.size,#[.slice a8 T8.length cap8,.int .i64 (i8:Int),.int .i64 E8,.int .i64 o8,.int .i64 b8,.int .i64 x8],95)]) (by rw [hval];exact HX.out x K hr7) HBB.out HOWN.out HFW.out.size (fun b hb=>HFW.out.fresh hb) (c:=w3.heap.size) (by simp) hg (fun b hb=>List.mem_cons_of_mem _ (List.mem_cons_of_mem _ hb))
       rw [HLP.out] at h9
       have hq:acc'.length=rl+1:=by have h1:=congrArg List.length hu'.1;rw [unP_len,(sort_perm hu'.2.1).length_eq,HLP.out] at h1;omega
       go_roundw
       case rel=>exact ⟨_,_,_,_,_,_,_,_,(putP L (wd,(⟨op,nn,s1,p,pl,pc,q,ql,qc,oo,ka,kl,kc⟩:Hd),r7.val exO)),qa2,rl+1,qc2,Lib.hid hF.tail.tail,.inl ⟨acc',M',by have:=hu'.2.2.1;omega,Lib.hid (Nat.le_trans (Nat.le_of_lt hlt) HML.out),HO16,HLP,Lib.hid h9,Lib.hid hS8,Lib.hid hu',Lib.hid hFA',hRR⟩⟩
       case measure=>
        show leftS _ w.heap.size<leftS wr w.heap.size
        rw [HL2.out,hS8.leftS (hF.bx (i:=5) rfl)]
        omega
      ·go_roundw
       case rel=>exact ⟨_,_,_,_,_,_,_,_,(putP L (wd,(⟨op,nn,s1,p,pl,pc,q,ql,qc,oo,ka,kl,kc⟩:Hd),r7.val exO)),qa2,rl+1,qc2,Lib.hid hF.tail.tail,.inr ⟨a,x,Lib.hid (Dx.of hD),Lib.hid (by rw [hRR.out,hRF];rfl)⟩⟩
       case measure=>
        show leftS _ w.heap.size<leftS wr w.heap.size
        rw [HL2.out,hD.leftS (hF.bx (i:=5) rfl)]
        omega
     |true=>
      have hpre:=HMS.out
      simp only [if_true] at hpre
      obtain ⟨a4,cap4,T4,i4,E4,o4,b4,x4,hn4⟩:=(St.fail ⟨a3,cap3,T3,i3,E3,o3,b3,x3⟩ ⟨⟨k,n,tx.toList⟩,at_⟩ 6).get
      rw [hn4] at hpre
      have HN4:=Lib.hid hn4
      have hK4:Kin s ⟨a4,cap4,T4,i4,E4,o4,b4,x4⟩:=by rw [←hn4];exact hK3.fail _ _
      clear hn4
      obtain ⟨a5,cap5,T5,i5,E5,o5,b5,x5,hn5⟩:=(St.fail ⟨a4,cap4,T4,i4,E4,o4,b4,x4⟩ ⟨⟨k,n,tx.toList⟩,at_⟩ 4).get
      rw [hn5] at hpre
      have HN5:=Lib.hid hn5
      have hK5:Kin s ⟨a5,cap5,T5,i5,E5,o5,b5,x5⟩:=by rw [←hn5];exact hK4.fail _ _
      clear hn5
      obtain ⟨a6,cap6,T6,i6,E6,o6,b6,x6,hn6⟩:=(St.must ⟨a5,cap5,T5,i5,E5,o5,b5,x5⟩ [58]).get
      rw [hn6] at hpre
      have HN6:Hid (St.must ⟨a5,cap5,T5,i5,E5,o5,b5,x5⟩ (ByteArray.mk #[58]).toList=⟨a6,cap6,T6,i6,E6,o6,b6,x6⟩):=Lib.hid (by rw [Lib.toList_data];exact hn6)
      have HPRE:=Lib.hid hpre
      have HK5:=Lib.hid hK5
      clear hpre hn6
      have HLV:∀W,Hid (Below w.heap.size w W)→Hid (Calls Tryz.prog 100 #[.agg #[.slice a6 T6.length cap6,.int .i64 (i6:Int),.int .i64 E6,.int .i64 o6,.int .i64 b6,.int .i64 x6],.int .i64 1] W (LevQ {s with o:=s.o+1} ⟨a6,cap6,T6,i6,E6,o6,b6,x6⟩ r7 W)):=fun W hW=>Lib.hid (by
       have hsw:=H.out.kin hW.out (HPRE.out.kin.ofo)
       rw [←HR7.out]
       refine lev_q (join (s.o+1)) HPRE.out hsw fun u K hp hK=>?_
       have e1:=hK.eq
       have e2:(⟨a6,cap6,T6,i6,E6,o6,b6,x6⟩:St).o=s.o+1:=by rw [e1]
       have h5:=HASK.out W ⟨a6,cap6,T6,i6,E6,o6,b6,x6⟩ hsw ⟨hK.err,by rw [e1];exact hK.ok.2⟩ (by have:=hK.i;rw [hK.kin.T];exact this) e2 (by rw [e2];exact HO16.out) hK.kin.E (by rw [hK.L];have:=preM_len hp;have:=HL0.out;have:=HML.out;omega)
       rw [e2,hK.L] at h5
       exact h5)
      have P1:=Lib.hid (Nat.le_refl 0)
      have P3:=Lib.hid (Nat.le_refl 0)
      have P2:=Lib.hid (Nat.le_refl 0)
      have f:=HF.out.facts
      dsimp only [Fs,Nes,List.map] at f
      clear hK4 hK5
      go_wp2_with (first
       |(go_at_call 54;clear P1;refine (peek_as _ ⟨a2,cap2,T2,i2,E2,o2,b2,x2⟩ k n at_ tx (HSW.out HF.out.bl) HT).mono ?_;rintro e w4 ⟨rfl,hb⟩;replace HF:=Lib.hid (HF.out.call hb);replace HP:=Lib.hid (HP.out.call hb);clear f;have f:=HF.out.facts;dsimp only [Fs,Nes,List.map] at f;clear hb)
       |(go_at_call 54;refine (peek_as _ ⟨a2,cap2,T2,i2,E2,o2,b2,x2⟩ k n at_ tx (HSW.out HF.out.bl) HT).mono ?_;rintro e w5 ⟨rfl,hb⟩;replace HF:=Lib.hid (HF.out.call hb);replace HP:=Lib.hid (HP.out.call hb);clear f;have f1:=HF.out.facts;dsimp only [Fs,Nes,List.map] at f1;replace HF:=Lib.hid (HF.out.new_ #[.int .i64 k,.int .i64 n,.string tx,.int .i64 at_] 97 (n:=w5.heap.size) (rfl));replace HP:=Lib.hid (HP.out.new_ #[.int .i64 k,.int .i64 n,.string tx,.int .i64 at_] 97 (n:=w5.heap.size) (rfl));have f:=HF.out.facts;dsimp only [Fs,Nes,List.map] at f;clear hb)
       |(go_at_call 57;refine (HNM _ (Lib.hid HF.out.bl)).out.mono ?_;rintro e w6 ⟨rfl,hb⟩;replace HF:=Lib.hid (HF.out.call hb);replace HP:=Lib.hid (HP.out.call hb);clear f f1;have f1:=HF.out.facts;dsimp only [Fs,Nes,List.map] at f1;replace HF:=Lib.hid (by have t:=HF.out.put6 4 rfl (.slice a3 T3.length cap3) (.int .i64 (i3:Int)) (.int .i64 E3) (.int .i64 o3) (.int .i64 b3) (.int .i64 x3);simp only [List.set_cons_succ,List.set_cons_zero] at t;exact t);replace HP:=Lib.hid (by have t:=HP.out.put6 4 rfl (.slice a3 T3.length cap3) (.int .i64 (i3:Int)) (.int .i64 E3) (.int .i64 o3) (.int .i64 b3) (.int .i64 x3);simp only [List.set_cons_succ,List.set_cons_zero] at t;exact t);have f:=HF.out.facts;dsimp only [Fs,Nes,List.map] at f;unfold put6 at f;clear hb)
       |(go_at_call 205;refine (shas_as L wd true ra rl rc _ HLQ (by omega) HP.out.row HB1).mono ?_;rintro e w7 ⟨rfl,hb⟩;replace HF:=Lib.hid (HF.out.call hb);replace HP:=Lib.hid (HP.out.call hb);clear f f1;have f1:=HF.out.facts;dsimp only [Fs,Nes,List.map] at f1;have f:=HF.out.facts;dsimp only [Fs,Nes,List.map] at f;clear hb)
       |(go_at_call 55;clear P2;refine (sfail_as _ ⟨a3,cap3,T3,i3,E3,o3,b3,x3⟩ ⟨a4,cap4,T4,i4,E4,o4,b4,x4⟩ k n tx at_ 6 HN4).mono ?_;rintro e w8 ⟨rfl,hb⟩;unfold St.v;dsimp only;replace HF:=Lib.hid (HF.out.call hb);replace HP:=Lib.hid (HP.out.call hb);clear f f1;have f1:=HF.out.facts;dsimp only [Fs,Nes,List.map] at f1;replace HF:=Lib.hid (by have t:=HF.out.put6 4 rfl (.slice a4 T4.length cap4) (.int .i64 (i4:Int)) (.int .i64 E4) (.int .i64 o4) (.int .i64 b4) (.int .i64 x4);simp only [List.set_cons_succ,List.set_cons_zero] at t;exact t);replace HP:=Lib.hid (by have t:=HP.out.put6 4 rfl (.slice a4 T4.length cap4) (.int .i64 (i4:Int)) (.int .i64 E4) (.int .i64 o4) (.int .i64 b4) (.int .i64 x4);simp only [List.set_cons_succ,List.set_cons_zero] at t;exact t);have f:=HF.out.facts;dsimp only [Fs,Nes,List.map] at f;unfold put6 at f;clear hb)
       |(go_at_call 55;refine (sfail_as _ ⟨a4,cap4,T4,i4,E4,o4,b4,x4⟩ ⟨a5,cap5,T5,i5,E5,o5,b5,x5⟩ k n tx at_ 4 HN5).mono ?_;rintro e w9 ⟨rfl,hb⟩;unfold St.v;dsimp only;replace HF:=Lib.hid (HF.out.call hb);replace HP:=Lib.hid (HP.out.call hb);clear f f1;have f1:=HF.out.facts;dsimp only [Fs,Nes,List.map] at f1;replace HF:=Lib.hid (by have t:=HF.out.put6 4 rfl (.slice a5 T5.length cap5) (.int .i64 (i5:Int)) (.int .i64 E5) (.int .i64 o5) (.int .i64 b5) (.int .i64 x5);simp only [List.set_cons_succ,List.set_cons_zero] at t;exact t);replace HP:=Lib.hid (by have t:=HP.out.put6 4 rfl (.slice a5 T5.length cap5) (.int .i64 (i5:Int)) (.int .i64 E5) (.int .i64 o5) (.int .i64 b5) (.int .i64 x5);simp only [List.set_cons_succ,List.set_cons_zero] at t;exact t);have f:=HF.out.facts;dsimp only [Fs,Nes,List.map] at f;unfold put6 at f;clear hb)
       |(go_at_call 58;clear P3;refine (smust_as _ ⟨a5,cap5,T5,i5,E5,o5,b5,x5⟩ ⟨a6,cap6,T6,i6,E6,o6,b6,x6⟩ ⟨#[58]⟩ (H.out.kin HF.out.bl HK5.out) HN6).mono ?_;rintro e w10 ⟨rfl,hb⟩;unfold St.v;dsimp only;replace HF:=Lib.hid (HF.out.call hb);replace HP:=Lib.hid (HP.out.call hb);clear f f1;have f1:=HF.out.facts;dsimp only [Fs,Nes,List.map] at f1;replace HF:=Lib.hid (by have t:=HF.out.put6 4 rfl (.slice a6 T6.length cap6) (.int .i64 (i6:Int)) (.int .i64 E6) (.int .i64 o6) (.int .i64 b6) (.int .i64 x6);simp only [List.set_cons_succ,List.set_cons_zero] at t;exact t);replace HP:=Lib.hid (by have t:=HP.out.put6 4 rfl (.slice a6 T6.length cap6) (.int .i64 (i6:Int)) (.int .i64 E6) (.int .i64 o6) (.int .i64 b6) (.int .i64 x6);simp only [List.set_cons_succ,List.set_cons_zero] at t;exact t);have f2:=HF.out.facts;dsimp only [Fs,Nes,List.map] at f2;unfold put6 at f2;replace HF:=Lib.hid (HF.out.new_ #[.int .i64 0,.int .i64 0,.string ⟨#[]⟩,.slice none 0 0,.slice none 0 0,.bool false,.slice none 0 0] 35 (n:=w10.heap.size) (put6_size _ _ _ _ _ _ _ _));replace HP:=Lib.hid (HP.out.new_ #[.int .i64 0,.int .i64 0,.string ⟨#[]⟩,.slice none 0 0,.slice none 0 0,.bool false,.slice none 0 0] 35 (n:=w10.heap.size) (put6_size _ _ _ _ _ _ _ _));have f:=HF.out.facts;dsimp only [Fs,Nes,List.map] at f;unfold put6 at f;clear hb)
       |(go_at_call 100;refine (HLV _ (Lib.hid HF.out.bl)).out.mono ?_;rintro e w11 ⟨hb,S7,hd7,rfl,hst7,hx7⟩;have HX:=Lib.hid (fun x K e=>XF.of (hx7 x K e) HF.out HF.out.size);clear hx7;obtain ⟨a7,cap7,T7,i7,E7,o7,b7,x7⟩:=S7;obtain ⟨op,nn,s1,p,pl,pc,q,ql,qc,oo,ka,kl,kc⟩:=hd7;unfold St.v Hd.agg;dsimp only;replace HF:=Lib.hid (HF.out.call hb);replace HP:=Lib.hid (HP.out.call hb);clear f f1 f2;have f1:=HF.out.facts;dsimp only [Fs,Nes,List.map] at f1;replace HF:=Lib.hid (by have t:=HF.out.put6 5 rfl (.slice a7 T7.length cap7) (.int .i64 (i7:Int)) (.int .i64 E7) (.int .i64 o7) (.int .i64 b7) (.int .i64 x7);simp only [List.set_cons_succ,List.set_cons_zero] at t;exact t);replace HP:=Lib.hid (by have t:=HP.out.put6 5 rfl (.slice a7 T7.length cap7) (.int .i64 (i7:Int)) (.int .i64 E7) (.int .i64 o7) (.int .i64 b7) (.int .i64 x7);simp only [List.set_cons_succ,List.set_cons_zero] at t;exact t);replace HX:=Lib.hid (fun x K e=>(HX.out x K e).put6 5 rfl (.slice a7 T7.length cap7) (.int .i64 (i7:Int)) (.int .i64 E7) (.int .i64 o7) (.int .i64 b7) (.int .i64 x7));have f2:=HF.out.facts;dsimp only [Fs,Nes,List.map] at f2;unfold put6 at f2;replace HF:=Lib.hid (by have t:=HF.out.put7 0 rfl (.int .i64 op) (.int .i64 nn) (.string s1) (.slice p pl pc) (.slice q ql qc) (.bool oo) (.slice ka kl kc);simp only [List.set_cons_zero] at t;exact t);replace HP:=Lib.hid (by have t:=HP.out.put7 0 rfl (.int .i64 op) (.int .i64 nn) (.string s1) (.slice p pl pc) (.slice q ql qc) (.bool oo) (.slice ka kl kc);simp only [List.set_cons_zero] at t;exact t);replace HX:=Lib.hid (fun x K e=>(HX.out x K e).put7 0 rfl (.int .i64 op) (.int .i64 nn) (.string s1) (.slice p pl pc) (.slice q ql qc) (.bool oo) (.slice ka kl kc));obtain ⟨a8,cap8,T8,i8,E8,o8,b8,x8,hn8⟩:=(St.must ⟨a7,cap7,T7,i7,E7,o7,b7,x7⟩ [59]).get;have hst8:=hst7.must [59];rw [hn8] at hst8;have HST:=Lib.hid hst8;have HN8:Hid (St.must ⟨a7,cap7,T7,i7,E7,o7,b7,x7⟩ (ByteArray.mk #[59]).toList=⟨a8,cap8,T8,i8,E8,o8,b8,x8⟩):=Lib.hid (by rw [Lib.toList_data];exact hn8);have HK7:=Lib.hid hst7.kin.ofo;clear hst7 hst8 hn8;have f:=HF.out.facts;dsimp only [Fs,Nes,List.map] at f;unfold put6 put7 at f;clear hb)
       |(go_at_call 58;refine (smust_as _ ⟨a7,cap7,T7,i7,E7,o7,b7,x7⟩ ⟨a8,cap8,T8,i8,E8,o8,b8,x8⟩ ⟨#[59]⟩ (H.out.kin HF.out.bl HK7.out) HN8).mono ?_;rintro e w12 ⟨rfl,hb⟩;unfold St.v;dsimp only;replace HF:=Lib.hid (HF.out.call hb);replace HP:=Lib.hid (HP.out.call hb);replace HX:=Lib.hid (fun x K e=>(HX.out x K e).call hb);clear f f1 f2;have f1:=HF.out.facts;dsimp only [Fs,Nes,List.map] at f1;replace HF:=Lib.hid (by have t:=HF.out.put6 5 rfl (.slice a8 T8.length cap8) (.int .i64 (i8:Int)) (.int .i64 E8) (.int .i64 o8) (.int .i64 b8) (.int .i64 x8);simp only [List.set_cons_succ,List.set_cons_zero] at t;exact t);replace HP:=Lib.hid (by have t:=HP.out.put6 5 rfl (.slice a8 T8.length cap8) (.int .i64 (i8:Int)) (.int .i64 E8) (.int .i64 o8) (.int .i64 b8) (.int .i64 x8);simp only [List.set_cons_succ,List.set_cons_zero] at t;exact t);replace HX:=Lib.hid (fun x K e=>(HX.out x K e).put6 5 rfl (.slice a8 T8.length cap8) (.int .i64 (i8:Int)) (.int .i64 E8) (.int .i64 o8) (.int .i64 b8) (.int .i64 x8));have f:=HF.out.facts;dsimp only [Fs,Nes,List.map] at f;unfold put6 at f;clear hb)
       |(go_at_call 206;refine (sput_any L wd ⟨op,nn,s1,p,pl,pc,q,ql,qc,oo,ka,kl,kc⟩ (r7.val exO) ra rl rc _ HLQ.out.symm (by omega) HP.out.row).mono ?_;rintro e w13 ⟨v,rfl,hown,hb⟩;obtain ⟨qa2,qc2,rfl⟩:=own_sliceP hown;have HOWN:=Lib.hid hown;have HBB:=Lib.hid hb;have HFW:=HF;replace HF:=Lib.hid (HF.out.call hb);clear f f1;have f1:=HF.out.facts;dsimp only [Fs,Nes,List.map] at f1;have HLP:Hid ((putP L (wd,(⟨op,nn,s1,p,pl,pc,q,ql,qc,oo,ka,kl,kc⟩:Hd),r7.val exO)).length=rl+1):=Lib.hid (by rw [putP_len,HLQ.out]);rw [HLP.out];clear hown hb))
      have hF:=HF.out.set 2 4 rfl (.slice qa2 (rl+1) qc2)
      simp only [List.set_cons_succ,List.set_cons_zero,List.setIfInBounds_toArray] at hF
      have hg:=setCell_grown w13 w3.heap.size 4 (.slice qa2 (rl+1) qc2)
      rcases pair_rel (hd:=(⟨op,nn,s1,p,pl,pc,q,ql,qc,oo,ka,kl,kc⟩:Hd)) (HFIT.out _) hS.out H.out.ok HKM.out hu.out hFA.out HR7.out.symm HST.out with ⟨acc',M',hS8,hlt,hu',hFA',x,K,hr7,hval⟩|⟨a,x,hD,hRF⟩
      ·rw [HNW.out.2] at hu'
       have h9:=HP.out.next (l':=[(w3.heap.size,#[.int .i64 10,.int .i64 0,.string ⟨#[]⟩,.slice none 0 0,.slice qa2 (rl+1) qc2,.bool false,.slice none 0 0],35),(w.heap.size+2,#[.int .i64 0,.int .i64 0,.string ⟨#[]⟩,.slice none 0 0,.slice none 0 0,.bool false,.slice none 0 0],35),(w.heap.size+1,#[.slice none 0 0,.int .i64 0,.int .i64 0,.int .i64 0,.int .i64 0,.int .i64 0],95),(w.heap.size,#[.slice a8 T8.length cap8,.int .i64 (i8:Int),.int .i64 E8,.int .i64 o8,.int .i64 b8,.int .i64 x8],95)]) (by rw [hval];exact HX.out x K hr7) HBB.out HOWN.out HFW.out.size (fun b hb=>HFW.out.fresh hb) (c:=w3.heap.size) (by simp) hg (fun b hb=>List.mem_cons_of_mem _ (List.mem_cons_of_mem _ hb))
       rw [HLP.out] at h9
       have hq:acc'.length=rl+1:=by have h1:=congrArg List.length hu'.1;rw [unP_len,(sort_perm hu'.2.1).length_eq,HLP.out] at h1;omega
       go_roundw
       case rel=>exact ⟨_,_,_,_,_,_,_,_,(putP L (wd,(⟨op,nn,s1,p,pl,pc,q,ql,qc,oo,ka,kl,kc⟩:Hd),r7.val exO)),qa2,rl+1,qc2,Lib.hid hF.tail.tail,.inl ⟨acc',M',by have:=hu'.2.2.1;omega,Lib.hid (Nat.le_trans (Nat.le_of_lt hlt) HML.out),HO16,HLP,Lib.hid h9,Lib.hid hS8,Lib.hid hu',Lib.hid hFA',hRR⟩⟩
       case measure=>
        show leftS _ w.heap.size<leftS wr w.heap.size
        rw [HL2.out,hS8.leftS (hF.bx (i:=5) rfl)]
        omega
      ·go_roundw
       case rel=>exact ⟨_,_,_,_,_,_,_,_,(putP L (wd,(⟨op,nn,s1,p,pl,pc,q,ql,qc,oo,ka,kl,kc⟩:Hd),r7.val exO)),qa2,rl+1,qc2,Lib.hid hF.tail.tail,.inr ⟨a,x,Lib.hid (Dx.of hD),Lib.hid (by rw [hRR.out,hRF];rfl)⟩⟩
       case measure=>
        show leftS _ w.heap.size<leftS wr w.heap.size
        rw [HL2.out,hD.leftS (hF.bx (i:=5) rfl)]
        omega
   ·have hk2:(k==2)=false:=by simpa using hk
    have hkm:¬(Ps.pk s.E M).x.k=2:=by rw [hpk];exact hk
    obtain ⟨d,hd⟩:∃d,isB [46,46,46] M=d:=⟨_,rfl⟩
    have hfin:=fields_fin (s:={s with o:=s.o+1}) hS.out hFA.out hkm d hd
    have HIS:Hid (St.is ⟨a2,cap2,T2,i2,E2,o2,b2,x2⟩ (ByteArray.mk #[46,46,46]).toList=d):=Lib.hid (by rw [Lib.toList_data,hS.out.is];exact hd)
    have hM:d=true→∃t N,M=t::N:=fun e=>by rw [e] at hd;obtain ⟨t,N,h1,-,-⟩:=isB_cons hd;exact ⟨t,N,h1⟩
    clear htk hpk hk hkm hd
    have HP:=hP
    cases d with
    |true=>
     obtain ⟨t9,N9,hM9⟩:=hM rfl
     have hS3:=hS.out.next hM9
     obtain ⟨a3,cap3,T3,i3,E3,o3,b3,x3,hn3⟩:=(St.next ⟨a2,cap2,T2,i2,E2,o2,b2,x2⟩).get
     rw [hn3] at hS3
     have HN3:=Lib.hid hn3
     have hi2:i2≤100000:=by have h1:=HKN.out.i;have h2:=H.out.len;dsimp only at h1;omega
     obtain ⟨a4,cap4,T4,i4,E4,o4,b4,x4,hn4⟩:=(St.must ⟨a3,cap3,T3,i3,E3,o3,b3,x3⟩ [125]).get
     have HN4:Hid (St.must ⟨a3,cap3,T3,i3,E3,o3,b3,x3⟩ (ByteArray.mk #[125]).toList=⟨a4,cap4,T4,i4,E4,o4,b4,x4⟩):=Lib.hid (by rw [Lib.toList_data];exact hn4)
     simp only [if_true] at hfin
     rw [hn3,hn4] at hfin
     have HFIN:=Lib.hid hfin
     have ho4:=hfin.1.ord
     have HK3:Hid (Kin s ⟨a3,cap3,T3,i3,E3,o3,b3,x3⟩):=Lib.hid hS3.kin.ofo
     clear hS3
     clear hfin
     dsimp only at ho4
     have hob: -100≤o4∧o4≤100:=by have:=HO.out;omega
     have hob1:=hob.1
     have hob2:=hob.2
     clear hn3 hM9 hn4 ho4 hob
     have f:=HF.out.facts
     dsimp only [Fs,Nes,List.map] at f
     go_wp2_with (first
      |(go_at_call 54;refine (peek_as _ ⟨a2,cap2,T2,i2,E2,o2,b2,x2⟩ k n at_ tx (HSW.out HF.out.bl) HT).mono ?_;rintro e w4 ⟨rfl,hb⟩;replace HF:=Lib.hid (HF.out.call hb);replace HP:=Lib.hid (HP.out.call hb);(try clear f);have f:=HF.out.facts;dsimp only [Fs,Nes,List.map] at f;clear hb)
      |(go_at_call 99;refine (sis_as _ ⟨a2,cap2,T2,i2,E2,o2,b2,x2⟩ ⟨#[46,46,46]⟩ true (H.out.kin HF.out.bl HKN.out) HIS).mono ?_;rintro e w5 ⟨rfl,hb⟩;replace HF:=Lib.hid (HF.out.call hb);replace HP:=Lib.hid (HP.out.call hb);(try clear f);have f:=HF.out.facts;dsimp only [Fs,Nes,List.map] at f;clear hb)
      |(go_at_call 56;refine (snext_as _ ⟨a2,cap2,T2,i2,E2,o2,b2,x2⟩ ⟨a3,cap3,T3,i3,E3,o3,b3,x3⟩ hi2 HN3).mono ?_;rintro e w6 ⟨rfl,hb⟩;unfold St.v;dsimp only;replace HF:=Lib.hid (HF.out.call hb);replace HP:=Lib.hid (HP.out.call hb);clear f;have f1:=HF.out.facts;dsimp only [Fs,Nes,List.map] at f1;replace HF:=Lib.hid (by have t:=HF.out.put6 3 rfl (.slice a3 T3.length cap3) (.int .i64 (i3:Int)) (.int .i64 E3) (.int .i64 o3) (.int .i64 b3) (.int .i64 x3);simp only [List.set_cons_succ,List.set_cons_zero] at t;exact t);replace HP:=Lib.hid (by have t:=HP.out.put6 3 rfl (.slice a3 T3.length cap3) (.int .i64 (i3:Int)) (.int .i64 E3) (.int .i64 o3) (.int .i64 b3) (.int .i64 x3);simp only [List.set_cons_succ,List.set_cons_zero] at t;exact t);have f2:=HF.out.facts;dsimp only [Fs,Nes,List.map] at f2;unfold put6 at f2;replace HF:=Lib.hid (by have t:=HF.out.set 0 5 rfl (.bool true);simp only [List.set_cons_succ,List.set_cons_zero,List.setIfInBounds_toArray] at t;exact t);replace HP:=Lib.hid (by have t:=HP.out.put (i:=0) rfl (setCell_grown _ _ 5 (.bool true)) (cs':=#[.int .i64 10,.int .i64 0,.string ⟨#[]⟩,.slice none 0 0,.slice ra rl rc,.bool true,.slice none 0 0]);simp only [List.set_cons_zero] at t;exact t);have f:=HF.out.facts;dsimp only [Fs,Nes,List.map] at f;unfold put6 at f;clear hb)
      |(go_at_call 58;refine (smust_as _ ⟨a3,cap3,T3,i3,E3,o3,b3,x3⟩ ⟨a4,cap4,T4,i4,E4,o4,b4,x4⟩ ⟨#[125]⟩ (H.out.kin HF.out.bl HK3.out) HN4).mono ?_;rintro e w7 ⟨rfl,hb⟩;unfold St.v;dsimp only;replace HF:=Lib.hid (HF.out.call hb);replace HP:=Lib.hid (HP.out.call hb);(try clear f1 f2);clear f;have f1:=HF.out.facts;dsimp only [Fs,Nes,List.map] at f1;replace HF:=Lib.hid (by have t:=HF.out.put6 3 rfl (.slice a4 T4.length cap4) (.int .i64 (i4:Int)) (.int .i64 E4) (.int .i64 o4) (.int .i64 b4) (.int .i64 x4);simp only [List.set_cons_succ,List.set_cons_zero] at t;exact t);replace HP:=Lib.hid (by have t:=HP.out.put6 3 rfl (.slice a4 T4.length cap4) (.int .i64 (i4:Int)) (.int .i64 E4) (.int .i64 o4) (.int .i64 b4) (.int .i64 x4);simp only [List.set_cons_succ,List.set_cons_zero] at t;exact t);have f2:=HF.out.facts;dsimp only [Fs,Nes,List.map] at f2;unfold put6 at f2;replace HF:=Lib.hid (by have t:=HF.out.set 3 3 rfl (.int .i64 (o4-1));simp only [List.set_cons_succ,List.set_cons_zero,List.setIfInBounds_toArray] at t;exact t);replace HP:=Lib.hid (by have t:=HP.out.put (i:=3) rfl (setCell_grown _ _ 3 (.int .i64 (o4-1))) (cs':=#[.slice a4 T4.length cap4,.int .i64 (i4:Int),.int .i64 E4,.int .i64 (o4-1),.int .i64 b4,.int .i64 x4]);simp only [List.set_cons_succ,List.set_cons_zero] at t;exact t);have f:=HF.out.facts;dsimp only [Fs,Nes,List.map] at f;unfold put6 at f;clear hb))
     go_region
     go_wp2_with fail
     refine bodyPost_ret (v:= .tuple #[.agg #[.slice a4 T4.length cap4,.int .i64 (i4:Int),.int .i64 E4,.int .i64 (o4-1),.int .i64 b4,.int .i64 x4],.agg #[.int .i64 10,.int .i64 0,.string ⟨#[]⟩,.slice none 0 0,.slice ra rl rc,.bool true,.slice none 0 0]]) (by simp [results,Tryz.results167,go_sem,f]) rfl ?_
     have hWe:=((HF.out.put6 2 rfl (.slice a4 T4.length cap4) (.int .i64 (i4:Int)) (.int .i64 E4) (.int .i64 (o4-1)) (.int .i64 b4) (.int .i64 x4)).put7 1 rfl (.int .i64 10) (.int .i64 0) (.string ⟨#[]⟩) (.slice none 0 0) (.slice ra rl rc) (.bool true) (.slice none 0 0)).drew
     refine br_ret (s:=s) (S:=⟨a4,cap4,T4,i4,E4,o4,b4,x4⟩) (hd:=⟨10,0,⟨#[]⟩,none,0,0,ra,rl,rc,true,none,0,0⟩) hWe.bl (.inl ⟨by rw [hRR.out];exact HFIN.out.1,fun x N e=>?_⟩)
     rw [hRR.out] at e
     rw [HFIN.out.2 x N e,←hu.out.1]
     exact (((HP.out.put6 2 rfl (.slice a4 T4.length cap4) (.int .i64 (i4:Int)) (.int .i64 E4) (.int .i64 (o4-1)) (.int .i64 b4) (.int .i64 x4)).put7 1 rfl (.int .i64 10) (.int .i64 0) (.string ⟨#[]⟩) (.slice none 0 0) (.slice ra rl rc) (.bool true) (.slice none 0 0)).call (Below.refl _ _).drew).xb hL.out (by omega) (sizes_of hu.out.1 hu.out.2.1 hu.out.2.2.2) true
    |false=>
     clear hM
     obtain ⟨a4,cap4,T4,i4,E4,o4,b4,x4,hn4⟩:=(St.must ⟨a2,cap2,T2,i2,E2,o2,b2,x2⟩ [125]).get
     have HN4:Hid (St.must ⟨a2,cap2,T2,i2,E2,o2,b2,x2⟩ (ByteArray.mk #[125]).toList=⟨a4,cap4,T4,i4,E4,o4,b4,x4⟩):=Lib.hid (by rw [Lib.toList_data];exact hn4)
     simp only [Bool.false_eq_true,if_false] at hfin
     rw [hn4] at hfin
     have HFIN:=Lib.hid hfin
     have ho4:=hfin.1.ord
     have HK3:Hid (Kin s ⟨a2,cap2,T2,i2,E2,o2,b2,x2⟩):=HKN
     clear hfin
     dsimp only at ho4
     have hob: -100≤o4∧o4≤100:=by have:=HO.out;omega
     have hob1:=hob.1
     have hob2:=hob.2
     clear hn4 ho4 hob
     have f:=HF.out.facts
     dsimp only [Fs,Nes,List.map] at f
     go_wp2_with (first
      |(go_at_call 54;refine (peek_as _ ⟨a2,cap2,T2,i2,E2,o2,b2,x2⟩ k n at_ tx (HSW.out HF.out.bl) HT).mono ?_;rintro e w4 ⟨rfl,hb⟩;replace HF:=Lib.hid (HF.out.call hb);replace HP:=Lib.hid (HP.out.call hb);(try clear f);have f:=HF.out.facts;dsimp only [Fs,Nes,List.map] at f;clear hb)
      |(go_at_call 99;refine (sis_as _ ⟨a2,cap2,T2,i2,E2,o2,b2,x2⟩ ⟨#[46,46,46]⟩ false (H.out.kin HF.out.bl HKN.out) HIS).mono ?_;rintro e w5 ⟨rfl,hb⟩;replace HF:=Lib.hid (HF.out.call hb);replace HP:=Lib.hid (HP.out.call hb);(try clear f);have f:=HF.out.facts;dsimp only [Fs,Nes,List.map] at f;clear hb)
      |(go_at_call 58;refine (smust_as _ ⟨a2,cap2,T2,i2,E2,o2,b2,x2⟩ ⟨a4,cap4,T4,i4,E4,o4,b4,x4⟩ ⟨#[125]⟩ (H.out.kin HF.out.bl HK3.out) HN4).mono ?_;rintro e w7 ⟨rfl,hb⟩;unfold St.v;dsimp only;replace HF:=Lib.hid (HF.out.call hb);replace HP:=Lib.hid (HP.out.call hb);(try clear f1 f2);clear f;have f1:=HF.out.facts;dsimp only [Fs,Nes,List.map] at f1;replace HF:=Lib.hid (by have t:=HF.out.put6 3 rfl (.slice a4 T4.length cap4) (.int .i64 (i4:Int)) (.int .i64 E4) (.int .i64 o4) (.int .i64 b4) (.int .i64 x4);simp only [List.set_cons_succ,List.set_cons_zero] at t;exact t);replace HP:=Lib.hid (by have t:=HP.out.put6 3 rfl (.slice a4 T4.length cap4) (.int .i64 (i4:Int)) (.int .i64 E4) (.int .i64 o4) (.int .i64 b4) (.int .i64 x4);simp only [List.set_cons_succ,List.set_cons_zero] at t;exact t);have f2:=HF.out.facts;dsimp only [Fs,Nes,List.map] at f2;unfold put6 at f2;replace HF:=Lib.hid (by have t:=HF.out.set 3 3 rfl (.int .i64 (o4-1));simp only [List.set_cons_succ,List.set_cons_zero,List.setIfInBounds_toArray] at t;exact t);replace HP:=Lib.hid (by have t:=HP.out.put (i:=3) rfl (setCell_grown _ _ 3 (.int .i64 (o4-1))) (cs':=#[.slice a4 T4.length cap4,.int .i64 (i4:Int),.int .i64 E4,.int .i64 (o4-1),.int .i64 b4,.int .i64 x4]);simp only [List.set_cons_succ,List.set_cons_zero] at t;exact t);have f:=HF.out.facts;dsimp only [Fs,Nes,List.map] at f;unfold put6 at f;clear hb))
     go_region
     go_wp2_with fail
     refine bodyPost_ret (v:= .tuple #[.agg #[.slice a4 T4.length cap4,.int .i64 (i4:Int),.int .i64 E4,.int .i64 (o4-1),.int .i64 b4,.int .i64 x4],.agg #[.int .i64 10,.int .i64 0,.string ⟨#[]⟩,.slice none 0 0,.slice ra rl rc,.bool false,.slice none 0 0]]) (by simp [results,Tryz.results167,go_sem,f]) rfl ?_
     have hWe:=((HF.out.put6 2 rfl (.slice a4 T4.length cap4) (.int .i64 (i4:Int)) (.int .i64 E4) (.int .i64 (o4-1)) (.int .i64 b4) (.int .i64 x4)).put7 1 rfl (.int .i64 10) (.int .i64 0) (.string ⟨#[]⟩) (.slice none 0 0) (.slice ra rl rc) (.bool false) (.slice none 0 0)).drew
     refine br_ret (s:=s) (S:=⟨a4,cap4,T4,i4,E4,o4,b4,x4⟩) (hd:=⟨10,0,⟨#[]⟩,none,0,0,ra,rl,rc,false,none,0,0⟩) hWe.bl (.inl ⟨by rw [hRR.out];exact HFIN.out.1,fun x N e=>?_⟩)
     rw [hRR.out] at e
     rw [HFIN.out.2 x N e,←hu.out.1]
     exact (((HP.out.put6 2 rfl (.slice a4 T4.length cap4) (.int .i64 (i4:Int)) (.int .i64 E4) (.int .i64 (o4-1)) (.int .i64 b4) (.int .i64 x4)).put7 1 rfl (.int .i64 10) (.int .i64 0) (.string ⟨#[]⟩) (.slice none 0 0) (.slice ra rl rc) (.bool false) (.slice none 0 0)).call (Below.refl _ _).drew).xb hL.out (by omega) (sizes_of hu.out.1 hu.out.2.1 hu.out.2.2.2) false
  ·have hx2:(x2==0)=false:=by have h2:=hD.out.err;have h3:=hD.out.x;dsimp only at h2;simp;omega
   have HKN:Hid (Kin s ⟨a2,cap2,T2,i2,E2,o2,b2,x2⟩):=Lib.hid hD.out.kin
   have HIS:Hid (St.is ⟨a2,cap2,T2,i2,E2,o2,b2,x2⟩ (ByteArray.mk #[46,46,46]).toList=false):=Lib.hid (hD.out.self.is _)
   obtain ⟨a4,cap4,T4,i4,E4,o4,b4,x4,hn4⟩:=(St.must ⟨a2,cap2,T2,i2,E2,o2,b2,x2⟩ [125]).get
   have HN4:Hid (St.must ⟨a2,cap2,T2,i2,E2,o2,b2,x2⟩ (ByteArray.mk #[125]).toList=⟨a4,cap4,T4,i4,E4,o4,b4,x4⟩):=Lib.hid (by rw [Lib.toList_data];exact hn4)
   have hD4:Dx s ⟨a4,cap4,T4,i4,E4,o4,b4,x4⟩ a x:=by rw [←hn4,hD.out.self.must];exact hD.out
   have HFIN:=Lib.hid hD4
   have ho4:=And.intro hD4.lo hD4.hi
   have HK3:Hid (Kin s ⟨a2,cap2,T2,i2,E2,o2,b2,x2⟩):=HKN
   clear hD4
   dsimp only at ho4
   have hob: -100≤o4∧o4≤100:=by have:=HO.out;omega
   have hob1:=hob.1
   have hob2:=hob.2
   clear hn4 ho4 hob
   have f:=HF.out.facts
   dsimp only [Fs,Nes,List.map] at f
   go_wp2_with (first
    |(go_at_call 99;refine (sis_as _ ⟨a2,cap2,T2,i2,E2,o2,b2,x2⟩ ⟨#[46,46,46]⟩ false (H.out.kin HF.out.bl HKN.out) HIS).mono ?_;rintro e w5 ⟨rfl,hb⟩;replace HF:=Lib.hid (HF.out.call hb);(try clear f);have f:=HF.out.facts;dsimp only [Fs,Nes,List.map] at f;clear hb)
    |(go_at_call 58;refine (smust_as _ ⟨a2,cap2,T2,i2,E2,o2,b2,x2⟩ ⟨a4,cap4,T4,i4,E4,o4,b4,x4⟩ ⟨#[125]⟩ (H.out.kin HF.out.bl HK3.out) HN4).mono ?_;rintro e w7 ⟨rfl,hb⟩;unfold St.v;dsimp only;replace HF:=Lib.hid (HF.out.call hb);(try clear f1 f2);clear f;have f1:=HF.out.facts;dsimp only [Fs,Nes,List.map] at f1;replace HF:=Lib.hid (by have t:=HF.out.put6 3 rfl (.slice a4 T4.length cap4) (.int .i64 (i4:Int)) (.int .i64 E4) (.int .i64 o4) (.int .i64 b4) (.int .i64 x4);simp only [List.set_cons_succ,List.set_cons_zero] at t;exact t);have f2:=HF.out.facts;dsimp only [Fs,Nes,List.map] at f2;unfold put6 at f2;replace HF:=Lib.hid (by have t:=HF.out.set 3 3 rfl (.int .i64 (o4-1));simp only [List.set_cons_succ,List.set_cons_zero,List.setIfInBounds_toArray] at t;exact t);have f:=HF.out.facts;dsimp only [Fs,Nes,List.map] at f;unfold put6 at f;clear hb))
   go_region
   go_wp2_with fail
   refine bodyPost_ret (v:= .tuple #[.agg #[.slice a4 T4.length cap4,.int .i64 (i4:Int),.int .i64 E4,.int .i64 (o4-1),.int .i64 b4,.int .i64 x4],.agg #[.int .i64 10,.int .i64 0,.string ⟨#[]⟩,.slice none 0 0,.slice ra rl rc,.bool false,.slice none 0 0]]) (by simp [results,Tryz.results167,go_sem,f]) rfl ?_
   have hWe:=((HF.out.put6 2 rfl (.slice a4 T4.length cap4) (.int .i64 (i4:Int)) (.int .i64 E4) (.int .i64 (o4-1)) (.int .i64 b4) (.int .i64 x4)).put7 1 rfl (.int .i64 10) (.int .i64 0) (.string ⟨#[]⟩) (.slice none 0 0) (.slice ra rl rc) (.bool false) (.slice none 0 0)).drew
   exact br_ret (s:=s) (S:=⟨a4,cap4,T4,i4,E4,o4,b4,x4⟩) (hd:=⟨10,0,⟨#[]⟩,none,0,0,ra,rl,rc,false,none,0,0⟩) hWe.bl (.inr ⟨a,x,HFIN.out,hRR.out⟩)
end Go.Proofs.YtkfihhagcimcmaaGreatDoor.Ps
