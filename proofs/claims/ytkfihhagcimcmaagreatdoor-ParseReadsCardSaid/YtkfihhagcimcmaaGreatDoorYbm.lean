/- Qr2 -/
import Derived.Test.YtkfihhagcimcmaaGreatDoorChecked
import Derived.Test.YtkfihhagcimcmaaGreatDoorProg
import Derived.Test.YtkfihhagcimcmaaGreatDoorY1
import Derived.Test.YtkfihhagcimcmaaGreatDoorYbl
namespace Go.Proofs.YtkfihhagcimcmaaGreatDoor.Ps
open Go.RowKit
open Lx (Tok)
set_option maxRecDepth 100000 in
set_option maxHeartbeats 16000000 in
theorem slevel_bin4 (part:List Tok→Res Ex) (w:World) (s:St) (h:SW w s) (h0:s.err=0∧s.bad=0) (hi:s.i≤s.T.length) (hfit:∀L,Fits cnt L (part L))
  (ask:∀(W:World) (S:St) (M:List Tok),SW W S→Sv s S M→M.length≤s.L.length→Calls Tryz.prog 100 #[S.v,.int .i64 5] W (SRes (VX W.heap.size) W S (part M))):
  Calls Tryz.prog 100 #[s.v,.int .i64 4] w (SRes (VX w.heap.size) w s ((part s.L).bind fun x L'=>binF part 4 (L'.length+1) x L')):=by
 obtain ⟨R,hR⟩:∃R,((part s.L).bind fun x L'=>binF part 4 (L'.length+1) x L')=R:=⟨_,rfl⟩
 rw [hR]
 have H:=Lib.hid h
 have HASK:=Lib.hid ask
 have HFIT:=Lib.hid hfit
 have hS:=Sv.refl h0 hi
 obtain ⟨r1,hr1⟩:∃r,part s.L=r:=⟨_,rfl⟩
 have HA:Hid (∀x M,r1= .ok x M→BinAt part 4 R x M∧M.length≤s.L.length):=Lib.hid fun x M e=>by
  rw [hr1,e] at hR
  rw [e] at hr1
  exact ⟨⟨_,Nat.lt_succ_self _,hR⟩,by have:=(hfit _ _ _ hr1).1.length_le;exact this⟩
 have HA2:Hid (∀a y,r1= .bad a y→R= .bad a y):=Lib.hid fun a y e=>by rw [←hR,hr1,e];rfl
 obtain ⟨a0,cap0,T0,i0,E0,o0,b0,x0,hs0⟩:=s.get
 have HLV:∀W,Hid (Below w.heap.size w W)→Hid (Calls Tryz.prog 100 #[.agg #[.slice a0 T0.length cap0,.int .i64 (i0:Int),.int .i64 E0,.int .i64 o0,.int .i64 b0,.int .i64 x0],.int .i64 5] W (LevQ s s r1 W)):=fun W hW=>Lib.hid (by
  have h5:=HASK.out W s s.L (H.out.below hW.out) hS (Nat.le_refl _)
  rw [hr1] at h5
  have h6:=h5.mono fun e w' hq=>LevQ.of hS hq
  rw [show s.v= .agg #[.slice a0 T0.length cap0,.int .i64 (i0:Int),.int .i64 E0,.int .i64 o0,.int .i64 b0,.int .i64 x0] by rw [hs0];rfl] at h6
  exact h6)
 rw [show s.v= .agg #[.slice a0 T0.length cap0,.int .i64 (i0:Int),.int .i64 E0,.int .i64 o0,.int .i64 b0,.int .i64 x0] by rw [hs0];rfl]
 have HF:=Lib.hid (Fr.start3 w #[.slice a0 T0.length cap0,.int .i64 (i0:Int),.int .i64 E0,.int .i64 o0,.int .i64 b0,.int .i64 x0] #[.slice none 0 0,.int .i64 0,.int .i64 0,.int .i64 0,.int .i64 0,.int .i64 0] #[.int .i64 0,.int .i64 0,.string ⟨#[]⟩,.slice none 0 0,.slice none 0 0,.bool false,.slice none 0 0] 95 95 35)
 have f:=HF.out.facts;dsimp only [Fs,Nes,List.map] at f
 clear hs0 h ask hfit hS hR hr1 h0 hi
 go_enter Tryz.func100,Tryz.ntmps100
 go_wp2_with (go_at_call 100;refine (HLV _ (Lib.hid HF.out.bl)).out.mono ?_;rintro e w4 ⟨hb,S1,hd1,rfl,hst,hx⟩;have HX:=Lib.hid (fun x K e=>XF.of (hx x K e) HF.out HF.out.size);clear hx;obtain ⟨a1,cap1,T1,i1,E1,o1,b1,x1⟩:=S1;obtain ⟨op,nn,s1,p,pl,pc,q,ql,qc,oo,ka,kl,kc⟩:=hd1;unfold St.v Hd.agg;dsimp only;replace HF:=Lib.hid (HF.out.call hb);clear f;have f1:=HF.out.facts;dsimp only [Fs,Nes,List.map] at f1;replace HF:=Lib.hid (HF.out.new_ #[.int .i64 0,.int .i64 0,.string ⟨#[]⟩,.slice none 0 0,.slice none 0 0,.bool false,.slice none 0 0] 35 (n:=w4.heap.size) (rfl));have f2:=HF.out.facts;dsimp only [Fs,Nes,List.map] at f2;replace HF:=Lib.hid (by have t:=HF.out.put6 3 rfl (.slice a1 T1.length cap1) (.int .i64 (i1:Int)) (.int .i64 E1) (.int .i64 o1) (.int .i64 b1) (.int .i64 x1);simp only [List.set_cons_succ,List.set_cons_zero] at t;exact t);have f3:=HF.out.facts;dsimp only [Fs,Nes,List.map] at f3;replace HF:=Lib.hid (by have t:=HF.out.put7 0 rfl (.int .i64 op) (.int .i64 nn) (.string s1) (.slice p pl pc) (.slice q ql qc) (.bool oo) (.slice ka kl kc);simp only [List.set_cons_zero] at t;exact t);have f4:=HF.out.facts;dsimp only [Fs,Nes,List.map] at f4;replace HX:=Lib.hid (fun x K e=>(((HX.out x K e).new_ #[.int .i64 0,.int .i64 0,.string ⟨#[]⟩,.slice none 0 0,.slice none 0 0,.bool false,.slice none 0 0] 35 (n:=w4.heap.size) rfl).put6 3 rfl (.slice a1 T1.length cap1) (.int .i64 (i1:Int)) (.int .i64 E1) (.int .i64 o1) (.int .i64 b1) (.int .i64 x1)).put7 0 rfl (.int .i64 op) (.int .i64 nn) (.string s1) (.slice p pl pc) (.slice q ql qc) (.bool oo) (.slice ka kl kc));have HST:=Lib.hid hst;clear hb hst)
 clear f1 f2 f3 f4
 go_loopw [] (fun wr=>∃(a2:Option Addr) (cap2:Nat) (T2:List Tok) (i2:Nat) (E2 o2 b2 x2:Int) (op nn:Int) (s1:ByteArray) (p:Option Addr) (pl pc:Nat) (q:Option Addr) (ql qc:Nat) (oo:Bool) (ka:Option Addr) (kl kc:Nat),Hid (Fr w wr [(w4.heap.size,#[.int .i64 op,.int .i64 nn,.string s1,.slice p pl pc,.slice q ql qc,.bool oo,.slice ka kl kc],35),(w.heap.size+2,#[.int .i64 0,.int .i64 0,.string ⟨#[]⟩,.slice none 0 0,.slice none 0 0,.bool false,.slice none 0 0],35),(w.heap.size+1,#[.slice none 0 0,.int .i64 0,.int .i64 0,.int .i64 0,.int .i64 0,.int .i64 0],95),(w.heap.size,#[.slice a2 T2.length cap2,.int .i64 (i2:Int),.int .i64 E2,.int .i64 o2,.int .i64 b2,.int .i64 x2],95)])∧((∃(x:Ex) (M:List Tok),Hid (XF w.heap.size [(w4.heap.size,#[.int .i64 op,.int .i64 nn,.string s1,.slice p pl pc,.slice q ql qc,.bool oo,.slice ka kl kc],35),(w.heap.size+2,#[.int .i64 0,.int .i64 0,.string ⟨#[]⟩,.slice none 0 0,.slice none 0 0,.bool false,.slice none 0 0],35),(w.heap.size+1,#[.slice none 0 0,.int .i64 0,.int .i64 0,.int .i64 0,.int .i64 0,.int .i64 0],95),(w.heap.size,#[.slice a2 T2.length cap2,.int .i64 (i2:Int),.int .i64 E2,.int .i64 o2,.int .i64 b2,.int .i64 x2],95)] wr ⟨op,nn,s1,p,pl,pc,q,ql,qc,oo,ka,kl,kc⟩ x)∧Hid (Sv s ⟨a2,cap2,T2,i2,E2,o2,b2,x2⟩ M)∧Hid (M.length≤s.L.length)∧Hid (BinAt part 4 R x M))∨(∃a y,Hid (Dd s ⟨a2,cap2,T2,i2,E2,o2,b2,x2⟩ a y)∧Hid (R= .bad a y)))) (fun wr=>leftS wr w.heap.size)
 case atStart=>
  refine ⟨_,_,_,_,_,_,_,_,_,_,_,_,_,_,_,_,_,_,_,_,_,HF,?_⟩
  cases hr1:r1 with
  |ok x M=>
   have h1:=HST.out
   rw [hr1] at h1
   exact .inl ⟨x,M,Lib.hid (HX.out x M hr1),Lib.hid h1,Lib.hid (HA.out x M hr1).2,Lib.hid (HA.out x M hr1).1⟩
  |bad a y=>
   have h1:=HST.out
   rw [hr1] at h1
   exact .inr ⟨a,y,Lib.hid h1,Lib.hid (HA2.out a y hr1)⟩
 case round=>
  clear HX HST HF
  obtain ⟨a2,cap2,T2,i2,E2,o2,b2,x2,op,nn,s1,p,pl,pc,q,ql,qc,oo,ka,kl,kc,HF,hh⟩:=hrel
  rename World=>wr
  rcases hh with ⟨x,M,hX,hS,hML,hB⟩|⟨a,y,hD,hRR⟩
  ·have HSW:Hid (∀{W:World},Below w.heap.size w W→SW W ⟨a2,cap2,T2,i2,E2,o2,b2,x2⟩):=Lib.hid fun hW=>H.out.kin hW hS.out.kin
   have qa43:isR ⟨a2,cap2,T2,i2,E2,o2,b2,x2⟩ ⟨#[43]⟩=isB [43] M:=by unfold isR;rw [Lib.toList_data,hS.out.is]
   have qa45:isR ⟨a2,cap2,T2,i2,E2,o2,b2,x2⟩ ⟨#[45]⟩=isB [45] M:=by unfold isR;rw [Lib.toList_data,hS.out.is]
   have qa42:isR ⟨a2,cap2,T2,i2,E2,o2,b2,x2⟩ ⟨#[42]⟩=isB [42] M:=by unfold isR;rw [Lib.toList_data,hS.out.is]
   by_cases h42:isB [42] M=true
   ·have q42:isR ⟨a2,cap2,T2,i2,E2,o2,b2,x2⟩ ⟨#[42]⟩=true:=qa42.trans h42
    have q43:isR ⟨a2,cap2,T2,i2,E2,o2,b2,x2⟩ ⟨#[43]⟩=false:=qa43.trans (isB_ne h42 (by decide))
    have q45:isR ⟨a2,cap2,T2,i2,E2,o2,b2,x2⟩ ⟨#[45]⟩=false:=qa45.trans (isB_ne h42 (by decide))
    have hop:opOf 4 M=15:=by unfold opOf;simp [h42]
    obtain ⟨t9,M9,rfl,-,-⟩:=isB_cons h42
    have hS3:=hS.out.next (t:=t9) (N:=M9) rfl
    obtain ⟨a3,cap3,T3,i3,E3,o3,b3,x3,hn3⟩:=(St.next ⟨a2,cap2,T2,i2,E2,o2,b2,x2⟩).get
    have HN3:=Lib.hid hn3
    rw [hn3] at hS3
    obtain ⟨r4,hr4⟩:∃r,part M9=r:=⟨_,rfl⟩
    have HR4:=Lib.hid hr4
    have HS3:=Lib.hid hS3
    have HOP:=Lib.hid hop
    have HLQ:∀W,Hid (Below w.heap.size w W)→Hid (Calls Tryz.prog 100 #[.agg #[.slice a3 T3.length cap3,.int .i64 (i3:Int),.int .i64 E3,.int .i64 o3,.int .i64 b3,.int .i64 x3],.int .i64 5] W (LevQ s ⟨a3,cap3,T3,i3,E3,o3,b3,x3⟩ r4 W)):=fun W hW=>Lib.hid (by
     have h5:=HASK.out W ⟨a3,cap3,T3,i3,E3,o3,b3,x3⟩ M9 (H.out.kin hW.out HS3.out.kin) HS3.out (by have:=hML.out;simp at this;omega)
     rw [HR4.out] at h5
     exact h5.mono fun e w' hq=>LevQ.of HS3.out hq)
    have hi2:i2≤100000:=by have h1:=hS.out.kin.i;have h2:=H.out.len;dsimp only at h1;omega
    have HL2:Hid (leftS wr w.heap.size=M9.length+1+1):=Lib.hid (hS.out.leftS (HF.out.bx (i:=3) rfl))
    clear hS3 hn3 hr4 hop h42 qa42 qa43 qa45
    have f:=HF.out.facts
    dsimp only [Fs,Nes,List.map] at f
    have g:=f
    go_wp2_with (first
     |(go_at_call 99;refine (sis_r _ ⟨a2,cap2,T2,i2,E2,o2,b2,x2⟩ _ (HSW.out HF.out.bl)).mono ?_;rintro e w5 ⟨rfl,hb⟩;replace HF:=Lib.hid (HF.out.call hb);replace hX:=Lib.hid (hX.out.call hb);clear f g;have f:=HF.out.facts;dsimp only [Fs,Nes,List.map] at f;have g:=(HF.out.new_ #[.int .i64 0,.int .i64 0,.string ⟨#[]⟩,.slice none 0 0,.slice none 0 0,.bool false,.slice none 0 0] 35 rfl).facts;dsimp only [Fs,Nes,List.map] at g;clear hb)
     |(go_at_call 56;refine (snext_as _ ⟨a2,cap2,T2,i2,E2,o2,b2,x2⟩ ⟨a3,cap3,T3,i3,E3,o3,b3,x3⟩ hi2 HN3).mono ?_;rintro e w6 ⟨rfl,hb⟩;unfold St.v;dsimp only;replace HF:=Lib.hid (HF.out.new_ #[.int .i64 0,.int .i64 0,.string ⟨#[]⟩,.slice none 0 0,.slice none 0 0,.bool false,.slice none 0 0] 35 (n:=w5.heap.size) (rfl));replace hX:=Lib.hid ((hX.out.new_ #[.int .i64 0,.int .i64 0,.string ⟨#[]⟩,.slice none 0 0,.slice none 0 0,.bool false,.slice none 0 0] 35 (n:=w5.heap.size) rfl).call hb);replace HF:=Lib.hid (HF.out.call hb);clear f g;have f:=HF.out.facts;dsimp only [Fs,Nes,List.map] at f;clear hb)
     |(go_at_call 100;refine (HLQ _ (Lib.hid HF.out.bl)).out.mono ?_;rintro e w7 ⟨hb,S4,hd4,rfl,hst,hx⟩;have HY:=Lib.hid (fun x K e=>XF.of (hx x K e) HF.out HF.out.size);clear hx;obtain ⟨a4,cap4,T4,i4,E4,o4,b4,x4⟩:=S4;obtain ⟨op3,nn3,s13,p3,pl3,pc3,q3,ql3,qc3,oo3,ka3,kl3,kc3⟩:=hd4;unfold St.v Hd.agg;dsimp only;replace HF:=Lib.hid (HF.out.call hb);clear f;replace hX:=Lib.hid (hX.out.call hb);have f1:=HF.out.facts;dsimp only [Fs,Nes,List.map] at f1;replace HF:=Lib.hid (by have t:=HF.out.put6 4 rfl (.slice a4 T4.length cap4) (.int .i64 (i4:Int)) (.int .i64 E4) (.int .i64 o4) (.int .i64 b4) (.int .i64 x4);simp only [List.set_cons_succ,List.set_cons_zero] at t;exact t);have f2:=HF.out.facts;dsimp only [Fs,Nes,List.map] at f2;unfold put6 at f2;replace HF:=Lib.hid (by have t:=HF.out.put7 0 rfl (.int .i64 op3) (.int .i64 nn3) (.string s13) (.slice p3 pl3 pc3) (.slice q3 ql3 qc3) (.bool oo3) (.slice ka3 kl3 kc3);simp only [List.set_cons_zero] at t;exact t);have f:=HF.out.facts;dsimp only [Fs,Nes,List.map] at f;unfold put6 put7 at f;replace HY:=Lib.hid (fun x K e=>((HY.out x K e).put6 4 rfl (.slice a4 T4.length cap4) (.int .i64 (i4:Int)) (.int .i64 E4) (.int .i64 o4) (.int .i64 b4) (.int .i64 x4)).put7 0 rfl (.int .i64 op3) (.int .i64 nn3) (.string s13) (.slice p3 pl3 pc3) (.slice q3 ql3 qc3) (.bool oo3) (.slice ka3 kl3 kc3));replace hX:=Lib.hid ((hX.out.put6 4 rfl (.slice a4 T4.length cap4) (.int .i64 (i4:Int)) (.int .i64 E4) (.int .i64 o4) (.int .i64 b4) (.int .i64 x4)).put7 0 rfl (.int .i64 op3) (.int .i64 nn3) (.string s13) (.slice p3 pl3 pc3) (.slice q3 ql3 qc3) (.bool oo3) (.slice ka3 kl3 kc3));have g:=(HF.out.old (.cells #[.int .i64 op,.int .i64 nn,.string s1,.slice p pl pc,.slice q ql qc,.bool oo,.slice ka kl kc,.int .i64 op3,.int .i64 nn3,.string s13,.slice p3 pl3 pc3,.slice q3 ql3 qc3,.bool oo3,.slice ka3 kl3 kc3] 35)).facts;dsimp only [Fs,Nes,List.map] at g;unfold put6 put7 at g;have HST:=Lib.hid hst;have HWZ:Hid ((Ps.put7 (Ps.put6 w7 w.heap.size (.slice a4 T4.length cap4) (.int .i64 (i4:Int)) (.int .i64 E4) (.int .i64 o4) (.int .i64 b4) (.int .i64 x4)) w5.heap.size (.int .i64 op3) (.int .i64 nn3) (.string s13) (.slice p3 pl3 pc3) (.slice q3 ql3 qc3) (.bool oo3) (.slice ka3 kl3 kc3)).heap.size=w7.heap.size):=Lib.hid (by rw [put7_size,put6_size]);clear hb hst))
    have hzr:=HF.out.size
    have hT0:=HF.out.fresh (Nat.le_refl _)
    have hF:=(HF.out.old (.cells #[.int .i64 op,.int .i64 nn,.string s1,.slice p pl pc,.slice q ql qc,.bool oo,.slice ka kl kc,.int .i64 op3,.int .i64 nn3,.string s13,.slice p3 pl3 pc3,.slice q3 ql3 qc3,.bool oo3,.slice ka3 kl3 kc3] 35)).put7 1 rfl (.int .i64 15) (.int .i64 0) (.string ⟨#[]⟩) (.slice none 0 0) (.slice none 0 0) (.bool false) (.slice (some ⟨w7.heap.size,0,none⟩) 2 2)
    simp only [List.set_cons_succ,List.set_cons_zero] at hF
    have hst:=HST.out
    cases hr5:r4 with
    |ok y M'=>
     rw [hr5] at hst
     obtain ⟨hB2,-,hlt⟩:=hB.out.step HFIT.out HOP.out (by decide) (by show part M9=_;rw [HR4.out,hr5])
     have hT:=XF.two hX.out (HY.out y M' hr5) 15 (cs:=#[.int .i64 op,.int .i64 nn,.string s1,.slice p pl pc,.slice q ql qc,.bool oo,.slice ka kl kc,.int .i64 op3,.int .i64 nn3,.string s13,.slice p3 pl3 pc3,.slice q3 ql3 qc3,.bool oo3,.slice ka3 kl3 kc3]) rfl hzr hT0
     rw [HWZ.out] at hT
     have hT2:=hT.put7 1 rfl (.int .i64 15) (.int .i64 0) (.string ⟨#[]⟩) (.slice none 0 0) (.slice none 0 0) (.bool false) (.slice (some ⟨w7.heap.size,0,none⟩) 2 2)
     simp only [List.set_cons_succ,List.set_cons_zero] at hT2
     go_roundw
     case rel=>exact ⟨_,_,_,_,_,_,_,_,_,_,_,_,_,_,_,_,_,_,_,_,_,Lib.hid hF.tail,.inl ⟨two 15 x y,M',Lib.hid hT2.tail,Lib.hid hst,Lib.hid (by have:=hML.out;omega),Lib.hid hB2⟩⟩
     case measure=>
      show leftS _ w.heap.size<leftS wr w.heap.size
      refine Nat.lt_of_le_of_lt (Nat.le_of_eq (Sv.leftS hst (hF.bx (i:=4) rfl))) ?_
      rw [HL2.out]
      simp at hlt;omega
    |bad a y=>
     rw [hr5] at hst
     have hRB:=hB.out.bad HOP.out (by decide) (by show part M9=_;rw [HR4.out,hr5])
     go_roundw
     case rel=>exact ⟨_,_,_,_,_,_,_,_,_,_,_,_,_,_,_,_,_,_,_,_,_,Lib.hid hF.tail,.inr ⟨a,y,Lib.hid hst,Lib.hid hRB⟩⟩
     case measure=>
      show leftS _ w.heap.size<leftS wr w.heap.size
      refine Nat.lt_of_le_of_lt (Nat.le_of_eq (Dd.leftS hst (hF.bx (i:=4) rfl))) ?_
      rw [HL2.out]
      omega
   replace h42:isB [42] M=false:=by simpa using h42
   have hRR:=Lib.hid (hB.out.last (by unfold opOf;simp [h42]))
   cases h43:isB [43] M
   all_goals cases h45:isB [45] M
   all_goals
    have q43:isR ⟨a2,cap2,T2,i2,E2,o2,b2,x2⟩ ⟨#[43]⟩=_:=qa43.trans h43
    have q45:isR ⟨a2,cap2,T2,i2,E2,o2,b2,x2⟩ ⟨#[45]⟩=_:=qa45.trans h45
    have q42:isR ⟨a2,cap2,T2,i2,E2,o2,b2,x2⟩ ⟨#[42]⟩=_:=qa42.trans h42
    clear qa42 qa43 qa45
    have f:=HF.out.facts
    dsimp only [Fs,Nes,List.map] at f
    have g:=f
    clear h42 h43 h45
    go_wp2_with (go_at_call 99;refine (sis_r _ ⟨a2,cap2,T2,i2,E2,o2,b2,x2⟩ _ (HSW.out HF.out.bl)).mono ?_;rintro e w5 ⟨rfl,hb⟩;replace HF:=Lib.hid (HF.out.call hb);replace hX:=Lib.hid (hX.out.call hb);clear f g;have f:=HF.out.facts;dsimp only [Fs,Nes,List.map] at f;have g:=(HF.out.new_ #[.int .i64 0,.int .i64 0,.string ⟨#[]⟩,.slice none 0 0,.slice none 0 0,.bool false,.slice none 0 0] 35 rfl).facts;dsimp only [Fs,Nes,List.map] at g;clear hb)
    go_region
    go_wp2_with fail
    refine bodyPost_ret (v:= .tuple #[.agg #[.slice a2 T2.length cap2,.int .i64 (i2:Int),.int .i64 E2,.int .i64 o2,.int .i64 b2,.int .i64 x2],.agg #[.int .i64 op,.int .i64 nn,.string s1,.slice p pl pc,.slice q ql qc,.bool oo,.slice ka kl kc]]) (by simp [results,Tryz.results100,go_sem,f]) rfl ?_
    exact sres_of (S:=⟨a2,cap2,T2,i2,E2,o2,b2,x2⟩) (hd:=⟨op,nn,s1,p,pl,pc,q,ql,qc,oo,ka,kl,kc⟩) (((HF.out.put6 2 rfl (.slice a2 T2.length cap2) (.int .i64 (i2:Int)) (.int .i64 E2) (.int .i64 o2) (.int .i64 b2) (.int .i64 x2)).put7 1 rfl (.int .i64 op) (.int .i64 nn) (.string s1) (.slice p pl pc) (.slice q ql qc) (.bool oo) (.slice ka kl kc)).drew).bl (r:=R) (by rw [hRR.out];exact hS.out) (fun x K e=>by rw [hRR.out] at e;cases e;exact (((hX.out.put6 2 rfl (.slice a2 T2.length cap2) (.int .i64 (i2:Int)) (.int .i64 E2) (.int .i64 o2) (.int .i64 b2) (.int .i64 x2)).put7 1 rfl (.int .i64 op) (.int .i64 nn) (.string s1) (.slice p pl pc) (.slice q ql qc) (.bool oo) (.slice ka kl kc)).call (Below.refl _ _).drew).less fun b _ hb=>hb.1)
  ·have HSW:Hid (∀{W:World},Below w.heap.size w W→SW W ⟨a2,cap2,T2,i2,E2,o2,b2,x2⟩):=Lib.hid fun hW=>H.out.kin hW hD.out.kin
   have q43:isR ⟨a2,cap2,T2,i2,E2,o2,b2,x2⟩ ⟨#[43]⟩=false:=hD.out.is _
   have q45:isR ⟨a2,cap2,T2,i2,E2,o2,b2,x2⟩ ⟨#[45]⟩=false:=hD.out.is _
   have q42:isR ⟨a2,cap2,T2,i2,E2,o2,b2,x2⟩ ⟨#[42]⟩=false:=hD.out.is _
   have f:=HF.out.facts
   dsimp only [Fs,Nes,List.map] at f
   have g:=f
   go_wp2_with (go_at_call 99;refine (sis_r _ ⟨a2,cap2,T2,i2,E2,o2,b2,x2⟩ _ (HSW.out HF.out.bl)).mono ?_;rintro e w5 ⟨rfl,hb⟩;replace HF:=Lib.hid (HF.out.call hb);clear f g;have f:=HF.out.facts;dsimp only [Fs,Nes,List.map] at f;have g:=(HF.out.new_ #[.int .i64 0,.int .i64 0,.string ⟨#[]⟩,.slice none 0 0,.slice none 0 0,.bool false,.slice none 0 0] 35 rfl).facts;dsimp only [Fs,Nes,List.map] at g;clear hb)
   go_region
   go_wp2_with fail
   refine bodyPost_ret (v:= .tuple #[.agg #[.slice a2 T2.length cap2,.int .i64 (i2:Int),.int .i64 E2,.int .i64 o2,.int .i64 b2,.int .i64 x2],.agg #[.int .i64 op,.int .i64 nn,.string s1,.slice p pl pc,.slice q ql qc,.bool oo,.slice ka kl kc]]) (by simp [results,Tryz.results100,go_sem,f]) rfl ?_
   exact sres_of (S:=⟨a2,cap2,T2,i2,E2,o2,b2,x2⟩) (hd:=⟨op,nn,s1,p,pl,pc,q,ql,qc,oo,ka,kl,kc⟩) (((HF.out.put6 2 rfl (.slice a2 T2.length cap2) (.int .i64 (i2:Int)) (.int .i64 E2) (.int .i64 o2) (.int .i64 b2) (.int .i64 x2)).put7 1 rfl (.int .i64 op) (.int .i64 nn) (.string s1) (.slice p pl pc) (.slice q ql qc) (.bool oo) (.slice ka kl kc)).drew).bl (r:=R) (by rw [hRR.out];exact hD.out) (fun x K e=>by rw [hRR.out] at e;cases e)
end Go.Proofs.YtkfihhagcimcmaaGreatDoor.Ps
