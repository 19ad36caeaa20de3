/- Ql, Qt -/
import Derived.Test.YtkfihhagcimcmaaGreatDoorChecked
import Derived.Test.YtkfihhagcimcmaaGreatDoorProg
import Derived.Test.YtkfihhagcimcmaaGreatDoorY1
import Derived.Test.YtkfihhagcimcmaaGreatDoorYbm
import Derived.Test.YtkfihhagcimcmaaGreatDoorYbo
import Derived.Test.YtkfihhagcimcmaaGreatDoorYbq
namespace Go.Proofs.YtkfihhagcimcmaaGreatDoor.Ps
open Go.RowKit
theorem sdepth_as (W:World) (h:Hd) (x:Ex) (dv:Int) (hX:XW W h x) (hc:cnt x≤1000000) (hd:Hid (deep x=dv)):Calls Tryz.prog 32 #[h.agg] W (Ans (.int .i64 dv) W):=by
 rw [←hd.out]
 exact (rdepth_any W (lev x) h x W hX (Below.refl _ _) hc).mono fun e w' ⟨h1,h2⟩=>⟨h1,h2⟩
set_option maxRecDepth 100000 in
set_option maxHeartbeats 16000000 in
theorem swhole_any (w:World) (s:St) (R0:Res Ex) (h:SW w s) (h0:s.err=0∧s.bad=0) (hi:s.i≤s.T.length) (hcnt:∀x M,R0= .ok x M→cnt x≤1000000)
  (ask:∀W,Below w.heap.size w W→Calls Tryz.prog 100 #[s.v,.int .i64 1] W (SRes (VX W.heap.size) W s R0)):
  Calls Tryz.prog 59 #[s.v] w (SRes (VX w.heap.size) w s (R0.bind fun x L1=>if 16<deep x then .bad s.pk.at_ 22 else .ok x L1)):=by
 obtain ⟨R,hR⟩:∃R,(R0.bind fun x L1=>if 16<deep x then .bad s.pk.at_ 22 else .ok x L1)=R:=⟨_,rfl⟩
 rw [hR]
 obtain ⟨k,n,tx,at_,ht⟩:=s.pk_get
 rw [ht] at hR
 dsimp only at hR
 have hS:=Sv.refl h0 hi
 obtain ⟨a0,cap0,T0,i0,E0,o0,b0,x0,hs0⟩:=s.get
 have HLV:∀W,Hid (Below w.heap.size w W)→Hid (Calls Tryz.prog 100 #[.agg #[.slice a0 T0.length cap0,.int .i64 (i0:Int),.int .i64 E0,.int .i64 o0,.int .i64 b0,.int .i64 x0],.int .i64 1] W (LevQ s s R0 W)):=fun W hW=>Lib.hid (by
  have h6:=(ask W hW.out).mono fun e w' hq=>LevQ.of hS hq
  rw [show s.v= .agg #[.slice a0 T0.length cap0,.int .i64 (i0:Int),.int .i64 E0,.int .i64 o0,.int .i64 b0,.int .i64 x0] by rw [hs0];rfl] at h6
  exact h6)
 have HT:Hid ((⟨a0,cap0,T0,i0,E0,o0,b0,x0⟩:St).pk=⟨⟨k,n,tx.toList⟩,at_⟩):=Lib.hid (by rw [←hs0];exact ht)
 have HSW:Hid (∀{W:World},Below w.heap.size w W→SW W ⟨a0,cap0,T0,i0,E0,o0,b0,x0⟩):=Lib.hid fun hW=>by rw [←hs0];exact h.below hW
 rw [show s.v= .agg #[.slice a0 T0.length cap0,.int .i64 (i0:Int),.int .i64 E0,.int .i64 o0,.int .i64 b0,.int .i64 x0] by rw [hs0];rfl]
 have HF:=Lib.hid (Fr.start3 w #[.slice a0 T0.length cap0,.int .i64 (i0:Int),.int .i64 E0,.int .i64 o0,.int .i64 b0,.int .i64 x0] #[.slice none 0 0,.int .i64 0,.int .i64 0,.int .i64 0,.int .i64 0,.int .i64 0] #[.int .i64 0,.int .i64 0,.string ⟨#[]⟩,.slice none 0 0,.slice none 0 0,.bool false,.slice none 0 0] 95 95 35)
 have f:=HF.out.facts;dsimp only [Fs,Nes,List.map] at f
 clear hs0 h ask hS h0 hi ht
 cases hq:R0 with
 |bad ba bx=>
  rw [hq] at hR
  have HRR:Hid (R= .bad ba bx):=Lib.hid hR.symm
  have HQ:=Lib.hid hq
  clear hR hq hcnt
  go_enter Tryz.func59,Tryz.ntmps59
  go_wp2_with (first
   |(go_at_call 54;refine (peek_as _ ⟨a0,cap0,T0,i0,E0,o0,b0,x0⟩ k n at_ tx (HSW.out HF.out.bl) HT).mono ?_;rintro e w4 ⟨rfl,hb⟩;replace HF:=Lib.hid (HF.out.call hb);replace HF:=Lib.hid (HF.out.new_ #[.int .i64 k,.int .i64 n,.string tx,.int .i64 at_] 97 (n:=w4.heap.size) (rfl));clear f;have f:=HF.out.facts;dsimp only [Fs,Nes,List.map] at f;clear hb)
   |(go_at_call 100;refine (HLV _ (Lib.hid HF.out.bl)).out.mono ?_;rintro e w5 ⟨hb,S1,hd1,rfl,hst,hx⟩;have HX:=Lib.hid (fun x K e=>XF.of (hx x K e) HF.out HF.out.size);clear hx;obtain ⟨a1,cap1,T1,i1,E1,o1,b1,x1⟩:=S1;obtain ⟨op,nn,s1,p,pl,pc,q,ql,qc,oo,ka,kl,kc⟩:=hd1;unfold St.v Hd.agg;dsimp only;replace HF:=Lib.hid (HF.out.call hb);clear f;have f1:=HF.out.facts;dsimp only [Fs,Nes,List.map] at f1;replace HF:=Lib.hid (HF.out.new_ #[.int .i64 0,.int .i64 0,.string ⟨#[]⟩,.slice none 0 0,.slice none 0 0,.bool false,.slice none 0 0] 35 (n:=w5.heap.size) (rfl));have f2:=HF.out.facts;dsimp only [Fs,Nes,List.map] at f2;replace HF:=Lib.hid (by have t:=HF.out.put6 4 rfl (.slice a1 T1.length cap1) (.int .i64 (i1:Int)) (.int .i64 E1) (.int .i64 o1) (.int .i64 b1) (.int .i64 x1);simp only [List.set_cons_succ,List.set_cons_zero] at t;exact t);have f3:=HF.out.facts;dsimp only [Fs,Nes,List.map] at f3;unfold put6 at f3;replace HF:=Lib.hid (by have t:=HF.out.put7 0 rfl (.int .i64 op) (.int .i64 nn) (.string s1) (.slice p pl pc) (.slice q ql qc) (.bool oo) (.slice ka kl kc);simp only [List.set_cons_zero] at t;exact t);replace HX:=Lib.hid (fun x K e=>(((HX.out x K e).new_ #[.int .i64 0,.int .i64 0,.string ⟨#[]⟩,.slice none 0 0,.slice none 0 0,.bool false,.slice none 0 0] 35 (n:=w5.heap.size) rfl).put6 4 rfl (.slice a1 T1.length cap1) (.int .i64 (i1:Int)) (.int .i64 E1) (.int .i64 o1) (.int .i64 b1) (.int .i64 x1)).put7 0 rfl (.int .i64 op) (.int .i64 nn) (.string s1) (.slice p pl pc) (.slice q ql qc) (.bool oo) (.slice ka kl kc));rw [HQ.out] at hst;have hdd:Dd _ _ _ _:=hst;have hxa:(x1==0)=false:=(by have h2:=hdd.live;dsimp only at h2;simpa using h2);have HD:=Lib.hid hdd;clear hst hdd;have f:=HF.out.facts;dsimp only [Fs,Nes,List.map] at f;unfold put6 put7 at f;clear hb))
  go_region
  go_wp2_with fail
  refine bodyPost_ret (v:= .tuple #[.agg #[.slice a1 T1.length cap1,.int .i64 (i1:Int),.int .i64 E1,.int .i64 o1,.int .i64 b1,.int .i64 x1],.agg #[.int .i64 op,.int .i64 nn,.string s1,.slice p pl pc,.slice q ql qc,.bool oo,.slice ka kl kc]]) (by simp [results,Tryz.results59,go_sem,f]) rfl ?_
  exact sres_of (S:=⟨a1,cap1,T1,i1,E1,o1,b1,x1⟩) (hd:=⟨op,nn,s1,p,pl,pc,q,ql,qc,oo,ka,kl,kc⟩) ((HF.out.put6 3 rfl (.slice a1 T1.length cap1) (.int .i64 (i1:Int)) (.int .i64 E1) (.int .i64 o1) (.int .i64 b1) (.int .i64 x1)).put7 2 rfl (.int .i64 op) (.int .i64 nn) (.string s1) (.slice p pl pc) (.slice q ql qc) (.bool oo) (.slice ka kl kc)).drew.bl (r:=R) (by rw [HRR.out];exact HD.out) (fun x K e=>by rw [HRR.out] at e;cases e)
 |ok x M=>
  rw [hq] at hR
  have HCN:=Lib.hid (hcnt x M hq)
  have HQ:=Lib.hid hq
  obtain ⟨dv,hdv⟩:∃dv,deep x=dv:=⟨_,rfl⟩
  have HDV:=Lib.hid hdv
  dsimp only [Res.bind] at hR
  rw [hdv] at hR
  clear hq hcnt hdv
  by_cases h16:16<dv
  ·rw [if_pos h16] at hR
   have HRR:=Lib.hid hR.symm
   have hgt:decide (16<dv)=true:=by simpa using h16
   clear hR
   go_enter Tryz.func59,Tryz.ntmps59
   go_wp2_with (first
    |(go_at_call 54;refine (peek_as _ ⟨a0,cap0,T0,i0,E0,o0,b0,x0⟩ k n at_ tx (HSW.out HF.out.bl) HT).mono ?_;rintro e w4 ⟨rfl,hb⟩;replace HF:=Lib.hid (HF.out.call hb);replace HF:=Lib.hid (HF.out.new_ #[.int .i64 k,.int .i64 n,.string tx,.int .i64 at_] 97 (n:=w4.heap.size) (rfl));clear f;have f:=HF.out.facts;dsimp only [Fs,Nes,List.map] at f;clear hb)
    |(go_at_call 100;refine (HLV _ (Lib.hid HF.out.bl)).out.mono ?_;rintro e w5 ⟨hb,S1,hd1,rfl,hst,hx⟩;have HX:=Lib.hid (fun x K e=>XF.of (hx x K e) HF.out HF.out.size);clear hx;obtain ⟨a1,cap1,T1,i1,E1,o1,b1,x1⟩:=S1;obtain ⟨op,nn,s1,p,pl,pc,q,ql,qc,oo,ka,kl,kc⟩:=hd1;unfold St.v Hd.agg;dsimp only;replace HF:=Lib.hid (HF.out.call hb);clear f;have f1:=HF.out.facts;dsimp only [Fs,Nes,List.map] at f1;replace HF:=Lib.hid (HF.out.new_ #[.int .i64 0,.int .i64 0,.string ⟨#[]⟩,.slice none 0 0,.slice none 0 0,.bool false,.slice none 0 0] 35 (n:=w5.heap.size) (rfl));have f2:=HF.out.facts;dsimp only [Fs,Nes,List.map] at f2;replace HF:=Lib.hid (by have t:=HF.out.put6 4 rfl (.slice a1 T1.length cap1) (.int .i64 (i1:Int)) (.int .i64 E1) (.int .i64 o1) (.int .i64 b1) (.int .i64 x1);simp only [List.set_cons_succ,List.set_cons_zero] at t;exact t);have f3:=HF.out.facts;dsimp only [Fs,Nes,List.map] at f3;unfold put6 at f3;replace HF:=Lib.hid (by have t:=HF.out.put7 0 rfl (.int .i64 op) (.int .i64 nn) (.string s1) (.slice p pl pc) (.slice q ql qc) (.bool oo) (.slice ka kl kc);simp only [List.set_cons_zero] at t;exact t);replace HX:=Lib.hid (fun x K e=>(((HX.out x K e).new_ #[.int .i64 0,.int .i64 0,.string ⟨#[]⟩,.slice none 0 0,.slice none 0 0,.bool false,.slice none 0 0] 35 (n:=w5.heap.size) rfl).put6 4 rfl (.slice a1 T1.length cap1) (.int .i64 (i1:Int)) (.int .i64 E1) (.int .i64 o1) (.int .i64 b1) (.int .i64 x1)).put7 0 rfl (.int .i64 op) (.int .i64 nn) (.string s1) (.slice p pl pc) (.slice q ql qc) (.bool oo) (.slice ka kl kc));rw [HQ.out] at hst;have hsv:Sv _ _ _:=hst;have hxa:(x1==0)=true:=(by have h2:=hsv.err;dsimp only at h2;simpa using h2);have HS:=Lib.hid hsv;clear hst hsv;have f:=HF.out.facts;dsimp only [Fs,Nes,List.map] at f;unfold put6 put7 at f;clear hb)
    |(go_at_call 32;refine (sdepth_as _ ⟨op,nn,s1,p,pl,pc,q,ql,qc,oo,ka,kl,kc⟩ x dv ((HX.out x M HQ.out).less (Q:=fun _=>True) fun _ _ _=>trivial).xw HCN.out HDV).mono ?_;rintro e w6 ⟨rfl,hb⟩;replace HF:=Lib.hid (HF.out.call hb);replace HX:=Lib.hid (fun x K e=>(HX.out x K e).call hb);clear f f1 f2 f3;have f:=HF.out.facts;dsimp only [Fs,Nes,List.map] at f;clear hb;obtain ⟨a2,cap2,T2,i2,E2,o2,b2,x2,hn2⟩:=(St.fail ⟨a1,cap1,T1,i1,E1,o1,b1,x1⟩ ⟨⟨k,n,tx.toList⟩,at_⟩ 22).get;have HN2:=Lib.hid hn2;clear hn2)
    |(go_at_call 55;refine (sfail_as _ ⟨a1,cap1,T1,i1,E1,o1,b1,x1⟩ ⟨a2,cap2,T2,i2,E2,o2,b2,x2⟩ k n tx at_ 22 HN2).mono ?_;rintro e w7 ⟨rfl,hb⟩;unfold St.v;dsimp only;replace HF:=Lib.hid (HF.out.call hb);clear f;have f1:=HF.out.facts;dsimp only [Fs,Nes,List.map] at f1;replace HF:=Lib.hid (by have t:=HF.out.put6 4 rfl (.slice a2 T2.length cap2) (.int .i64 (i2:Int)) (.int .i64 E2) (.int .i64 o2) (.int .i64 b2) (.int .i64 x2);simp only [List.set_cons_succ,List.set_cons_zero] at t;exact t);have f:=HF.out.facts;dsimp only [Fs,Nes,List.map] at f;unfold put6 at f;clear hb))
   have hD:=HS.out.fail ⟨⟨k,n,tx.toList⟩,at_⟩ 22 (by decide)
   rw [HN2.out] at hD
   go_region
   go_wp2_with fail
   refine bodyPost_ret (v:= .tuple #[.agg #[.slice a2 T2.length cap2,.int .i64 (i2:Int),.int .i64 E2,.int .i64 o2,.int .i64 b2,.int .i64 x2],.agg #[.int .i64 op,.int .i64 nn,.string s1,.slice p pl pc,.slice q ql qc,.bool oo,.slice ka kl kc]]) (by simp [results,Tryz.results59,go_sem,f]) rfl ?_
   exact sres_of (S:=⟨a2,cap2,T2,i2,E2,o2,b2,x2⟩) (hd:=⟨op,nn,s1,p,pl,pc,q,ql,qc,oo,ka,kl,kc⟩) ((HF.out.put6 3 rfl (.slice a2 T2.length cap2) (.int .i64 (i2:Int)) (.int .i64 E2) (.int .i64 o2) (.int .i64 b2) (.int .i64 x2)).put7 2 rfl (.int .i64 op) (.int .i64 nn) (.string s1) (.slice p pl pc) (.slice q ql qc) (.bool oo) (.slice ka kl kc)).drew.bl (r:=R) (by rw [HRR.out];exact hD) (fun x K e=>by rw [HRR.out] at e;cases e)
  ·rw [if_neg h16] at hR
   have HRR:=Lib.hid hR.symm
   have hgt:decide (16<dv)=false:=by simpa using h16
   clear hR
   go_enter Tryz.func59,Tryz.ntmps59
   go_wp2_with (first
    |(go_at_call 54;refine (peek_as _ ⟨a0,cap0,T0,i0,E0,o0,b0,x0⟩ k n at_ tx (HSW.out HF.out.bl) HT).mono ?_;rintro e w4 ⟨rfl,hb⟩;replace HF:=Lib.hid (HF.out.call hb);replace HF:=Lib.hid (HF.out.new_ #[.int .i64 k,.int .i64 n,.string tx,.int .i64 at_] 97 (n:=w4.heap.size) (rfl));clear f;have f:=HF.out.facts;dsimp only [Fs,Nes,List.map] at f;clear hb)
    |(go_at_call 100;refine (HLV _ (Lib.hid HF.out.bl)).out.mono ?_;rintro e w5 ⟨hb,S1,hd1,rfl,hst,hx⟩;have HX:=Lib.hid (fun x K e=>XF.of (hx x K e) HF.out HF.out.size);clear hx;obtain ⟨a1,cap1,T1,i1,E1,o1,b1,x1⟩:=S1;obtain ⟨op,nn,s1,p,pl,pc,q,ql,qc,oo,ka,kl,kc⟩:=hd1;unfold St.v Hd.agg;dsimp only;replace HF:=Lib.hid (HF.out.call hb);clear f;have f1:=HF.out.facts;dsimp only [Fs,Nes,List.map] at f1;replace HF:=Lib.hid (HF.out.new_ #[.int .i64 0,.int .i64 0,.string ⟨#[]⟩,.slice none 0 0,.slice none 0 0,.bool false,.slice none 0 0] 35 (n:=w5.heap.size) (rfl));have f2:=HF.out.facts;dsimp only [Fs,Nes,List.map] at f2;replace HF:=Lib.hid (by have t:=HF.out.put6 4 rfl (.slice a1 T1.length cap1) (.int .i64 (i1:Int)) (.int .i64 E1) (.int .i64 o1) (.int .i64 b1) (.int .i64 x1);simp only [List.set_cons_succ,List.set_cons_zero] at t;exact t);have f3:=HF.out.facts;dsimp only [Fs,Nes,List.map] at f3;unfold put6 at f3;replace HF:=Lib.hid (by have t:=HF.out.put7 0 rfl (.int .i64 op) (.int .i64 nn) (.string s1) (.slice p pl pc) (.slice q ql qc) (.bool oo) (.slice ka kl kc);simp only [List.set_cons_zero] at t;exact t);replace HX:=Lib.hid (fun x K e=>(((HX.out x K e).new_ #[.int .i64 0,.int .i64 0,.string ⟨#[]⟩,.slice none 0 0,.slice none 0 0,.bool false,.slice none 0 0] 35 (n:=w5.heap.size) rfl).put6 4 rfl (.slice a1 T1.length cap1) (.int .i64 (i1:Int)) (.int .i64 E1) (.int .i64 o1) (.int .i64 b1) (.int .i64 x1)).put7 0 rfl (.int .i64 op) (.int .i64 nn) (.string s1) (.slice p pl pc) (.slice q ql qc) (.bool oo) (.slice ka kl kc));rw [HQ.out] at hst;have hsv:Sv _ _ _:=hst;have hxa:(x1==0)=true:=(by have h2:=hsv.err;dsimp only at h2;simpa using h2);have HS:=Lib.hid hsv;clear hst hsv;have f:=HF.out.facts;dsimp only [Fs,Nes,List.map] at f;unfold put6 put7 at f;clear hb)
    |(go_at_call 32;refine (sdepth_as _ ⟨op,nn,s1,p,pl,pc,q,ql,qc,oo,ka,kl,kc⟩ x dv ((HX.out x M HQ.out).less (Q:=fun _=>True) fun _ _ _=>trivial).xw HCN.out HDV).mono ?_;rintro e w6 ⟨rfl,hb⟩;replace HF:=Lib.hid (HF.out.call hb);replace HX:=Lib.hid (fun x K e=>(HX.out x K e).call hb);clear f f1 f2 f3;have f:=HF.out.facts;dsimp only [Fs,Nes,List.map] at f;clear hb))
   go_region
   go_wp2_with fail
   refine bodyPost_ret (v:= .tuple #[.agg #[.slice a1 T1.length cap1,.int .i64 (i1:Int),.int .i64 E1,.int .i64 o1,.int .i64 b1,.int .i64 x1],.agg #[.int .i64 op,.int .i64 nn,.string s1,.slice p pl pc,.slice q ql qc,.bool oo,.slice ka kl kc]]) (by simp [results,Tryz.results59,go_sem,f]) rfl ?_
   exact sres_of (S:=⟨a1,cap1,T1,i1,E1,o1,b1,x1⟩) (hd:=⟨op,nn,s1,p,pl,pc,q,ql,qc,oo,ka,kl,kc⟩) ((HF.out.put6 3 rfl (.slice a1 T1.length cap1) (.int .i64 (i1:Int)) (.int .i64 E1) (.int .i64 o1) (.int .i64 b1) (.int .i64 x1)).put7 2 rfl (.int .i64 op) (.int .i64 nn) (.string s1) (.slice p pl pc) (.slice q ql qc) (.bool oo) (.slice ka kl kc)).drew.bl (r:=R) (by rw [HRR.out];exact HS.out) (fun y K e=>by rw [HRR.out] at e;cases e;exact ((((HX.out x M HQ.out).put6 3 rfl (.slice a1 T1.length cap1) (.int .i64 (i1:Int)) (.int .i64 E1) (.int .i64 o1) (.int .i64 b1) (.int .i64 x1)).put7 2 rfl (.int .i64 op) (.int .i64 nn) (.string s1) (.slice p pl pc) (.slice q ql qc) (.bool oo) (.slice ka kl kc)).call (Below.refl _ _).drew).less fun b _ hb=>hb.1)
end Go.Proofs.YtkfihhagcimcmaaGreatDoor.Ps
namespace Go.Proofs.YtkfihhagcimcmaaGreatDoor.Ps
open Go.RowKit
open Lx (Tok)
set_option maxRecDepth 100000 in
set_option maxHeartbeats 16000000 in
theorem slevel_unit (w:World) (s:St) (R:Res Ex) (h0:s.err=0∧s.bad=0) (hi:s.i≤s.T.length) (hu:∀W,Below w.heap.size w W→Calls Tryz.prog 144 #[s.v] W (SRes (VX W.heap.size) W s R)):Calls Tryz.prog 100 #[s.v,.int .i64 5] w (SRes (VX w.heap.size) w s R):=by
 have hS:=Sv.refl h0 hi
 obtain ⟨a0,cap0,T0,i0,E0,o0,b0,x0,hs0⟩:=s.get
 have HS0:=Lib.hid hs0
 have HLV:∀W,Hid (Below w.heap.size w W)→Hid (Calls Tryz.prog 144 #[.agg #[.slice a0 T0.length cap0,.int .i64 (i0:Int),.int .i64 E0,.int .i64 o0,.int .i64 b0,.int .i64 x0]] W (LevQ s s R W)):=fun W hW=>Lib.hid (by
  have h6:=(hu W hW.out).mono fun e w' hq=>LevQ.of hS hq
  rw [show s.v= .agg #[.slice a0 T0.length cap0,.int .i64 (i0:Int),.int .i64 E0,.int .i64 o0,.int .i64 b0,.int .i64 x0] by rw [hs0];rfl] at h6
  exact h6)
 rw [show s.v= .agg #[.slice a0 T0.length cap0,.int .i64 (i0:Int),.int .i64 E0,.int .i64 o0,.int .i64 b0,.int .i64 x0] by rw [hs0];rfl]
 have HF:=Lib.hid (Fr.start3 w #[.slice a0 T0.length cap0,.int .i64 (i0:Int),.int .i64 E0,.int .i64 o0,.int .i64 b0,.int .i64 x0] #[.slice none 0 0,.int .i64 0,.int .i64 0,.int .i64 0,.int .i64 0,.int .i64 0] #[.int .i64 0,.int .i64 0,.string ⟨#[]⟩,.slice none 0 0,.slice none 0 0,.bool false,.slice none 0 0] 95 95 35)
 have f:=HF.out.facts;dsimp only [Fs,Nes,List.map] at f
 clear hs0 hu hS h0 hi
 go_enter Tryz.func100,Tryz.ntmps100
 go_wp2_with (go_at_call 144;refine (HLV _ (Lib.hid HF.out.bl)).out.mono ?_;rintro e w4 ⟨hb,S1,hd1,rfl,hst,hx⟩;have HX:=Lib.hid (fun x K e=>XF.of (hx x K e) HF.out HF.out.size);have HST:=Lib.hid hst;clear hx hst;obtain ⟨a1,cap1,T1,i1,E1,o1,b1,x1⟩:=S1;obtain ⟨op,nn,s1,p,pl,pc,q,ql,qc,oo,ka,kl,kc⟩:=hd1;unfold St.v Hd.agg;dsimp only;replace HF:=Lib.hid (HF.out.call hb);clear f;have f:=HF.out.facts;dsimp only [Fs,Nes,List.map] at f;clear hb)
 refine bodyPost_ret (v:= .tuple #[.agg #[.slice a1 T1.length cap1,.int .i64 (i1:Int),.int .i64 E1,.int .i64 o1,.int .i64 b1,.int .i64 x1],.agg #[.int .i64 op,.int .i64 nn,.string s1,.slice p pl pc,.slice q ql qc,.bool oo,.slice ka kl kc]]) (by simp [results,Tryz.results100,go_sem,f]) rfl ?_
 exact sres_of (S:=⟨a1,cap1,T1,i1,E1,o1,b1,x1⟩) (hd:=⟨op,nn,s1,p,pl,pc,q,ql,qc,oo,ka,kl,kc⟩) ((HF.out.put6 1 rfl (.slice a1 T1.length cap1) (.int .i64 (i1:Int)) (.int .i64 E1) (.int .i64 o1) (.int .i64 b1) (.int .i64 x1)).put7 0 rfl (.int .i64 op) (.int .i64 nn) (.string s1) (.slice p pl pc) (.slice q ql qc) (.bool oo) (.slice ka kl kc)).bl HST.out fun x K e=>(((HX.out x K e).put6 1 rfl (.slice a1 T1.length cap1) (.int .i64 (i1:Int)) (.int .i64 E1) (.int .i64 o1) (.int .i64 b1) (.int .i64 x1)).put7 0 rfl (.int .i64 op) (.int .i64 nn) (.string s1) (.slice p pl pc) (.slice q ql qc) (.bool oo) (.slice ka kl kc)).less fun b _ hb=>hb.1
theorem slv_any:∀(f n:Nat) (W:World) (s:St),1≤n→n≤5→0≤s.o∧s.o≤16→6*s.L.length+(5-n)<f→SW W s→s.err=0∧s.bad=0→s.i≤s.T.length→Calls Tryz.prog 100 #[s.v,.int .i64 (n:Int)] W (SRes (VX W.heap.size) W s (lv s.E f n s.o s.L))
 |0,_,_,_,_,_,_,h,_,_,_=>absurd h (Nat.not_lt_zero _)
 |f+1,n,W,s,h1,h5,ho,hf,hS,h0,hi=>by
  have ask:∀m,1≤m→m≤5→n<m→∀(W:World) (S:St) (M:List Tok),SW W S→Sv s S M→M.length≤s.L.length→Calls Tryz.prog 100 #[S.v,.int .i64 (m:Int)] W (SRes (VX W.heap.size) W S (lv s.E f m s.o M)):=fun m hm1 hm5 hnm W S M hW hSv hM=>by
   have e1:S.E=s.E:=hSv.kin.E
   have e2:S.o=s.o:=by rw [hSv.eq]
   have h6:=slv_any f m W S hm1 hm5 (by rw [e2];exact ho) (by rw [hSv.L];omega) hW ⟨hSv.err,by rw [hSv.eq];exact hSv.ok.2⟩ (by have:=hSv.i;rw [hSv.kin.T];exact this)
   rw [e1,e2,hSv.L] at h6
   exact h6
  have n5:n=1∨n=2∨n=3∨n=4∨n=5:=by omega
  rcases n5 with rfl|rfl|rfl|rfl|rfl
  ·exact slevel_kid1 (lv s.E f 2 s.o) W s hS h0 hi (fun L=>lv_fits s.E f 2 s.o L) (ask 2 (by omega) (by omega) (by omega))
  ·exact slevel_kid2 (lv s.E f 3 s.o) W s hS h0 hi (fun L=>lv_fits s.E f 3 s.o L) (ask 3 (by omega) (by omega) (by omega))
  ·exact slevel_bin3 (lv s.E f 4 s.o) W s hS h0 hi (fun L=>lv_fits s.E f 4 s.o L) (ask 4 (by omega) (by omega) (by omega))
  ·exact slevel_bin4 (lv s.E f 5 s.o) W s hS h0 hi (fun L=>lv_fits s.E f 5 s.o L) (ask 5 (by omega) (by omega) (by omega))
  ·refine slevel_unit W s _ h0 hi fun W2 hW=>sunit_any (fun o L=>lv s.E f 1 o L) W2 s (hS.below hW) h0 hi ho (fun o L=>lv_fits s.E f 1 o L) fun W3 S hW3 hok hiS hoS ho16 hE hL=>?_
   have h6:=slv_any f 1 W3 S (by omega) (by omega) ⟨by omega,ho16⟩ (by omega) hW3 hok hiS
   rw [hE] at h6
   exact h6
theorem swhole_live (w:World) (s:St) (h:SW w s) (h0:s.err=0∧s.bad=0) (hi:s.i≤s.T.length) (ho:s.o=0):Calls Tryz.prog 59 #[s.v] w (SRes (VX w.heap.size) w s (wholeM s.E s.L)):=by
 refine swhole_any w s (lv s.E (6*s.L.length+6) 1 0 s.L) h h0 hi (fun x M e=>?_) fun W hW=>?_
 ·have h1:=(lv_fits _ _ _ _ _ _ _ e).2
  have h2:=h.len
  have h3:s.L.length≤s.T.length:=by unfold St.L;rw [List.length_drop];omega
  omega
 ·have h6:=slv_any (6*s.L.length+6) 1 W s (by omega) (by omega) (by omega) (by omega) (h.below hW) h0 hi
  rw [ho] at h6
  exact h6
set_option maxRecDepth 100000 in
set_option maxHeartbeats 16000000 in
theorem swhole_dead (w:World) (s:St) (h:SW w s) (he:s.err≠0):Calls Tryz.prog 59 #[s.v] w (DeadP s w):=by
 obtain ⟨k,n,tx,at_,ht⟩:=s.pk_get
 have HT:=Lib.hid ht
 clear ht
 have H:=Lib.hid h
 have HE:=Lib.hid he
 clear h he
 obtain ⟨a0,cap0,T0,i0,E0,o0,b0,x0⟩:=s
 have hx0:(x0==0)=false:=by simpa using HE.out
 have HF:=Lib.hid (Fr.start3 w #[.slice a0 T0.length cap0,.int .i64 (i0:Int),.int .i64 E0,.int .i64 o0,.int .i64 b0,.int .i64 x0] #[.slice none 0 0,.int .i64 0,.int .i64 0,.int .i64 0,.int .i64 0,.int .i64 0] #[.int .i64 0,.int .i64 0,.string ⟨#[]⟩,.slice none 0 0,.slice none 0 0,.bool false,.slice none 0 0] 95 95 35)
 have f:=HF.out.facts;dsimp only [Fs,Nes,List.map] at f
 unfold St.v
 dsimp only
 go_enter Tryz.func59,Tryz.ntmps59
 go_wp2_with (first
  |(go_at_call 54;refine (peek_as _ ⟨a0,cap0,T0,i0,E0,o0,b0,x0⟩ k n at_ tx (H.out.below HF.out.bl) HT).mono ?_;rintro e w4 ⟨rfl,hb⟩;replace HF:=Lib.hid (HF.out.call hb);replace HF:=Lib.hid (HF.out.new_ #[.int .i64 k,.int .i64 n,.string tx,.int .i64 at_] 97 (n:=w4.heap.size) (rfl));clear f;have f:=HF.out.facts;dsimp only [Fs,Nes,List.map] at f;clear hb)
  |(go_at_call 100;refine (slevel_dead1 _ ⟨a0,cap0,T0,i0,E0,o0,b0,x0⟩ (H.out.below HF.out.bl) HE.out).mono ?_;rintro e w5 ⟨hb,⟨op,nn,s1,p,pl,pc,q,ql,qc,oo,ka,kl,kc⟩,rfl⟩;unfold Hd.agg St.v;dsimp only;replace HF:=Lib.hid (HF.out.call hb);clear f;have f1:=HF.out.facts;dsimp only [Fs,Nes,List.map] at f1;replace HF:=Lib.hid (HF.out.new_ #[.int .i64 0,.int .i64 0,.string ⟨#[]⟩,.slice none 0 0,.slice none 0 0,.bool false,.slice none 0 0] 35 (n:=w5.heap.size) (rfl));have f2:=HF.out.facts;dsimp only [Fs,Nes,List.map] at f2;replace HF:=Lib.hid (by have t:=HF.out.put6 4 rfl (.slice a0 T0.length cap0) (.int .i64 (i0:Int)) (.int .i64 E0) (.int .i64 o0) (.int .i64 b0) (.int .i64 x0);simp only [List.set_cons_succ,List.set_cons_zero] at t;exact t);have f3:=HF.out.facts;dsimp only [Fs,Nes,List.map] at f3;unfold put6 at f3;replace HF:=Lib.hid (by have t:=HF.out.put7 0 rfl (.int .i64 op) (.int .i64 nn) (.string s1) (.slice p pl pc) (.slice q ql qc) (.bool oo) (.slice ka kl kc);simp only [List.set_cons_zero] at t;exact t);have f:=HF.out.facts;dsimp only [Fs,Nes,List.map] at f;unfold put6 put7 at f;clear hb))
 go_region
 go_wp2_with fail
 exact bodyPost_ret (v:= .tuple #[.agg #[.slice a0 T0.length cap0,.int .i64 (i0:Int),.int .i64 E0,.int .i64 o0,.int .i64 b0,.int .i64 x0],.agg #[.int .i64 op,.int .i64 nn,.string s1,.slice p pl pc,.slice q ql qc,.bool oo,.slice ka kl kc]]) (by simp [results,Tryz.results59,go_sem,f]) rfl ⟨((HF.out.put6 3 rfl (.slice a0 T0.length cap0) (.int .i64 (i0:Int)) (.int .i64 E0) (.int .i64 o0) (.int .i64 b0) (.int .i64 x0)).put7 2 rfl (.int .i64 op) (.int .i64 nn) (.string s1) (.slice p pl pc) (.slice q ql qc) (.bool oo) (.slice ka kl kc)).drew.bl,⟨op,nn,s1,p,pl,pc,q,ql,qc,oo,ka,kl,kc⟩,rfl⟩
theorem whole_q {s S:St} {w:World} {pre:Res Unit} (hp:Stt s S pre) (hS:SW w S) (ho:s.o=0):Calls Tryz.prog 59 #[S.v] w (LevQ s S (pre.bind fun _ M=>wholeM s.E M) w):=by
 cases pre with
 |ok u M=>
  have h2:Sv s S M:=hp
  have e2:S.o=s.o:=by rw [h2.eq]
  have h6:=swhole_live w S hS ⟨h2.err,by rw [h2.eq];exact h2.ok.2⟩ (by have:=h2.i;rw [h2.kin.T];exact this) (by rw [e2,ho])
  rw [h2.kin.E,h2.L] at h6
  exact h6.mono fun e w' hq=>LevQ.of h2 hq
 |bad a x=>
  have h2:Dd s S a x:=hp
  refine (swhole_dead w S hS h2.live).mono ?_
  rintro e w' ⟨hb,h,he⟩
  exact ⟨hb,S,h,he,hp,fun x M e=>by cases e⟩
end Go.Proofs.YtkfihhagcimcmaaGreatDoor.Ps
