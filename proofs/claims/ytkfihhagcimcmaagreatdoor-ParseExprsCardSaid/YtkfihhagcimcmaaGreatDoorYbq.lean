/- Qqz -/
import Derived.Test.YtkfihhagcimcmaaGreatDoorChecked
import Derived.Test.YtkfihhagcimcmaaGreatDoorProg
import Derived.Test.YtkfihhagcimcmaaGreatDoorY1
import Derived.Test.YtkfihhagcimcmaaGreatDoorYbj
import Derived.Test.YtkfihhagcimcmaaGreatDoorYbp
namespace Go.Proofs.YtkfihhagcimcmaaGreatDoor.Ps
open Go.RowKit
open Lx (Tok bs)
set_option maxRecDepth 100000 in
set_option maxHeartbeats 16000000 in
theorem sunit_brace (join:Int→List Tok→Res Ex) (w:World) (s:St) (h:SW w s) (h0:s.err=0∧s.bad=0) (hi:s.i≤s.T.length) (ho:0≤s.o∧s.o≤16) (hb:isB [123] s.L=true) (hfit:∀o L,Fits cnt L (join o L)) (ask:∀(W:World) (S:St),SW W S→S.err=0∧S.bad=0→S.i≤S.T.length→S.o=s.o+1→S.o≤16→S.E=s.E→S.L.length<s.L.length→Calls Tryz.prog 100 #[S.v,.int .i64 1] W (SRes (VX W.heap.size) W S (join S.o S.L))):Calls Tryz.prog 144 #[s.v] w (SRes (VX w.heap.size) w s (unitM join s.E s.o s.L)):=by
 obtain ⟨R,hR⟩:∃R,unitM join s.E s.o s.L=R:=⟨_,rfl⟩
 have hBb:isB [123] s.L=true:=hb
 have hkk:(pk s.E s.L).x.k=4:=isB_4 hb
 have hB45:isB [45] s.L=false:=isB_ne hb (by decide)
 have hBg:isB [62,61] s.L=false:=isB_ne hb (by decide)
 have hBl:isB [60,61] s.L=false:=isB_ne hb (by decide)
 have hBp:isB [40] s.L=false:=isB_ne hb (by decide)
 have HU:Hid (R=brM (fun o L=>fieldsM (join o) s.E L) s.E [125] s.o s.L):=Lib.hid (by rw [←hR];unfold unitM;simp [hkk,hB45,hBg,hBl,hBp,hBb])
 rw [hR]
 have H:=Lib.hid h
 have hS:=Sv.refl h0 hi
 obtain ⟨k,n,tx,at_,htk⟩:=s.pk_get
 have hke:(pk s.E s.L).x.k=k:=by show s.pk.x.k=k;rw [htk]
 have hkv:k=4:=by rw [←hke];exact hkk
 have hk1:(k==1)=false:=by rw [hkv];rfl
 have hk2:(k==2)=false:=by rw [hkv];rfl
 have hk3:(k==3)=false:=by rw [hkv];rfl
 have hk2n:(k !=2)=true:=by rw [hkv];rfl
 have q45:isR s ⟨#[45]⟩=false:=by rw [isR_of h0.1];exact hB45
 have qg:isR s ⟨#[62,61]⟩=false:=by rw [isR_of h0.1];exact hBg
 have ql:isR s ⟨#[60,61]⟩=false:=by rw [isR_of h0.1];exact hBl
 have qp:isR s ⟨#[40]⟩=false:=by rw [isR_of h0.1];exact hBp
 have qb:isR s ⟨#[123]⟩=true:=by rw [isR_of h0.1];exact hBb
 have HT:=Lib.hid htk
 have HC:∀W,Hid (Below w.heap.size w W)→Hid (Calls Tryz.prog 167 #[s.v] W (LevQ s s R W)):=fun W hW=>Lib.hid (by
  rw [HU.out]
  exact (sfields_any join W s (H.out.below hW.out) h0 hi ho hb hfit ask).mono fun e w' hq=>LevQ.of hS hq)
 have hx0:(s.err !=0)=false:=by simpa using h0.1
 have HI:=Lib.hid hi
 have H00:=Lib.hid h0
 have HSV:=Lib.hid hS
 clear hR hS htk hke h0 hi h hkv
 clear hB45 hBg hBl hBp hBb hkk
 obtain ⟨a0,cap0,T0,i0,E0,o0,b0,x0,hs0⟩:=s.get
 have HS0:=Lib.hid hs0
 rw [hs0] at q45
 rw [hs0] at qg
 rw [hs0] at ql
 rw [hs0] at qp
 rw [hs0] at qb
 have hx0:(x0 !=0)=false:=by rw [hs0] at hx0;exact hx0
 have HT:Hid ((⟨a0,cap0,T0,i0,E0,o0,b0,x0⟩:St).pk=⟨⟨k,n,tx.toList⟩,at_⟩):=Lib.hid (by rw [←HS0.out];exact HT.out)
 have HSW:Hid (∀{W:World},Below w.heap.size w W→SW W ⟨a0,cap0,T0,i0,E0,o0,b0,x0⟩):=Lib.hid fun hW=>by rw [←HS0.out];exact H.out.below hW
 rw [show s.v= .agg #[.slice a0 T0.length cap0,.int .i64 (i0:Int),.int .i64 E0,.int .i64 o0,.int .i64 b0,.int .i64 x0] by rw [hs0];rfl]
 clear hs0
 have HF:=Lib.hid (Fr.start3 w #[.slice a0 T0.length cap0,.int .i64 (i0:Int),.int .i64 E0,.int .i64 o0,.int .i64 b0,.int .i64 x0] #[.slice none 0 0,.int .i64 0,.int .i64 0,.int .i64 0,.int .i64 0,.int .i64 0] #[.int .i64 0,.int .i64 0,.string ⟨#[]⟩,.slice none 0 0,.slice none 0 0,.bool false,.slice none 0 0] 95 95 35)
 have f:=HF.out.facts;dsimp only [Fs,Nes,List.map] at f
 go_enter Tryz.func144,Tryz.ntmps144
 go_wp2_with (first
  |(go_at_call 54;refine (peek_as _ ⟨a0,cap0,T0,i0,E0,o0,b0,x0⟩ k n at_ tx (HSW.out HF.out.bl) HT).mono ?_;rintro e w4 ⟨rfl,hb⟩;replace HF:=Lib.hid (HF.out.call hb);replace HF:=Lib.hid (HF.out.new_ #[.int .i64 k,.int .i64 n,.string tx,.int .i64 at_] 97 (n:=w4.heap.size) (rfl));clear f;have f:=HF.out.facts;dsimp only [Fs,Nes,List.map] at f;clear hb)
  |(go_at_call 99;refine (sis_r _ ⟨a0,cap0,T0,i0,E0,o0,b0,x0⟩ _ (HSW.out HF.out.bl)).mono ?_;rintro e w5 ⟨rfl,hb⟩;replace HF:=Lib.hid (HF.out.call hb);clear f;have f:=HF.out.facts;dsimp only [Fs,Nes,List.map] at f;clear hb)
  |(go_at_call 167;refine (show Calls Tryz.prog 167 #[.agg #[.slice a0 T0.length cap0,.int .i64 (i0:Int),.int .i64 E0,.int .i64 o0,.int .i64 b0,.int .i64 x0]] _ _ from by have:=(HC _ (Lib.hid HF.out.bl)).out;rw [HS0.out] at this;exact this).mono ?_;rintro e w6 ⟨hb,S1,hd1,rfl,hst1,hx1⟩;rw [←HS0.out] at hst1;have HX:=Lib.hid (fun x K e=>XF.of (hx1 x K e) HF.out HF.out.size);have HST:=Lib.hid hst1;clear hx1 hst1;obtain ⟨a1,cap1,T1,i1,E1,o1,b1,x1⟩:=S1;obtain ⟨op,nn,s1,p,pl,pc,q,ql,qc,oo,ka,kl,kc⟩:=hd1;unfold St.v Hd.agg;dsimp only;replace HF:=Lib.hid (HF.out.call hb);clear f;have f:=HF.out.facts;dsimp only [Fs,Nes,List.map] at f;clear hb))
 refine bodyPost_ret (v:= .tuple #[.agg #[.slice a1 T1.length cap1,.int .i64 (i1:Int),.int .i64 E1,.int .i64 o1,.int .i64 b1,.int .i64 x1],.agg #[.int .i64 op,.int .i64 nn,.string s1,.slice p pl pc,.slice q ql qc,.bool oo,.slice ka kl kc]]) (by simp [results,Tryz.results144,go_sem,f]) rfl ?_
 exact sres_of (S:=⟨a1,cap1,T1,i1,E1,o1,b1,x1⟩) (hd:=⟨op,nn,s1,p,pl,pc,q,ql,qc,oo,ka,kl,kc⟩) ((HF.out.put6 2 rfl (.slice a1 T1.length cap1) (.int .i64 (i1:Int)) (.int .i64 E1) (.int .i64 o1) (.int .i64 b1) (.int .i64 x1)).put7 1 rfl (.int .i64 op) (.int .i64 nn) (.string s1) (.slice p pl pc) (.slice q ql qc) (.bool oo) (.slice ka kl kc)).bl HST.out fun x K e=>(((HX.out x K e).put6 2 rfl (.slice a1 T1.length cap1) (.int .i64 (i1:Int)) (.int .i64 E1) (.int .i64 o1) (.int .i64 b1) (.int .i64 x1)).put7 1 rfl (.int .i64 op) (.int .i64 nn) (.string s1) (.slice p pl pc) (.slice q ql qc) (.bool oo) (.slice ka kl kc)).less fun b _ hb=>hb.1
set_option maxRecDepth 100000 in
set_option maxHeartbeats 16000000 in
theorem sunit_name (join:Int→List Tok→Res Ex) (w:World) (s:St) (h:SW w s) (h0:s.err=0∧s.bad=0) (hi:s.i≤s.T.length) (hk:(pk s.E s.L).x.k=2) (hr:Nm.rightL (pk s.E s.L).x.t=true):Calls Tryz.prog 144 #[s.v] w (SRes (VX w.heap.size) w s (unitM join s.E s.o s.L)):=by
 obtain ⟨R,hR⟩:∃R,unitM join s.E s.o s.L=R:=⟨_,rfl⟩
 have hkk:(pk s.E s.L).x.k=2:=hk
 have hB45:isB [45] s.L=false:=isB_k (E:=s.E) (by rw [hk];decide)
 have hBg:isB [62,61] s.L=false:=isB_k (E:=s.E) (by rw [hk];decide)
 have hBl:isB [60,61] s.L=false:=isB_k (E:=s.E) (by rw [hk];decide)
 have hBp:isB [40] s.L=false:=isB_k (E:=s.E) (by rw [hk];decide)
 have hBb:isB [123] s.L=false:=isB_k (E:=s.E) (by rw [hk];decide)
 have HU:Hid (R=(pathF s.E (s.L.length+1) [] s.L).bind fun p L'=> .ok (.mk 9 0 ⟨#[]⟩ p [] false []) L'):=Lib.hid (by rw [←hR];unfold unitM;simp [hkk,hB45,hBg,hBl,hBp,hBb,hr])
 rw [hR]
 have H:=Lib.hid h
 have hS:=Sv.refl h0 hi
 obtain ⟨k,n,tx,at_,htk⟩:=s.pk_get
 have hke:(pk s.E s.L).x.k=k:=by show s.pk.x.k=k;rw [htk]
 have hkv:k=2:=by rw [←hke];exact hkk
 have hk1:(k==1)=false:=by rw [hkv];rfl
 have hk2:(k==2)=true:=by rw [hkv];rfl
 have hk3:(k==3)=false:=by rw [hkv];rfl
 have hk2n:(k !=2)=false:=by rw [hkv];rfl
 have q45:isR s ⟨#[45]⟩=false:=by rw [isR_of h0.1];exact hB45
 have qg:isR s ⟨#[62,61]⟩=false:=by rw [isR_of h0.1];exact hBg
 have ql:isR s ⟨#[60,61]⟩=false:=by rw [isR_of h0.1];exact hBl
 have qp:isR s ⟨#[40]⟩=false:=by rw [isR_of h0.1];exact hBp
 have qb:isR s ⟨#[123]⟩=false:=by rw [isR_of h0.1];exact hBb
 have HT:=Lib.hid htk
 have HTZ:Hid (tx.size≤140737488355328):=Lib.hid (by have:=h.pk_n.2.2;rw [htk] at this;dsimp only at this;rw [←bs_size,Lx.bs_of] at this;omega)
 have HRT:Hid (Nm.rightL tx.toList=true):=Lib.hid (by have h2:=hr;change Nm.rightL s.pk.x.t=_ at h2;rw [htk] at h2;exact h2)
 have hnm:nameB s.L=true:=by
  obtain ⟨t,M,e1,e2⟩:=pk_cons (E:=s.E) (L:=s.L) (by rw [hkk];decide)
  rw [e2] at hr
  rw [e2] at hkk
  rw [e1]
  show (t.x.k==2&&Nm.rightL t.x.t)=true
  rw [hr,hkk];rfl
 have HC:∀W,Hid (Below w.heap.size w W)→Hid (Calls Tryz.prog 168 #[s.v] W (LevQ s s R W)):=fun W hW=>Lib.hid (by
  rw [HU.out]
  exact (spath_any W s (H.out.below hW.out) h0 hi hnm).mono fun e w' hq=>LevQ.of hS hq)
 have hx0:(s.err !=0)=false:=by simpa using h0.1
 have HI:=Lib.hid hi
 have H00:=Lib.hid h0
 have HSV:=Lib.hid hS
 clear hR hS htk hke h0 hi h hkv
 clear hB45 hBg hBl hBp hBb hkk
 obtain ⟨a0,cap0,T0,i0,E0,o0,b0,x0,hs0⟩:=s.get
 have HS0:=Lib.hid hs0
 rw [hs0] at q45
 rw [hs0] at qg
 rw [hs0] at ql
 rw [hs0] at qp
 rw [hs0] at qb
 have hx0:(x0 !=0)=false:=by rw [hs0] at hx0;exact hx0
 have HT:Hid ((⟨a0,cap0,T0,i0,E0,o0,b0,x0⟩:St).pk=⟨⟨k,n,tx.toList⟩,at_⟩):=Lib.hid (by rw [←HS0.out];exact HT.out)
 have HSW:Hid (∀{W:World},Below w.heap.size w W→SW W ⟨a0,cap0,T0,i0,E0,o0,b0,x0⟩):=Lib.hid fun hW=>by rw [←HS0.out];exact H.out.below hW
 rw [show s.v= .agg #[.slice a0 T0.length cap0,.int .i64 (i0:Int),.int .i64 E0,.int .i64 o0,.int .i64 b0,.int .i64 x0] by rw [hs0];rfl]
 clear hs0
 have HF:=Lib.hid (Fr.start3 w #[.slice a0 T0.length cap0,.int .i64 (i0:Int),.int .i64 E0,.int .i64 o0,.int .i64 b0,.int .i64 x0] #[.slice none 0 0,.int .i64 0,.int .i64 0,.int .i64 0,.int .i64 0,.int .i64 0] #[.int .i64 0,.int .i64 0,.string ⟨#[]⟩,.slice none 0 0,.slice none 0 0,.bool false,.slice none 0 0] 95 95 35)
 have f:=HF.out.facts;dsimp only [Fs,Nes,List.map] at f
 go_enter Tryz.func144,Tryz.ntmps144
 go_wp2_with (first
  |(go_at_call 54;refine (peek_as _ ⟨a0,cap0,T0,i0,E0,o0,b0,x0⟩ k n at_ tx (HSW.out HF.out.bl) HT).mono ?_;rintro e w4 ⟨rfl,hb⟩;replace HF:=Lib.hid (HF.out.call hb);replace HF:=Lib.hid (HF.out.new_ #[.int .i64 k,.int .i64 n,.string tx,.int .i64 at_] 97 (n:=w4.heap.size) (rfl));clear f;have f:=HF.out.facts;dsimp only [Fs,Nes,List.map] at f;clear hb)
  |(go_at_call 99;refine (sis_r _ ⟨a0,cap0,T0,i0,E0,o0,b0,x0⟩ _ (HSW.out HF.out.bl)).mono ?_;rintro e w5 ⟨rfl,hb⟩;replace HF:=Lib.hid (HF.out.call hb);clear f;have f:=HF.out.facts;dsimp only [Fs,Nes,List.map] at f;clear hb)
  |(go_at_call 72;refine (Nm.rright_as tx true _ HTZ.out HRT).mono ?_;rintro e w7 ⟨rfl,rfl⟩)
  |(go_at_call 168;refine (show Calls Tryz.prog 168 #[.agg #[.slice a0 T0.length cap0,.int .i64 (i0:Int),.int .i64 E0,.int .i64 o0,.int .i64 b0,.int .i64 x0]] _ _ from by have:=(HC _ (Lib.hid HF.out.bl)).out;rw [HS0.out] at this;exact this).mono ?_;rintro e w6 ⟨hb,S1,hd1,rfl,hst1,hx1⟩;rw [←HS0.out] at hst1;have HX:=Lib.hid (fun x K e=>XF.of (hx1 x K e) HF.out HF.out.size);have HST:=Lib.hid hst1;clear hx1 hst1;obtain ⟨a1,cap1,T1,i1,E1,o1,b1,x1⟩:=S1;obtain ⟨op,nn,s1,p,pl,pc,q,ql,qc,oo,ka,kl,kc⟩:=hd1;unfold St.v Hd.agg;dsimp only;replace HF:=Lib.hid (HF.out.call hb);clear f;have f:=HF.out.facts;dsimp only [Fs,Nes,List.map] at f;clear hb))
 refine bodyPost_ret (v:= .tuple #[.agg #[.slice a1 T1.length cap1,.int .i64 (i1:Int),.int .i64 E1,.int .i64 o1,.int .i64 b1,.int .i64 x1],.agg #[.int .i64 op,.int .i64 nn,.string s1,.slice p pl pc,.slice q ql qc,.bool oo,.slice ka kl kc]]) (by simp [results,Tryz.results144,go_sem,f]) rfl ?_
 exact sres_of (S:=⟨a1,cap1,T1,i1,E1,o1,b1,x1⟩) (hd:=⟨op,nn,s1,p,pl,pc,q,ql,qc,oo,ka,kl,kc⟩) ((HF.out.put6 2 rfl (.slice a1 T1.length cap1) (.int .i64 (i1:Int)) (.int .i64 E1) (.int .i64 o1) (.int .i64 b1) (.int .i64 x1)).put7 1 rfl (.int .i64 op) (.int .i64 nn) (.string s1) (.slice p pl pc) (.slice q ql qc) (.bool oo) (.slice ka kl kc)).bl HST.out fun x K e=>(((HX.out x K e).put6 2 rfl (.slice a1 T1.length cap1) (.int .i64 (i1:Int)) (.int .i64 E1) (.int .i64 o1) (.int .i64 b1) (.int .i64 x1)).put7 1 rfl (.int .i64 op) (.int .i64 nn) (.string s1) (.slice p pl pc) (.slice q ql qc) (.bool oo) (.slice ka kl kc)).less fun b _ hb=>hb.1
set_option maxRecDepth 100000 in
set_option maxHeartbeats 16000000 in
theorem sunit_nowd (join:Int→List Tok→Res Ex) (w:World) (s:St) (h:SW w s) (h0:s.err=0∧s.bad=0) (hi:s.i≤s.T.length) (hk:(pk s.E s.L).x.k=2) (hr:Nm.rightL (pk s.E s.L).x.t=false) (hm:(meanL (pk s.E s.L).x.t).1=0):Calls Tryz.prog 144 #[s.v] w (SRes (VX w.heap.size) w s (unitM join s.E s.o s.L)):=by
 obtain ⟨R,hR⟩:∃R,unitM join s.E s.o s.L=R:=⟨_,rfl⟩
 have hkk:(pk s.E s.L).x.k=2:=hk
 have hB45:isB [45] s.L=false:=isB_k (E:=s.E) (by rw [hk];decide)
 have hBg:isB [62,61] s.L=false:=isB_k (E:=s.E) (by rw [hk];decide)
 have hBl:isB [60,61] s.L=false:=isB_k (E:=s.E) (by rw [hk];decide)
 have hBp:isB [40] s.L=false:=isB_k (E:=s.E) (by rw [hk];decide)
 have hBb:isB [123] s.L=false:=isB_k (E:=s.E) (by rw [hk];decide)
 have HU:Hid (R= .bad s.pk.at_ 21):=Lib.hid (by rw [←hR];unfold unitM;simp [hkk,hB45,hBg,hBl,hBp,hBb,hr];unfold wordM;rw [if_pos hm];rfl)
 rw [hR]
 have H:=Lib.hid h
 have hS:=Sv.refl h0 hi
 obtain ⟨k,n,tx,at_,htk⟩:=s.pk_get
 have hke:(pk s.E s.L).x.k=k:=by show s.pk.x.k=k;rw [htk]
 have hkv:k=2:=by rw [←hke];exact hkk
 have hk1:(k==1)=false:=by rw [hkv];rfl
 have hk2:(k==2)=true:=by rw [hkv];rfl
 have hk3:(k==3)=false:=by rw [hkv];rfl
 have hk2n:(k !=2)=false:=by rw [hkv];rfl
 have q45:isR s ⟨#[45]⟩=false:=by rw [isR_of h0.1];exact hB45
 have qg:isR s ⟨#[62,61]⟩=false:=by rw [isR_of h0.1];exact hBg
 have ql:isR s ⟨#[60,61]⟩=false:=by rw [isR_of h0.1];exact hBl
 have qp:isR s ⟨#[40]⟩=false:=by rw [isR_of h0.1];exact hBp
 have qb:isR s ⟨#[123]⟩=false:=by rw [isR_of h0.1];exact hBb
 have HT:=Lib.hid htk
 have HTZ:Hid (tx.size≤140737488355328):=Lib.hid (by have:=h.pk_n.2.2;rw [htk] at this;dsimp only at this;rw [←bs_size,Lx.bs_of] at this;omega)
 have HRT:Hid (Nm.rightL tx.toList=false):=Lib.hid (by have h2:=hr;change Nm.rightL s.pk.x.t=_ at h2;rw [htk] at h2;exact h2)
 obtain ⟨a1,cap1,T1,i1,E1,o1,b1,x1,hn1⟩:=(St.fail s s.pk 21).get
 have hD:=hS.fail s.pk 21 (by decide)
 rw [hn1] at hD
 have HD:=Lib.hid hD
 rw [htk] at hn1
 have HN1:=Lib.hid hn1
 obtain ⟨wo,hwo⟩:∃x,(meanL tx.toList).1=x:=⟨_,rfl⟩
 obtain ⟨wn,hwn⟩:∃x,(meanL tx.toList).2=x:=⟨_,rfl⟩
 have HWD:Hid (Calls Tryz.prog 169 #[.string tx] w (Ans (lfv wo wn) w)∨True):=Lib.hid (.inr trivial)
 have HW1:=Lib.hid (And.intro hwo hwn)
 have hwz:(wo==0)=true:=by rw [←hwo];have h2:=hm;change (meanL s.pk.x.t).1=0 at h2;rw [htk] at h2;simpa using h2
 clear hD hn1 hwo hwn HWD
 have hx0:(s.err !=0)=false:=by simpa using h0.1
 have HI:=Lib.hid hi
 have H00:=Lib.hid h0
 have HSV:=Lib.hid hS
 clear hR hS htk hke h0 hi h hkv
 clear hB45 hBg hBl hBp hBb hkk
 obtain ⟨a0,cap0,T0,i0,E0,o0,b0,x0,hs0⟩:=s.get
 have HS0:=Lib.hid hs0
 rw [hs0] at q45
 rw [hs0] at qg
 rw [hs0] at ql
 rw [hs0] at qp
 rw [hs0] at qb
 have hx0:(x0 !=0)=false:=by rw [hs0] at hx0;exact hx0
 have HT:Hid ((⟨a0,cap0,T0,i0,E0,o0,b0,x0⟩:St).pk=⟨⟨k,n,tx.toList⟩,at_⟩):=Lib.hid (by rw [←HS0.out];exact HT.out)
 have HSW:Hid (∀{W:World},Below w.heap.size w W→SW W ⟨a0,cap0,T0,i0,E0,o0,b0,x0⟩):=Lib.hid fun hW=>by rw [←HS0.out];exact H.out.below hW
 rw [show s.v= .agg #[.slice a0 T0.length cap0,.int .i64 (i0:Int),.int .i64 E0,.int .i64 o0,.int .i64 b0,.int .i64 x0] by rw [hs0];rfl]
 clear hs0
 have HF:=Lib.hid (Fr.start3 w #[.slice a0 T0.length cap0,.int .i64 (i0:Int),.int .i64 E0,.int .i64 o0,.int .i64 b0,.int .i64 x0] #[.slice none 0 0,.int .i64 0,.int .i64 0,.int .i64 0,.int .i64 0,.int .i64 0] #[.int .i64 0,.int .i64 0,.string ⟨#[]⟩,.slice none 0 0,.slice none 0 0,.bool false,.slice none 0 0] 95 95 35)
 have f:=HF.out.facts;dsimp only [Fs,Nes,List.map] at f
 go_enter Tryz.func144,Tryz.ntmps144
 go_wp2_with (first
  |(go_at_call 54;refine (peek_as _ ⟨a0,cap0,T0,i0,E0,o0,b0,x0⟩ k n at_ tx (HSW.out HF.out.bl) HT).mono ?_;rintro e w4 ⟨rfl,hb⟩;replace HF:=Lib.hid (HF.out.call hb);replace HF:=Lib.hid (HF.out.new_ #[.int .i64 k,.int .i64 n,.string tx,.int .i64 at_] 97 (n:=w4.heap.size) (rfl));clear f;have f:=HF.out.facts;dsimp only [Fs,Nes,List.map] at f;clear hb)
  |(go_at_call 99;refine (sis_r _ ⟨a0,cap0,T0,i0,E0,o0,b0,x0⟩ _ (HSW.out HF.out.bl)).mono ?_;rintro e w5 ⟨rfl,hb⟩;replace HF:=Lib.hid (HF.out.call hb);clear f;have f:=HF.out.facts;dsimp only [Fs,Nes,List.map] at f;clear hb)
  |(go_at_call 72;refine (Nm.rright_as tx false _ HTZ.out HRT).mono ?_;rintro e w7 ⟨rfl,rfl⟩)
  |(go_at_call 169;refine (rword_as tx wo wn _ HW1).mono ?_;rintro e w8 ⟨rfl,hb⟩;replace HF:=Lib.hid (HF.out.call hb);clear f;have f1:=HF.out.facts;dsimp only [Fs,Nes,List.map] at f1;replace HF:=Lib.hid (HF.out.new_ #[.int .i64 wo,.int .i64 wn,.string ⟨#[]⟩,.slice none 0 0,.slice none 0 0,.bool false,.slice none 0 0] 35 (n:=w8.heap.size) (rfl));have f:=HF.out.facts;dsimp only [Fs,Nes,List.map] at f;clear hb)
  |(go_at_call 55;refine (sfail_as _ ⟨a0,cap0,T0,i0,E0,o0,b0,x0⟩ ⟨a1,cap1,T1,i1,E1,o1,b1,x1⟩ k n tx at_ 21 (by rw [←HS0.out];exact HN1)).mono ?_;rintro e w9 ⟨rfl,hb⟩;unfold St.v;dsimp only;replace HF:=Lib.hid (HF.out.call hb);clear f f1;have f:=HF.out.facts;dsimp only [Fs,Nes,List.map] at f;clear hb))
 refine bodyPost_ret (v:= .tuple #[.agg #[.slice a1 T1.length cap1,.int .i64 (i1:Int),.int .i64 E1,.int .i64 o1,.int .i64 b1,.int .i64 x1],.agg #[.int .i64 0,.int .i64 0,.string ⟨#[]⟩,.slice none 0 0,.slice none 0 0,.bool false,.slice none 0 0]]) (by simp [results,Tryz.results144,go_sem,f]) rfl ?_
 refine sres_of (S:=⟨a1,cap1,T1,i1,E1,o1,b1,x1⟩) (hd:=⟨0,0,⟨#[]⟩,none,0,0,none,0,0,false,none,0,0⟩) ((HF.out.put6 3 rfl (.slice a1 T1.length cap1) (.int .i64 (i1:Int)) (.int .i64 E1) (.int .i64 o1) (.int .i64 b1) (.int .i64 x1)).put7 2 rfl (.int .i64 0) (.int .i64 0) (.string ⟨#[]⟩) (.slice none 0 0) (.slice none 0 0) (.bool false) (.slice none 0 0)).bl ?_ fun x K e=>?_
 ·rw [HU.out];exact HD.out
 ·rw [HU.out] at e;cases e
set_option maxRecDepth 100000 in
set_option maxHeartbeats 16000000 in
theorem sunit_none (join:Int→List Tok→Res Ex) (w:World) (s:St) (h:SW w s) (h0:s.err=0∧s.bad=0) (hi:s.i≤s.T.length) (hk:¬(pk s.E s.L).x.k=1∧¬(pk s.E s.L).x.k=2∧¬(pk s.E s.L).x.k=3) (hb:isB [45] s.L=false∧isB [62,61] s.L=false∧isB [60,61] s.L=false∧isB [40] s.L=false∧isB [123] s.L=false):Calls Tryz.prog 144 #[s.v] w (SRes (VX w.heap.size) w s (unitM join s.E s.o s.L)):=by
 obtain ⟨R,hR⟩:∃R,unitM join s.E s.o s.L=R:=⟨_,rfl⟩
 have hB45:isB [45] s.L=false:=hb.1
 have hBg:isB [62,61] s.L=false:=hb.2.1
 have hBl:isB [60,61] s.L=false:=hb.2.2.1
 have hBp:isB [40] s.L=false:=hb.2.2.2.1
 have hBb:isB [123] s.L=false:=hb.2.2.2.2
 have HU:Hid (R= .bad s.pk.at_ 21):=Lib.hid (by rw [←hR];unfold unitM;simp [hk.1,hk.2.1,hk.2.2,hB45,hBg,hBl,hBp,hBb];rfl)
 rw [hR]
 have H:=Lib.hid h
 have hS:=Sv.refl h0 hi
 obtain ⟨k,n,tx,at_,htk⟩:=s.pk_get
 have hke:(pk s.E s.L).x.k=k:=by show s.pk.x.k=k;rw [htk]
 have hk1:(k==1)=false:=by have:=hk.1;rw [hke] at this;simpa using this
 have hk2:(k==2)=false:=by have:=hk.2.1;rw [hke] at this;simpa using this
 have hk3:(k==3)=false:=by have:=hk.2.2;rw [hke] at this;simpa using this
 have hk2n:(k !=2)=true:=by have:=hk.2.1;rw [hke] at this;simpa using this
 have q45:isR s ⟨#[45]⟩=false:=by rw [isR_of h0.1];exact hB45
 have qg:isR s ⟨#[62,61]⟩=false:=by rw [isR_of h0.1];exact hBg
 have ql:isR s ⟨#[60,61]⟩=false:=by rw [isR_of h0.1];exact hBl
 have qp:isR s ⟨#[40]⟩=false:=by rw [isR_of h0.1];exact hBp
 have qb:isR s ⟨#[123]⟩=false:=by rw [isR_of h0.1];exact hBb
 have HT:=Lib.hid htk
 obtain ⟨a1,cap1,T1,i1,E1,o1,b1,x1,hn1⟩:=(St.fail s s.pk 21).get
 have hD:=hS.fail s.pk 21 (by decide)
 rw [hn1] at hD
 have HD:=Lib.hid hD
 rw [htk] at hn1
 have HN1:=Lib.hid hn1
 obtain ⟨wo,hwo⟩:∃x,(meanL tx.toList).1=x:=⟨_,rfl⟩
 obtain ⟨wn,hwn⟩:∃x,(meanL tx.toList).2=x:=⟨_,rfl⟩
 have HWD:Hid (Calls Tryz.prog 169 #[.string tx] w (Ans (lfv wo wn) w)∨True):=Lib.hid (.inr trivial)
 have HW1:=Lib.hid (And.intro hwo hwn)
 clear hD hn1 hwo hwn HWD
 have hx0:(s.err !=0)=false:=by simpa using h0.1
 have HI:=Lib.hid hi
 have H00:=Lib.hid h0
 have HSV:=Lib.hid hS
 clear hR hS htk hke h0 hi h
 clear hB45 hBg hBl hBp hBb hk
 obtain ⟨a0,cap0,T0,i0,E0,o0,b0,x0,hs0⟩:=s.get
 have HS0:=Lib.hid hs0
 rw [hs0] at q45
 rw [hs0] at qg
 rw [hs0] at ql
 rw [hs0] at qp
 rw [hs0] at qb
 have hx0:(x0 !=0)=false:=by rw [hs0] at hx0;exact hx0
 have HT:Hid ((⟨a0,cap0,T0,i0,E0,o0,b0,x0⟩:St).pk=⟨⟨k,n,tx.toList⟩,at_⟩):=Lib.hid (by rw [←HS0.out];exact HT.out)
 have HSW:Hid (∀{W:World},Below w.heap.size w W→SW W ⟨a0,cap0,T0,i0,E0,o0,b0,x0⟩):=Lib.hid fun hW=>by rw [←HS0.out];exact H.out.below hW
 rw [show s.v= .agg #[.slice a0 T0.length cap0,.int .i64 (i0:Int),.int .i64 E0,.int .i64 o0,.int .i64 b0,.int .i64 x0] by rw [hs0];rfl]
 clear hs0
 have HF:=Lib.hid (Fr.start3 w #[.slice a0 T0.length cap0,.int .i64 (i0:Int),.int .i64 E0,.int .i64 o0,.int .i64 b0,.int .i64 x0] #[.slice none 0 0,.int .i64 0,.int .i64 0,.int .i64 0,.int .i64 0,.int .i64 0] #[.int .i64 0,.int .i64 0,.string ⟨#[]⟩,.slice none 0 0,.slice none 0 0,.bool false,.slice none 0 0] 95 95 35)
 have f:=HF.out.facts;dsimp only [Fs,Nes,List.map] at f
 go_enter Tryz.func144,Tryz.ntmps144
 go_wp2_with (first
  |(go_at_call 54;refine (peek_as _ ⟨a0,cap0,T0,i0,E0,o0,b0,x0⟩ k n at_ tx (HSW.out HF.out.bl) HT).mono ?_;rintro e w4 ⟨rfl,hb⟩;replace HF:=Lib.hid (HF.out.call hb);replace HF:=Lib.hid (HF.out.new_ #[.int .i64 k,.int .i64 n,.string tx,.int .i64 at_] 97 (n:=w4.heap.size) (rfl));clear f;have f:=HF.out.facts;dsimp only [Fs,Nes,List.map] at f;clear hb)
  |(go_at_call 99;refine (sis_r _ ⟨a0,cap0,T0,i0,E0,o0,b0,x0⟩ _ (HSW.out HF.out.bl)).mono ?_;rintro e w5 ⟨rfl,hb⟩;replace HF:=Lib.hid (HF.out.call hb);clear f;have f:=HF.out.facts;dsimp only [Fs,Nes,List.map] at f;clear hb)
  |(go_at_call 169;refine (rword_as tx wo wn _ HW1).mono ?_;rintro e w8 ⟨rfl,hb⟩;replace HF:=Lib.hid (HF.out.call hb);clear f;have f1:=HF.out.facts;dsimp only [Fs,Nes,List.map] at f1;replace HF:=Lib.hid (HF.out.new_ #[.int .i64 wo,.int .i64 wn,.string ⟨#[]⟩,.slice none 0 0,.slice none 0 0,.bool false,.slice none 0 0] 35 (n:=w8.heap.size) (rfl));have f:=HF.out.facts;dsimp only [Fs,Nes,List.map] at f;clear hb)
  |(go_at_call 55;refine (sfail_as _ ⟨a0,cap0,T0,i0,E0,o0,b0,x0⟩ ⟨a1,cap1,T1,i1,E1,o1,b1,x1⟩ k n tx at_ 21 (by rw [←HS0.out];exact HN1)).mono ?_;rintro e w9 ⟨rfl,hb⟩;unfold St.v;dsimp only;replace HF:=Lib.hid (HF.out.call hb);clear f f1;have f:=HF.out.facts;dsimp only [Fs,Nes,List.map] at f;clear hb))
 refine bodyPost_ret (v:= .tuple #[.agg #[.slice a1 T1.length cap1,.int .i64 (i1:Int),.int .i64 E1,.int .i64 o1,.int .i64 b1,.int .i64 x1],.agg #[.int .i64 0,.int .i64 0,.string ⟨#[]⟩,.slice none 0 0,.slice none 0 0,.bool false,.slice none 0 0]]) (by simp [results,Tryz.results144,go_sem,f]) rfl ?_
 refine sres_of (S:=⟨a1,cap1,T1,i1,E1,o1,b1,x1⟩) (hd:=⟨0,0,⟨#[]⟩,none,0,0,none,0,0,false,none,0,0⟩) ((HF.out.put6 3 rfl (.slice a1 T1.length cap1) (.int .i64 (i1:Int)) (.int .i64 E1) (.int .i64 o1) (.int .i64 b1) (.int .i64 x1)).put7 2 rfl (.int .i64 0) (.int .i64 0) (.string ⟨#[]⟩) (.slice none 0 0) (.slice none 0 0) (.bool false) (.slice none 0 0)).bl ?_ fun x K e=>?_
 ·rw [HU.out];exact HD.out
 ·rw [HU.out] at e;cases e
set_option maxRecDepth 100000 in
set_option maxHeartbeats 16000000 in
theorem sunit_str (join:Int→List Tok→Res Ex) (w:World) (s:St) (h:SW w s) (h0:s.err=0∧s.bad=0) (hi:s.i≤s.T.length) (hk:(pk s.E s.L).x.k=3):Calls Tryz.prog 144 #[s.v] w (SRes (VX w.heap.size) w s (unitM join s.E s.o s.L)):=by
 obtain ⟨R,hR⟩:∃R,unitM join s.E s.o s.L=R:=⟨_,rfl⟩
 have hkk:(pk s.E s.L).x.k=3:=hk
 have hB45:isB [45] s.L=false:=isB_k (E:=s.E) (by rw [hk];decide)
 have hBg:isB [62,61] s.L=false:=isB_k (E:=s.E) (by rw [hk];decide)
 have hBl:isB [60,61] s.L=false:=isB_k (E:=s.E) (by rw [hk];decide)
 have hBp:isB [40] s.L=false:=isB_k (E:=s.E) (by rw [hk];decide)
 have hBb:isB [123] s.L=false:=isB_k (E:=s.E) (by rw [hk];decide)
 have HU:Hid (R= .ok (.mk 2 0 (bs (pk s.E s.L).x.t) [] [] false []) s.L.tail):=Lib.hid (by rw [←hR];unfold unitM;simp [hkk,hB45,hBg,hBl,hBp,hBb])
 rw [hR]
 have H:=Lib.hid h
 have hS:=Sv.refl h0 hi
 obtain ⟨k,n,tx,at_,htk⟩:=s.pk_get
 have hke:(pk s.E s.L).x.k=k:=by show s.pk.x.k=k;rw [htk]
 have hkv:k=3:=by rw [←hke];exact hkk
 have hk1:(k==1)=false:=by rw [hkv];rfl
 have hk2:(k==2)=false:=by rw [hkv];rfl
 have hk3:(k==3)=true:=by rw [hkv];rfl
 have hk2n:(k !=2)=true:=by rw [hkv];rfl
 have q45:isR s ⟨#[45]⟩=false:=by rw [isR_of h0.1];exact hB45
 have qg:isR s ⟨#[62,61]⟩=false:=by rw [isR_of h0.1];exact hBg
 have ql:isR s ⟨#[60,61]⟩=false:=by rw [isR_of h0.1];exact hBl
 have qp:isR s ⟨#[40]⟩=false:=by rw [isR_of h0.1];exact hBp
 have qb:isR s ⟨#[123]⟩=false:=by rw [isR_of h0.1];exact hBb
 have HT:=Lib.hid htk
 have hnb:∃t M,s.L=t::M:=by
  obtain ⟨t,M,e1,-⟩:=pk_cons (E:=s.E) (L:=s.L) (by rw [hkk];decide)
  exact ⟨t,M,e1⟩
 obtain ⟨t9,M9,hL9⟩:=hnb
 have hS1:=hS.next (t:=t9) (N:=M9) hL9
 obtain ⟨a1,cap1,T1,i1,E1,o1,b1,x1,hn1⟩:=s.next.get
 have HN1:Hid (s.next=⟨a1,cap1,T1,i1,E1,o1,b1,x1⟩):=Lib.hid hn1
 rw [hn1] at hS1
 have HSV1:=Lib.hid hS1
 have HTL:Hid (s.L.tail=M9):=Lib.hid (by rw [hL9];rfl)
 have hi0:s.i≤100000:=by have:=h.len;omega
 have HI0:=Lib.hid hi0
 clear hn1 hS1 hL9 hi0
 have HTX:Hid (bs (pk s.E s.L).x.t=tx):=Lib.hid (by show bs s.pk.x.t=tx;rw [htk];exact Lx.bs_of tx)
 have HTZ:Hid (tx.size≤140737488355328):=Lib.hid (by have:=h.pk_n.2.2;rw [htk] at this;dsimp only at this;rw [←bs_size,Lx.bs_of] at this;omega)
 have hx0:(s.err !=0)=false:=by simpa using h0.1
 have HI:=Lib.hid hi
 have H00:=Lib.hid h0
 have HSV:=Lib.hid hS
 clear hR hS htk hke h0 hi h hkv
 clear hB45 hBg hBl hBp hBb hkk
 obtain ⟨a0,cap0,T0,i0,E0,o0,b0,x0,hs0⟩:=s.get
 have HS0:=Lib.hid hs0
 have HNX:∀W,Hid (Calls Tryz.prog 56 #[.agg #[.slice a0 T0.length cap0,.int .i64 (i0:Int),.int .i64 E0,.int .i64 o0,.int .i64 b0,.int .i64 x0]] W (Ans (.agg #[.slice a1 T1.length cap1,.int .i64 (i1:Int),.int .i64 E1,.int .i64 o1,.int .i64 b1,.int .i64 x1]) W)):=fun W=>Lib.hid (by
  have:=snext_as W s ⟨a1,cap1,T1,i1,E1,o1,b1,x1⟩ HI0.out HN1
  rw [HS0.out] at this
  exact this)
 rw [hs0] at q45
 rw [hs0] at qg
 rw [hs0] at ql
 rw [hs0] at qp
 rw [hs0] at qb
 have hx0:(x0 !=0)=false:=by rw [hs0] at hx0;exact hx0
 have HT:Hid ((⟨a0,cap0,T0,i0,E0,o0,b0,x0⟩:St).pk=⟨⟨k,n,tx.toList⟩,at_⟩):=Lib.hid (by rw [←HS0.out];exact HT.out)
 have HSW:Hid (∀{W:World},Below w.heap.size w W→SW W ⟨a0,cap0,T0,i0,E0,o0,b0,x0⟩):=Lib.hid fun hW=>by rw [←HS0.out];exact H.out.below hW
 rw [show s.v= .agg #[.slice a0 T0.length cap0,.int .i64 (i0:Int),.int .i64 E0,.int .i64 o0,.int .i64 b0,.int .i64 x0] by rw [hs0];rfl]
 clear hs0
 have HF:=Lib.hid (Fr.start3 w #[.slice a0 T0.length cap0,.int .i64 (i0:Int),.int .i64 E0,.int .i64 o0,.int .i64 b0,.int .i64 x0] #[.slice none 0 0,.int .i64 0,.int .i64 0,.int .i64 0,.int .i64 0,.int .i64 0] #[.int .i64 0,.int .i64 0,.string ⟨#[]⟩,.slice none 0 0,.slice none 0 0,.bool false,.slice none 0 0] 95 95 35)
 have f:=HF.out.facts;dsimp only [Fs,Nes,List.map] at f
 go_enter Tryz.func144,Tryz.ntmps144
 go_wp2_with (first
  |(go_at_call 54;refine (peek_as _ ⟨a0,cap0,T0,i0,E0,o0,b0,x0⟩ k n at_ tx (HSW.out HF.out.bl) HT).mono ?_;rintro e w4 ⟨rfl,hb⟩;replace HF:=Lib.hid (HF.out.call hb);replace HF:=Lib.hid (HF.out.new_ #[.int .i64 k,.int .i64 n,.string tx,.int .i64 at_] 97 (n:=w4.heap.size) (rfl));clear f;have f:=HF.out.facts;dsimp only [Fs,Nes,List.map] at f;clear hb)
  |(go_at_call 99;refine (sis_r _ ⟨a0,cap0,T0,i0,E0,o0,b0,x0⟩ _ (HSW.out HF.out.bl)).mono ?_;rintro e w5 ⟨rfl,hb⟩;replace HF:=Lib.hid (HF.out.call hb);clear f;have f:=HF.out.facts;dsimp only [Fs,Nes,List.map] at f;clear hb))
 refine wp_region_held (S:=fun w'=>(∀o,w'.cell? ⟨w.heap.size,o,none⟩=#[.slice a0 T0.length cap0,.int .i64 (i0:Int),.int .i64 E0,.int .i64 o0,.int .i64 b0,.int .i64 x0][o]?)∧(∀o,w'.cell? ⟨w4.heap.size,o,none⟩=#[.int .i64 k,.int .i64 n,.string tx,.int .i64 at_][o]?)) (by kernel_rfl) ?_
 obtain ⟨wd,hwd⟩:∃wd:World,wd={w5 with drawn:=w5.drawn+1}:=⟨_,rfl⟩
 have hbd:Below w5.heap.size w5 wd:=by rw [hwd];exact (Below.refl _ w5).drew
 rw [←hwd]
 clear hwd
 replace HF:=Lib.hid (HF.out.call hbd)
 clear f hbd
 have f:=HF.out.facts
 dsimp only [Fs,Nes,List.map] at f
 refine take_at' (i:=0) 38 (v:= .agg #[.slice a0 T0.length cap0,.int .i64 (i0:Int),.int .i64 E0,.int .i64 o0,.int .i64 b0,.int .i64 x0]) rfl rfl (by kernel_rfl) (by kernel_rfl) (by kernel_rfl) (fun _ _ _ h=>h) (Or.inl ⟨by rfl,fun w' hS=>by have g0:=hS.1;have g1:=hS.2;clear f;go_simp⟩) ⟨f.2.2.2.1.1,f.1.1⟩ ?_
 refine take_at' (i:=2) 40 (v:= .pointer (some ⟨w4.heap.size,2,none⟩)) rfl rfl (by kernel_rfl) (by kernel_rfl) (by kernel_rfl) (fun _ _ _ h=>h) (Or.inl ⟨by rfl,fun w' hS=>by have g0:=hS.1;have g1:=hS.2;clear f;go_simp⟩) ⟨f.2.2.2.1.1,f.1.1⟩ ?_
 refine take_at' (i:=3) 41 (v:= .string tx) rfl rfl (by kernel_rfl) (by kernel_rfl) (by kernel_rfl) (fun _ _ _ h=>h) (Or.inl ⟨by rfl,fun w' hS=>by have g0:=hS.1;have g1:=hS.2;clear f;go_simp⟩) ⟨f.2.2.2.1.1,f.1.1⟩ ?_
 refine take_at' (i:=4) 42 (v:= .agg #[.int .i64 2,.int .i64 0,.string tx,.slice none 0 0,.slice none 0 0,.bool false,.slice none 0 0]) rfl rfl (by kernel_rfl) (by kernel_rfl) (by kernel_rfl) (fun _ _ _ h=>h) (Or.inl ⟨by rfl,fun w' hS=>by have g0:=hS.1;have g1:=hS.2;clear f;go_simp⟩) ⟨f.2.2.2.1.1,f.1.1⟩ ?_
 try simp only [List.setIfInBounds_toArray,List.set_cons_succ,List.set_cons_zero]
 refine wpAnyH_all (rs:=[1]) (by kernel_rfl) (by simp) ?_
 intro i hi
 obtain rfl:i=1:=by simpa using hi
 refine call_at 39 (f:=56) (args:=#[.agg #[.slice a0 T0.length cap0,.int .i64 (i0:Int),.int .i64 E0,.int .i64 o0,.int .i64 b0,.int .i64 x0]]) (w':=wd) rfl rfl rfl (by go_simp) (((HNX _).out).mono ?_)
 rintro e v1 ⟨rfl,hb⟩
 replace HF:=Lib.hid (HF.out.call hb)
 clear f hb
 have f:=HF.out.facts
 dsimp only [Fs,Nes,List.map] at f
 refine ⟨_,rfl,⟨f.2.2.2.1.1,f.1.1⟩,?_⟩
 try simp only [List.setIfInBounds_toArray,List.set_cons_succ,List.set_cons_zero]
 refine wpAnyH_all (rs:=[5]) (by kernel_rfl) (by simp) ?_
 intro i hi
 obtain rfl:i=5:=by simpa using hi
 have HF2:=Lib.hid (by have t:=HF.out.put6 2 rfl (.slice a1 T1.length cap1) (.int .i64 (i1:Int)) (.int .i64 E1) (.int .i64 o1) (.int .i64 b1) (.int .i64 x1);simp only [List.set_cons_succ,List.set_cons_zero] at t;exact t)
 obtain ⟨v2,hwn⟩:∃x,x=put6 v1 (w.heap.size+1) (.slice a1 T1.length cap1) (.int .i64 (i1:Int)) (.int .i64 E1) (.int .i64 o1) (.int .i64 b1) (.int .i64 x1):=⟨_,rfl⟩
 rw [←hwn] at HF2
 have f2:=HF2.out.facts
 dsimp only [Fs,Nes,List.map] at f2
 refine skip_at (w':=v2) rfl rfl rfl (by rw [hwn];unfold put6;clear f2;go_simp) ⟨⟨f2.2.2.2.1.1,f2.1.1⟩,?_⟩
 clear hwn f HF
 have HF:=HF2
 have f:=f2
 clear HF2 f2
 try simp only [List.setIfInBounds_toArray,List.set_cons_succ,List.set_cons_zero]
 refine wpAnyH_all (rs:=[6]) (by kernel_rfl) (by simp) ?_
 intro i hi
 obtain rfl:i=6:=by simpa using hi
 have HF2:=Lib.hid (by have t:=HF.out.put7 1 rfl (.int .i64 2) (.int .i64 0) (.string tx) (.slice none 0 0) (.slice none 0 0) (.bool false) (.slice none 0 0);simp only [List.set_cons_succ,List.set_cons_zero] at t;exact t)
 obtain ⟨v3,hwn⟩:∃x,x=put7 v2 (w.heap.size+2) (.int .i64 2) (.int .i64 0) (.string tx) (.slice none 0 0) (.slice none 0 0) (.bool false) (.slice none 0 0):=⟨_,rfl⟩
 rw [←hwn] at HF2
 have f2:=HF2.out.facts
 dsimp only [Fs,Nes,List.map] at f2
 refine skip_at (w':=v3) rfl rfl rfl (by rw [hwn];unfold put7;clear f2;go_simp) ⟨⟨f2.2.2.2.1.1,f2.1.1⟩,?_⟩
 clear hwn f HF
 have HF:=HF2
 have f:=f2
 clear HF2 f2
 try simp only [List.setIfInBounds_toArray,List.set_cons_succ,List.set_cons_zero]
 refine wpAnyH_done (by kernel_rfl) ?_ _
 go_wp2_with fail
 refine bodyPost_ret (v:= .tuple #[.agg #[.slice a1 T1.length cap1,.int .i64 (i1:Int),.int .i64 E1,.int .i64 o1,.int .i64 b1,.int .i64 x1],.agg #[.int .i64 2,.int .i64 0,.string tx,.slice none 0 0,.slice none 0 0,.bool false,.slice none 0 0]]) (by simp [results,Tryz.results144,go_sem,f]) rfl ?_
 refine sres_of (S:=⟨a1,cap1,T1,i1,E1,o1,b1,x1⟩) (hd:=⟨2,0,tx,none,0,0,none,0,0,false,none,0,0⟩) HF.out.bl (by rw [HU.out,HTL.out];exact HSV1.out) fun x K e=>?_
 rw [HU.out] at e
 cases e
 rw [HTX.out]
 exact XB.leaf 2 0 tx HTZ.out (str_nil _) (fun h=>absurd h (by decide))
set_option maxRecDepth 100000 in
set_option maxHeartbeats 16000000 in
theorem sunit_word (join:Int→List Tok→Res Ex) (w:World) (s:St) (h:SW w s) (h0:s.err=0∧s.bad=0) (hi:s.i≤s.T.length) (hk:(pk s.E s.L).x.k=2) (hr:Nm.rightL (pk s.E s.L).x.t=false) (hm:¬(meanL (pk s.E s.L).x.t).1=0):Calls Tryz.prog 144 #[s.v] w (SRes (VX w.heap.size) w s (unitM join s.E s.o s.L)):=by
 obtain ⟨R,hR⟩:∃R,unitM join s.E s.o s.L=R:=⟨_,rfl⟩
 have hkk:(pk s.E s.L).x.k=2:=hk
 have hB45:isB [45] s.L=false:=isB_k (E:=s.E) (by rw [hk];decide)
 have hBg:isB [62,61] s.L=false:=isB_k (E:=s.E) (by rw [hk];decide)
 have hBl:isB [60,61] s.L=false:=isB_k (E:=s.E) (by rw [hk];decide)
 have hBp:isB [40] s.L=false:=isB_k (E:=s.E) (by rw [hk];decide)
 have hBb:isB [123] s.L=false:=isB_k (E:=s.E) (by rw [hk];decide)
 have HU:Hid (R= .ok (leaf (meanL (pk s.E s.L).x.t).1 (meanL (pk s.E s.L).x.t).2) s.L.tail):=Lib.hid (by rw [←hR];unfold unitM;simp [hkk,hB45,hBg,hBl,hBp,hBb,hr];unfold wordM;rw [if_neg hm])
 rw [hR]
 have H:=Lib.hid h
 have hS:=Sv.refl h0 hi
 obtain ⟨k,n,tx,at_,htk⟩:=s.pk_get
 have hke:(pk s.E s.L).x.k=k:=by show s.pk.x.k=k;rw [htk]
 have hkv:k=2:=by rw [←hke];exact hkk
 have hk1:(k==1)=false:=by rw [hkv];rfl
 have hk2:(k==2)=true:=by rw [hkv];rfl
 have hk3:(k==3)=false:=by rw [hkv];rfl
 have hk2n:(k !=2)=false:=by rw [hkv];rfl
 have q45:isR s ⟨#[45]⟩=false:=by rw [isR_of h0.1];exact hB45
 have qg:isR s ⟨#[62,61]⟩=false:=by rw [isR_of h0.1];exact hBg
 have ql:isR s ⟨#[60,61]⟩=false:=by rw [isR_of h0.1];exact hBl
 have qp:isR s ⟨#[40]⟩=false:=by rw [isR_of h0.1];exact hBp
 have qb:isR s ⟨#[123]⟩=false:=by rw [isR_of h0.1];exact hBb
 have HT:=Lib.hid htk
 have HTZ:Hid (tx.size≤140737488355328):=Lib.hid (by have:=h.pk_n.2.2;rw [htk] at this;dsimp only at this;rw [←bs_size,Lx.bs_of] at this;omega)
 have HRT:Hid (Nm.rightL tx.toList=false):=Lib.hid (by have h2:=hr;change Nm.rightL s.pk.x.t=_ at h2;rw [htk] at h2;exact h2)
 have hnb:∃t M,s.L=t::M:=by
  obtain ⟨t,M,e1,-⟩:=pk_cons (E:=s.E) (L:=s.L) (by rw [hkk];decide)
  exact ⟨t,M,e1⟩
 obtain ⟨t9,M9,hL9⟩:=hnb
 have hS1:=hS.next (t:=t9) (N:=M9) hL9
 obtain ⟨a1,cap1,T1,i1,E1,o1,b1,x1,hn1⟩:=s.next.get
 have HN1:Hid (s.next=⟨a1,cap1,T1,i1,E1,o1,b1,x1⟩):=Lib.hid hn1
 rw [hn1] at hS1
 have HSV1:=Lib.hid hS1
 have HTL:Hid (s.L.tail=M9):=Lib.hid (by rw [hL9];rfl)
 have hi0:s.i≤100000:=by have:=h.len;omega
 have HI0:=Lib.hid hi0
 clear hn1 hS1 hL9 hi0
 obtain ⟨wo,hwo⟩:∃x,(meanL tx.toList).1=x:=⟨_,rfl⟩
 obtain ⟨wn,hwn⟩:∃x,(meanL tx.toList).2=x:=⟨_,rfl⟩
 have HW1:=Lib.hid (And.intro hwo hwn)
 have HTX:Hid ((pk s.E s.L).x.t=tx.toList):=Lib.hid (by show s.pk.x.t=tx.toList;rw [htk])
 have hwz:(wo==0)=false:=by rw [←hwo];have h2:=hm;change ¬(meanL s.pk.x.t).1=0 at h2;rw [htk] at h2;simpa using h2
 clear hwo hwn
 have hx0:(s.err !=0)=false:=by simpa using h0.1
 have HI:=Lib.hid hi
 have H00:=Lib.hid h0
 have HSV:=Lib.hid hS
 clear hR hS htk hke h0 hi h hkv
 clear hB45 hBg hBl hBp hBb hkk
 obtain ⟨a0,cap0,T0,i0,E0,o0,b0,x0,hs0⟩:=s.get
 have HS0:=Lib.hid hs0
 have HNX:∀W,Hid (Calls Tryz.prog 56 #[.agg #[.slice a0 T0.length cap0,.int .i64 (i0:Int),.int .i64 E0,.int .i64 o0,.int .i64 b0,.int .i64 x0]] W (Ans (.agg #[.slice a1 T1.length cap1,.int .i64 (i1:Int),.int .i64 E1,.int .i64 o1,.int .i64 b1,.int .i64 x1]) W)):=fun W=>Lib.hid (by
  have:=snext_as W s ⟨a1,cap1,T1,i1,E1,o1,b1,x1⟩ HI0.out HN1
  rw [HS0.out] at this
  exact this)
 rw [hs0] at q45
 rw [hs0] at qg
 rw [hs0] at ql
 rw [hs0] at qp
 rw [hs0] at qb
 have hx0:(x0 !=0)=false:=by rw [hs0] at hx0;exact hx0
 have HT:Hid ((⟨a0,cap0,T0,i0,E0,o0,b0,x0⟩:St).pk=⟨⟨k,n,tx.toList⟩,at_⟩):=Lib.hid (by rw [←HS0.out];exact HT.out)
 have HSW:Hid (∀{W:World},Below w.heap.size w W→SW W ⟨a0,cap0,T0,i0,E0,o0,b0,x0⟩):=Lib.hid fun hW=>by rw [←HS0.out];exact H.out.below hW
 rw [show s.v= .agg #[.slice a0 T0.length cap0,.int .i64 (i0:Int),.int .i64 E0,.int .i64 o0,.int .i64 b0,.int .i64 x0] by rw [hs0];rfl]
 clear hs0
 have HF:=Lib.hid (Fr.start3 w #[.slice a0 T0.length cap0,.int .i64 (i0:Int),.int .i64 E0,.int .i64 o0,.int .i64 b0,.int .i64 x0] #[.slice none 0 0,.int .i64 0,.int .i64 0,.int .i64 0,.int .i64 0,.int .i64 0] #[.int .i64 0,.int .i64 0,.string ⟨#[]⟩,.slice none 0 0,.slice none 0 0,.bool false,.slice none 0 0] 95 95 35)
 have f:=HF.out.facts;dsimp only [Fs,Nes,List.map] at f
 go_enter Tryz.func144,Tryz.ntmps144
 go_wp2_with (first
  |(go_at_call 54;refine (peek_as _ ⟨a0,cap0,T0,i0,E0,o0,b0,x0⟩ k n at_ tx (HSW.out HF.out.bl) HT).mono ?_;rintro e w4 ⟨rfl,hb⟩;replace HF:=Lib.hid (HF.out.call hb);replace HF:=Lib.hid (HF.out.new_ #[.int .i64 k,.int .i64 n,.string tx,.int .i64 at_] 97 (n:=w4.heap.size) (rfl));clear f;have f:=HF.out.facts;dsimp only [Fs,Nes,List.map] at f;clear hb)
  |(go_at_call 99;refine (sis_r _ ⟨a0,cap0,T0,i0,E0,o0,b0,x0⟩ _ (HSW.out HF.out.bl)).mono ?_;rintro e w5 ⟨rfl,hb⟩;replace HF:=Lib.hid (HF.out.call hb);clear f;have f:=HF.out.facts;dsimp only [Fs,Nes,List.map] at f;clear hb)
  |(go_at_call 72;refine (Nm.rright_as tx false _ HTZ.out HRT).mono ?_;rintro e w7 ⟨rfl,rfl⟩)
  |(go_at_call 169;refine (rword_as tx wo wn _ HW1).mono ?_;rintro e w8 ⟨rfl,hb⟩;replace HF:=Lib.hid (HF.out.call hb);clear f;have f1:=HF.out.facts;dsimp only [Fs,Nes,List.map] at f1;replace HF:=Lib.hid (HF.out.new_ #[.int .i64 wo,.int .i64 wn,.string ⟨#[]⟩,.slice none 0 0,.slice none 0 0,.bool false,.slice none 0 0] 35 (n:=w8.heap.size) (rfl));have f:=HF.out.facts;dsimp only [Fs,Nes,List.map] at f;clear hb))
 obtain ⟨wk,hwk⟩:∃x,x=w8.alloc (.cells #[.int .i64 wo,.int .i64 wn,.string ⟨#[]⟩,.slice none 0 0,.slice none 0 0,.bool false,.slice none 0 0] 35):=⟨_,rfl⟩
 rw [←hwk]
 rw [←hwk] at HF
 clear f f1 hwk
 have f:=HF.out.facts
 dsimp only [Fs,Nes,List.map] at f
 refine wp_region_held (S:=fun w'=>(∀o,w'.cell? ⟨w.heap.size,o,none⟩=#[.slice a0 T0.length cap0,.int .i64 (i0:Int),.int .i64 E0,.int .i64 o0,.int .i64 b0,.int .i64 x0][o]?)∧(∀o,w'.cell? ⟨w8.heap.size,o,none⟩=#[.int .i64 wo,.int .i64 wn,.string ⟨#[]⟩,.slice none 0 0,.slice none 0 0,.bool false,.slice none 0 0][o]?)) (by kernel_rfl) ?_
 obtain ⟨wd,hwd⟩:∃wd:World,wd={wk with drawn:=wk.drawn+1}:=⟨_,rfl⟩
 have hbd:Below wk.heap.size wk wd:=by rw [hwd];exact (Below.refl _ wk).drew
 rw [←hwd]
 clear hwd
 replace HF:=Lib.hid (HF.out.call hbd)
 clear f hbd
 have f:=HF.out.facts
 dsimp only [Fs,Nes,List.map] at f
 refine take_at' (i:=0) 110 (v:= .agg #[.slice a0 T0.length cap0,.int .i64 (i0:Int),.int .i64 E0,.int .i64 o0,.int .i64 b0,.int .i64 x0]) rfl rfl (by kernel_rfl) (by kernel_rfl) (by kernel_rfl) (fun _ _ _ h=>h) (Or.inl ⟨by rfl,fun w' hS=>by have g0:=hS.1;have g1:=hS.2;clear f;go_simp⟩) ⟨f.2.2.2.2.1.1,f.1.1⟩ ?_
 refine take_at' (i:=2) 112 (v:= .agg #[.int .i64 wo,.int .i64 wn,.string ⟨#[]⟩,.slice none 0 0,.slice none 0 0,.bool false,.slice none 0 0]) rfl rfl (by kernel_rfl) (by kernel_rfl) (by kernel_rfl) (fun _ _ _ h=>h) (Or.inl ⟨by rfl,fun w' hS=>by have g0:=hS.1;have g1:=hS.2;clear f;go_simp⟩) ⟨f.2.2.2.2.1.1,f.1.1⟩ ?_
 try simp only [List.setIfInBounds_toArray,List.set_cons_succ,List.set_cons_zero]
 refine wpAnyH_all (rs:=[1]) (by kernel_rfl) (by simp) ?_
 intro i hi
 obtain rfl:i=1:=by simpa using hi
 refine call_at 111 (f:=56) (args:=#[.agg #[.slice a0 T0.length cap0,.int .i64 (i0:Int),.int .i64 E0,.int .i64 o0,.int .i64 b0,.int .i64 x0]]) (w':=wd) rfl rfl rfl (by go_simp) (((HNX _).out).mono ?_)
 rintro e v1 ⟨rfl,hb⟩
 replace HF:=Lib.hid (HF.out.call hb)
 clear f hb
 have f:=HF.out.facts
 dsimp only [Fs,Nes,List.map] at f
 refine ⟨_,rfl,⟨f.2.2.2.2.1.1,f.1.1⟩,?_⟩
 try simp only [List.setIfInBounds_toArray,List.set_cons_succ,List.set_cons_zero]
 refine wpAnyH_all (rs:=[3]) (by kernel_rfl) (by simp) ?_
 intro i hi
 obtain rfl:i=3:=by simpa using hi
 have HF2:=Lib.hid (by have t:=HF.out.put6 3 rfl (.slice a1 T1.length cap1) (.int .i64 (i1:Int)) (.int .i64 E1) (.int .i64 o1) (.int .i64 b1) (.int .i64 x1);simp only [List.set_cons_succ,List.set_cons_zero] at t;exact t)
 obtain ⟨v2,hwn⟩:∃x,x=put6 v1 (w.heap.size+1) (.slice a1 T1.length cap1) (.int .i64 (i1:Int)) (.int .i64 E1) (.int .i64 o1) (.int .i64 b1) (.int .i64 x1):=⟨_,rfl⟩
 rw [←hwn] at HF2
 have f2:=HF2.out.facts
 dsimp only [Fs,Nes,List.map] at f2
 refine skip_at (w':=v2) rfl rfl rfl (by rw [hwn];unfold put6;clear f2;go_simp) ⟨⟨f2.2.2.2.2.1.1,f2.1.1⟩,?_⟩
 clear hwn f HF
 have HF:=HF2
 have f:=f2
 clear HF2 f2
 try simp only [List.setIfInBounds_toArray,List.set_cons_succ,List.set_cons_zero]
 refine wpAnyH_all (rs:=[4]) (by kernel_rfl) (by simp) ?_
 intro i hi
 obtain rfl:i=4:=by simpa using hi
 have HF2:=Lib.hid (by have t:=HF.out.put7 2 rfl (.int .i64 wo) (.int .i64 wn) (.string ⟨#[]⟩) (.slice none 0 0) (.slice none 0 0) (.bool false) (.slice none 0 0);simp only [List.set_cons_succ,List.set_cons_zero] at t;exact t)
 obtain ⟨v3,hwn⟩:∃x,x=put7 v2 (w.heap.size+2) (.int .i64 wo) (.int .i64 wn) (.string ⟨#[]⟩) (.slice none 0 0) (.slice none 0 0) (.bool false) (.slice none 0 0):=⟨_,rfl⟩
 rw [←hwn] at HF2
 have f2:=HF2.out.facts
 dsimp only [Fs,Nes,List.map] at f2
 refine skip_at (w':=v3) rfl rfl rfl (by rw [hwn];unfold put7;clear f2;go_simp) ⟨⟨f2.2.2.2.2.1.1,f2.1.1⟩,?_⟩
 clear hwn f HF
 have HF:=HF2
 have f:=f2
 clear HF2 f2
 try simp only [List.setIfInBounds_toArray,List.set_cons_succ,List.set_cons_zero]
 refine wpAnyH_done (by kernel_rfl) ?_ _
 go_wp2_with fail
 refine bodyPost_ret (v:= .tuple #[.agg #[.slice a1 T1.length cap1,.int .i64 (i1:Int),.int .i64 E1,.int .i64 o1,.int .i64 b1,.int .i64 x1],.agg #[.int .i64 wo,.int .i64 wn,.string ⟨#[]⟩,.slice none 0 0,.slice none 0 0,.bool false,.slice none 0 0]]) (by simp [results,Tryz.results144,go_sem,f]) rfl ?_
 refine sres_of (S:=⟨a1,cap1,T1,i1,E1,o1,b1,x1⟩) (hd:=⟨wo,wn,⟨#[]⟩,none,0,0,none,0,0,false,none,0,0⟩) HF.out.bl (by rw [HU.out,HTL.out];exact HSV1.out) fun x K e=>?_
 rw [HU.out] at e
 cases e
 rw [HTX.out,HW1.out.1,HW1.out.2]
 exact XB.lf wo wn
theorem sunit_any (join:Int→List Tok→Res Ex) (w:World) (s:St) (h:SW w s) (h0:s.err=0∧s.bad=0) (hi:s.i≤s.T.length) (ho:0≤s.o∧s.o≤16) (hfit:∀o L,Fits cnt L (join o L)) (ask:∀(W:World) (S:St),SW W S→S.err=0∧S.bad=0→S.i≤S.T.length→S.o=s.o+1→S.o≤16→S.E=s.E→S.L.length<s.L.length→Calls Tryz.prog 100 #[S.v,.int .i64 1] W (SRes (VX W.heap.size) W S (join S.o S.L))):Calls Tryz.prog 144 #[s.v] w (SRes (VX w.heap.size) w s (unitM join s.E s.o s.L)):=by
 by_cases k1:(pk s.E s.L).x.k=1
 ·exact sunit_num join w s h h0 hi k1
 by_cases b1:isB [45] s.L=true
 ·exact sunit_neg join w s h h0 hi b1
 by_cases b2:isB [62,61] s.L=true
 ·exact sunit_ge join w s h h0 hi b2
 by_cases b3:isB [60,61] s.L=true
 ·exact sunit_le join w s h h0 hi b3
 by_cases b4:isB [40] s.L=true
 ·by_cases h16:s.o=16
  ·exact sunit_deep join w s h h0 hi h16 b4
  ·exact sunit_par join w s h h0 hi ho h16 b4 ask
 by_cases b5:isB [123] s.L=true
 ·exact sunit_brace join w s h h0 hi ho b5 hfit ask
 by_cases k3:(pk s.E s.L).x.k=3
 ·exact sunit_str join w s h h0 hi k3
 by_cases k2:(pk s.E s.L).x.k=2
 ·cases hr:Nm.rightL (pk s.E s.L).x.t with
  |true=>exact sunit_name join w s h h0 hi k2 hr
  |false=>
   by_cases hm:(meanL (pk s.E s.L).x.t).1=0
   ·exact sunit_nowd join w s h h0 hi k2 hr hm
   ·exact sunit_word join w s h h0 hi k2 hr hm
 exact sunit_none join w s h h0 hi ⟨k1,k2,k3⟩ ⟨by simpa using b1,by simpa using b2,by simpa using b3,by simpa using b4,by simpa using b5⟩
end Go.Proofs.YtkfihhagcimcmaaGreatDoor.Ps
