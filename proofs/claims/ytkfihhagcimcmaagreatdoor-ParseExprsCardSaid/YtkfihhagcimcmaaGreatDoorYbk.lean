/- Qq -/
import Derived.Test.YtkfihhagcimcmaaGreatDoorChecked
import Derived.Test.YtkfihhagcimcmaaGreatDoorProg
import Derived.Test.YtkfihhagcimcmaaGreatDoorY1
import Derived.Test.YtkfihhagcimcmaaGreatDoorYbi
namespace Go.Proofs.YtkfihhagcimcmaaGreatDoor.Ps
open Go.RowKit
open Lx (Tok)
def isR (s:St) (sg:ByteArray):Bool:=s.is sg.toList
theorem sis_r (w:World) (s:St) (sg:ByteArray) (h:SW w s):Calls Tryz.prog 99 #[s.v,.string sg] w (Ans (.bool (isR s sg)) w):=sis_any w s sg h
theorem isR_of {s:St} (h0:s.err=0) (a:Array UInt8):isR s ⟨a⟩=isB a.toList s.L:=by unfold isR St.is;rw [h0,Lib.toList_data];rfl
theorem isB_k {E:Int} {sg:List UInt8} {L:List Tok} (h:¬(pk E L).x.k=4):isB sg L=false:=by
 cases hc:isB sg L with
 |false=>rfl
 |true=>obtain ⟨t,M,rfl,h4,_⟩:=isB_cons hc;exact absurd h4 h
theorem isB_ne {sg sg':List UInt8} {L:List Tok} (h:isB sg L=true) (hne:sg≠sg'):isB sg' L=false:=by
 cases hc:isB sg' L with
 |false=>rfl
 |true=>
  obtain ⟨t,M,rfl,_,h4⟩:=isB_cons h
  obtain ⟨t',M',e,_,h5⟩:=isB_cons hc
  cases e
  exact absurd (h4.symm.trans h5) hne
theorem isB_4 {E:Int} {sg:List UInt8} {L:List Tok} (h:isB sg L=true):(pk E L).x.k=4:=by
 obtain ⟨t,M,rfl,h4,_⟩:=isB_cons h;exact h4
theorem Stt.map {α β:Type} {s S:St} {r:Res α} (f:α→β) (h:Stt s S r):Stt s S (r.bind fun x M=> .ok (f x) M):=by cases r<;>exact h
theorem number_rel {s S:St} {M:List Tok} (h:Sv s S M):Stt s S.number.1 (numM s.E M)∧∀n N,numM s.E M= .ok n N→S.number.2=n:=by
 have one:∀{T:St} {N:List Tok},Sv s T N→Stt s (if T.pk.x.k=1 then T.next else T.fail T.pk 21) (num1 s.E N)∧∀n K,num1 s.E N= .ok n K→T.pk.x.k=1∧T.pk.x.n=n:=fun {T N} hT=>by
  unfold num1
  rw [hT.pk]
  by_cases hk:(pk s.E N).x.k=1
  ·rw [if_pos hk,if_pos hk]
   obtain ⟨t,K,rfl,e⟩:=pk_cons (E:=s.E) (L:=N) (by rw [hk];decide)
   exact ⟨hT.next rfl,fun n K' e=>by cases e;exact ⟨hk,rfl⟩⟩
  ·rw [if_neg hk,if_neg hk]
   exact ⟨hT.fail _ 21 (by decide),fun n K e=>by cases e⟩
 unfold St.number numM
 rw [h.is]
 by_cases hb:isB [45] M=true
 ·obtain ⟨t,N,rfl,_,_⟩:=isB_cons hb
  obtain ⟨h1,h2⟩:=one (h.next (t:=t) rfl)
  simp only [hb,if_true,List.tail_cons]
  by_cases hk:S.next.pk.x.k=1
  ·rw [if_pos hk] at h1
   simp only [if_pos hk]
   refine ⟨h1.map _,fun n K e=>?_⟩
   obtain ⟨y,K2,e1,e2⟩:=bind_ok e
   cases e2
   rw [(h2 _ _ e1).2]
   omega
  ·rw [if_neg hk] at h1
   simp only [if_neg hk]
   refine ⟨h1.map _,fun n K e=>?_⟩
   obtain ⟨y,K2,e1,e2⟩:=bind_ok e
   exact absurd (h2 _ _ e1).1 hk
 ·obtain ⟨h1,h2⟩:=one h
  have hb':isB [45] M=false:=by simpa using hb
  simp only [hb',Bool.false_eq_true,if_false]
  by_cases hk:S.pk.x.k=1
  ·rw [if_pos hk] at h1
   simp only [if_pos hk]
   refine ⟨h1,fun n K e=>?_⟩
   rw [(h2 _ _ e).2]
   omega
  ·rw [if_neg hk] at h1
   simp only [if_neg hk]
   exact ⟨h1,fun n K e=>absurd (h2 _ _ e).1 hk⟩
theorem sres_of {w W:World} {s S:St} {r:Res Ex} {hd:Hd} (hW:Below w.heap.size w W) (hst:Stt s S r) (hx:∀x M,r= .ok x M→XB (fun b=>w.heap.size≤b) W hd x):SRes (VX w.heap.size) w s r (.returned (.tuple #[S.v,hd.agg])) W:=by
 refine ⟨hW,S,_,rfl,?_⟩
 cases r with
 |ok x M=>exact ⟨hst,hd,rfl,hx x M rfl⟩
 |bad a x=>exact ⟨hst,hd,rfl⟩
theorem Stt.trans {α:Type} {s s1 S:St} {M:List Tok} {r:Res α} (h:Sv s s1 M) (k:Stt s1 S r):Stt s S r:=by
 cases r with
 |ok x N=>exact h.trans k
 |bad a x=>exact h.dead k
theorem Stt.must2 {s S:St} {r:Res Ex} (h:Stt s S r) (sg:List UInt8):Stt s (S.must sg) (r.bind fun x M=>(Ps.must s.E sg M).bind fun _ N=> .ok x N):=by
 have h2:=h.must sg
 cases r with
 |ok x M=>
  show Stt s (S.must sg) ((Ps.must s.E sg M).bind fun _ N=>Res.ok x N)
  have h3:Stt s (S.must sg) (Ps.must s.E sg M):=h2
  cases hm:Ps.must s.E sg M with
  |ok u N=>rw [hm] at h3;exact h3
  |bad a y=>rw [hm] at h3;exact h3
 |bad a x=>exact h2
theorem XF.new_ {B:Nat} {w:World} {l:BL} {h:Hd} {x:Ex} (hx:XF B l w h x) (cs:Array Value) (t:TypeId) {n:Nat} (hn:w.heap.size=n):XF B ((n,cs,t)::l) (w.alloc (.cells cs t)) h x:=by subst hn;exact hx.new cs t
theorem rword_as (s:ByteArray) (a b:Int) (w:World) (h:Hid ((meanL s.toList).1=a∧(meanL s.toList).2=b)):Calls Tryz.prog 169 #[.string s] w (Ans (.agg #[.int .i64 a,.int .i64 b,.string ⟨#[]⟩,.slice none 0 0,.slice none 0 0,.bool false,.slice none 0 0]) w):=by
 have:=rword_any s w
 rw [h.out.1,h.out.2] at this
 exact this
set_option maxRecDepth 100000 in
set_option maxHeartbeats 16000000 in
theorem sunit_num (join:Int→List Tok→Res Ex) (w:World) (s:St) (h:SW w s) (h0:s.err=0∧s.bad=0) (hi:s.i≤s.T.length) (hk:(pk s.E s.L).x.k=1):Calls Tryz.prog 144 #[s.v] w (SRes (VX w.heap.size) w s (unitM join s.E s.o s.L)):=by
 obtain ⟨R,hR⟩:∃R,unitM join s.E s.o s.L=R:=⟨_,rfl⟩
 have hkk:(pk s.E s.L).x.k=1:=hk
 have HU:Hid (R=(numM s.E s.L).bind fun n L'=> .ok (leaf 1 n) L'):=Lib.hid (by rw [←hR];unfold unitM;simp [hkk])
 rw [hR]
 have H:=Lib.hid h
 have hS:=Sv.refl h0 hi
 obtain ⟨k,n,tx,at_,htk⟩:=s.pk_get
 have hke:(pk s.E s.L).x.k=k:=by show s.pk.x.k=k;rw [htk]
 have hkv:k=1:=by rw [←hke];exact hkk
 have hk1:(k==1)=true:=by rw [hkv];rfl
 have hk2:(k==2)=false:=by rw [hkv];rfl
 have hk3:(k==3)=false:=by rw [hkv];rfl
 have hk2n:(k !=2)=true:=by rw [hkv];rfl
 have HT:=Lib.hid htk
 obtain ⟨a1,cap1,T1,i1,E1,o1,b1,x1,hn1⟩:=(St.number s).1.get
 obtain ⟨n1,hm1⟩:∃n1,(St.number s).2=n1:=⟨_,rfl⟩
 have hrel:=number_rel hS
 rw [hn1,hm1] at hrel
 have HREL:=Lib.hid hrel
 have HN1:=Lib.hid (And.intro hn1 hm1)
 clear hrel hn1 hm1
 have HNUM:∀W,Hid (Below w.heap.size w W)→Hid (Calls Tryz.prog 165 #[s.v] W (Ans (.tuple #[.agg #[.slice a1 T1.length cap1,.int .i64 (i1:Int),.int .i64 E1,.int .i64 o1,.int .i64 b1,.int .i64 x1],.int .i64 n1]) W)):=fun W hW=>Lib.hid (by
  have:=snumber_any W s (H.out.below hW.out) (by have:=h.len;omega)
  rw [HN1.out.1,HN1.out.2] at this
  exact this)
 have hx0:(s.err !=0)=false:=by simpa using h0.1
 have HI:=Lib.hid hi
 have H00:=Lib.hid h0
 have HSV:=Lib.hid hS
 clear hR hS htk hke h0 hi h hkv
 clear hkk
 obtain ⟨a0,cap0,T0,i0,E0,o0,b0,x0,hs0⟩:=s.get
 have HS0:=Lib.hid hs0
 have hx0:(x0 !=0)=false:=by rw [hs0] at hx0;exact hx0
 have HT:Hid ((⟨a0,cap0,T0,i0,E0,o0,b0,x0⟩:St).pk=⟨⟨k,n,tx.toList⟩,at_⟩):=Lib.hid (by rw [←HS0.out];exact HT.out)
 have HSW:Hid (∀{W:World},Below w.heap.size w W→SW W ⟨a0,cap0,T0,i0,E0,o0,b0,x0⟩):=Lib.hid fun hW=>by rw [←HS0.out];exact H.out.below hW
 rw [show s.v= .agg #[.slice a0 T0.length cap0,.int .i64 (i0:Int),.int .i64 E0,.int .i64 o0,.int .i64 b0,.int .i64 x0] by rw [hs0];rfl]
 clear hs0
 have HF:=Lib.hid (Fr.start3 w #[.slice a0 T0.length cap0,.int .i64 (i0:Int),.int .i64 E0,.int .i64 o0,.int .i64 b0,.int .i64 x0] #[.slice none 0 0,.int .i64 0,.int .i64 0,.int .i64 0,.int .i64 0,.int .i64 0] #[.int .i64 0,.int .i64 0,.string ⟨#[]⟩,.slice none 0 0,.slice none 0 0,.bool false,.slice none 0 0] 95 95 35)
 have f:=HF.out.facts;dsimp only [Fs,Nes,List.map] at f
 go_enter Tryz.func144,Tryz.ntmps144
 go_wp2_with (first
  |(go_at_call 54;refine (peek_as _ ⟨a0,cap0,T0,i0,E0,o0,b0,x0⟩ k n at_ tx (HSW.out HF.out.bl) HT).mono ?_;rintro e w4 ⟨rfl,hb⟩;replace HF:=Lib.hid (HF.out.call hb);replace HF:=Lib.hid (HF.out.new_ #[.int .i64 k,.int .i64 n,.string tx,.int .i64 at_] 97 (n:=w4.heap.size) (rfl));clear f;have f:=HF.out.facts;dsimp only [Fs,Nes,List.map] at f;clear hb)
  |(go_at_call 99;refine (sis_r _ ⟨a0,cap0,T0,i0,E0,o0,b0,x0⟩ _ (HSW.out HF.out.bl)).mono ?_;rintro e w5 ⟨rfl,hb⟩;replace HF:=Lib.hid (HF.out.call hb);clear f;have f:=HF.out.facts;dsimp only [Fs,Nes,List.map] at f;clear hb)
  |(go_at_call 165;refine (show Calls Tryz.prog 165 #[.agg #[.slice a0 T0.length cap0,.int .i64 (i0:Int),.int .i64 E0,.int .i64 o0,.int .i64 b0,.int .i64 x0]] _ _ from by have:=(HNUM _ (Lib.hid HF.out.bl)).out;rw [HS0.out] at this;exact this).mono ?_;rintro e w6 ⟨rfl,hb⟩;replace HF:=Lib.hid (HF.out.call hb);clear f;have f1:=HF.out.facts;dsimp only [Fs,Nes,List.map] at f1;replace HF:=Lib.hid (HF.out.new_ #[.slice a1 T1.length cap1,.int .i64 (i1:Int),.int .i64 E1,.int .i64 o1,.int .i64 b1,.int .i64 x1] 95 (n:=w6.heap.size) (rfl));have f:=HF.out.facts;dsimp only [Fs,Nes,List.map] at f;clear hb))
 refine bodyPost_ret (v:= .tuple #[.agg #[.slice a1 T1.length cap1,.int .i64 (i1:Int),.int .i64 E1,.int .i64 o1,.int .i64 b1,.int .i64 x1],.agg #[.int .i64 1,.int .i64 n1,.string ⟨#[]⟩,.slice none 0 0,.slice none 0 0,.bool false,.slice none 0 0]]) (by simp [results,Tryz.results144,go_sem,f]) rfl ?_
 refine sres_of (S:=⟨a1,cap1,T1,i1,E1,o1,b1,x1⟩) (hd:=⟨1,n1,⟨#[]⟩,none,0,0,none,0,0,false,none,0,0⟩) ((HF.out.put6 3 rfl (.slice a1 T1.length cap1) (.int .i64 (i1:Int)) (.int .i64 E1) (.int .i64 o1) (.int .i64 b1) (.int .i64 x1)).put7 2 rfl (.int .i64 1) (.int .i64 n1) (.string ⟨#[]⟩) (.slice none 0 0) (.slice none 0 0) (.bool false) (.slice none 0 0)).bl ?_ ?_
 ·rw [HU.out];exact HREL.out.1.map _
 ·intro x M hx
  rw [HU.out] at hx
  obtain ⟨m,K,e1,e2⟩:=bind_ok hx
  cases e2
  rw [HREL.out.2 _ _ e1]
  exact XB.lf 1 m
set_option maxRecDepth 100000 in
set_option maxHeartbeats 16000000 in
theorem sunit_neg (join:Int→List Tok→Res Ex) (w:World) (s:St) (h:SW w s) (h0:s.err=0∧s.bad=0) (hi:s.i≤s.T.length) (hb:isB [45] s.L=true):Calls Tryz.prog 144 #[s.v] w (SRes (VX w.heap.size) w s (unitM join s.E s.o s.L)):=by
 obtain ⟨R,hR⟩:∃R,unitM join s.E s.o s.L=R:=⟨_,rfl⟩
 have hB45:isB [45] s.L=true:=hb
 have hkk:(pk s.E s.L).x.k=4:=isB_4 hb
 have HU:Hid (R=(numM s.E s.L).bind fun n L'=> .ok (leaf 1 n) L'):=Lib.hid (by rw [←hR];unfold unitM;simp [hB45])
 rw [hR]
 have H:=Lib.hid h
 have hS:=Sv.refl h0 hi
 obtain ⟨k,n,tx,at_,htk⟩:=s.pk_get
 have hke:(pk s.E s.L).x.k=k:=by show s.pk.x.k=k;rw [htk]
 have hkv:k=4:=by rw [←hke];exact hkk
 have hk1:(k==1)=false:=by rw [hkv];rfl
 have hk2:(k==2)=false:=by rw [hkv];rfl
 have hk3:(k==3)=false:=by rw [hkv];rfl
 have hk2n:(k !=2)=true:=by rw [hkv];rfl
 have q45:isR s ⟨#[45]⟩=true:=by rw [isR_of h0.1];exact hB45
 have HT:=Lib.hid htk
 obtain ⟨a1,cap1,T1,i1,E1,o1,b1,x1,hn1⟩:=(St.number s).1.get
 obtain ⟨n1,hm1⟩:∃n1,(St.number s).2=n1:=⟨_,rfl⟩
 have hrel:=number_rel hS
 rw [hn1,hm1] at hrel
 have HREL:=Lib.hid hrel
 have HN1:=Lib.hid (And.intro hn1 hm1)
 clear hrel hn1 hm1
 have HNUM:∀W,Hid (Below w.heap.size w W)→Hid (Calls Tryz.prog 165 #[s.v] W (Ans (.tuple #[.agg #[.slice a1 T1.length cap1,.int .i64 (i1:Int),.int .i64 E1,.int .i64 o1,.int .i64 b1,.int .i64 x1],.int .i64 n1]) W)):=fun W hW=>Lib.hid (by
  have:=snumber_any W s (H.out.below hW.out) (by have:=h.len;omega)
  rw [HN1.out.1,HN1.out.2] at this
  exact this)
 have hx0:(s.err !=0)=false:=by simpa using h0.1
 have HI:=Lib.hid hi
 have H00:=Lib.hid h0
 have HSV:=Lib.hid hS
 clear hR hS htk hke h0 hi h hkv
 clear hB45 hkk
 obtain ⟨a0,cap0,T0,i0,E0,o0,b0,x0,hs0⟩:=s.get
 have HS0:=Lib.hid hs0
 rw [hs0] at q45
 have hx0:(x0 !=0)=false:=by rw [hs0] at hx0;exact hx0
 have HT:Hid ((⟨a0,cap0,T0,i0,E0,o0,b0,x0⟩:St).pk=⟨⟨k,n,tx.toList⟩,at_⟩):=Lib.hid (by rw [←HS0.out];exact HT.out)
 have HSW:Hid (∀{W:World},Below w.heap.size w W→SW W ⟨a0,cap0,T0,i0,E0,o0,b0,x0⟩):=Lib.hid fun hW=>by rw [←HS0.out];exact H.out.below hW
 rw [show s.v= .agg #[.slice a0 T0.length cap0,.int .i64 (i0:Int),.int .i64 E0,.int .i64 o0,.int .i64 b0,.int .i64 x0] by rw [hs0];rfl]
 clear hs0
 have HF:=Lib.hid (Fr.start3 w #[.slice a0 T0.length cap0,.int .i64 (i0:Int),.int .i64 E0,.int .i64 o0,.int .i64 b0,.int .i64 x0] #[.slice none 0 0,.int .i64 0,.int .i64 0,.int .i64 0,.int .i64 0,.int .i64 0] #[.int .i64 0,.int .i64 0,.string ⟨#[]⟩,.slice none 0 0,.slice none 0 0,.bool false,.slice none 0 0] 95 95 35)
 have f:=HF.out.facts;dsimp only [Fs,Nes,List.map] at f
 go_enter Tryz.func144,Tryz.ntmps144
 go_wp2_with (first
  |(go_at_call 54;refine (peek_as _ ⟨a0,cap0,T0,i0,E0,o0,b0,x0⟩ k n at_ tx (HSW.out HF.out.bl) HT).mono ?_;rintro e w4 ⟨rfl,hb⟩;replace HF:=Lib.hid (HF.out.call hb);replace HF:=Lib.hid (HF.out.new_ #[.int .i64 k,.int .i64 n,.string tx,.int .i64 at_] 97 (n:=w4.heap.size) (rfl));clear f;have f:=HF.out.facts;dsimp only [Fs,Nes,List.map] at f;clear hb)
  |(go_at_call 99;refine (sis_r _ ⟨a0,cap0,T0,i0,E0,o0,b0,x0⟩ _ (HSW.out HF.out.bl)).mono ?_;rintro e w5 ⟨rfl,hb⟩;replace HF:=Lib.hid (HF.out.call hb);clear f;have f:=HF.out.facts;dsimp only [Fs,Nes,List.map] at f;clear hb)
  |(go_at_call 165;refine (show Calls Tryz.prog 165 #[.agg #[.slice a0 T0.length cap0,.int .i64 (i0:Int),.int .i64 E0,.int .i64 o0,.int .i64 b0,.int .i64 x0]] _ _ from by have:=(HNUM _ (Lib.hid HF.out.bl)).out;rw [HS0.out] at this;exact this).mono ?_;rintro e w6 ⟨rfl,hb⟩;replace HF:=Lib.hid (HF.out.call hb);clear f;have f1:=HF.out.facts;dsimp only [Fs,Nes,List.map] at f1;replace HF:=Lib.hid (HF.out.new_ #[.slice a1 T1.length cap1,.int .i64 (i1:Int),.int .i64 E1,.int .i64 o1,.int .i64 b1,.int .i64 x1] 95 (n:=w6.heap.size) (rfl));have f:=HF.out.facts;dsimp only [Fs,Nes,List.map] at f;clear hb))
 refine bodyPost_ret (v:= .tuple #[.agg #[.slice a1 T1.length cap1,.int .i64 (i1:Int),.int .i64 E1,.int .i64 o1,.int .i64 b1,.int .i64 x1],.agg #[.int .i64 1,.int .i64 n1,.string ⟨#[]⟩,.slice none 0 0,.slice none 0 0,.bool false,.slice none 0 0]]) (by simp [results,Tryz.results144,go_sem,f]) rfl ?_
 refine sres_of (S:=⟨a1,cap1,T1,i1,E1,o1,b1,x1⟩) (hd:=⟨1,n1,⟨#[]⟩,none,0,0,none,0,0,false,none,0,0⟩) ((HF.out.put6 3 rfl (.slice a1 T1.length cap1) (.int .i64 (i1:Int)) (.int .i64 E1) (.int .i64 o1) (.int .i64 b1) (.int .i64 x1)).put7 2 rfl (.int .i64 1) (.int .i64 n1) (.string ⟨#[]⟩) (.slice none 0 0) (.slice none 0 0) (.bool false) (.slice none 0 0)).bl ?_ ?_
 ·rw [HU.out];exact HREL.out.1.map _
 ·intro x M hx
  rw [HU.out] at hx
  obtain ⟨m,K,e1,e2⟩:=bind_ok hx
  cases e2
  rw [HREL.out.2 _ _ e1]
  exact XB.lf 1 m
set_option maxRecDepth 100000 in
set_option maxHeartbeats 16000000 in
theorem sunit_ge (join:Int→List Tok→Res Ex) (w:World) (s:St) (h:SW w s) (h0:s.err=0∧s.bad=0) (hi:s.i≤s.T.length) (hb:isB [62,61] s.L=true):Calls Tryz.prog 144 #[s.v] w (SRes (VX w.heap.size) w s (unitM join s.E s.o s.L)):=by
 obtain ⟨R,hR⟩:∃R,unitM join s.E s.o s.L=R:=⟨_,rfl⟩
 have hBg:isB [62,61] s.L=true:=hb
 have hkk:(pk s.E s.L).x.k=4:=isB_4 hb
 have hB45:isB [45] s.L=false:=isB_ne hb (by decide)
 have hBl:isB [60,61] s.L=false:=isB_ne hb (by decide)
 have HU:Hid (R=(numM s.E s.L.tail).bind fun n L'=> .ok (leaf 7 n) L'):=Lib.hid (by rw [←hR];unfold unitM;simp [hkk,hB45,hBg])
 rw [hR]
 have H:=Lib.hid h
 have hS:=Sv.refl h0 hi
 obtain ⟨k,n,tx,at_,htk⟩:=s.pk_get
 have hke:(pk s.E s.L).x.k=k:=by show s.pk.x.k=k;rw [htk]
 have hkv:k=4:=by rw [←hke];exact hkk
 have hk1:(k==1)=false:=by rw [hkv];rfl
 have hk2:(k==2)=false:=by rw [hkv];rfl
 have hk3:(k==3)=false:=by rw [hkv];rfl
 have hk2n:(k !=2)=true:=by rw [hkv];rfl
 have q45:isR s ⟨#[45]⟩=false:=by rw [isR_of h0.1];exact hB45
 have qg:isR s ⟨#[62,61]⟩=true:=by rw [isR_of h0.1];exact hBg
 have ql:isR s ⟨#[60,61]⟩=false:=by rw [isR_of h0.1];exact hBl
 have HT:=Lib.hid htk
 obtain ⟨t9,M9,hL9,-,-⟩:=isB_cons hb
 have hS1:=hS.next (t:=t9) (N:=M9) hL9
 obtain ⟨a1,cap1,T1,i1,E1,o1,b1,x1,hn1⟩:=s.next.get
 have HN1:Hid (s.next=⟨a1,cap1,T1,i1,E1,o1,b1,x1⟩):=Lib.hid hn1
 rw [hn1] at hS1
 clear hn1
 obtain ⟨a2,cap2,T2,i2,E2,o2,b2,x2,hn2⟩:=(St.number ⟨a1,cap1,T1,i1,E1,o1,b1,x1⟩).1.get
 obtain ⟨n1,hm1⟩:∃n1,(St.number ⟨a1,cap1,T1,i1,E1,o1,b1,x1⟩).2=n1:=⟨_,rfl⟩
 have hrel:=number_rel (Sv.refl (s:=⟨a1,cap1,T1,i1,E1,o1,b1,x1⟩) ⟨hS1.err,by rw [hS1.eq];exact hS1.ok.2⟩ (by have:=hS1.i;rw [hS1.kin.T];exact this))
 rw [hS1.L] at hrel
 rw [hn2,hm1] at hrel
 have HREL:=Lib.hid hrel
 have HN2:=Lib.hid (And.intro hn2 hm1)
 clear hrel hn2 hm1
 have HTL:Hid (s.L.tail=M9):=Lib.hid (by rw [hL9];rfl)
 have HSV1:=Lib.hid hS1
 have HNUM:∀W,Hid (Below w.heap.size w W)→Hid (Calls Tryz.prog 165 #[.agg #[.slice a1 T1.length cap1,.int .i64 (i1:Int),.int .i64 E1,.int .i64 o1,.int .i64 b1,.int .i64 x1]] W (Ans (.tuple #[.agg #[.slice a2 T2.length cap2,.int .i64 (i2:Int),.int .i64 E2,.int .i64 o2,.int .i64 b2,.int .i64 x2],.int .i64 n1]) W)):=fun W hW=>Lib.hid (by
  have h2:=HSV1.out.kin.i
  have:=snumber_any W ⟨a1,cap1,T1,i1,E1,o1,b1,x1⟩ (H.out.kin hW.out HSV1.out.kin) (by have:=h.len;dsimp only at h2⊢;omega)
  rw [HN2.out.1,HN2.out.2] at this
  exact this)
 have hi0:s.i≤100000:=by have:=h.len;omega
 have HI0:=Lib.hid hi0
 clear hS1 hL9 hi0
 have hx0:(s.err !=0)=false:=by simpa using h0.1
 have HI:=Lib.hid hi
 have H00:=Lib.hid h0
 have HSV:=Lib.hid hS
 clear hR hS htk hke h0 hi h hkv
 clear hB45 hBg hBl hkk
 obtain ⟨a0,cap0,T0,i0,E0,o0,b0,x0,hs0⟩:=s.get
 have HS0:=Lib.hid hs0
 have HNX:∀W,Hid (Calls Tryz.prog 56 #[.agg #[.slice a0 T0.length cap0,.int .i64 (i0:Int),.int .i64 E0,.int .i64 o0,.int .i64 b0,.int .i64 x0]] W (Ans (.agg #[.slice a1 T1.length cap1,.int .i64 (i1:Int),.int .i64 E1,.int .i64 o1,.int .i64 b1,.int .i64 x1]) W)):=fun W=>Lib.hid (by
  have:=snext_as W s ⟨a1,cap1,T1,i1,E1,o1,b1,x1⟩ HI0.out HN1
  rw [HS0.out] at this
  exact this)
 rw [hs0] at q45
 rw [hs0] at qg
 rw [hs0] at ql
 have hx0:(x0 !=0)=false:=by rw [hs0] at hx0;exact hx0
 have HT:Hid ((⟨a0,cap0,T0,i0,E0,o0,b0,x0⟩:St).pk=⟨⟨k,n,tx.toList⟩,at_⟩):=Lib.hid (by rw [←HS0.out];exact HT.out)
 have HSW:Hid (∀{W:World},Below w.heap.size w W→SW W ⟨a0,cap0,T0,i0,E0,o0,b0,x0⟩):=Lib.hid fun hW=>by rw [←HS0.out];exact H.out.below hW
 rw [show s.v= .agg #[.slice a0 T0.length cap0,.int .i64 (i0:Int),.int .i64 E0,.int .i64 o0,.int .i64 b0,.int .i64 x0] by rw [hs0];rfl]
 clear hs0
 have HF:=Lib.hid (Fr.start3 w #[.slice a0 T0.length cap0,.int .i64 (i0:Int),.int .i64 E0,.int .i64 o0,.int .i64 b0,.int .i64 x0] #[.slice none 0 0,.int .i64 0,.int .i64 0,.int .i64 0,.int .i64 0,.int .i64 0] #[.int .i64 0,.int .i64 0,.string ⟨#[]⟩,.slice none 0 0,.slice none 0 0,.bool false,.slice none 0 0] 95 95 35)
 have f:=HF.out.facts;dsimp only [Fs,Nes,List.map] at f
 go_enter Tryz.func144,Tryz.ntmps144
 go_wp2_with (first
  |(go_at_call 54;refine (peek_as _ ⟨a0,cap0,T0,i0,E0,o0,b0,x0⟩ k n at_ tx (HSW.out HF.out.bl) HT).mono ?_;rintro e w4 ⟨rfl,hb⟩;replace HF:=Lib.hid (HF.out.call hb);replace HF:=Lib.hid (HF.out.new_ #[.int .i64 k,.int .i64 n,.string tx,.int .i64 at_] 97 (n:=w4.heap.size) (rfl));clear f;have f:=HF.out.facts;dsimp only [Fs,Nes,List.map] at f;clear hb)
  |(go_at_call 99;refine (sis_r _ ⟨a0,cap0,T0,i0,E0,o0,b0,x0⟩ _ (HSW.out HF.out.bl)).mono ?_;rintro e w5 ⟨rfl,hb⟩;replace HF:=Lib.hid (HF.out.call hb);clear f;have f:=HF.out.facts;dsimp only [Fs,Nes,List.map] at f;clear hb)
  |(go_at_call 56;refine (HNX _).out.mono ?_;rintro e w6 ⟨rfl,hb⟩;replace HF:=Lib.hid (HF.out.call hb);clear f;have f:=HF.out.facts;dsimp only [Fs,Nes,List.map] at f;clear hb)
  |(go_at_call 165;refine (HNUM _ (Lib.hid HF.out.bl)).out.mono ?_;rintro e w7 ⟨rfl,hb⟩;replace HF:=Lib.hid (HF.out.call hb);clear f;have f1:=HF.out.facts;dsimp only [Fs,Nes,List.map] at f1;replace HF:=Lib.hid (HF.out.new_ #[.slice a2 T2.length cap2,.int .i64 (i2:Int),.int .i64 E2,.int .i64 o2,.int .i64 b2,.int .i64 x2] 95 (n:=w7.heap.size) (rfl));have f:=HF.out.facts;dsimp only [Fs,Nes,List.map] at f;clear hb))
 refine bodyPost_ret (v:= .tuple #[.agg #[.slice a2 T2.length cap2,.int .i64 (i2:Int),.int .i64 E2,.int .i64 o2,.int .i64 b2,.int .i64 x2],.agg #[.int .i64 7,.int .i64 n1,.string ⟨#[]⟩,.slice none 0 0,.slice none 0 0,.bool false,.slice none 0 0]]) (by simp [results,Tryz.results144,go_sem,f]) rfl ?_
 refine sres_of (S:=⟨a2,cap2,T2,i2,E2,o2,b2,x2⟩) (hd:=⟨7,n1,⟨#[]⟩,none,0,0,none,0,0,false,none,0,0⟩) ((HF.out.put6 3 rfl (.slice a2 T2.length cap2) (.int .i64 (i2:Int)) (.int .i64 E2) (.int .i64 o2) (.int .i64 b2) (.int .i64 x2)).put7 2 rfl (.int .i64 7) (.int .i64 n1) (.string ⟨#[]⟩) (.slice none 0 0) (.slice none 0 0) (.bool false) (.slice none 0 0)).bl ?_ ?_
 ·rw [HU.out,HTL.out,←show E1=s.E from HSV1.out.kin.E]
  exact Stt.map _ (Stt.trans HSV1.out HREL.out.1)
 ·intro x M hx
  rw [HU.out,HTL.out] at hx
  obtain ⟨m,K,e1,e2⟩:=bind_ok hx
  cases e2
  have h2:=HREL.out.2
  rw [show E1=s.E from HSV1.out.kin.E] at h2
  rw [h2 _ _ e1]
  exact XB.lf 7 m
set_option maxRecDepth 100000 in
set_option maxHeartbeats 16000000 in
theorem sunit_le (join:Int→List Tok→Res Ex) (w:World) (s:St) (h:SW w s) (h0:s.err=0∧s.bad=0) (hi:s.i≤s.T.length) (hb:isB [60,61] s.L=true):Calls Tryz.prog 144 #[s.v] w (SRes (VX w.heap.size) w s (unitM join s.E s.o s.L)):=by
 obtain ⟨R,hR⟩:∃R,unitM join s.E s.o s.L=R:=⟨_,rfl⟩
 have hBl:isB [60,61] s.L=true:=hb
 have hkk:(pk s.E s.L).x.k=4:=isB_4 hb
 have hB45:isB [45] s.L=false:=isB_ne hb (by decide)
 have hBg:isB [62,61] s.L=false:=isB_ne hb (by decide)
 have HU:Hid (R=(numM s.E s.L.tail).bind fun n L'=> .ok (leaf 8 n) L'):=Lib.hid (by rw [←hR];unfold unitM;simp [hkk,hB45,hBg,hBl])
 rw [hR]
 have H:=Lib.hid h
 have hS:=Sv.refl h0 hi
 obtain ⟨k,n,tx,at_,htk⟩:=s.pk_get
 have hke:(pk s.E s.L).x.k=k:=by show s.pk.x.k=k;rw [htk]
 have hkv:k=4:=by rw [←hke];exact hkk
 have hk1:(k==1)=false:=by rw [hkv];rfl
 have hk2:(k==2)=false:=by rw [hkv];rfl
 have hk3:(k==3)=false:=by rw [hkv];rfl
 have hk2n:(k !=2)=true:=by rw [hkv];rfl
 have q45:isR s ⟨#[45]⟩=false:=by rw [isR_of h0.1];exact hB45
 have qg:isR s ⟨#[62,61]⟩=false:=by rw [isR_of h0.1];exact hBg
 have ql:isR s ⟨#[60,61]⟩=true:=by rw [isR_of h0.1];exact hBl
 have HT:=Lib.hid htk
 obtain ⟨t9,M9,hL9,-,-⟩:=isB_cons hb
 have hS1:=hS.next (t:=t9) (N:=M9) hL9
 obtain ⟨a1,cap1,T1,i1,E1,o1,b1,x1,hn1⟩:=s.next.get
 have HN1:Hid (s.next=⟨a1,cap1,T1,i1,E1,o1,b1,x1⟩):=Lib.hid hn1
 rw [hn1] at hS1
 clear hn1
 obtain ⟨a2,cap2,T2,i2,E2,o2,b2,x2,hn2⟩:=(St.number ⟨a1,cap1,T1,i1,E1,o1,b1,x1⟩).1.get
 obtain ⟨n1,hm1⟩:∃n1,(St.number ⟨a1,cap1,T1,i1,E1,o1,b1,x1⟩).2=n1:=⟨_,rfl⟩
 have hrel:=number_rel (Sv.refl (s:=⟨a1,cap1,T1,i1,E1,o1,b1,x1⟩) ⟨hS1.err,by rw [hS1.eq];exact hS1.ok.2⟩ (by have:=hS1.i;rw [hS1.kin.T];exact this))
 rw [hS1.L] at hrel
 rw [hn2,hm1] at hrel
 have HREL:=Lib.hid hrel
 have HN2:=Lib.hid (And.intro hn2 hm1)
 clear hrel hn2 hm1
 have HTL:Hid (s.L.tail=M9):=Lib.hid (by rw [hL9];rfl)
 have HSV1:=Lib.hid hS1
 have HNUM:∀W,Hid (Below w.heap.size w W)→Hid (Calls Tryz.prog 165 #[.agg #[.slice a1 T1.length cap1,.int .i64 (i1:Int),.int .i64 E1,.int .i64 o1,.int .i64 b1,.int .i64 x1]] W (Ans (.tuple #[.agg #[.slice a2 T2.length cap2,.int .i64 (i2:Int),.int .i64 E2,.int .i64 o2,.int .i64 b2,.int .i64 x2],.int .i64 n1]) W)):=fun W hW=>Lib.hid (by
  have h2:=HSV1.out.kin.i
  have:=snumber_any W ⟨a1,cap1,T1,i1,E1,o1,b1,x1⟩ (H.out.kin hW.out HSV1.out.kin) (by have:=h.len;dsimp only at h2⊢;omega)
  rw [HN2.out.1,HN2.out.2] at this
  exact this)
 have hi0:s.i≤100000:=by have:=h.len;omega
 have HI0:=Lib.hid hi0
 clear hS1 hL9 hi0
 have hx0:(s.err !=0)=false:=by simpa using h0.1
 have HI:=Lib.hid hi
 have H00:=Lib.hid h0
 have HSV:=Lib.hid hS
 clear hR hS htk hke h0 hi h hkv
 clear hB45 hBg hBl hkk
 obtain ⟨a0,cap0,T0,i0,E0,o0,b0,x0,hs0⟩:=s.get
 have HS0:=Lib.hid hs0
 have HNX:∀W,Hid (Calls Tryz.prog 56 #[.agg #[.slice a0 T0.length cap0,.int .i64 (i0:Int),.int .i64 E0,.int .i64 o0,.int .i64 b0,.int .i64 x0]] W (Ans (.agg #[.slice a1 T1.length cap1,.int .i64 (i1:Int),.int .i64 E1,.int .i64 o1,.int .i64 b1,.int .i64 x1]) W)):=fun W=>Lib.hid (by
  have:=snext_as W s ⟨a1,cap1,T1,i1,E1,o1,b1,x1⟩ HI0.out HN1
  rw [HS0.out] at this
  exact this)
 rw [hs0] at q45
 rw [hs0] at qg
 rw [hs0] at ql
 have hx0:(x0 !=0)=false:=by rw [hs0] at hx0;exact hx0
 have HT:Hid ((⟨a0,cap0,T0,i0,E0,o0,b0,x0⟩:St).pk=⟨⟨k,n,tx.toList⟩,at_⟩):=Lib.hid (by rw [←HS0.out];exact HT.out)
 have HSW:Hid (∀{W:World},Below w.heap.size w W→SW W ⟨a0,cap0,T0,i0,E0,o0,b0,x0⟩):=Lib.hid fun hW=>by rw [←HS0.out];exact H.out.below hW
 rw [show s.v= .agg #[.slice a0 T0.length cap0,.int .i64 (i0:Int),.int .i64 E0,.int .i64 o0,.int .i64 b0,.int .i64 x0] by rw [hs0];rfl]
 clear hs0
 have HF:=Lib.hid (Fr.start3 w #[.slice a0 T0.length cap0,.int .i64 (i0:Int),.int .i64 E0,.int .i64 o0,.int .i64 b0,.int .i64 x0] #[.slice none 0 0,.int .i64 0,.int .i64 0,.int .i64 0,.int .i64 0,.int .i64 0] #[.int .i64 0,.int .i64 0,.string ⟨#[]⟩,.slice none 0 0,.slice none 0 0,.bool false,.slice none 0 0] 95 95 35)
 have f:=HF.out.facts;dsimp only [Fs,Nes,List.map] at f
 go_enter Tryz.func144,Tryz.ntmps144
 go_wp2_with (first
  |(go_at_call 54;refine (peek_as _ ⟨a0,cap0,T0,i0,E0,o0,b0,x0⟩ k n at_ tx (HSW.out HF.out.bl) HT).mono ?_;rintro e w4 ⟨rfl,hb⟩;replace HF:=Lib.hid (HF.out.call hb);replace HF:=Lib.hid (HF.out.new_ #[.int .i64 k,.int .i64 n,.string tx,.int .i64 at_] 97 (n:=w4.heap.size) (rfl));clear f;have f:=HF.out.facts;dsimp only [Fs,Nes,List.map] at f;clear hb)
  |(go_at_call 99;refine (sis_r _ ⟨a0,cap0,T0,i0,E0,o0,b0,x0⟩ _ (HSW.out HF.out.bl)).mono ?_;rintro e w5 ⟨rfl,hb⟩;replace HF:=Lib.hid (HF.out.call hb);clear f;have f:=HF.out.facts;dsimp only [Fs,Nes,List.map] at f;clear hb)
  |(go_at_call 56;refine (HNX _).out.mono ?_;rintro e w6 ⟨rfl,hb⟩;replace HF:=Lib.hid (HF.out.call hb);clear f;have f:=HF.out.facts;dsimp only [Fs,Nes,List.map] at f;clear hb)
  |(go_at_call 165;refine (HNUM _ (Lib.hid HF.out.bl)).out.mono ?_;rintro e w7 ⟨rfl,hb⟩;replace HF:=Lib.hid (HF.out.call hb);clear f;have f1:=HF.out.facts;dsimp only [Fs,Nes,List.map] at f1;replace HF:=Lib.hid (HF.out.new_ #[.slice a2 T2.length cap2,.int .i64 (i2:Int),.int .i64 E2,.int .i64 o2,.int .i64 b2,.int .i64 x2] 95 (n:=w7.heap.size) (rfl));have f:=HF.out.facts;dsimp only [Fs,Nes,List.map] at f;clear hb))
 refine bodyPost_ret (v:= .tuple #[.agg #[.slice a2 T2.length cap2,.int .i64 (i2:Int),.int .i64 E2,.int .i64 o2,.int .i64 b2,.int .i64 x2],.agg #[.int .i64 8,.int .i64 n1,.string ⟨#[]⟩,.slice none 0 0,.slice none 0 0,.bool false,.slice none 0 0]]) (by simp [results,Tryz.results144,go_sem,f]) rfl ?_
 refine sres_of (S:=⟨a2,cap2,T2,i2,E2,o2,b2,x2⟩) (hd:=⟨8,n1,⟨#[]⟩,none,0,0,none,0,0,false,none,0,0⟩) ((HF.out.put6 3 rfl (.slice a2 T2.length cap2) (.int .i64 (i2:Int)) (.int .i64 E2) (.int .i64 o2) (.int .i64 b2) (.int .i64 x2)).put7 2 rfl (.int .i64 8) (.int .i64 n1) (.string ⟨#[]⟩) (.slice none 0 0) (.slice none 0 0) (.bool false) (.slice none 0 0)).bl ?_ ?_
 ·rw [HU.out,HTL.out,←show E1=s.E from HSV1.out.kin.E]
  exact Stt.map _ (Stt.trans HSV1.out HREL.out.1)
 ·intro x M hx
  rw [HU.out,HTL.out] at hx
  obtain ⟨m,K,e1,e2⟩:=bind_ok hx
  cases e2
  have h2:=HREL.out.2
  rw [show E1=s.E from HSV1.out.kin.E] at h2
  rw [h2 _ _ e1]
  exact XB.lf 8 m
set_option maxRecDepth 100000 in
set_option maxHeartbeats 16000000 in
theorem sunit_deep (join:Int→List Tok→Res Ex) (w:World) (s:St) (h:SW w s) (h0:s.err=0∧s.bad=0) (hi:s.i≤s.T.length) (h16:s.o=16) (hb:isB [40] s.L=true):Calls Tryz.prog 144 #[s.v] w (SRes (VX w.heap.size) w s (unitM join s.E s.o s.L)):=by
 obtain ⟨R,hR⟩:∃R,unitM join s.E s.o s.L=R:=⟨_,rfl⟩
 have hBp:isB [40] s.L=true:=hb
 have hkk:(pk s.E s.L).x.k=4:=isB_4 hb
 have hB45:isB [45] s.L=false:=isB_ne hb (by decide)
 have hBg:isB [62,61] s.L=false:=isB_ne hb (by decide)
 have hBl:isB [60,61] s.L=false:=isB_ne hb (by decide)
 have HU:Hid (R= .bad s.pk.at_ 22):=Lib.hid (by rw [←hR];unfold unitM;simp only [hkk,hB45,hBg,hBl,hBp,if_true,if_false,or_self,Bool.false_eq_true,(by decide:¬(4:Int)=1)];unfold brM;rw [if_pos h16];rfl)
 rw [hR]
 have H:=Lib.hid h
 have hS:=Sv.refl h0 hi
 obtain ⟨k,n,tx,at_,htk⟩:=s.pk_get
 have hke:(pk s.E s.L).x.k=k:=by show s.pk.x.k=k;rw [htk]
 have hkv:k=4:=by rw [←hke];exact hkk
 have hk1:(k==1)=false:=by rw [hkv];rfl
 have hk2:(k==2)=false:=by rw [hkv];rfl
 have hk3:(k==3)=false:=by rw [hkv];rfl
 have hk2n:(k !=2)=true:=by rw [hkv];rfl
 have q45:isR s ⟨#[45]⟩=false:=by rw [isR_of h0.1];exact hB45
 have qg:isR s ⟨#[62,61]⟩=false:=by rw [isR_of h0.1];exact hBg
 have ql:isR s ⟨#[60,61]⟩=false:=by rw [isR_of h0.1];exact hBl
 have qp:isR s ⟨#[40]⟩=true:=by rw [isR_of h0.1];exact hBp
 have HT:=Lib.hid htk
 obtain ⟨t9,M9,hL9,-,-⟩:=isB_cons hb
 obtain ⟨a1,cap1,T1,i1,E1,o1,b1,x1,hn1⟩:=s.open_.get
 have HN1:=Lib.hid hn1
 have HOP:∀W,Hid (Below w.heap.size w W)→Hid (Calls Tryz.prog 166 #[s.v] W (Ans (.agg #[.slice a1 T1.length cap1,.int .i64 (i1:Int),.int .i64 E1,.int .i64 o1,.int .i64 b1,.int .i64 x1]) W)):=fun W hW=>Lib.hid (by
  have:=sopen_any W s (H.out.below hW.out) ⟨by omega,by omega⟩
  rw [HN1.out] at this
  exact this)
 unfold St.open_ at hn1
 rw [if_pos h16] at hn1
 have hd1:=hS.fail s.pk 22 (by decide)
 rw [hn1] at hd1
 have hDx:Dx s ⟨a1,cap1,T1,i1,E1,o1,b1,x1⟩ s.pk.at_ 22:=⟨hd1.kin,hd1.bad,hd1.err,hd1.x,by
  have e:(s.fail s.pk 22).o=s.o:=by unfold St.fail;split<;>rfl
  rw [hn1] at e
  dsimp only at e⊢
  omega,by have:=hd1.hi;omega⟩
 obtain ⟨a2,cap2,T2,i2,E2,o2,b2,x2,hn2⟩:=(St.must ⟨a1,cap1,T1,i1,E1,o1,b1,x1⟩ [41]).get
 have HN2:Hid (St.must ⟨a1,cap1,T1,i1,E1,o1,b1,x1⟩ (ByteArray.mk #[41]).toList=⟨a2,cap2,T2,i2,E2,o2,b2,x2⟩):=Lib.hid (by rw [Lib.toList_data];exact hn2)
 have hD2:Dx s ⟨a2,cap2,T2,i2,E2,o2,b2,x2⟩ s.pk.at_ 22:=by rw [←hn2,hDx.self.must];exact hDx
 have HDX:=Lib.hid hDx
 have HD2:=Lib.hid hD2
 have HKN:=Lib.hid hDx.kin
 have hl2:=hD2.lo
 have hh2:=hD2.hi
 dsimp only at hl2 hh2
 have ho2a: -100≤o2:=by omega
 have ho2b:o2≤100:=by omega
 clear hn1 hn2 hd1 hDx hD2 hL9 hl2 hh2 h16
 have hx0:(s.err !=0)=false:=by simpa using h0.1
 have HI:=Lib.hid hi
 have H00:=Lib.hid h0
 have HSV:=Lib.hid hS
 clear hR hS htk hke h0 hi h hkv
 clear hB45 hBg hBl hBp hkk
 obtain ⟨a0,cap0,T0,i0,E0,o0,b0,x0,hs0⟩:=s.get
 have HS0:=Lib.hid hs0
 rw [hs0] at q45
 rw [hs0] at qg
 rw [hs0] at ql
 rw [hs0] at qp
 have hx0:(x0 !=0)=false:=by rw [hs0] at hx0;exact hx0
 have HT:Hid ((⟨a0,cap0,T0,i0,E0,o0,b0,x0⟩:St).pk=⟨⟨k,n,tx.toList⟩,at_⟩):=Lib.hid (by rw [←HS0.out];exact HT.out)
 have HSW:Hid (∀{W:World},Below w.heap.size w W→SW W ⟨a0,cap0,T0,i0,E0,o0,b0,x0⟩):=Lib.hid fun hW=>by rw [←HS0.out];exact H.out.below hW
 rw [show s.v= .agg #[.slice a0 T0.length cap0,.int .i64 (i0:Int),.int .i64 E0,.int .i64 o0,.int .i64 b0,.int .i64 x0] by rw [hs0];rfl]
 clear hs0
 have HF:=Lib.hid (Fr.start3 w #[.slice a0 T0.length cap0,.int .i64 (i0:Int),.int .i64 E0,.int .i64 o0,.int .i64 b0,.int .i64 x0] #[.slice none 0 0,.int .i64 0,.int .i64 0,.int .i64 0,.int .i64 0,.int .i64 0] #[.int .i64 0,.int .i64 0,.string ⟨#[]⟩,.slice none 0 0,.slice none 0 0,.bool false,.slice none 0 0] 95 95 35)
 have f:=HF.out.facts;dsimp only [Fs,Nes,List.map] at f
 go_enter Tryz.func144,Tryz.ntmps144
 go_wp2_with (first
  |(go_at_call 54;refine (peek_as _ ⟨a0,cap0,T0,i0,E0,o0,b0,x0⟩ k n at_ tx (HSW.out HF.out.bl) HT).mono ?_;rintro e w4 ⟨rfl,hb⟩;replace HF:=Lib.hid (HF.out.call hb);replace HF:=Lib.hid (HF.out.new_ #[.int .i64 k,.int .i64 n,.string tx,.int .i64 at_] 97 (n:=w4.heap.size) (rfl));clear f;have f:=HF.out.facts;dsimp only [Fs,Nes,List.map] at f;clear hb)
  |(go_at_call 99;refine (sis_r _ ⟨a0,cap0,T0,i0,E0,o0,b0,x0⟩ _ (HSW.out HF.out.bl)).mono ?_;rintro e w5 ⟨rfl,hb⟩;replace HF:=Lib.hid (HF.out.call hb);clear f;have f:=HF.out.facts;dsimp only [Fs,Nes,List.map] at f;clear hb)
  |(go_at_call 166;refine (show Calls Tryz.prog 166 #[.agg #[.slice a0 T0.length cap0,.int .i64 (i0:Int),.int .i64 E0,.int .i64 o0,.int .i64 b0,.int .i64 x0]] _ _ from by have:=(HOP _ (Lib.hid HF.out.bl)).out;rw [HS0.out] at this;exact this).mono ?_;rintro e w6 ⟨rfl,hb⟩;replace HF:=Lib.hid (HF.out.call hb);clear f;have f:=HF.out.facts;dsimp only [Fs,Nes,List.map] at f;clear hb)
  |(go_at_call 100;refine (slevel_dead1 _ ⟨a1,cap1,T1,i1,E1,o1,b1,x1⟩ (H.out.kin HF.out.bl HKN.out) HDX.out.self.live).mono ?_;rintro e w7 ⟨hb,⟨op,nn,s1,p,pl,pc,q,ql,qc,oo,ka,kl,kc⟩,rfl⟩;unfold Hd.agg St.v;dsimp only;replace HF:=Lib.hid (HF.out.call hb);clear f;replace HF:=Lib.hid (HF.out.new_ #[.slice a1 T1.length cap1,.int .i64 (i1:Int),.int .i64 E1,.int .i64 o1,.int .i64 b1,.int .i64 x1] 95 (n:=w7.heap.size) (rfl));replace HF:=Lib.hid (HF.out.new_ #[.int .i64 op,.int .i64 nn,.string s1,.slice p pl pc,.slice q ql qc,.bool oo,.slice ka kl kc] 35 (n:=w7.heap.size+1) (World.size_alloc _ _));have f:=HF.out.facts;dsimp only [Fs,Nes,List.map] at f;clear hb)
  |(go_at_call 58;refine (smust_as _ ⟨a1,cap1,T1,i1,E1,o1,b1,x1⟩ ⟨a2,cap2,T2,i2,E2,o2,b2,x2⟩ ⟨#[41]⟩ (H.out.kin HF.out.bl HKN.out) HN2).mono ?_;rintro e w8 ⟨rfl,hb⟩;unfold St.v;dsimp only;replace HF:=Lib.hid (HF.out.call hb);clear f;have f1:=HF.out.facts;dsimp only [Fs,Nes,List.map] at f1;replace HF:=Lib.hid (by have t:=HF.out.put6 1 rfl (.slice a2 T2.length cap2) (.int .i64 (i2:Int)) (.int .i64 E2) (.int .i64 o2) (.int .i64 b2) (.int .i64 x2);simp only [List.set_cons_succ,List.set_cons_zero] at t;exact t);have f2:=HF.out.facts;dsimp only [Fs,Nes,List.map] at f2;unfold put6 at f2;replace HF:=Lib.hid (by have t:=HF.out.set 1 3 rfl (.int .i64 (o2-1));simp only [List.set_cons_succ,List.set_cons_zero,List.setIfInBounds_toArray] at t;exact t);have f:=HF.out.facts;dsimp only [Fs,Nes,List.map] at f;unfold put6 at f;clear hb))
 go_region
 go_wp2_with fail
 refine bodyPost_ret (v:= .tuple #[.agg #[.slice a2 T2.length cap2,.int .i64 (i2:Int),.int .i64 E2,.int .i64 (o2-1),.int .i64 b2,.int .i64 x2],.agg #[.int .i64 op,.int .i64 nn,.string s1,.slice p pl pc,.slice q ql qc,.bool oo,.slice ka kl kc]]) (by simp [results,Tryz.results144,go_sem,f]) rfl ?_
 have hWe:=((HF.out.put6 4 rfl (.slice a2 T2.length cap2) (.int .i64 (i2:Int)) (.int .i64 E2) (.int .i64 (o2-1)) (.int .i64 b2) (.int .i64 x2)).put7 3 rfl (.int .i64 op) (.int .i64 nn) (.string s1) (.slice p pl pc) (.slice q ql qc) (.bool oo) (.slice ka kl kc)).drew
 exact br_ret (s:=s) (S:=⟨a2,cap2,T2,i2,E2,o2,b2,x2⟩) (hd:=⟨op,nn,s1,p,pl,pc,q,ql,qc,oo,ka,kl,kc⟩) hWe.bl (.inr ⟨_,_,HD2.out,HU.out⟩)
set_option maxRecDepth 100000 in
set_option maxHeartbeats 16000000 in
theorem sunit_par (join:Int→List Tok→Res Ex) (w:World) (s:St) (h:SW w s) (h0:s.err=0∧s.bad=0) (hi:s.i≤s.T.length) (ho:0≤s.o∧s.o≤16) (h16:¬s.o=16) (hb:isB [40] s.L=true) (ask:∀(W:World) (S:St),SW W S→S.err=0∧S.bad=0→S.i≤S.T.length→S.o=s.o+1→S.o≤16→S.E=s.E→S.L.length<s.L.length→Calls Tryz.prog 100 #[S.v,.int .i64 1] W (SRes (VX W.heap.size) W S (join S.o S.L))):Calls Tryz.prog 144 #[s.v] w (SRes (VX w.heap.size) w s (unitM join s.E s.o s.L)):=by
 obtain ⟨R,hR⟩:∃R,unitM join s.E s.o s.L=R:=⟨_,rfl⟩
 have hBp:isB [40] s.L=true:=hb
 have hkk:(pk s.E s.L).x.k=4:=isB_4 hb
 have hB45:isB [45] s.L=false:=isB_ne hb (by decide)
 have hBg:isB [62,61] s.L=false:=isB_ne hb (by decide)
 have hBl:isB [60,61] s.L=false:=isB_ne hb (by decide)
 have HU:Hid (R=(join (s.o+1) s.L.tail).bind fun x L1=>(must s.E [41] L1).bind fun _ L2=> .ok x L2):=Lib.hid (by rw [←hR];unfold unitM;simp only [hkk,hB45,hBg,hBl,hBp,if_true,if_false,or_self,Bool.false_eq_true,(by decide:¬(4:Int)=1)];unfold brM;rw [if_neg h16])
 rw [hR]
 have H:=Lib.hid h
 have hS:=Sv.refl h0 hi
 obtain ⟨k,n,tx,at_,htk⟩:=s.pk_get
 have hke:(pk s.E s.L).x.k=k:=by show s.pk.x.k=k;rw [htk]
 have hkv:k=4:=by rw [←hke];exact hkk
 have hk1:(k==1)=false:=by rw [hkv];rfl
 have hk2:(k==2)=false:=by rw [hkv];rfl
 have hk3:(k==3)=false:=by rw [hkv];rfl
 have hk2n:(k !=2)=true:=by rw [hkv];rfl
 have q45:isR s ⟨#[45]⟩=false:=by rw [isR_of h0.1];exact hB45
 have qg:isR s ⟨#[62,61]⟩=false:=by rw [isR_of h0.1];exact hBg
 have ql:isR s ⟨#[60,61]⟩=false:=by rw [isR_of h0.1];exact hBl
 have qp:isR s ⟨#[40]⟩=true:=by rw [isR_of h0.1];exact hBp
 have HT:=Lib.hid htk
 obtain ⟨t9,M9,hL9,-,-⟩:=isB_cons hb
 obtain ⟨a1,cap1,T1,i1,E1,o1,b1,x1,hn1⟩:=s.open_.get
 have HN1:=Lib.hid hn1
 have HOP:∀W,Hid (Below w.heap.size w W)→Hid (Calls Tryz.prog 166 #[s.v] W (Ans (.agg #[.slice a1 T1.length cap1,.int .i64 (i1:Int),.int .i64 E1,.int .i64 o1,.int .i64 b1,.int .i64 x1]) W)):=fun W hW=>Lib.hid (by
  have:=sopen_any W s (H.out.below hW.out) ⟨by omega,by omega⟩
  rw [HN1.out] at this
  exact this)
 unfold St.open_ at hn1
 rw [if_neg h16] at hn1
 have hs1:Sv {s with o:=s.o+1} ⟨a1,cap1,T1,i1,E1,o1,b1,x1⟩ M9:=by
  have h2:=(Sv.refl (s:={s with o:=s.o+1}) h0 hi).next (t:=t9) (N:=M9) hL9
  rw [hn1] at h2
  exact h2
 obtain ⟨r7,hr7⟩:∃r,join (s.o+1) M9=r:=⟨_,rfl⟩
 have HR7:=Lib.hid hr7
 have HSV1:=Lib.hid hs1
 have HKN:=Lib.hid hs1.kin.ofo
 have HTL:Hid (s.L.tail=M9):=Lib.hid (by rw [hL9];rfl)
 have HLV:∀W,Hid (Below w.heap.size w W)→Hid (Calls Tryz.prog 100 #[.agg #[.slice a1 T1.length cap1,.int .i64 (i1:Int),.int .i64 E1,.int .i64 o1,.int .i64 b1,.int .i64 x1],.int .i64 1] W (LevQ {s with o:=s.o+1} ⟨a1,cap1,T1,i1,E1,o1,b1,x1⟩ r7 W)):=fun W hW=>Lib.hid (by
  have hsw:=H.out.kin hW.out HKN.out
  have hK:=HSV1.out
  have e1:=hK.eq
  have e2:(⟨a1,cap1,T1,i1,E1,o1,b1,x1⟩:St).o=s.o+1:=by rw [e1]
  have h5:=ask W ⟨a1,cap1,T1,i1,E1,o1,b1,x1⟩ hsw ⟨hK.err,by rw [e1];exact hK.ok.2⟩ (by have:=hK.i;rw [hK.kin.T];exact this) e2 (by rw [e2];omega) hK.kin.E (by rw [hK.L,hL9];simp)
  rw [e2,hK.L,HR7.out] at h5
  exact h5.mono fun e w' hq=>LevQ.of hK hq)
 have hoo:s.o+1≤16:=by omega
 have HO:=Lib.hid (And.intro ho.1 hoo)
 clear hn1 hs1 hL9 hr7 h16 ask ho hoo
 have hx0:(s.err !=0)=false:=by simpa using h0.1
 have HI:=Lib.hid hi
 have H00:=Lib.hid h0
 have HSV:=Lib.hid hS
 clear hR hS htk hke h0 hi h hkv
 clear hB45 hBg hBl hBp hkk
 obtain ⟨a0,cap0,T0,i0,E0,o0,b0,x0,hs0⟩:=s.get
 have HS0:=Lib.hid hs0
 rw [hs0] at q45
 rw [hs0] at qg
 rw [hs0] at ql
 rw [hs0] at qp
 have hx0:(x0 !=0)=false:=by rw [hs0] at hx0;exact hx0
 have HT:Hid ((⟨a0,cap0,T0,i0,E0,o0,b0,x0⟩:St).pk=⟨⟨k,n,tx.toList⟩,at_⟩):=Lib.hid (by rw [←HS0.out];exact HT.out)
 have HSW:Hid (∀{W:World},Below w.heap.size w W→SW W ⟨a0,cap0,T0,i0,E0,o0,b0,x0⟩):=Lib.hid fun hW=>by rw [←HS0.out];exact H.out.below hW
 rw [show s.v= .agg #[.slice a0 T0.length cap0,.int .i64 (i0:Int),.int .i64 E0,.int .i64 o0,.int .i64 b0,.int .i64 x0] by rw [hs0];rfl]
 clear hs0
 have HF:=Lib.hid (Fr.start3 w #[.slice a0 T0.length cap0,.int .i64 (i0:Int),.int .i64 E0,.int .i64 o0,.int .i64 b0,.int .i64 x0] #[.slice none 0 0,.int .i64 0,.int .i64 0,.int .i64 0,.int .i64 0,.int .i64 0] #[.int .i64 0,.int .i64 0,.string ⟨#[]⟩,.slice none 0 0,.slice none 0 0,.bool false,.slice none 0 0] 95 95 35)
 have f:=HF.out.facts;dsimp only [Fs,Nes,List.map] at f
 go_enter Tryz.func144,Tryz.ntmps144
 go_wp2_with (first
  |(go_at_call 54;refine (peek_as _ ⟨a0,cap0,T0,i0,E0,o0,b0,x0⟩ k n at_ tx (HSW.out HF.out.bl) HT).mono ?_;rintro e w4 ⟨rfl,hb⟩;replace HF:=Lib.hid (HF.out.call hb);replace HF:=Lib.hid (HF.out.new_ #[.int .i64 k,.int .i64 n,.string tx,.int .i64 at_] 97 (n:=w4.heap.size) (rfl));clear f;have f:=HF.out.facts;dsimp only [Fs,Nes,List.map] at f;clear hb)
  |(go_at_call 99;refine (sis_r _ ⟨a0,cap0,T0,i0,E0,o0,b0,x0⟩ _ (HSW.out HF.out.bl)).mono ?_;rintro e w5 ⟨rfl,hb⟩;replace HF:=Lib.hid (HF.out.call hb);clear f;have f:=HF.out.facts;dsimp only [Fs,Nes,List.map] at f;clear hb)
  |(go_at_call 166;refine (show Calls Tryz.prog 166 #[.agg #[.slice a0 T0.length cap0,.int .i64 (i0:Int),.int .i64 E0,.int .i64 o0,.int .i64 b0,.int .i64 x0]] _ _ from by have:=(HOP _ (Lib.hid HF.out.bl)).out;rw [HS0.out] at this;exact this).mono ?_;rintro e w6 ⟨rfl,hb⟩;replace HF:=Lib.hid (HF.out.call hb);clear f;have f:=HF.out.facts;dsimp only [Fs,Nes,List.map] at f;clear hb)
  |(go_at_call 100;refine (HLV _ (Lib.hid HF.out.bl)).out.mono ?_;rintro e w7 ⟨hb,S2,hd2,rfl,hst2,hx2⟩;have HX:=Lib.hid (fun x K e=>XF.of (hx2 x K e) HF.out HF.out.size);clear hx2;obtain ⟨a2,cap2,T2,i2,E2,o2,b2,x2⟩:=S2;obtain ⟨op,nn,s1,p,pl,pc,q,ql,qc,oo,ka,kl,kc⟩:=hd2;unfold St.v Hd.agg;dsimp only;replace HF:=Lib.hid (HF.out.call hb);clear f;replace HF:=Lib.hid (HF.out.new_ #[.slice a2 T2.length cap2,.int .i64 (i2:Int),.int .i64 E2,.int .i64 o2,.int .i64 b2,.int .i64 x2] 95 (n:=w7.heap.size) (rfl));replace HF:=Lib.hid (HF.out.new_ #[.int .i64 op,.int .i64 nn,.string s1,.slice p pl pc,.slice q ql qc,.bool oo,.slice ka kl kc] 35 (n:=w7.heap.size+1) (World.size_alloc _ _));replace HX:=Lib.hid (fun x K e=>((HX.out x K e).new_ #[.slice a2 T2.length cap2,.int .i64 (i2:Int),.int .i64 E2,.int .i64 o2,.int .i64 b2,.int .i64 x2] 95 (n:=w7.heap.size) rfl).new_ #[.int .i64 op,.int .i64 nn,.string s1,.slice p pl pc,.slice q ql qc,.bool oo,.slice ka kl kc] 35 (n:=w7.heap.size+1) (World.size_alloc _ _));obtain ⟨a3,cap3,T3,i3,E3,o3,b3,x3,hn3⟩:=(St.must ⟨a2,cap2,T2,i2,E2,o2,b2,x2⟩ [41]).get;have hst3:=hst2.must2 [41];rw [hn3] at hst3;have HST:=Lib.hid hst3;have HN3:Hid (St.must ⟨a2,cap2,T2,i2,E2,o2,b2,x2⟩ (ByteArray.mk #[41]).toList=⟨a3,cap3,T3,i3,E3,o3,b3,x3⟩):=Lib.hid (by rw [Lib.toList_data];exact hn3);have HK2:=Lib.hid hst2.kin.ofo;have ho3:=hst3.ord;dsimp only at ho3;have ho2a: -100≤o3:=(by have:=HO.out;omega);have ho2b:o3≤100:=(by have:=HO.out;omega);clear hst2 hst3 hn3 ho3;have f:=HF.out.facts;dsimp only [Fs,Nes,List.map] at f;clear hb)
  |(go_at_call 58;refine (smust_as _ ⟨a2,cap2,T2,i2,E2,o2,b2,x2⟩ ⟨a3,cap3,T3,i3,E3,o3,b3,x3⟩ ⟨#[41]⟩ (H.out.kin HF.out.bl HK2.out) HN3).mono ?_;rintro e w8 ⟨rfl,hb⟩;unfold St.v;dsimp only;replace HF:=Lib.hid (HF.out.call hb);replace HX:=Lib.hid (fun x K e=>(HX.out x K e).call hb);clear f;have f1:=HF.out.facts;dsimp only [Fs,Nes,List.map] at f1;replace HF:=Lib.hid (by have t:=HF.out.put6 1 rfl (.slice a3 T3.length cap3) (.int .i64 (i3:Int)) (.int .i64 E3) (.int .i64 o3) (.int .i64 b3) (.int .i64 x3);simp only [List.set_cons_succ,List.set_cons_zero] at t;exact t);have f2:=HF.out.facts;dsimp only [Fs,Nes,List.map] at f2;unfold put6 at f2;replace HF:=Lib.hid (by have t:=HF.out.set 1 3 rfl (.int .i64 (o3-1));simp only [List.set_cons_succ,List.set_cons_zero,List.setIfInBounds_toArray] at t;exact t);have f:=HF.out.facts;dsimp only [Fs,Nes,List.map] at f;unfold put6 at f;clear hb))
 go_region
 go_wp2_with fail
 refine bodyPost_ret (v:= .tuple #[.agg #[.slice a3 T3.length cap3,.int .i64 (i3:Int),.int .i64 E3,.int .i64 (o3-1),.int .i64 b3,.int .i64 x3],.agg #[.int .i64 op,.int .i64 nn,.string s1,.slice p pl pc,.slice q ql qc,.bool oo,.slice ka kl kc]]) (by simp [results,Tryz.results144,go_sem,f]) rfl ?_
 have hWe:=((HF.out.put6 4 rfl (.slice a3 T3.length cap3) (.int .i64 (i3:Int)) (.int .i64 E3) (.int .i64 (o3-1)) (.int .i64 b3) (.int .i64 x3)).put7 3 rfl (.int .i64 op) (.int .i64 nn) (.string s1) (.slice p pl pc) (.slice q ql qc) (.bool oo) (.slice ka kl kc)).drew
 refine br_ret (s:=s) (S:=⟨a3,cap3,T3,i3,E3,o3,b3,x3⟩) (hd:=⟨op,nn,s1,p,pl,pc,q,ql,qc,oo,ka,kl,kc⟩) hWe.bl (.inl ⟨?_,fun x N e=>?_⟩)
 ·rw [HU.out,HTL.out,HR7.out];exact HST.out
 ·rw [HU.out,HTL.out,HR7.out] at e
  obtain ⟨y,K,e1,e2⟩:=bind_ok e
  obtain ⟨u,K2,e3,e4⟩:=bind_ok e2
  cases e4
  exact ((((((HX.out x K e1).put6 1 rfl (.slice a3 T3.length cap3) (.int .i64 (i3:Int)) (.int .i64 E3) (.int .i64 o3) (.int .i64 b3) (.int .i64 x3)).put (i:=1) rfl (setCell_grown _ _ 3 (.int .i64 (o3-1))) (cs':=#[.slice a3 T3.length cap3,.int .i64 (i3:Int),.int .i64 E3,.int .i64 (o3-1),.int .i64 b3,.int .i64 x3])).put6 4 rfl (.slice a3 T3.length cap3) (.int .i64 (i3:Int)) (.int .i64 E3) (.int .i64 (o3-1)) (.int .i64 b3) (.int .i64 x3)).put7 3 rfl (.int .i64 op) (.int .i64 nn) (.string s1) (.slice p pl pc) (.slice q ql qc) (.bool oo) (.slice ka kl kc)).call (Below.refl _ _).drew).less fun b _ hb=>hb.1
end Go.Proofs.YtkfihhagcimcmaaGreatDoor.Ps
