/- Qs1 -/
import Derived.Test.YtkfihhagcimcmaaGreatDoorChecked
import Derived.Test.YtkfihhagcimcmaaGreatDoorProg
import Derived.Test.YtkfihhagcimcmaaGreatDoorY1
import Derived.Test.YtkfihhagcimcmaaGreatDoorYbl
namespace Go.Proofs.YtkfihhagcimcmaaGreatDoor.Ps
open Go.RowKit
open Lx (Tok bl_alloc)
def KE (B:Nat) (l:BL) (v:Value) (w:World) (h:Hd) (x:Ex):Prop:=XB (fun b=>(B≤b∧b∉l.map Prod.fst)∧v.ownBlock≠some b) w h x
structure KF (B:Nat) (l:BL) (w:World) (v:Value) (L:List HX):Prop where
 own:w.ownsRow B 35 7 v L.length (hcells L)
 far:∀b∈l.map Prod.fst,v.ownBlock≠some b
 els:∀y∈L,KE B l v w y.1 y.2
section
variable {B:Nat} {l:BL} {w w':World} {v:Value} {L:List HX} {h:Hd} {x:Ex}
theorem KE.call (hx:KE B l v w h x) (hb:Below w.heap.size w w'):KE B l v w' h x:=XB.below hx hb
theorem KE.new_ (hx:KE B l v w h x) (cs:Array Value) (t:TypeId) {n:Nat} (hn:w.heap.size=n):KE B ((n,cs,t)::l) v (w.alloc (.cells cs t)) h x:=
 XB.turn hx (by simp) fun b lt hb=>⟨(bl_alloc (o:= .cells cs t) (Below.refl w.heap.size w)).block b lt,⟨hb.1.1,fun hm=>by
  rw [List.map_cons] at hm
  rcases List.mem_cons.1 hm with e|hm
  ·simp only at e;omega
  ·exact hb.1.2 hm⟩,hb.2⟩
theorem KE.put (hx:KE B l v w h x) {i b:Nat} {cs cs':Array Value} {t:TypeId} (hi:l[i]?=some (b,cs,t)) (g:w.grownBy w' (some b)):KE B (l.set i (b,cs',t)) v w' h x:=
 XB.turn hx g.size fun c lt hc=>⟨g.block c lt fun e=>hc.1.2 (by injection e with e;rw [e];exact List.mem_map.2 ⟨_,List.mem_of_getElem? hi,rfl⟩),⟨hc.1.1,by rw [set_fst hi];exact hc.1.2⟩,hc.2⟩
theorem KE.tail {y:Nat×Array Value×TypeId} (hx:KE B (y::l) v w h x):KE B l v w h x:=XB.less hx fun b _ hb=>⟨⟨hb.1.1,fun hm=>hb.1.2 (by rw [List.map_cons];exact List.mem_cons_of_mem _ hm)⟩,hb.2⟩
theorem KE.of {w0:World} (hx:XB (fun b=>w.heap.size≤b) w' h x) (hF:Fr w0 w l) (hB:B≤w.heap.size) (hK:KF B l w v L):KE B l v w' h x:=
 XB.less hx fun b _ hb=>⟨⟨Nat.le_trans hB hb,hF.fresh hb⟩,fun e=>by have:=own_lt hK.own e;omega⟩
theorem KF.call (h:KF B l w v L) (hb:Below w.heap.size w w'):KF B l w' v L:=
 ⟨h.own.kept (grown_below hb) (by cases v.ownBlock<;>simp),h.far,fun y hy=>(h.els y hy).call hb⟩
theorem KF.new_ (h:KF B l w v L) (cs:Array Value) (t:TypeId) {n:Nat} (hn:w.heap.size=n):KF B ((n,cs,t)::l) (w.alloc (.cells cs t)) v L:=by
 subst hn
 exact ⟨h.own.alloc _,fun b hb e=>by
  rw [List.map_cons] at hb
  rcases List.mem_cons.1 hb with rfl|hb
  ·have:=own_lt h.own e;simp only at this;omega
  ·exact h.far b hb e,fun y hy=>(h.els y hy).new_ cs t rfl⟩
theorem KF.put (h:KF B l w v L) {i b:Nat} {cs cs':Array Value} {t:TypeId} (hi:l[i]?=some (b,cs,t)) (g:w.grownBy w' (some b)):KF B (l.set i (b,cs',t)) w' v L:=
 ⟨owns_grown h.own g (h.far b (List.mem_map.2 ⟨_,List.mem_of_getElem? hi,rfl⟩)),by rw [set_fst hi];exact h.far,fun y hy=>(h.els y hy).put hi g⟩
theorem KF.put6 (h:KF B l w v L) (i:Nat) {b:Nat} {t:TypeId} {u0 u1 u2 u3 u4 u5:Value} (hi:l[i]?=some (b,#[u0,u1,u2,u3,u4,u5],t)) (v0 v1 v2 v3 v4 v5:Value):KF B (l.set i (b,#[v0,v1,v2,v3,v4,v5],t)) (Ps.put6 w b v0 v1 v2 v3 v4 v5) v L:=h.put hi (put6_grown w b v0 v1 v2 v3 v4 v5)
theorem KF.put7 (h:KF B l w v L) (i:Nat) {b:Nat} {t:TypeId} {u0 u1 u2 u3 u4 u5 u6:Value} (hi:l[i]?=some (b,#[u0,u1,u2,u3,u4,u5,u6],t)) (v0 v1 v2 v3 v4 v5 v6:Value):KF B (l.set i (b,#[v0,v1,v2,v3,v4,v5,v6],t)) (Ps.put7 w b v0 v1 v2 v3 v4 v5 v6) v L:=h.put hi (put7_grown w b v0 v1 v2 v3 v4 v5 v6)
theorem KF.tail {y:Nat×Array Value×TypeId} (h:KF B (y::l) w v L):KF B l w v L:=
 ⟨h.own,fun b hb=>h.far b (by rw [List.map_cons];exact List.mem_cons_of_mem _ hb),fun y hy=>(h.els y hy).tail⟩
theorem KF.first {cs:Array Value} (hx:XF B l w h x) (hc:cs=(hcells [(h,x)]).toArray) (hB:B≤w.heap.size) (hl:w.heap.size∉l.map Prod.fst):KF B l (w.alloc (.cells cs 35)) (.slice (some ⟨w.heap.size,0,none⟩) 1 1) [(h,x)]:=
 ⟨row_built (w:=w) (base:=B) hB (L:=[(h,x)]) (n:=1) rfl hc (by decide),fun b hb e=>by
  have:w.heap.size=b:=by simpa [Value.ownBlock] using e
  subst this
  exact hl hb,fun y hy=>by
  rw [List.mem_singleton.1 hy]
  exact XB.turn hx (by simp) fun b lt hb=>⟨(bl_alloc (o:= .cells cs 35) (Below.refl w.heap.size w)).block b lt,hb,fun e=>by
   have:w.heap.size=b:=by simpa [Value.ownBlock] using e
   omega⟩⟩
theorem KF.app {cs:Array Value} {v':Value} (hK:KF B l w v L) (hx:KE B l v w h x) (hw:w'=w.alloc (.cells cs 35)) {w2:World} (hg:w'.grownBy w2 v.ownBlock) (hown:w2.ownsRow B 35 7 v' (L.length+1) (hcells L++h.vals.toList)) (hob:v'.ownBlock=v.ownBlock∨v'.ownBlock=some (w.heap.size+1)) (hfr:w.heap.size+1∉l.map Prod.fst):KF B l w2 v' (L++[(h,x)]):=by
 have hb:=bl_alloc (o:= .cells cs 35) (Below.refl w.heap.size w)
 rw [←hw] at hb
 have hz:w'.heap.size=w.heap.size+1:=by rw [hw];simp
 refine ⟨by rw [hcells_snoc,List.length_append];exact hown,fun b hm e=>?_,fun y hy=>?_⟩
 ·rcases hob with h1|h1
  ·rw [h1] at e;exact hK.far b hm e
  ·rw [h1] at e;injection e with e;subst e;exact hfr hm
 ·have key:∀z:HX,KE B l v w z.1 z.2→KE B l v' w2 z.1 z.2:=fun z hz2=>XB.turn hz2 (Nat.le_trans hb.size hg.size) fun b lt hc=>⟨(hg.block b (by omega) (fun e=>hc.2 e.symm)).trans (hb.block b lt),hc.1,fun e=>by
   rcases hob with h1|h1
   ·rw [h1] at e;exact hc.2 e
   ·rw [h1] at e;injection e with e;omega⟩
  rcases List.mem_append.1 hy with h1|h1
  ·exact key y (hK.els y h1)
  ·rw [List.mem_singleton.1 h1];exact key (h,x) hx
theorem KF.ks {a:Option Addr} {n c:Nat} (h:KF B l w (.slice a n c) L) (hn:L.length=n) (hm:n≤1000) (op:Int):XB (fun b=>B≤b) w ⟨op,0,⟨#[]⟩,none,0,0,none,0,0,false,a,n,c⟩ (.mk op 0 ⟨#[]⟩ [] [] false (L.map (·.2))):=by
 obtain ⟨a9,c9,e9,hK9⟩:=row_ks (I:=XB (fun b=>B≤b) w) h.own rfl (by omega) (fun y hy=>(h.els y hy).less fun b _ hb=>hb.1.1)
 injection e9 with e1 e2 e3
 subst e1 e3
 rw [hn] at hK9
 exact XB.kids op hK9 (fun h0 b off e=>by subst e;exact own_base h.own b (by simp [Value.ownBlock]))
end
theorem Fr.row {w0 w w':World} {l:BL} {v:Value} {L:List HX} (h:Fr w0 w l) (hK:KF w0.heap.size l w v L) {o:Obj} (g:(w.alloc o).grownBy w' v.ownBlock):Fr w0 w' l:=
 (h.old o).away g fun k e=>⟨own_base hK.own k e,fun hm=>hK.far k hm e⟩
set_option maxRecDepth 100000 in
set_option maxHeartbeats 16000000 in
theorem slevel_kid1 (part:List Tok→Res Ex) (w:World) (s:St) (h:SW w s) (h0:s.err=0∧s.bad=0) (hi:s.i≤s.T.length) (hfit:∀L,Fits cnt L (part L))
  (ask:∀(W:World) (S:St) (M:List Tok),SW W S→Sv s S M→M.length≤s.L.length→Calls Tryz.prog 100 #[S.v,.int .i64 2] W (SRes (VX W.heap.size) W S (part M))):
  Calls Tryz.prog 100 #[s.v,.int .i64 1] w (SRes (VX w.heap.size) w s (kidsM part s.E 12 [124] s.L)):=by
 obtain ⟨R,hR⟩:∃R,kidsM part s.E 12 [124] s.L=R:=⟨_,rfl⟩
 rw [hR]
 unfold kidsM at hR
 have H:=Lib.hid h
 have HASK:=Lib.hid ask
 have HFIT:=Lib.hid hfit
 have hS:=Sv.refl h0 hi
 obtain ⟨r1,hr1⟩:∃r,part s.L=r:=⟨_,rfl⟩
 have HA:Hid (∀x M,r1= .ok x M→KidsAt part s.E 12 [124] R [x] M∧M.length≤s.L.length):=Lib.hid fun x M e=>by
  rw [hr1,e] at hR
  rw [e] at hr1
  exact ⟨⟨_,Nat.lt_succ_self _,hR⟩,by have:=(hfit _ _ _ hr1).1.length_le;exact this⟩
 have HA2:Hid (∀a y,r1= .bad a y→R= .bad a y):=Lib.hid fun a y e=>by rw [←hR,hr1,e];rfl
 obtain ⟨a0,cap0,T0,i0,E0,o0,b0,x0,hs0⟩:=s.get
 have HLV:∀W,Hid (Below w.heap.size w W)→Hid (Calls Tryz.prog 100 #[.agg #[.slice a0 T0.length cap0,.int .i64 (i0:Int),.int .i64 E0,.int .i64 o0,.int .i64 b0,.int .i64 x0],.int .i64 2] W (LevQ s s r1 W)):=fun W hW=>Lib.hid (by
  have h5:=HASK.out W s s.L (H.out.below hW.out) hS (Nat.le_refl _)
  rw [hr1] at h5
  have h6:=h5.mono fun e w' hq=>LevQ.of hS hq
  rw [show s.v= .agg #[.slice a0 T0.length cap0,.int .i64 (i0:Int),.int .i64 E0,.int .i64 o0,.int .i64 b0,.int .i64 x0] by rw [hs0];rfl] at h6
  exact h6)
 rw [show s.v= .agg #[.slice a0 T0.length cap0,.int .i64 (i0:Int),.int .i64 E0,.int .i64 o0,.int .i64 b0,.int .i64 x0] by rw [hs0];rfl]
 have HF:=Lib.hid (Fr.start3 w #[.slice a0 T0.length cap0,.int .i64 (i0:Int),.int .i64 E0,.int .i64 o0,.int .i64 b0,.int .i64 x0] #[.slice none 0 0,.int .i64 0,.int .i64 0,.int .i64 0,.int .i64 0,.int .i64 0] #[.int .i64 0,.int .i64 0,.string ⟨#[]⟩,.slice none 0 0,.slice none 0 0,.bool false,.slice none 0 0] 95 95 35)
 have f:=HF.out.facts;dsimp only [Fs,Nes,List.map] at f
 obtain ⟨inf,hi0,hz0,hz1,hz2⟩:=info_parts info26
 have HI:=Lib.hid hi0
 have HI0:=Lib.hid hz0
 have HI1:=Lib.hid hz1
 have HI2:=Lib.hid hz2
 clear hs0 h ask hfit hS hR hr1 h0 hi hi0 hz0 hz1 hz2
 go_enter Tryz.func100,Tryz.ntmps100
 go_wp2_with (go_at_call 100;refine (HLV _ (Lib.hid HF.out.bl)).out.mono ?_;rintro e w4 ⟨hb,S1,hd1,rfl,hst,hx⟩;have HX:=Lib.hid (fun x K e=>XF.of (hx x K e) HF.out HF.out.size);clear hx;obtain ⟨a1,cap1,T1,i1,E1,o1,b1,x1⟩:=S1;obtain ⟨op,nn,s1,p,pl,pc,q,ql,qc,oo,ka,kl,kc⟩:=hd1;unfold St.v Hd.agg;dsimp only;replace HF:=Lib.hid (HF.out.call hb);clear f;have f1:=HF.out.facts;dsimp only [Fs,Nes,List.map] at f1;replace HF:=Lib.hid (HF.out.new_ #[.int .i64 0,.int .i64 0,.string ⟨#[]⟩,.slice none 0 0,.slice none 0 0,.bool false,.slice none 0 0] 35 (n:=w4.heap.size) (rfl));have f2:=HF.out.facts;dsimp only [Fs,Nes,List.map] at f2;replace HF:=Lib.hid (by have t:=HF.out.put6 3 rfl (.slice a1 T1.length cap1) (.int .i64 (i1:Int)) (.int .i64 E1) (.int .i64 o1) (.int .i64 b1) (.int .i64 x1);simp only [List.set_cons_succ,List.set_cons_zero] at t;exact t);have f3:=HF.out.facts;dsimp only [Fs,Nes,List.map] at f3;replace HF:=Lib.hid (by have t:=HF.out.put7 0 rfl (.int .i64 op) (.int .i64 nn) (.string s1) (.slice p pl pc) (.slice q ql qc) (.bool oo) (.slice ka kl kc);simp only [List.set_cons_zero] at t;exact t);have f4:=HF.out.facts;dsimp only [Fs,Nes,List.map] at f4;replace HX:=Lib.hid (fun x K e=>(((HX.out x K e).new_ #[.int .i64 0,.int .i64 0,.string ⟨#[]⟩,.slice none 0 0,.slice none 0 0,.bool false,.slice none 0 0] 35 (n:=w4.heap.size) rfl).put6 3 rfl (.slice a1 T1.length cap1) (.int .i64 (i1:Int)) (.int .i64 E1) (.int .i64 o1) (.int .i64 b1) (.int .i64 x1)).put7 0 rfl (.int .i64 op) (.int .i64 nn) (.string s1) (.slice p pl pc) (.slice q ql qc) (.bool oo) (.slice ka kl kc));have HST:=Lib.hid hst;clear hb hst)
 have hZW:(Ps.put7 (Ps.put6 (w4.alloc (.cells #[.int .i64 0,.int .i64 0,.string ⟨#[]⟩,.slice none 0 0,.slice none 0 0,.bool false,.slice none 0 0] 35)) w.heap.size (.slice a1 T1.length cap1) (.int .i64 (i1:Int)) (.int .i64 E1) (.int .i64 o1) (.int .i64 b1) (.int .i64 x1)) w4.heap.size (.int .i64 op) (.int .i64 nn) (.string s1) (.slice p pl pc) (.slice q ql qc) (.bool oo) (.slice ka kl kc)).heap.size=w4.heap.size+1:=by rw [put7_size,put6_size,World.size_alloc]
 have HFR:=Lib.hid (HF.out.fresh (Nat.le_refl _))
 have HFX:=Lib.hid (HF.out.old (.cells #[.int .i64 op,.int .i64 nn,.string s1,.slice p pl pc,.slice q ql qc,.bool oo,.slice ka kl kc] 35))
 have HKX:=Lib.hid (fun x K e=>KF.first (cs:=#[.int .i64 op,.int .i64 nn,.string s1,.slice p pl pc,.slice q ql qc,.bool oo,.slice ka kl kc]) (HX.out x K e) rfl HF.out.size HFR.out)
 rw [hZW] at HKX
 clear f1 f2 f3 f4 hZW HFR HX HF
 go_loopw [11] (fun v wr=>∃(a2:Option Addr) (cap2:Nat) (T2:List Tok) (i2:Nat) (E2 o2 b2 x2:Int) (ra:Option Addr) (rl rc:Nat),v= .slice ra rl rc∧Hid (Fr w wr [(w4.heap.size,#[.int .i64 op,.int .i64 nn,.string s1,.slice p pl pc,.slice q ql qc,.bool oo,.slice ka kl kc],35),(w.heap.size+2,#[.int .i64 0,.int .i64 0,.string ⟨#[]⟩,.slice none 0 0,.slice none 0 0,.bool false,.slice none 0 0],35),(w.heap.size+1,#[.slice none 0 0,.int .i64 0,.int .i64 0,.int .i64 0,.int .i64 0,.int .i64 0],95),(w.heap.size,#[.slice a2 T2.length cap2,.int .i64 (i2:Int),.int .i64 E2,.int .i64 o2,.int .i64 b2,.int .i64 x2],95)])∧((∃(x:Ex) (L:List HX) (M:List Tok),rl≤32∧Hid ((((⟨op,nn,s1,p,pl,pc,q,ql,qc,oo,ka,kl,kc⟩:Hd),x)::L).length=rl)∧Hid (KF w.heap.size [(w4.heap.size,#[.int .i64 op,.int .i64 nn,.string s1,.slice p pl pc,.slice q ql qc,.bool oo,.slice ka kl kc],35),(w.heap.size+2,#[.int .i64 0,.int .i64 0,.string ⟨#[]⟩,.slice none 0 0,.slice none 0 0,.bool false,.slice none 0 0],35),(w.heap.size+1,#[.slice none 0 0,.int .i64 0,.int .i64 0,.int .i64 0,.int .i64 0,.int .i64 0],95),(w.heap.size,#[.slice a2 T2.length cap2,.int .i64 (i2:Int),.int .i64 E2,.int .i64 o2,.int .i64 b2,.int .i64 x2],95)] wr (.slice ra rl rc) (((⟨op,nn,s1,p,pl,pc,q,ql,qc,oo,ka,kl,kc⟩:Hd),x)::L))∧Hid (Sv s ⟨a2,cap2,T2,i2,E2,o2,b2,x2⟩ M)∧Hid (M.length≤s.L.length)∧Hid (KidsAt part s.E 12 [124] R ((((⟨op,nn,s1,p,pl,pc,q,ql,qc,oo,ka,kl,kc⟩:Hd),x)::L).map (·.2)) M))∨(∃a y,Hid (Dd s ⟨a2,cap2,T2,i2,E2,o2,b2,x2⟩ a y)∧Hid (R= .bad a y)))) (fun _ wr=>leftS wr w.heap.size)
 case atStart=>
  refine ⟨_,_,_,_,_,_,_,_,_,_,_,rfl,HFX,?_⟩
  cases hr1:r1 with
  |ok x M=>
   have h1:=HST.out
   rw [hr1] at h1
   exact .inl ⟨x,[],M,by decide,Lib.hid rfl,Lib.hid (HKX.out x M hr1),Lib.hid h1,Lib.hid (HA.out x M hr1).2,Lib.hid (HA.out x M hr1).1⟩
  |bad a y=>
   have h1:=HST.out
   rw [hr1] at h1
   exact .inr ⟨a,y,Lib.hid h1,Lib.hid (HA2.out a y hr1)⟩
 case round=>
  clear HKX HST HFX
  obtain ⟨a2,cap2,T2,i2,E2,o2,b2,x2,ra,rl,rc,rfl,HF,hh⟩:=hrel
  rename World=>wr
  rcases hh with ⟨x,L,M,hrl,hL,HK,hS,hML,hB⟩|⟨a,y,hD,hRR⟩
  ·have HSW:Hid (∀{W:World},Below w.heap.size w W→SW W ⟨a2,cap2,T2,i2,E2,o2,b2,x2⟩):=Lib.hid fun hW=>H.out.kin hW hS.out.kin
   cases hb:isB [124] M with
   |false=>
    have HIS:Hid (St.is ⟨a2,cap2,T2,i2,E2,o2,b2,x2⟩ (ByteArray.mk #[124]).toList=false):=Lib.hid (by rw [Lib.toList_data,hS.out.is];exact hb)
    have HRR:=Lib.hid (hB.out.last hb)
    clear hb
    by_cases h1:rl=1
    ·have hn1:((rl:Int)==1)=true:=by rw [h1];rfl
     have hL0:L=[]:=by have:=hL.out;simp at this;exact List.length_eq_zero_iff.1 (by omega)
     subst hL0
     have f:=HF.out.facts
     dsimp only [Fs,Nes,List.map] at f
     go_wp2_with (go_at_call 99;refine (sis_as _ ⟨a2,cap2,T2,i2,E2,o2,b2,x2⟩ ⟨#[124]⟩ false (HSW.out HF.out.bl) HIS).mono ?_;rintro e w5 ⟨rfl,hb⟩;replace HF:=Lib.hid (HF.out.call hb);replace HK:=Lib.hid (HK.out.call hb);clear f;have f:=HF.out.facts;dsimp only [Fs,Nes,List.map] at f;clear hb)
     go_region
     go_wp2_with fail
     refine bodyPost_ret (v:= .tuple #[.agg #[.slice a2 T2.length cap2,.int .i64 (i2:Int),.int .i64 E2,.int .i64 o2,.int .i64 b2,.int .i64 x2],.agg #[.int .i64 op,.int .i64 nn,.string s1,.slice p pl pc,.slice q ql qc,.bool oo,.slice ka kl kc]]) (by simp [results,Tryz.results100,go_sem,f]) rfl ?_
     exact sres_of (S:=⟨a2,cap2,T2,i2,E2,o2,b2,x2⟩) (hd:=⟨op,nn,s1,p,pl,pc,q,ql,qc,oo,ka,kl,kc⟩) ((HF.out.put6 2 rfl (.slice a2 T2.length cap2) (.int .i64 (i2:Int)) (.int .i64 E2) (.int .i64 o2) (.int .i64 b2) (.int .i64 x2)).put7 1 rfl (.int .i64 op) (.int .i64 nn) (.string s1) (.slice p pl pc) (.slice q ql qc) (.bool oo) (.slice ka kl kc)).drew.bl (r:=R) (by rw [HRR.out];exact hS.out) (fun y K e=>by rw [HRR.out] at e;cases e;exact ((((HK.out.put6 2 rfl (.slice a2 T2.length cap2) (.int .i64 (i2:Int)) (.int .i64 E2) (.int .i64 o2) (.int .i64 b2) (.int .i64 x2)).put7 1 rfl (.int .i64 op) (.int .i64 nn) (.string s1) (.slice p pl pc) (.slice q ql qc) (.bool oo) (.slice ka kl kc)).call (Below.refl _ _).drew).els _ (List.mem_cons_self ..)).less fun b _ hb=>hb.1.1)
    ·have hn1:((rl:Int)==1)=false:=by simp;omega
     have HMM:Hid (R= .ok (.mk 12 0 ⟨#[]⟩ [] [] false ((((⟨op,nn,s1,p,pl,pc,q,ql,qc,oo,ka,kl,kc⟩:Hd),x)::L).map (·.2))) M):=Lib.hid (by rw [HRR.out,many_more _ (by rw [List.length_map,hL.out];exact h1)])
     have f:=HF.out.facts
     dsimp only [Fs,Nes,List.map] at f
     go_wp2_with (go_at_call 99;refine (sis_as _ ⟨a2,cap2,T2,i2,E2,o2,b2,x2⟩ ⟨#[124]⟩ false (HSW.out HF.out.bl) HIS).mono ?_;rintro e w5 ⟨rfl,hb⟩;replace HF:=Lib.hid (HF.out.call hb);replace HK:=Lib.hid (HK.out.call hb);clear f;have f:=HF.out.facts;dsimp only [Fs,Nes,List.map] at f;clear hb)
     refine bodyPost_ret (v:= .tuple #[.agg #[.slice a2 T2.length cap2,.int .i64 (i2:Int),.int .i64 E2,.int .i64 o2,.int .i64 b2,.int .i64 x2],.agg #[.int .i64 12,.int .i64 0,.string ⟨#[]⟩,.slice none 0 0,.slice none 0 0,.bool false,.slice ra rl rc]]) (by simp [results,Tryz.results100,go_sem,f]) rfl ?_
     exact sres_of (S:=⟨a2,cap2,T2,i2,E2,o2,b2,x2⟩) (hd:=⟨12,0,⟨#[]⟩,none,0,0,none,0,0,false,ra,rl,rc⟩) ((HF.out.put6 2 rfl (.slice a2 T2.length cap2) (.int .i64 (i2:Int)) (.int .i64 E2) (.int .i64 o2) (.int .i64 b2) (.int .i64 x2)).put7 1 rfl (.int .i64 12) (.int .i64 0) (.string ⟨#[]⟩) (.slice none 0 0) (.slice none 0 0) (.bool false) (.slice ra rl rc)).bl (r:=R) (by rw [HMM.out];exact hS.out) (fun y K e=>by rw [HMM.out] at e;cases e;exact ((HK.out.put6 2 rfl (.slice a2 T2.length cap2) (.int .i64 (i2:Int)) (.int .i64 E2) (.int .i64 o2) (.int .i64 b2) (.int .i64 x2)).put7 1 rfl (.int .i64 12) (.int .i64 0) (.string ⟨#[]⟩) (.slice none 0 0) (.slice none 0 0) (.bool false) (.slice ra rl rc)).ks hL.out (by omega) 12)
   |true=>
    have HIS:Hid (St.is ⟨a2,cap2,T2,i2,E2,o2,b2,x2⟩ (ByteArray.mk #[124]).toList=true):=Lib.hid (by rw [Lib.toList_data,hS.out.is];exact hb)
    by_cases h32:rl=32
    ·have hn32:((rl:Int)==32)=true:=by rw [h32];rfl
     obtain ⟨k,n,tx,at_,htk⟩:=St.pk_get ⟨a2,cap2,T2,i2,E2,o2,b2,x2⟩
     have HT:=Lib.hid htk
     have hRR:=hB.out.full hb (by rw [List.length_map,hL.out];exact h32)
     have hD:=hS.out.fail ⟨⟨k,n,tx.toList⟩,at_⟩ 4 (by decide)
     rw [show (Ps.pk s.E M).at_=at_ by rw [←hS.out.pk,htk]] at hRR
     obtain ⟨a5,cap5,T5,i5,E5,o5,b5,x5,hn5⟩:=(St.fail ⟨a2,cap2,T2,i2,E2,o2,b2,x2⟩ ⟨⟨k,n,tx.toList⟩,at_⟩ 4).get
     rw [hn5] at hD
     have HN5:=Lib.hid hn5
     have HD:=Lib.hid hD
     have HRR:=Lib.hid hRR
     have HFL:∀W,Hid (Calls Tryz.prog 55 #[.agg #[.slice a2 T2.length cap2,.int .i64 (i2:Int),.int .i64 E2,.int .i64 o2,.int .i64 b2,.int .i64 x2],.agg #[.int .i64 k,.int .i64 n,.string tx,.int .i64 at_],.int .i64 4] W (Ans (.agg #[.slice a5 T5.length cap5,.int .i64 (i5:Int),.int .i64 E5,.int .i64 o5,.int .i64 b5,.int .i64 x5]) W)):=fun W=>Lib.hid (sfail_as W ⟨a2,cap2,T2,i2,E2,o2,b2,x2⟩ ⟨a5,cap5,T5,i5,E5,o5,b5,x5⟩ k n tx at_ 4 HN5)
     clear htk hRR hD hn5 hb h32
     have f:=HF.out.facts
     dsimp only [Fs,Nes,List.map] at f
     have g:=f
     go_wp2_with (go_at_call 99;refine (sis_as _ ⟨a2,cap2,T2,i2,E2,o2,b2,x2⟩ ⟨#[124]⟩ true (HSW.out HF.out.bl) HIS).mono ?_;rintro e w5 ⟨rfl,hb⟩;replace HF:=Lib.hid (HF.out.call hb);clear f;have f:=HF.out.facts;dsimp only [Fs,Nes,List.map] at f;have g:=(HF.out.new_ #[.int .i64 0,.int .i64 0,.string ⟨#[]⟩,.slice none 0 0,.slice none 0 0,.bool false,.slice none 0 0] 35 rfl).facts;dsimp only [Fs,Nes,List.map] at g;clear hb)
     clear g
     refine wp_region_held (S:=fun w'=>(∀o,w'.cell? ⟨w.heap.size,o,none⟩=#[.slice a2 T2.length cap2,.int .i64 (i2:Int),.int .i64 E2,.int .i64 o2,.int .i64 b2,.int .i64 x2][o]?)) (by kernel_rfl) ?_
     obtain ⟨wd,hwd⟩:∃wd:World,wd={w5 with drawn:=w5.drawn+1}:=⟨_,rfl⟩
     have hbd:Below w5.heap.size w5 wd:=by rw [hwd];exact (Below.refl _ w5).drew
     rw [←hwd]
     clear hwd
     replace HF:=Lib.hid (HF.out.call hbd)
     clear f hbd
     have f:=HF.out.facts
     dsimp only [Fs,Nes,List.map] at f
     refine take_at' (i:=0) 80 (v:= .agg #[.slice a2 T2.length cap2,.int .i64 (i2:Int),.int .i64 E2,.int .i64 o2,.int .i64 b2,.int .i64 x2]) rfl rfl (by kernel_rfl) (by kernel_rfl) (by kernel_rfl) (fun _ _ _ h=>h) (Or.inl ⟨by rfl,fun w' hS=>by have g0:=hS;clear f;go_simp⟩) f.2.2.2.1.1 ?_
     refine take_at' (i:=1) 81 (v:= .agg #[.slice a2 T2.length cap2,.int .i64 (i2:Int),.int .i64 E2,.int .i64 o2,.int .i64 b2,.int .i64 x2]) rfl rfl (by kernel_rfl) (by kernel_rfl) (by kernel_rfl) (fun _ _ _ h=>h) (Or.inl ⟨by rfl,fun w' hS=>by have g0:=hS;clear f;go_simp⟩) f.2.2.2.1.1 ?_
     refine take_at' (i:=4) 84 (v:= .agg #[.int .i64 0,.int .i64 0,.string ⟨#[]⟩,.slice none 0 0,.slice none 0 0,.bool false,.slice none 0 0]) rfl rfl (by kernel_rfl) (by kernel_rfl) (by kernel_rfl) (fun _ _ _ h=>h) (Or.inl ⟨by rfl,fun w' hS=>by have g0:=hS;clear f;go_simp⟩) f.2.2.2.1.1 ?_
     try simp only [List.setIfInBounds_toArray,List.set_cons_succ,List.set_cons_zero]
     refine wpAnyH_all (rs:=[2]) (by kernel_rfl) (by simp) ?_
     intro i hi
     obtain rfl:i=2:=by simpa using hi
     refine call_at 82 (f:=54) (args:=#[.agg #[.slice a2 T2.length cap2,.int .i64 (i2:Int),.int .i64 E2,.int .i64 o2,.int .i64 b2,.int .i64 x2]]) (w':=wd) rfl rfl rfl (by go_simp) ((peek_as _ ⟨a2,cap2,T2,i2,E2,o2,b2,x2⟩ k n at_ tx (HSW.out HF.out.bl) HT).mono ?_)
     rintro e v1 ⟨rfl,hb⟩
     replace HF:=Lib.hid (HF.out.call hb)
     clear f hb
     have f:=HF.out.facts
     dsimp only [Fs,Nes,List.map] at f
     refine ⟨_,rfl,f.2.2.2.1.1,?_⟩
     try simp only [List.setIfInBounds_toArray,List.set_cons_succ,List.set_cons_zero]
     refine wpAnyH_all (rs:=[3]) (by kernel_rfl) (by simp) ?_
     intro i hi
     obtain rfl:i=3:=by simpa using hi
     refine call_at 83 (f:=55) (args:=#[.agg #[.slice a2 T2.length cap2,.int .i64 (i2:Int),.int .i64 E2,.int .i64 o2,.int .i64 b2,.int .i64 x2],.agg #[.int .i64 k,.int .i64 n,.string tx,.int .i64 at_],.int .i64 4]) (w':=v1) rfl rfl rfl (by go_simp) (((HFL _).out).mono ?_)
     rintro e v2 ⟨rfl,hb⟩
     replace HF:=Lib.hid (HF.out.call hb)
     clear f hb
     have f:=HF.out.facts
     dsimp only [Fs,Nes,List.map] at f
     refine ⟨_,rfl,f.2.2.2.1.1,?_⟩
     try simp only [List.setIfInBounds_toArray,List.set_cons_succ,List.set_cons_zero]
     refine wpAnyH_all (rs:=[5]) (by kernel_rfl) (by simp) ?_
     intro i hi
     obtain rfl:i=5:=by simpa using hi
     have HF2:=Lib.hid (by have t:=HF.out.put6 2 rfl (.slice a5 T5.length cap5) (.int .i64 (i5:Int)) (.int .i64 E5) (.int .i64 o5) (.int .i64 b5) (.int .i64 x5);simp only [List.set_cons_succ,List.set_cons_zero] at t;exact t)
     obtain ⟨v3,hwn⟩:∃x,x=put6 v2 (w.heap.size+1) (.slice a5 T5.length cap5) (.int .i64 (i5:Int)) (.int .i64 E5) (.int .i64 o5) (.int .i64 b5) (.int .i64 x5):=⟨_,rfl⟩
     rw [←hwn] at HF2
     have f2:=HF2.out.facts
     dsimp only [Fs,Nes,List.map] at f2
     refine skip_at (w':=v3) rfl rfl rfl (by rw [hwn];unfold put6;clear f2;go_simp) ⟨f2.2.2.2.1.1,?_⟩
     clear hwn f HF
     have HF:=HF2
     have f:=f2
     clear HF2 f2
     try simp only [List.setIfInBounds_toArray,List.set_cons_succ,List.set_cons_zero]
     refine wpAnyH_all (rs:=[6]) (by kernel_rfl) (by simp) ?_
     intro i hi
     obtain rfl:i=6:=by simpa using hi
     have HF2:=Lib.hid (by have t:=HF.out.put7 1 rfl (.int .i64 0) (.int .i64 0) (.string ⟨#[]⟩) (.slice none 0 0) (.slice none 0 0) (.bool false) (.slice none 0 0);simp only [List.set_cons_succ,List.set_cons_zero] at t;exact t)
     obtain ⟨v4,hwn⟩:∃x,x=put7 v3 (w.heap.size+2) (.int .i64 0) (.int .i64 0) (.string ⟨#[]⟩) (.slice none 0 0) (.slice none 0 0) (.bool false) (.slice none 0 0):=⟨_,rfl⟩
     rw [←hwn] at HF2
     have f2:=HF2.out.facts
     dsimp only [Fs,Nes,List.map] at f2
     refine skip_at (w':=v4) rfl rfl rfl (by rw [hwn];unfold put7;clear f2;go_simp) ⟨f2.2.2.2.1.1,?_⟩
     clear hwn f HF
     have HF:=HF2
     have f:=f2
     clear HF2 f2
     try simp only [List.setIfInBounds_toArray,List.set_cons_succ,List.set_cons_zero]
     refine wpAnyH_done (by kernel_rfl) ?_ _
     go_wp2_with fail
     refine bodyPost_ret (v:= .tuple #[.agg #[.slice a5 T5.length cap5,.int .i64 (i5:Int),.int .i64 E5,.int .i64 o5,.int .i64 b5,.int .i64 x5],.agg #[.int .i64 0,.int .i64 0,.string ⟨#[]⟩,.slice none 0 0,.slice none 0 0,.bool false,.slice none 0 0]]) (by simp [results,Tryz.results100,go_sem,f]) rfl ?_
     exact sres_of (S:=⟨a5,cap5,T5,i5,E5,o5,b5,x5⟩) (hd:=⟨0,0,⟨#[]⟩,none,0,0,none,0,0,false,none,0,0⟩) HF.out.bl (by rw [HRR.out];exact HD.out) fun x K e=>by rw [HRR.out] at e;cases e
    ·have hn32:((rl:Int)==32)=false:=by simp;omega
     obtain ⟨t9,M9,rfl,-,-⟩:=isB_cons hb
     have hS3:=hS.out.next (t:=t9) (N:=M9) rfl
     obtain ⟨a3,cap3,T3,i3,E3,o3,b3,x3,hn3⟩:=(St.next ⟨a2,cap2,T2,i2,E2,o2,b2,x2⟩).get
     have HN3:=Lib.hid hn3
     rw [hn3] at hS3
     obtain ⟨r4,hr4⟩:∃r,part M9=r:=⟨_,rfl⟩
     have HR4:=Lib.hid hr4
     have HS3:=Lib.hid hS3
     have HHB:=Lib.hid hb
     have HLQ:∀W,Hid (Below w.heap.size w W)→Hid (Calls Tryz.prog 100 #[.agg #[.slice a3 T3.length cap3,.int .i64 (i3:Int),.int .i64 E3,.int .i64 o3,.int .i64 b3,.int .i64 x3],.int .i64 2] W (LevQ s ⟨a3,cap3,T3,i3,E3,o3,b3,x3⟩ r4 W)):=fun W hW=>Lib.hid (by
      have h5:=HASK.out W ⟨a3,cap3,T3,i3,E3,o3,b3,x3⟩ M9 (H.out.kin hW.out HS3.out.kin) HS3.out (by have:=hML.out;simp at this;omega)
      rw [HR4.out] at h5
      exact h5.mono fun e w' hq=>LevQ.of HS3.out hq)
     have hi2:i2≤100000:=by have h1:=hS.out.kin.i;have h2:=H.out.len;dsimp only at h1;omega
     have HL2:Hid (leftS wr w.heap.size=M9.length+1+1):=Lib.hid (hS.out.leftS (HF.out.bx (i:=3) rfl))
     have hrl2:rl<32:=by omega
     clear hS3 hn3 hr4 hb h32
     have f:=HF.out.facts
     dsimp only [Fs,Nes,List.map] at f
     have g:=f
     go_wp2_with (first
      |(go_at_call 99;refine (sis_as _ ⟨a2,cap2,T2,i2,E2,o2,b2,x2⟩ ⟨#[124]⟩ true (HSW.out HF.out.bl) HIS).mono ?_;rintro e w5 ⟨rfl,hb⟩;replace HF:=Lib.hid (HF.out.call hb);replace HK:=Lib.hid (HK.out.call hb);clear f;have f:=HF.out.facts;dsimp only [Fs,Nes,List.map] at f;have g:=(HF.out.new_ #[.int .i64 0,.int .i64 0,.string ⟨#[]⟩,.slice none 0 0,.slice none 0 0,.bool false,.slice none 0 0] 35 rfl).facts;dsimp only [Fs,Nes,List.map] at g;clear hb)
      |(go_at_call 56;refine (snext_as _ ⟨a2,cap2,T2,i2,E2,o2,b2,x2⟩ ⟨a3,cap3,T3,i3,E3,o3,b3,x3⟩ hi2 HN3).mono ?_;rintro e w6 ⟨rfl,hb⟩;unfold St.v;dsimp only;replace HF:=Lib.hid (HF.out.new_ #[.int .i64 0,.int .i64 0,.string ⟨#[]⟩,.slice none 0 0,.slice none 0 0,.bool false,.slice none 0 0] 35 (n:=w5.heap.size) (rfl));replace HK:=Lib.hid ((HK.out.new_ #[.int .i64 0,.int .i64 0,.string ⟨#[]⟩,.slice none 0 0,.slice none 0 0,.bool false,.slice none 0 0] 35 (n:=w5.heap.size) rfl).call hb);replace HF:=Lib.hid (HF.out.call hb);clear f g;have f:=HF.out.facts;dsimp only [Fs,Nes,List.map] at f;clear hb)
      |(go_at_call 100;refine (HLQ _ (Lib.hid HF.out.bl)).out.mono ?_;rintro e w7 ⟨hb,S4,hd4,rfl,hst,hx⟩;have HY:=Lib.hid (fun x K e=>KE.of (hx x K e) HF.out HF.out.size HK.out);clear hx;obtain ⟨a4,cap4,T4,i4,E4,o4,b4,x4⟩:=S4;obtain ⟨op3,nn3,s13,p3,pl3,pc3,q3,ql3,qc3,oo3,ka3,kl3,kc3⟩:=hd4;unfold St.v Hd.agg;dsimp only;replace HF:=Lib.hid (HF.out.call hb);clear f;replace HK:=Lib.hid (HK.out.call hb);have f1:=HF.out.facts;dsimp only [Fs,Nes,List.map] at f1;replace HF:=Lib.hid (by have t:=HF.out.put6 4 rfl (.slice a4 T4.length cap4) (.int .i64 (i4:Int)) (.int .i64 E4) (.int .i64 o4) (.int .i64 b4) (.int .i64 x4);simp only [List.set_cons_succ,List.set_cons_zero] at t;exact t);have f2:=HF.out.facts;dsimp only [Fs,Nes,List.map] at f2;unfold put6 at f2;replace HF:=Lib.hid (by have t:=HF.out.put7 0 rfl (.int .i64 op3) (.int .i64 nn3) (.string s13) (.slice p3 pl3 pc3) (.slice q3 ql3 qc3) (.bool oo3) (.slice ka3 kl3 kc3);simp only [List.set_cons_zero] at t;exact t);have f:=HF.out.facts;dsimp only [Fs,Nes,List.map] at f;unfold put6 put7 at f;replace HY:=Lib.hid (fun x K e=>((HY.out x K e).put (i:=4) (cs':=#[.slice a4 T4.length cap4,.int .i64 (i4:Int),.int .i64 E4,.int .i64 o4,.int .i64 b4,.int .i64 x4]) rfl (put6_grown w7 w.heap.size (.slice a4 T4.length cap4) (.int .i64 (i4:Int)) (.int .i64 E4) (.int .i64 o4) (.int .i64 b4) (.int .i64 x4))).put (i:=0) (cs':=#[.int .i64 op3,.int .i64 nn3,.string s13,.slice p3 pl3 pc3,.slice q3 ql3 qc3,.bool oo3,.slice ka3 kl3 kc3]) rfl (put7_grown (Ps.put6 w7 w.heap.size (.slice a4 T4.length cap4) (.int .i64 (i4:Int)) (.int .i64 E4) (.int .i64 o4) (.int .i64 b4) (.int .i64 x4)) w5.heap.size (.int .i64 op3) (.int .i64 nn3) (.string s13) (.slice p3 pl3 pc3) (.slice q3 ql3 qc3) (.bool oo3) (.slice ka3 kl3 kc3)));replace HK:=Lib.hid ((HK.out.put6 4 rfl (.slice a4 T4.length cap4) (.int .i64 (i4:Int)) (.int .i64 E4) (.int .i64 o4) (.int .i64 b4) (.int .i64 x4)).put7 0 rfl (.int .i64 op3) (.int .i64 nn3) (.string s13) (.slice p3 pl3 pc3) (.slice q3 ql3 qc3) (.bool oo3) (.slice ka3 kl3 kc3));have g:=(HF.out.old (.cells #[.int .i64 op3,.int .i64 nn3,.string s13,.slice p3 pl3 pc3,.slice q3 ql3 qc3,.bool oo3,.slice ka3 kl3 kc3] 35)).facts;dsimp only [Fs,Nes,List.map] at g;unfold put6 put7 at g;have HST:=Lib.hid hst;have HWZ:Hid ((Ps.put7 (Ps.put6 w7 w.heap.size (.slice a4 T4.length cap4) (.int .i64 (i4:Int)) (.int .i64 E4) (.int .i64 o4) (.int .i64 b4) (.int .i64 x4)) w5.heap.size (.int .i64 op3) (.int .i64 nn3) (.string s13) (.slice p3 pl3 pc3) (.slice q3 ql3 qc3) (.bool oo3) (.slice ka3 kl3 kc3)).heap.size=w7.heap.size):=Lib.hid (by rw [put7_size,put6_size]);have HCN:=Lib.hid (World.news_of_block (Lx.heap_new (Ps.put7 (Ps.put6 w7 w.heap.size (.slice a4 T4.length cap4) (.int .i64 (i4:Int)) (.int .i64 E4) (.int .i64 o4) (.int .i64 b4) (.int .i64 x4)) w5.heap.size (.int .i64 op3) (.int .i64 nn3) (.string s13) (.slice p3 pl3 pc3) (.slice q3 ql3 qc3) (.bool oo3) (.slice ka3 kl3 kc3)) (.cells #[.int .i64 op3,.int .i64 nn3,.string s13,.slice p3 pl3 pc3,.slice q3 ql3 qc3,.bool oo3,.slice ka3 kl3 kc3] 35)));rw [HWZ.out] at HCN;clear hb hst)
      |(at_builtin;refine wpList_append_own_at _ rfl _ _ 33 rfl w.heap.size 35 inf _ 7 112 Tryz.underlying33 HI.out HI0.out HI1.out HI2.out rfl (by decide) _ rl (hcells (((⟨op,nn,s1,p,pl,pc,q,ql,qc,oo,ka,kl,kc⟩:Hd),x)::L)) rfl (by have h9:=HK.out.own.alloc (.cells #[.int .i64 op3,.int .i64 nn3,.string s13,.slice p3 pl3 pc3,.slice q3 ql3 qc3,.bool oo3,.slice ka3 kl3 kc3] 35);rw [hL.out] at h9;exact h9) ⟨w7.heap.size,0,none⟩ 1 1 [.int .i64 op3,.int .i64 nn3,.string s13,.slice p3 pl3 pc3,.slice q3 ql3 qc3,.bool oo3,.slice ka3 kl3 kc3] rfl rfl HCN.out (fun x hx=>by simp at hx;rcases hx with rfl|rfl|rfl|rfl|rfl|rfl|rfl<;>rfl) (by unfold maxLen;omega) (by omega) (Nat.le_trans HF.out.size (bl_alloc (Below.refl _ _)).size) ?_))
     intro v9 w9 hown hgrow hnil hob
     obtain ⟨ra2,rc2,rfl⟩:=own_slice hown
     have hF:=HF.out.row HK.out hgrow
     have hfr:=HF.out.fresh (Nat.le_succ _)
     have hst:=HST.out
     cases hr5:r4 with
     |ok y M'=>
      rw [hr5] at hst
      obtain ⟨hB2,-,hlt⟩:=hB.out.step HFIT.out HHB.out (by rw [List.length_map,hL.out];omega) (by show part M9=_;rw [HR4.out,hr5])
      have hA:=HK.out.app (h:=⟨op3,nn3,s13,p3,pl3,pc3,q3,ql3,qc3,oo3,ka3,kl3,kc3⟩) (x:=y) (HY.out y M' hr5) rfl hgrow (by rw [hL.out];exact hown) (by rw [HWZ.out];exact hob) hfr
      go_wp2_with fail
      go_roundw
      case rel=>exact ⟨_,_,_,_,_,_,_,_,ra2,rl+1,rc2,rfl,Lib.hid hF.tail,.inl ⟨x,L++[((⟨op3,nn3,s13,p3,pl3,pc3,q3,ql3,qc3,oo3,ka3,kl3,kc3⟩:Hd),y)],M',by omega,Lib.hid (by have:=hL.out;simp at this⊢;omega),Lib.hid hA.tail,Lib.hid hst,Lib.hid (by have:=hML.out;omega),Lib.hid (by simpa using hB2)⟩⟩
      case measure=>
       show leftS _ w.heap.size<leftS wr w.heap.size
       refine Nat.lt_of_le_of_lt (Nat.le_of_eq (Sv.leftS hst (hF.bx (i:=4) rfl))) ?_
       rw [HL2.out]
       simp at hlt;omega
     |bad a y=>
      rw [hr5] at hst
      have hRB:=hB.out.bad HHB.out (by rw [List.length_map,hL.out];omega) (by show part M9=_;rw [HR4.out,hr5])
      go_wp2_with fail
      go_roundw
      case rel=>exact ⟨_,_,_,_,_,_,_,_,ra2,rl+1,rc2,rfl,Lib.hid hF.tail,.inr ⟨a,y,Lib.hid hst,Lib.hid hRB⟩⟩
      case measure=>
       show leftS _ w.heap.size<leftS wr w.heap.size
       refine Nat.lt_of_le_of_lt (Nat.le_of_eq (Dd.leftS hst (hF.bx (i:=4) rfl))) ?_
       rw [HL2.out]
       omega
  ·have HSW:Hid (∀{W:World},Below w.heap.size w W→SW W ⟨a2,cap2,T2,i2,E2,o2,b2,x2⟩):=Lib.hid fun hW=>H.out.kin hW hD.out.kin
   have HIS:Hid (St.is ⟨a2,cap2,T2,i2,E2,o2,b2,x2⟩ (ByteArray.mk #[124]).toList=false):=Lib.hid (hD.out.is _)
   by_cases h1:rl=1
   ·have hn1:((rl:Int)==1)=true:=by rw [h1];rfl
    have f:=HF.out.facts
    dsimp only [Fs,Nes,List.map] at f
    go_wp2_with (go_at_call 99;refine (sis_as _ ⟨a2,cap2,T2,i2,E2,o2,b2,x2⟩ ⟨#[124]⟩ false (HSW.out HF.out.bl) HIS).mono ?_;rintro e w5 ⟨rfl,hb⟩;replace HF:=Lib.hid (HF.out.call hb);clear f;have f:=HF.out.facts;dsimp only [Fs,Nes,List.map] at f;clear hb)
    go_region
    go_wp2_with fail
    refine bodyPost_ret (v:= .tuple #[.agg #[.slice a2 T2.length cap2,.int .i64 (i2:Int),.int .i64 E2,.int .i64 o2,.int .i64 b2,.int .i64 x2],.agg #[.int .i64 op,.int .i64 nn,.string s1,.slice p pl pc,.slice q ql qc,.bool oo,.slice ka kl kc]]) (by simp [results,Tryz.results100,go_sem,f]) rfl ?_
    exact sres_of (S:=⟨a2,cap2,T2,i2,E2,o2,b2,x2⟩) (hd:=⟨op,nn,s1,p,pl,pc,q,ql,qc,oo,ka,kl,kc⟩) ((HF.out.put6 2 rfl (.slice a2 T2.length cap2) (.int .i64 (i2:Int)) (.int .i64 E2) (.int .i64 o2) (.int .i64 b2) (.int .i64 x2)).put7 1 rfl (.int .i64 op) (.int .i64 nn) (.string s1) (.slice p pl pc) (.slice q ql qc) (.bool oo) (.slice ka kl kc)).drew.bl (r:=R) (by rw [hRR.out];exact hD.out) (fun x K e=>by rw [hRR.out] at e;cases e)
   ·have hn1:((rl:Int)==1)=false:=by simp;omega
    have f:=HF.out.facts
    dsimp only [Fs,Nes,List.map] at f
    go_wp2_with (go_at_call 99;refine (sis_as _ ⟨a2,cap2,T2,i2,E2,o2,b2,x2⟩ ⟨#[124]⟩ false (HSW.out HF.out.bl) HIS).mono ?_;rintro e w5 ⟨rfl,hb⟩;replace HF:=Lib.hid (HF.out.call hb);clear f;have f:=HF.out.facts;dsimp only [Fs,Nes,List.map] at f;clear hb)
    refine bodyPost_ret (v:= .tuple #[.agg #[.slice a2 T2.length cap2,.int .i64 (i2:Int),.int .i64 E2,.int .i64 o2,.int .i64 b2,.int .i64 x2],.agg #[.int .i64 12,.int .i64 0,.string ⟨#[]⟩,.slice none 0 0,.slice none 0 0,.bool false,.slice ra rl rc]]) (by simp [results,Tryz.results100,go_sem,f]) rfl ?_
    exact sres_of (S:=⟨a2,cap2,T2,i2,E2,o2,b2,x2⟩) (hd:=⟨12,0,⟨#[]⟩,none,0,0,none,0,0,false,ra,rl,rc⟩) ((HF.out.put6 2 rfl (.slice a2 T2.length cap2) (.int .i64 (i2:Int)) (.int .i64 E2) (.int .i64 o2) (.int .i64 b2) (.int .i64 x2)).put7 1 rfl (.int .i64 12) (.int .i64 0) (.string ⟨#[]⟩) (.slice none 0 0) (.slice none 0 0) (.bool false) (.slice ra rl rc)).bl (r:=R) (by rw [hRR.out];exact hD.out) (fun x K e=>by rw [hRR.out] at e;cases e)
end Go.Proofs.YtkfihhagcimcmaaGreatDoor.Ps
