/- Qm, Qn, Qo -/
import Derived.Test.YtkfihhagcimcmaaGreatDoorChecked
import Derived.Test.YtkfihhagcimcmaaGreatDoorProg
import Derived.Test.YtkfihhagcimcmaaGreatDoorY1
import Derived.Test.YtkfihhagcimcmaaGreatDoorYbh
namespace Go.Proofs.YtkfihhagcimcmaaGreatDoor.Ps
open Go.RowKit
open Lx (Tok bl_alloc)
def leftS (w:World) (c:Nat):Nat:=match w.heap[c]? with
 |some (.cells cs _ _)=>match cs[0]?,cs[1]?,cs[5]? with
  |some (Value.slice _ n _),some (Value.int _ i),some (Value.int _ e)=>if e=0 then n+1-i.toNat else 0
  |_,_,_=>0
 |_=>0
theorem leftS_bx {w:World} {c n cap i:Nat} {a:Option Addr} {E o b x:Int} (h:Bx w c #[.slice a n cap,.int .i64 (i:Int),.int .i64 E,.int .i64 o,.int .i64 b,.int .i64 x] 95):leftS w c=if x=0 then n+1-i else 0:=by
 unfold Bx at h
 unfold leftS
 rw [h]
 simp
theorem Sv.leftS {s s':St} {M:List Tok} {w:World} {c:Nat} (h:Sv s s' M) (hb:Bx w c #[.slice s'.a s'.T.length s'.cap,.int .i64 (s'.i:Int),.int .i64 s'.E,.int .i64 s'.o,.int .i64 s'.bad,.int .i64 s'.err] 95):leftS w c=M.length+1:=by
 rw [leftS_bx hb,if_pos h.err,←h.L]
 have:=h.i
 rw [←h.kin.T] at this
 unfold St.L
 rw [List.length_drop]
 omega
theorem Dd.leftS {s s':St} {a x:Int} {w:World} {c:Nat} (h:Dd s s' a x) (hb:Bx w c #[.slice s'.a s'.T.length s'.cap,.int .i64 (s'.i:Int),.int .i64 s'.E,.int .i64 s'.o,.int .i64 s'.bad,.int .i64 s'.err] 95):leftS w c=0:=by
 rw [leftS_bx hb,if_neg h.live]
theorem own_any {w:World} {base n E z:Nat} {v:Value} {xs:List Value} (h:w.ownsRow base E z v n xs):∃a c,v= .slice a n c:=by
 rcases h.2 with ⟨rfl,rfl⟩|⟨g,cap,cur,rfl,_⟩
 ·exact ⟨none,0,rfl⟩
 ·exact ⟨_,cap,rfl⟩
def XF (B:Nat) (l:BL) (w:World) (h:Hd) (x:Ex):Prop:=XB (fun b=>B≤b∧b∉l.map Prod.fst) w h x
section
variable {B:Nat} {w0 w w':World} {l:BL} {h:Hd} {x:Ex}
theorem XF.call (hx:XF B l w h x) (hb:Below w.heap.size w w'):XF B l w' h x:=XB.below hx hb
theorem XF.old (hx:XF B l w h x) (o:Obj):XF B l (w.alloc o) h x:=hx.call (bl_alloc (Below.refl _ _))
theorem XF.new (hx:XF B l w h x) (cs:Array Value) (t:TypeId):XF B ((w.heap.size,cs,t)::l) (w.alloc (.cells cs t)) h x:=
 XB.turn hx (by simp) fun b lt hb=>⟨(bl_alloc (o:= .cells cs t) (Below.refl w.heap.size w)).block b lt,hb.1,fun hm=>by
  rw [List.map_cons] at hm
  rcases List.mem_cons.1 hm with e|hm
  ·simp only at e;omega
  ·exact hb.2 hm⟩
theorem XF.put (hx:XF B l w h x) {i b:Nat} {cs cs':Array Value} {t:TypeId} (hi:l[i]?=some (b,cs,t)) (g:w.grownBy w' (some b)):XF B (l.set i (b,cs',t)) w' h x:=
 XB.turn hx g.size fun c lt hc=>⟨g.block c lt fun e=>hc.2 (by injection e with e;rw [e];exact List.mem_map.2 ⟨_,List.mem_of_getElem? hi,rfl⟩),hc.1,by rw [set_fst hi];exact hc.2⟩
theorem XF.put6 (hx:XF B l w h x) (i:Nat) {b:Nat} {t:TypeId} {u0 u1 u2 u3 u4 u5:Value} (hi:l[i]?=some (b,#[u0,u1,u2,u3,u4,u5],t)) (v0 v1 v2 v3 v4 v5:Value):XF B (l.set i (b,#[v0,v1,v2,v3,v4,v5],t)) (Ps.put6 w b v0 v1 v2 v3 v4 v5) h x:=hx.put hi (put6_grown w b v0 v1 v2 v3 v4 v5)
theorem XF.put7 (hx:XF B l w h x) (i:Nat) {b:Nat} {t:TypeId} {u0 u1 u2 u3 u4 u5 u6:Value} (hi:l[i]?=some (b,#[u0,u1,u2,u3,u4,u5,u6],t)) (v0 v1 v2 v3 v4 v5 v6:Value):XF B (l.set i (b,#[v0,v1,v2,v3,v4,v5,v6],t)) (Ps.put7 w b v0 v1 v2 v3 v4 v5 v6) h x:=hx.put hi (put7_grown w b v0 v1 v2 v3 v4 v5 v6)
theorem XF.of (hx:XB (fun b=>w.heap.size≤b) w' h x) (hF:Fr w0 w l) (hB:B≤w.heap.size):XF B l w' h x:=XB.less hx fun _ _ hb=>⟨Nat.le_trans hB hb,hF.fresh hb⟩
theorem XF.tail {y:Nat×Array Value×TypeId} (hx:XF B (y::l) w h x):XF B l w h x:=XB.less hx fun _ _ hb=>⟨hb.1,fun hm=>hb.2 (by rw [List.map_cons];exact List.mem_cons_of_mem _ hm)⟩
end
theorem Sv.trans {s s1 s2:St} {M N:List Tok} (h:Sv s s1 M) (k:Sv s1 s2 N):Sv s s2 N:=
 ⟨by rw [k.eq];conv=>lhs;rw [h.eq],k.L,by have:=k.i;rw [h.kin.T] at this;exact this,h.ok⟩
theorem Sv.dead {s s1 s2:St} {M:List Tok} {a x:Int} (h:Sv s s1 M) (k:Dd s1 s2 a x):Dd s s2 a x:=
 ⟨⟨k.kin.a.trans h.kin.a,k.kin.T.trans h.kin.T,k.kin.E.trans h.kin.E,by have:=k.kin.i;rw [h.kin.T] at this;exact this⟩,k.bad,k.err,k.x,by have:=k.lo;rw [h.eq] at this;exact this,by have:=k.hi;rw [h.eq] at this;exact this⟩
end Go.Proofs.YtkfihhagcimcmaaGreatDoor.Ps
namespace Go.Proofs.YtkfihhagcimcmaaGreatDoor.Ps
open Go.RowKit
def DeadP (s:St) (w:World) (e:Ending) (w':World):Prop:=Below w.heap.size w w'∧∃h:Hd,e= .returned (.tuple #[s.v,h.agg])
theorem sis_dead (w:World) (s:St) (sg:ByteArray) (h:SW w s) (he:Hid (s.err≠0)):Calls Tryz.prog 99 #[s.v,.string sg] w (Ans (.bool false) w):=sis_as w s sg false h (Lib.hid (by
 unfold St.is
 have e:(s.err==0)=false:=by simpa using he.out
 rw [e];rfl))
set_option maxRecDepth 100000 in
set_option maxHeartbeats 16000000 in
theorem sunit_dead (w:World) (s:St) (h:SW w s) (he:s.err≠0):Calls Tryz.prog 144 #[s.v] w (DeadP s w):=by
 obtain ⟨k,n,tx,at_,ht⟩:=s.pk_get
 have HT:=Lib.hid ht
 clear ht
 have H:=Lib.hid h
 have HE:=Lib.hid he
 clear h he
 obtain ⟨a0,cap0,T0,i0,E0,o0,b0,x0⟩:=s
 have hx0:(x0==0)=false:=by simpa using HE.out
 have HF:=Lib.hid (Fr.start3 w #[.slice a0 T0.length cap0,.int .i64 (i0:Int),.int .i64 E0,.int .i64 o0,.int .i64 b0,.int .i64 x0] #[.slice none 0 0,.int .i64 0,.int .i64 0,.int .i64 0,.int .i64 0,.int .i64 0] #[.int .i64 0,.int .i64 0,.string ⟨#[]⟩,.slice none 0 0,.slice none 0 0,.bool false,.slice none 0 0] 95 95 35)
 have f:=HF.out.facts;dsimp only [Fs,Nes,List.map] at f
 unfold St.v
 dsimp only
 go_enter Tryz.func144,Tryz.ntmps144
 go_wp2_with (go_at_call 54;refine (peek_as _ ⟨a0,cap0,T0,i0,E0,o0,b0,x0⟩ k n at_ tx (H.out.below HF.out.bl) HT).mono ?_;rintro e w4 ⟨rfl,hb⟩;replace HF:=Lib.hid (HF.out.call hb);replace HF:=Lib.hid (HF.out.new_ #[.int .i64 k,.int .i64 n,.string tx,.int .i64 at_] 97 (n:=w4.heap.size) (rfl));clear f;have f:=HF.out.facts;dsimp only [Fs,Nes,List.map] at f;clear hb)
 exact bodyPost_ret (v:= .tuple #[.agg #[.slice a0 T0.length cap0,.int .i64 (i0:Int),.int .i64 E0,.int .i64 o0,.int .i64 b0,.int .i64 x0],.agg #[.int .i64 0,.int .i64 0,.string ⟨#[]⟩,.slice none 0 0,.slice none 0 0,.bool false,.slice none 0 0]]) (by simp [results,Tryz.results144,go_sem,f]) rfl ⟨((HF.out.put6 2 rfl _ _ _ _ _ _).put7 1 rfl _ _ _ _ _ _ _).bl,⟨0,0,⟨#[]⟩,none,0,0,none,0,0,false,none,0,0⟩,rfl⟩
set_option maxRecDepth 100000 in
set_option maxHeartbeats 16000000 in
theorem slevel_dead5 (w:World) (s:St) (h:SW w s) (he:s.err≠0):Calls Tryz.prog 100 #[s.v,.int .i64 5] w (DeadP s w):=by
 have H:=Lib.hid h
 have HE:=Lib.hid he
 clear h he
 obtain ⟨a0,cap0,T0,i0,E0,o0,b0,x0⟩:=s
 have hx0:(x0==0)=false:=by simpa using HE.out
 have HF:=Lib.hid (Fr.start3 w #[.slice a0 T0.length cap0,.int .i64 (i0:Int),.int .i64 E0,.int .i64 o0,.int .i64 b0,.int .i64 x0] #[.slice none 0 0,.int .i64 0,.int .i64 0,.int .i64 0,.int .i64 0,.int .i64 0] #[.int .i64 0,.int .i64 0,.string ⟨#[]⟩,.slice none 0 0,.slice none 0 0,.bool false,.slice none 0 0] 95 95 35)
 have f:=HF.out.facts;dsimp only [Fs,Nes,List.map] at f
 unfold St.v
 dsimp only
 go_enter Tryz.func100,Tryz.ntmps100
 go_wp2_with (go_at_call 144;refine (sunit_dead _ ⟨a0,cap0,T0,i0,E0,o0,b0,x0⟩ (H.out.below HF.out.bl) HE.out).mono ?_;rintro e w4 ⟨hb,⟨op,nn,s1,p,pl,pc,q,ql,qc,oo,ka,kl,kc⟩,rfl⟩;unfold Hd.agg St.v;dsimp only;replace HF:=Lib.hid (HF.out.call hb);clear f;have f:=HF.out.facts;dsimp only [Fs,Nes,List.map] at f;clear hb)
 exact bodyPost_ret (v:= .tuple #[.agg #[.slice a0 T0.length cap0,.int .i64 (i0:Int),.int .i64 E0,.int .i64 o0,.int .i64 b0,.int .i64 x0],.agg #[.int .i64 op,.int .i64 nn,.string s1,.slice p pl pc,.slice q ql qc,.bool oo,.slice ka kl kc]]) (by simp [results,Tryz.results100,go_sem,f]) rfl ⟨((HF.out.put6 1 rfl _ _ _ _ _ _).put7 0 rfl _ _ _ _ _ _ _).bl,⟨op,nn,s1,p,pl,pc,q,ql,qc,oo,ka,kl,kc⟩,rfl⟩
set_option maxRecDepth 100000 in
set_option maxHeartbeats 16000000 in
theorem slevel_dead4 (w:World) (s:St) (h:SW w s) (he:s.err≠0):Calls Tryz.prog 100 #[s.v,.int .i64 4] w (DeadP s w):=by
 have H:=Lib.hid h
 have HE:=Lib.hid he
 clear h he
 obtain ⟨a0,cap0,T0,i0,E0,o0,b0,x0⟩:=s
 have hx0:(x0==0)=false:=by simpa using HE.out
 have HF:=Lib.hid (Fr.start3 w #[.slice a0 T0.length cap0,.int .i64 (i0:Int),.int .i64 E0,.int .i64 o0,.int .i64 b0,.int .i64 x0] #[.slice none 0 0,.int .i64 0,.int .i64 0,.int .i64 0,.int .i64 0,.int .i64 0] #[.int .i64 0,.int .i64 0,.string ⟨#[]⟩,.slice none 0 0,.slice none 0 0,.bool false,.slice none 0 0] 95 95 35)
 have f:=HF.out.facts;dsimp only [Fs,Nes,List.map] at f
 unfold St.v
 dsimp only
 go_enter Tryz.func100,Tryz.ntmps100
 go_wp2_with (go_at_call 100;refine (slevel_dead5 _ ⟨a0,cap0,T0,i0,E0,o0,b0,x0⟩ (H.out.below HF.out.bl) HE.out).mono ?_;rintro e w4 ⟨hb,⟨op,nn,s1,p,pl,pc,q,ql,qc,oo,ka,kl,kc⟩,rfl⟩;unfold Hd.agg St.v;dsimp only;replace HF:=Lib.hid (HF.out.call hb);have f2:=HF.out.facts;dsimp only [Fs,Nes,List.map] at f2;replace HF:=Lib.hid (HF.out.new_ #[.int .i64 0,.int .i64 0,.string ⟨#[]⟩,.slice none 0 0,.slice none 0 0,.bool false,.slice none 0 0] 35 (n:=w4.heap.size) (rfl));have f3:=HF.out.facts;dsimp only [Fs,Nes,List.map] at f3;replace HF:=Lib.hid (by have t:=HF.out.put6 3 rfl (.slice a0 T0.length cap0) (.int .i64 (i0:Int)) (.int .i64 E0) (.int .i64 o0) (.int .i64 b0) (.int .i64 x0);simp only [List.set_cons_succ,List.set_cons_zero] at t;exact t);replace HF:=Lib.hid (by have t:=HF.out.put7 0 rfl (.int .i64 op) (.int .i64 nn) (.string s1) (.slice p pl pc) (.slice q ql qc) (.bool oo) (.slice ka kl kc);simp only [List.set_cons_zero] at t;exact t);have f4:=HF.out.facts;dsimp only [Fs,Nes,List.map] at f4;clear hb f)
 clear f2 f3 f4
 go_loopw [] (fun wr=>Hid (Fr w wr [(w4.heap.size,#[.int .i64 op,.int .i64 nn,.string s1,.slice p pl pc,.slice q ql qc,.bool oo,.slice ka kl kc],35),(w.heap.size+2,#[.int .i64 0,.int .i64 0,.string ⟨#[]⟩,.slice none 0 0,.slice none 0 0,.bool false,.slice none 0 0],35),(w.heap.size+1,#[.slice none 0 0,.int .i64 0,.int .i64 0,.int .i64 0,.int .i64 0,.int .i64 0],95),(w.heap.size,#[.slice a0 T0.length cap0,.int .i64 (i0:Int),.int .i64 E0,.int .i64 o0,.int .i64 b0,.int .i64 x0],95)])) (fun wr=>0)
 case atStart=>exact HF
 case round=>
  clear HF
  have HF:=hrel
  clear hrel
  rename World=>wr
  have f:=HF.out.facts
  dsimp only [Fs,Nes,List.map] at f
  go_wp2_with (go_at_call 99;refine (sis_dead _ ⟨a0,cap0,T0,i0,E0,o0,b0,x0⟩ _ (H.out.below HF.out.bl) HE).mono ?_;rintro e w5 ⟨rfl,hb⟩;replace HF:=Lib.hid (HF.out.call hb);clear hb;try clear f;have f:=HF.out.facts;dsimp only [Fs,Nes,List.map] at f)
  go_region
  go_wp2_with fail
  refine bodyPost_ret (v:= .tuple #[.agg #[.slice a0 T0.length cap0,.int .i64 (i0:Int),.int .i64 E0,.int .i64 o0,.int .i64 b0,.int .i64 x0],.agg #[.int .i64 op,.int .i64 nn,.string s1,.slice p pl pc,.slice q ql qc,.bool oo,.slice ka kl kc]]) (by simp [results,Tryz.results100,go_sem,f]) rfl ⟨((HF.out.put6 2 rfl (.slice a0 T0.length cap0) (.int .i64 (i0:Int)) (.int .i64 E0) (.int .i64 o0) (.int .i64 b0) (.int .i64 x0)).put7 1 rfl (.int .i64 op) (.int .i64 nn) (.string s1) (.slice p pl pc) (.slice q ql qc) (.bool oo) (.slice ka kl kc)).drew.bl,⟨op,nn,s1,p,pl,pc,q,ql,qc,oo,ka,kl,kc⟩,rfl⟩
set_option maxRecDepth 100000 in
set_option maxHeartbeats 16000000 in
theorem slevel_dead3 (w:World) (s:St) (h:SW w s) (he:s.err≠0):Calls Tryz.prog 100 #[s.v,.int .i64 3] w (DeadP s w):=by
 have H:=Lib.hid h
 have HE:=Lib.hid he
 clear h he
 obtain ⟨a0,cap0,T0,i0,E0,o0,b0,x0⟩:=s
 have hx0:(x0==0)=false:=by simpa using HE.out
 have HF:=Lib.hid (Fr.start3 w #[.slice a0 T0.length cap0,.int .i64 (i0:Int),.int .i64 E0,.int .i64 o0,.int .i64 b0,.int .i64 x0] #[.slice none 0 0,.int .i64 0,.int .i64 0,.int .i64 0,.int .i64 0,.int .i64 0] #[.int .i64 0,.int .i64 0,.string ⟨#[]⟩,.slice none 0 0,.slice none 0 0,.bool false,.slice none 0 0] 95 95 35)
 have f:=HF.out.facts;dsimp only [Fs,Nes,List.map] at f
 unfold St.v
 dsimp only
 go_enter Tryz.func100,Tryz.ntmps100
 go_wp2_with (go_at_call 100;refine (slevel_dead4 _ ⟨a0,cap0,T0,i0,E0,o0,b0,x0⟩ (H.out.below HF.out.bl) HE.out).mono ?_;rintro e w4 ⟨hb,⟨op,nn,s1,p,pl,pc,q,ql,qc,oo,ka,kl,kc⟩,rfl⟩;unfold Hd.agg St.v;dsimp only;replace HF:=Lib.hid (HF.out.call hb);have f2:=HF.out.facts;dsimp only [Fs,Nes,List.map] at f2;replace HF:=Lib.hid (HF.out.new_ #[.int .i64 0,.int .i64 0,.string ⟨#[]⟩,.slice none 0 0,.slice none 0 0,.bool false,.slice none 0 0] 35 (n:=w4.heap.size) (rfl));have f3:=HF.out.facts;dsimp only [Fs,Nes,List.map] at f3;replace HF:=Lib.hid (by have t:=HF.out.put6 3 rfl (.slice a0 T0.length cap0) (.int .i64 (i0:Int)) (.int .i64 E0) (.int .i64 o0) (.int .i64 b0) (.int .i64 x0);simp only [List.set_cons_succ,List.set_cons_zero] at t;exact t);replace HF:=Lib.hid (by have t:=HF.out.put7 0 rfl (.int .i64 op) (.int .i64 nn) (.string s1) (.slice p pl pc) (.slice q ql qc) (.bool oo) (.slice ka kl kc);simp only [List.set_cons_zero] at t;exact t);have f4:=HF.out.facts;dsimp only [Fs,Nes,List.map] at f4;clear hb f)
 clear f2 f3 f4
 go_loopw [] (fun wr=>Hid (Fr w wr [(w4.heap.size,#[.int .i64 op,.int .i64 nn,.string s1,.slice p pl pc,.slice q ql qc,.bool oo,.slice ka kl kc],35),(w.heap.size+2,#[.int .i64 0,.int .i64 0,.string ⟨#[]⟩,.slice none 0 0,.slice none 0 0,.bool false,.slice none 0 0],35),(w.heap.size+1,#[.slice none 0 0,.int .i64 0,.int .i64 0,.int .i64 0,.int .i64 0,.int .i64 0],95),(w.heap.size,#[.slice a0 T0.length cap0,.int .i64 (i0:Int),.int .i64 E0,.int .i64 o0,.int .i64 b0,.int .i64 x0],95)])) (fun wr=>0)
 case atStart=>exact HF
 case round=>
  clear HF
  have HF:=hrel
  clear hrel
  rename World=>wr
  have f:=HF.out.facts
  dsimp only [Fs,Nes,List.map] at f
  go_wp2_with (go_at_call 99;refine (sis_dead _ ⟨a0,cap0,T0,i0,E0,o0,b0,x0⟩ _ (H.out.below HF.out.bl) HE).mono ?_;rintro e w5 ⟨rfl,hb⟩;replace HF:=Lib.hid (HF.out.call hb);clear hb;try clear f;have f:=HF.out.facts;dsimp only [Fs,Nes,List.map] at f)
  go_region
  go_wp2_with fail
  refine bodyPost_ret (v:= .tuple #[.agg #[.slice a0 T0.length cap0,.int .i64 (i0:Int),.int .i64 E0,.int .i64 o0,.int .i64 b0,.int .i64 x0],.agg #[.int .i64 op,.int .i64 nn,.string s1,.slice p pl pc,.slice q ql qc,.bool oo,.slice ka kl kc]]) (by simp [results,Tryz.results100,go_sem,f]) rfl ⟨((HF.out.put6 2 rfl (.slice a0 T0.length cap0) (.int .i64 (i0:Int)) (.int .i64 E0) (.int .i64 o0) (.int .i64 b0) (.int .i64 x0)).put7 1 rfl (.int .i64 op) (.int .i64 nn) (.string s1) (.slice p pl pc) (.slice q ql qc) (.bool oo) (.slice ka kl kc)).drew.bl,⟨op,nn,s1,p,pl,pc,q,ql,qc,oo,ka,kl,kc⟩,rfl⟩
set_option maxRecDepth 100000 in
set_option maxHeartbeats 16000000 in
theorem slevel_dead2 (w:World) (s:St) (h:SW w s) (he:s.err≠0):Calls Tryz.prog 100 #[s.v,.int .i64 2] w (DeadP s w):=by
 have H:=Lib.hid h
 have HE:=Lib.hid he
 clear h he
 obtain ⟨a0,cap0,T0,i0,E0,o0,b0,x0⟩:=s
 have hx0:(x0==0)=false:=by simpa using HE.out
 have HF:=Lib.hid (Fr.start3 w #[.slice a0 T0.length cap0,.int .i64 (i0:Int),.int .i64 E0,.int .i64 o0,.int .i64 b0,.int .i64 x0] #[.slice none 0 0,.int .i64 0,.int .i64 0,.int .i64 0,.int .i64 0,.int .i64 0] #[.int .i64 0,.int .i64 0,.string ⟨#[]⟩,.slice none 0 0,.slice none 0 0,.bool false,.slice none 0 0] 95 95 35)
 have f:=HF.out.facts;dsimp only [Fs,Nes,List.map] at f
 unfold St.v
 dsimp only
 go_enter Tryz.func100,Tryz.ntmps100
 go_wp2_with (go_at_call 100;refine (slevel_dead3 _ ⟨a0,cap0,T0,i0,E0,o0,b0,x0⟩ (H.out.below HF.out.bl) HE.out).mono ?_;rintro e w4 ⟨hb,⟨op,nn,s1,p,pl,pc,q,ql,qc,oo,ka,kl,kc⟩,rfl⟩;unfold Hd.agg St.v;dsimp only;replace HF:=Lib.hid (HF.out.call hb);have f2:=HF.out.facts;dsimp only [Fs,Nes,List.map] at f2;replace HF:=Lib.hid (HF.out.new_ #[.int .i64 0,.int .i64 0,.string ⟨#[]⟩,.slice none 0 0,.slice none 0 0,.bool false,.slice none 0 0] 35 (n:=w4.heap.size) (rfl));have f3:=HF.out.facts;dsimp only [Fs,Nes,List.map] at f3;replace HF:=Lib.hid (by have t:=HF.out.put6 3 rfl (.slice a0 T0.length cap0) (.int .i64 (i0:Int)) (.int .i64 E0) (.int .i64 o0) (.int .i64 b0) (.int .i64 x0);simp only [List.set_cons_succ,List.set_cons_zero] at t;exact t);replace HF:=Lib.hid (by have t:=HF.out.put7 0 rfl (.int .i64 op) (.int .i64 nn) (.string s1) (.slice p pl pc) (.slice q ql qc) (.bool oo) (.slice ka kl kc);simp only [List.set_cons_zero] at t;exact t);have f4:=HF.out.facts;dsimp only [Fs,Nes,List.map] at f4;clear hb f)
 have HF0:=Lib.hid (HF.out.old (.cells #[.int .i64 op,.int .i64 nn,.string s1,.slice p pl pc,.slice q ql qc,.bool oo,.slice ka kl kc] 35))
 clear f2 f3 f4 HF
 go_loopw [11] (fun v wr=>∃(ra:Option Addr) (rl rc:Nat),v= .slice ra rl rc∧Hid (Fr w wr [(w4.heap.size,#[.int .i64 op,.int .i64 nn,.string s1,.slice p pl pc,.slice q ql qc,.bool oo,.slice ka kl kc],35),(w.heap.size+2,#[.int .i64 0,.int .i64 0,.string ⟨#[]⟩,.slice none 0 0,.slice none 0 0,.bool false,.slice none 0 0],35),(w.heap.size+1,#[.slice none 0 0,.int .i64 0,.int .i64 0,.int .i64 0,.int .i64 0,.int .i64 0],95),(w.heap.size,#[.slice a0 T0.length cap0,.int .i64 (i0:Int),.int .i64 E0,.int .i64 o0,.int .i64 b0,.int .i64 x0],95)])) (fun _ wr=>0)
 case atStart=>exact ⟨_,_,_,rfl,HF0⟩
 case round=>
  obtain ⟨ra,rl,rc,rfl,HF⟩:=hrel
  clear HF0
  rename World=>wr
  have f:=HF.out.facts
  dsimp only [Fs,Nes,List.map] at f
  by_cases h1:rl=1
  ·have hn1:((rl:Int)==1)=true:=by rw [h1];rfl
   go_wp2_with (go_at_call 99;refine (sis_dead _ ⟨a0,cap0,T0,i0,E0,o0,b0,x0⟩ _ (H.out.below HF.out.bl) HE).mono ?_;rintro e w5 ⟨rfl,hb⟩;replace HF:=Lib.hid (HF.out.call hb);clear hb;try clear f;have f:=HF.out.facts;dsimp only [Fs,Nes,List.map] at f)
   go_region
   go_wp2_with fail
   refine bodyPost_ret (v:= .tuple #[.agg #[.slice a0 T0.length cap0,.int .i64 (i0:Int),.int .i64 E0,.int .i64 o0,.int .i64 b0,.int .i64 x0],.agg #[.int .i64 op,.int .i64 nn,.string s1,.slice p pl pc,.slice q ql qc,.bool oo,.slice ka kl kc]]) (by simp [results,Tryz.results100,go_sem,f]) rfl ⟨((HF.out.put6 2 rfl (.slice a0 T0.length cap0) (.int .i64 (i0:Int)) (.int .i64 E0) (.int .i64 o0) (.int .i64 b0) (.int .i64 x0)).put7 1 rfl (.int .i64 op) (.int .i64 nn) (.string s1) (.slice p pl pc) (.slice q ql qc) (.bool oo) (.slice ka kl kc)).drew.bl,⟨op,nn,s1,p,pl,pc,q,ql,qc,oo,ka,kl,kc⟩,rfl⟩
  ·have hn1:((rl:Int)==1)=false:=by simp;omega
   go_wp2_with (go_at_call 99;refine (sis_dead _ ⟨a0,cap0,T0,i0,E0,o0,b0,x0⟩ _ (H.out.below HF.out.bl) HE).mono ?_;rintro e w5 ⟨rfl,hb⟩;replace HF:=Lib.hid (HF.out.call hb);clear hb;try clear f;have f:=HF.out.facts;dsimp only [Fs,Nes,List.map] at f)
   refine bodyPost_ret (v:= .tuple #[.agg #[.slice a0 T0.length cap0,.int .i64 (i0:Int),.int .i64 E0,.int .i64 o0,.int .i64 b0,.int .i64 x0],.agg #[.int .i64 11,.int .i64 0,.string ⟨#[]⟩,.slice none 0 0,.slice none 0 0,.bool false,.slice ra rl rc]]) (by simp [results,Tryz.results100,go_sem,f]) rfl ⟨((HF.out.put6 2 rfl (.slice a0 T0.length cap0) (.int .i64 (i0:Int)) (.int .i64 E0) (.int .i64 o0) (.int .i64 b0) (.int .i64 x0)).put7 1 rfl (.int .i64 11) (.int .i64 0) (.string ⟨#[]⟩) (.slice none 0 0) (.slice none 0 0) (.bool false) (.slice ra rl rc)).bl,⟨11,0,⟨#[]⟩,none,0,0,none,0,0,false,ra,rl,rc⟩,rfl⟩
set_option maxRecDepth 100000 in
set_option maxHeartbeats 16000000 in
theorem slevel_dead1 (w:World) (s:St) (h:SW w s) (he:s.err≠0):Calls Tryz.prog 100 #[s.v,.int .i64 1] w (DeadP s w):=by
 have H:=Lib.hid h
 have HE:=Lib.hid he
 clear h he
 obtain ⟨a0,cap0,T0,i0,E0,o0,b0,x0⟩:=s
 have hx0:(x0==0)=false:=by simpa using HE.out
 have HF:=Lib.hid (Fr.start3 w #[.slice a0 T0.length cap0,.int .i64 (i0:Int),.int .i64 E0,.int .i64 o0,.int .i64 b0,.int .i64 x0] #[.slice none 0 0,.int .i64 0,.int .i64 0,.int .i64 0,.int .i64 0,.int .i64 0] #[.int .i64 0,.int .i64 0,.string ⟨#[]⟩,.slice none 0 0,.slice none 0 0,.bool false,.slice none 0 0] 95 95 35)
 have f:=HF.out.facts;dsimp only [Fs,Nes,List.map] at f
 unfold St.v
 dsimp only
 go_enter Tryz.func100,Tryz.ntmps100
 go_wp2_with (go_at_call 100;refine (slevel_dead2 _ ⟨a0,cap0,T0,i0,E0,o0,b0,x0⟩ (H.out.below HF.out.bl) HE.out).mono ?_;rintro e w4 ⟨hb,⟨op,nn,s1,p,pl,pc,q,ql,qc,oo,ka,kl,kc⟩,rfl⟩;unfold Hd.agg St.v;dsimp only;replace HF:=Lib.hid (HF.out.call hb);have f2:=HF.out.facts;dsimp only [Fs,Nes,List.map] at f2;replace HF:=Lib.hid (HF.out.new_ #[.int .i64 0,.int .i64 0,.string ⟨#[]⟩,.slice none 0 0,.slice none 0 0,.bool false,.slice none 0 0] 35 (n:=w4.heap.size) (rfl));have f3:=HF.out.facts;dsimp only [Fs,Nes,List.map] at f3;replace HF:=Lib.hid (by have t:=HF.out.put6 3 rfl (.slice a0 T0.length cap0) (.int .i64 (i0:Int)) (.int .i64 E0) (.int .i64 o0) (.int .i64 b0) (.int .i64 x0);simp only [List.set_cons_succ,List.set_cons_zero] at t;exact t);replace HF:=Lib.hid (by have t:=HF.out.put7 0 rfl (.int .i64 op) (.int .i64 nn) (.string s1) (.slice p pl pc) (.slice q ql qc) (.bool oo) (.slice ka kl kc);simp only [List.set_cons_zero] at t;exact t);have f4:=HF.out.facts;dsimp only [Fs,Nes,List.map] at f4;clear hb f)
 have HF0:=Lib.hid (HF.out.old (.cells #[.int .i64 op,.int .i64 nn,.string s1,.slice p pl pc,.slice q ql qc,.bool oo,.slice ka kl kc] 35))
 clear f2 f3 f4 HF
 go_loopw [11] (fun v wr=>∃(ra:Option Addr) (rl rc:Nat),v= .slice ra rl rc∧Hid (Fr w wr [(w4.heap.size,#[.int .i64 op,.int .i64 nn,.string s1,.slice p pl pc,.slice q ql qc,.bool oo,.slice ka kl kc],35),(w.heap.size+2,#[.int .i64 0,.int .i64 0,.string ⟨#[]⟩,.slice none 0 0,.slice none 0 0,.bool false,.slice none 0 0],35),(w.heap.size+1,#[.slice none 0 0,.int .i64 0,.int .i64 0,.int .i64 0,.int .i64 0,.int .i64 0],95),(w.heap.size,#[.slice a0 T0.length cap0,.int .i64 (i0:Int),.int .i64 E0,.int .i64 o0,.int .i64 b0,.int .i64 x0],95)])) (fun _ wr=>0)
 case atStart=>exact ⟨_,_,_,rfl,HF0⟩
 case round=>
  obtain ⟨ra,rl,rc,rfl,HF⟩:=hrel
  clear HF0
  rename World=>wr
  have f:=HF.out.facts
  dsimp only [Fs,Nes,List.map] at f
  by_cases h1:rl=1
  ·have hn1:((rl:Int)==1)=true:=by rw [h1];rfl
   go_wp2_with (go_at_call 99;refine (sis_dead _ ⟨a0,cap0,T0,i0,E0,o0,b0,x0⟩ _ (H.out.below HF.out.bl) HE).mono ?_;rintro e w5 ⟨rfl,hb⟩;replace HF:=Lib.hid (HF.out.call hb);clear hb;try clear f;have f:=HF.out.facts;dsimp only [Fs,Nes,List.map] at f)
   go_region
   go_wp2_with fail
   refine bodyPost_ret (v:= .tuple #[.agg #[.slice a0 T0.length cap0,.int .i64 (i0:Int),.int .i64 E0,.int .i64 o0,.int .i64 b0,.int .i64 x0],.agg #[.int .i64 op,.int .i64 nn,.string s1,.slice p pl pc,.slice q ql qc,.bool oo,.slice ka kl kc]]) (by simp [results,Tryz.results100,go_sem,f]) rfl ⟨((HF.out.put6 2 rfl (.slice a0 T0.length cap0) (.int .i64 (i0:Int)) (.int .i64 E0) (.int .i64 o0) (.int .i64 b0) (.int .i64 x0)).put7 1 rfl (.int .i64 op) (.int .i64 nn) (.string s1) (.slice p pl pc) (.slice q ql qc) (.bool oo) (.slice ka kl kc)).drew.bl,⟨op,nn,s1,p,pl,pc,q,ql,qc,oo,ka,kl,kc⟩,rfl⟩
  ·have hn1:((rl:Int)==1)=false:=by simp;omega
   go_wp2_with (go_at_call 99;refine (sis_dead _ ⟨a0,cap0,T0,i0,E0,o0,b0,x0⟩ _ (H.out.below HF.out.bl) HE).mono ?_;rintro e w5 ⟨rfl,hb⟩;replace HF:=Lib.hid (HF.out.call hb);clear hb;try clear f;have f:=HF.out.facts;dsimp only [Fs,Nes,List.map] at f)
   refine bodyPost_ret (v:= .tuple #[.agg #[.slice a0 T0.length cap0,.int .i64 (i0:Int),.int .i64 E0,.int .i64 o0,.int .i64 b0,.int .i64 x0],.agg #[.int .i64 12,.int .i64 0,.string ⟨#[]⟩,.slice none 0 0,.slice none 0 0,.bool false,.slice ra rl rc]]) (by simp [results,Tryz.results100,go_sem,f]) rfl ⟨((HF.out.put6 2 rfl (.slice a0 T0.length cap0) (.int .i64 (i0:Int)) (.int .i64 E0) (.int .i64 o0) (.int .i64 b0) (.int .i64 x0)).put7 1 rfl (.int .i64 12) (.int .i64 0) (.string ⟨#[]⟩) (.slice none 0 0) (.slice none 0 0) (.bool false) (.slice ra rl rc)).bl,⟨12,0,⟨#[]⟩,none,0,0,none,0,0,false,ra,rl,rc⟩,rfl⟩
end Go.Proofs.YtkfihhagcimcmaaGreatDoor.Ps
namespace Go.Proofs.YtkfihhagcimcmaaGreatDoor.Ps
open Go.RowKit
open Lx (Tok bs)
def Stt {α:Type} (s S:St) (r:Res α):Prop:=match r with
 | .ok _ M=>Sv s S M
 | .bad a x=>Dd s S a x
section
variable {α:Type} {s S:St} {r:Res α} (h:Stt s S r)
include h
theorem Stt.kin:Kin s S:=by
 cases r with
 |ok x M=>exact Sv.kin h
 |bad a x=>exact Dd.kin h
theorem Stt.ord:s.o-1≤S.o∧S.o≤s.o:=by
 cases r with
 |ok x M=>
  have h2:Sv s S M:=h
  have h3:S.o=s.o:=by rw [h2.eq]
  omega
 |bad a x=>exact ⟨Dd.lo h,Dd.hi h⟩
theorem Stt.named:Stt s S.named.1 (r.bind fun _ M=>if nameB M=true then .ok () M.tail else .bad (pk s.E M).at_ 21):=by
 cases r with
 |ok x M=>
  show Stt s S.named.1 (if nameB M=true then Res.ok () M.tail else .bad (pk s.E M).at_ 21)
  by_cases hn:nameB M=true
  ·rw [if_pos hn];exact (Sv.named_ok h hn).1
  ·rw [if_neg hn];exact (Sv.named_no h (by simpa using hn)).1
 |bad a x=>
  have h2:Dd s S a x:=h
  show Dd s S.named.1 a x
  rw [h2.named];exact h2
theorem Stt.must (sg:List UInt8):Stt s (S.must sg) (r.bind fun _ M=>Ps.must s.E sg M):=by
 cases r with
 |ok x M=>
  show Stt s (S.must sg) (Ps.must s.E sg M)
  unfold Ps.must
  by_cases hn:isB sg M=true
  ·rw [if_pos hn];exact Sv.must_ok h hn
  ·rw [if_neg hn];exact Sv.must_no h (by simpa using hn)
 |bad a x=>
  have h2:Dd s S a x:=h
  show Dd s (S.must sg) a x
  rw [h2.must];exact h2
end
def preM (E:Int) (acc:List (ByteArray×Ex)) (M:List Tok):Res Unit:=
 if nameB M then (if hasB acc (bs (pk E M).x.t) then .bad (pk E M).at_ 6 else if acc.length=32 then .bad (pk E M).at_ 4 else must E [58] M.tail) else .bad (pk E M).at_ 21
theorem pairM_eq (join:List Tok→Res Ex) (E:Int) (acc:List (ByteArray×Ex)) (M:List Tok):
  pairM join E acc M=((preM E acc M).bind fun _ M2=>join M2).bind fun x L3=>(must E [59] L3).bind fun _ L4=> .ok (bs (pk E M).x.t,x) L4:=by
 unfold pairM preM
 split
 ·split
  ·rfl
  ·split
   ·rfl
   ·cases must E [58] M.tail<;>rfl
 ·rfl
theorem pre_state {s S:St} {M:List Tok} (h:Sv s S M) (b1 b2:Bool) (acc:List (ByteArray×Ex)) (h1:nameB M=true→hasB acc S.named.2=b1) (h2:acc.length=32↔b2=true):
  Stt s ((if b2=true then (if b1=true then S.named.1.fail S.pk 6 else S.named.1).fail S.pk 4 else (if b1=true then S.named.1.fail S.pk 6 else S.named.1)).must [58]) (preM s.E acc M):=by
 unfold preM
 by_cases hn:nameB M=true
 ·obtain ⟨hS,hw⟩:=h.named_ok hn
  have hb:=h1 hn
  rw [hw] at hb
  rw [if_pos hn,hb]
  cases b1 with
  |true=>
   have hd:=hS.fail S.pk 6 (by decide)
   rw [h.pk] at hd⊢
   simp only [if_true]
   cases b2 with
   |true=>simp only [if_true];rw [hd.fail,hd.must];exact hd
   |false=>simp only [Bool.false_eq_true,if_false];rw [hd.must];exact hd
  |false=>
   simp only [Bool.false_eq_true,if_false]
   cases b2 with
   |true=>
    have hd:=hS.fail S.pk 4 (by decide)
    rw [h.pk] at hd⊢
    rw [if_pos (h2.2 rfl)]
    simp only [if_true]
    rw [hd.must];exact hd
   |false=>
    have h3:¬acc.length=32:=fun e=>by have:=h2.1 e;cases this
    rw [if_neg h3]
    simp only [Bool.false_eq_true,if_false]
    exact Stt.must (r:= .ok () M.tail) hS [58]
 ·obtain ⟨hS,-⟩:=h.named_no (by simpa using hn)
  rw [if_neg hn]
  have hf:∀(b:Bool) (t:Tok) (e:Int),(if b=true then S.named.1.fail t e else S.named.1)=S.named.1:=fun b t e=>by split<;>first|exact hS.fail _ _|rfl
  rw [hf b1,hf b2,hS.must]
  exact hS
def LevQ (s _S:St) (r:Res Ex) (w:World) (e:Ending) (w':World):Prop:=
 Below w.heap.size w w'∧∃(S':St) (h:Hd),e= .returned (.tuple #[S'.v,h.agg])∧Stt s S' r∧∀x M,r= .ok x M→XB (fun b=>w.heap.size≤b) w' h x
theorem LevQ.of {s S:St} {w:World} {M:List Tok} {r:Res Ex} (hs:Sv s S M) {e:Ending} {w':World} (h:SRes (VX w.heap.size) w S r e w'):LevQ s S r w e w':=by
 obtain ⟨hb,S',v,he,hr⟩:=h
 cases r with
 |ok x N=>
  obtain ⟨hS,g,rfl,hx⟩:=hr
  exact ⟨hb,S',g,he,hs.trans hS,fun y K e=>by cases e;exact hx⟩
 |bad a x=>
  obtain ⟨hS,g,rfl⟩:=hr
  exact ⟨hb,S',g,he,hs.dead hS,fun y K e=>by cases e⟩
theorem pair_done {join:List Tok→Res Ex} {E:Int} {acc:List (ByteArray×Ex)} {M:List Tok} {r7:Res Ex} {r8:Res Unit} (h7:r7=(preM E acc M).bind fun _ M2=>join M2) (h8:r8=r7.bind fun _ L3=>must E [59] L3):
  (∃x M3 M',pairM join E acc M= .ok (bs (pk E M).x.t,x) M'∧r7= .ok x M3∧r8= .ok () M')∨(∃a x,pairM join E acc M= .bad a x∧r8= .bad a x):=by
 rw [pairM_eq,←h7]
 subst h8
 cases r7 with
 |bad a x=>exact .inr ⟨a,x,rfl,rfl⟩
 |ok x M3=>
  show (∃x1 M31 M',(must E [59] M3).bind (fun _ L4=>Res.ok (bs (pk E M).x.t,x) L4)=_∧_∧must E [59] M3=_)∨(∃a x1,(must E [59] M3).bind (fun _ L4=>Res.ok (bs (pk E M).x.t,x) L4)=_∧must E [59] M3=_)
  cases must E [59] M3 with
  |ok u N=>exact .inl ⟨x,M3,N,rfl,rfl,rfl⟩
  |bad a y=>exact .inr ⟨a,y,rfl,rfl⟩
theorem fields_fin {join:List Tok→Res Ex} {s S:St} {M:List Tok} {R:Res (List (ByteArray×Ex))} {acc:List (ByteArray×Ex)} (h:Sv s S M) (hF:FieldsAt join s.E R acc M) (hk:¬(pk s.E M).x.k=2) (b:Bool) (hb:isB [46,46,46] M=b):
  Stt s ((if b=true then S.next else S).must [125]) ((R.bind fun acc L1=> .ok (.mk 10 0 ⟨#[]⟩ [] (sortP acc) (isB [46,46,46] L1) []) (if isB [46,46,46] L1=true then L1.tail else L1):Res Ex).bind fun x L1=>(must s.E [125] L1).bind fun _ L2=> .ok x L2)
  ∧∀x N,((R.bind fun acc L1=> .ok (.mk 10 0 ⟨#[]⟩ [] (sortP acc) (isB [46,46,46] L1) []) (if isB [46,46,46] L1=true then L1.tail else L1):Res Ex).bind fun x L1=>(must s.E [125] L1).bind fun _ L2=> .ok x L2)= .ok x N→x= .mk 10 0 ⟨#[]⟩ [] (sortP acc) b []:=by
 have key:∀(S':St) (L1:List Tok) (x:Ex),Sv s S' L1→Stt s (S'.must [125]) ((must s.E [125] L1).bind fun _ L2=> .ok x L2):=fun S' L1 x hS=>by
  have:=Stt.must (r:= .ok () L1) hS [125]
  simp only [Res.bind] at this
  cases hm:must s.E [125] L1 with
  |ok u N=>rw [hm] at this;exact this
  |bad a y=>rw [hm] at this;exact this
 have fin:∀(r:Res Unit) (x y:Ex) (N:List Tok),(r.bind fun _ L2=>Res.ok x L2)= .ok y N→y=x:=fun r x y N e=>by
  cases r with
  |ok u K=>injection e with e1;exact e1.symm
  |bad a z=>cases e
 cases b with
 |true=>
  have hR:=hF.last (.inl hb)
  subst hR
  simp only [Res.bind,hb,if_true]
  obtain ⟨t,N,rfl,_,_⟩:=isB_cons hb
  exact ⟨key _ _ _ (h.next rfl),fun x N e=>fin _ _ _ _ e⟩
 |false=>
  simp only [Bool.false_eq_true,if_false]
  by_cases h2:isB [125] M=true
  ·have hR:=hF.last (.inr h2)
   subst hR
   simp only [Res.bind,hb,Bool.false_eq_true,if_false]
   exact ⟨key _ _ _ h,fun x N e=>fin _ _ _ _ e⟩
  ·have h2':isB [125] M=false:=by simpa using h2
   have hn:nameB M=false:=by
    cases hc:nameB M with
    |false=>rfl
    |true=>
     obtain ⟨t,N,rfl,hk2,_⟩:=nameB_cons hc
     exact absurd hk2 hk
   have hp:pairM join s.E acc M= .bad (pk s.E M).at_ 21:=by unfold pairM;rw [hn,if_neg (by decide)]
   have hR:=hF.bad hb h2' hp
   subst hR
   exact ⟨h.must_no h2',fun x N e=>by cases e⟩
theorem unP_put (L:List PX) (nm:ByteArray) (h:Hd) (x:Ex):unP (putP L (nm,h,x))=putP (unP L) (nm,x):=by
 induction L with
 |nil=>rfl
 |cons q L ih=>
  unfold unP at*
  simp only [putP,List.map_cons]
  split
  ·rfl
  ·rw [List.map_cons,ih]
theorem sort_app {β:Type} (l:List (ByteArray×β)) (p:ByteArray×β):sortP (l++[p])=putP (sortP l) p:=by unfold sortP;rw [List.foldl_append];rfl
theorem putP_len {β:Type} (l:List (ByteArray×β)) (p:ByteArray×β):(putP l p).length=l.length+1:=by have:=(putP_perm l p).length_eq;simpa using this
def Res.val {α:Type} (r:Res α) (d:α):α:=match r with| .ok x _=>x| .bad _ _=>d
structure Dx (s S:St) (a x:Int):Prop where
 kin:Kin s S
 bad:S.bad=a
 err:S.err=x
 x:x≠0
 lo:s.o≤S.o
 hi:S.o≤s.o+1
theorem Dx.of {s S:St} {a x:Int} (h:Dd {s with o:=s.o+1} S a x):Dx s S a x:=
 ⟨⟨h.kin.a,h.kin.T,h.kin.E,h.kin.i⟩,h.bad,h.err,h.x,by have:=h.lo;dsimp only at this;omega,by have:=h.hi;dsimp only at this;omega⟩
theorem Dx.dd {s S:St} {a x:Int} (h:Dx s S a x):Dd s {S with o:=S.o-1} a x:=
 ⟨⟨h.kin.a,h.kin.T,h.kin.E,h.kin.i⟩,h.bad,h.err,h.x,by have:=h.lo;show s.o-1≤S.o-1;omega,by have:=h.hi;show S.o-1≤s.o;omega⟩
theorem Dx.self {s S:St} {a x:Int} (h:Dx s S a x):Dd S S a x:=
 ⟨⟨rfl,rfl,rfl,by rw [h.kin.T];exact h.kin.i⟩,h.bad,h.err,h.x,by omega,Int.le_refl _⟩
theorem Sv.close {s S:St} {M:List Tok} (h:Sv {s with o:=s.o+1} S M):Sv s {S with o:=S.o-1} M:=by
 have e:S.o=s.o+1:=by rw [h.eq]
 have e2:S.o-1=s.o:=by omega
 refine ⟨?_,h.L,h.i,h.ok⟩
 show ({S with o:=S.o-1}:St)={s with i:=S.i}
 rw [e2]
 conv=>lhs;rw [h.eq]
theorem br_ret {w W:World} {s S:St} {R:Res Ex} {hd:Hd} (hW:Below w.heap.size w W) (h:(Stt {s with o:=s.o+1} S R∧∀x N,R= .ok x N→XB (fun b=>w.heap.size≤b) W hd x)∨∃a x,Dx s S a x∧R= .bad a x):
  SRes (VX w.heap.size) w s R (.returned (.tuple #[({S with o:=S.o-1}:St).v,hd.agg])) W:=by
 refine ⟨hW,_,_,rfl,?_⟩
 rcases h with ⟨h,hx⟩|⟨a,x,h,rfl⟩
 ·cases R with
  |ok x N=>exact ⟨Sv.close h,hd,rfl,hx x N rfl⟩
  |bad a x=>exact ⟨(Dx.of h).dd,hd,rfl⟩
 ·exact ⟨h.dd,hd,rfl⟩
structure PF (B:Nat) (l:BL) (w:World) (v:Value) (L:List PX):Prop where
 own:w.ownsRow B 109 8 v L.length (pcells L)
 far:∀b∈l.map Prod.fst,v.ownBlock≠some b
 els:∀y∈L,XF B l w y.2.1 y.2.2
theorem own_less {w:World} {B C E z n:Nat} {v:Value} {xs:List Value} (h:w.ownsRow C E z v n xs) (hB:B≤C):w.ownsRow B E z v n xs:=⟨h.1,h.2.imp_right fun ⟨g,cap,cur,e,hb,r⟩=>⟨g,cap,cur,e,Nat.le_trans hB hb,r⟩⟩
theorem own_lt {w:World} {B E z n b:Nat} {v:Value} {xs:List Value} (h:w.ownsRow B E z v n xs) (hv:v.ownBlock=some b):b<w.heap.size:=by
 rcases h.2 with ⟨e,_⟩|⟨g,cap,cur,e,_,hg,_⟩
 ·rw [e] at hv;cases hv
 ·rw [e] at hv
  have:g=b:=by simpa [Value.ownBlock] using hv
  subst this
  exact (Array.getElem?_eq_some_iff.1 hg).1
section
variable {B:Nat} {l:BL} {w w':World} {v:Value} {L:List PX}
theorem PF.call (h:PF B l w v L) (hb:Below w.heap.size w w'):PF B l w' v L:=
 ⟨h.own.kept (grown_below hb) (by cases v.ownBlock<;>simp),h.far,fun y hy=>(h.els y hy).call hb⟩
theorem PF.new_ (h:PF B l w v L) (cs:Array Value) (t:TypeId) {n:Nat} (hn:w.heap.size=n):PF B ((n,cs,t)::l) (w.alloc (.cells cs t)) v L:=by
 subst hn
 exact ⟨h.own.alloc _,fun b hb e=>by
  rw [List.map_cons] at hb
  rcases List.mem_cons.1 hb with rfl|hb
  ·have:=own_lt h.own e;simp only at this;omega
  ·exact h.far b hb e,fun y hy=>(h.els y hy).new cs t⟩
theorem PF.put (h:PF B l w v L) {i b:Nat} {cs cs':Array Value} {t:TypeId} (hi:l[i]?=some (b,cs,t)) (g:w.grownBy w' (some b)):PF B (l.set i (b,cs',t)) w' v L:=
 ⟨owns_grown h.own g (h.far b (List.mem_map.2 ⟨_,List.mem_of_getElem? hi,rfl⟩)),by rw [set_fst hi];exact h.far,fun y hy=>(h.els y hy).put hi g⟩
theorem PF.put6 (h:PF B l w v L) (i:Nat) {b:Nat} {t:TypeId} {u0 u1 u2 u3 u4 u5:Value} (hi:l[i]?=some (b,#[u0,u1,u2,u3,u4,u5],t)) (v0 v1 v2 v3 v4 v5:Value):PF B (l.set i (b,#[v0,v1,v2,v3,v4,v5],t)) (Ps.put6 w b v0 v1 v2 v3 v4 v5) v L:=h.put hi (put6_grown w b v0 v1 v2 v3 v4 v5)
theorem PF.put7 (h:PF B l w v L) (i:Nat) {b:Nat} {t:TypeId} {u0 u1 u2 u3 u4 u5 u6:Value} (hi:l[i]?=some (b,#[u0,u1,u2,u3,u4,u5,u6],t)) (v0 v1 v2 v3 v4 v5 v6:Value):PF B (l.set i (b,#[v0,v1,v2,v3,v4,v5,v6],t)) (Ps.put7 w b v0 v1 v2 v3 v4 v5 v6) v L:=h.put hi (put7_grown w b v0 v1 v2 v3 v4 v5 v6)
theorem PF.xb {a:Option Addr} {n c:Nat} (h:PF B l w (.slice a n c) L) (hn:L.length=n) (hm:n≤1000) (hz:∀y∈L,y.1.size≤4096) (o:Bool):XB (fun b=>B≤b) w ⟨10,0,⟨#[]⟩,none,0,0,a,n,c,o,none,0,0⟩ (.mk 10 0 ⟨#[]⟩ [] (unP L) o []):=by
 obtain ⟨a2,c2,e,hr⟩:=prow_own h.own
 injection e with e1 _ e3
 subst e1 e3
 refine XB.pairs ⟨by rw [unP_len,hn],by omega,fun i hi=>?_⟩ (fun h0 b off e=>by subst e;exact own_base h.own b (by simp [Value.ownBlock]))
 have hi2:i<L.length:=by rw [←unP_len L];exact hi
 obtain ⟨b,off,e,lt,h0,h1⟩:=hr i hi2
 have hmem:L[i]∈L:=List.getElem_mem hi2
 refine ⟨b,off,L[i].2.1,e,lt,?_,?_,h1,?_⟩
 ·simp only [unP,List.getElem_map];have:=hz _ hmem;omega
 ·simp only [unP,List.getElem_map];exact h0
 ·simp only [unP,List.getElem_map];exact (h.els _ hmem).less fun b _ hb=>hb.1
end
theorem pair_rel {join:List Tok→Res Ex} {s S S8:St} {M:List Tok} {acc:List (ByteArray×Ex)} {L:List PX} {R:Res (List (ByteArray×Ex))} {r7:Res Ex} {hd:Hd} (hfit:∀L,Fits cnt L (join L)) (hS:Sv s S M) (hok:OkL s.T) (hk:(pk s.E M).x.k=2)
  (hu:unP L=sortP acc∧Apart acc∧acc.length≤32∧∀p∈acc,p.1.size≤4096) (hF:FieldsAt join s.E R acc M) (h7:r7=(preM s.E acc M).bind fun _ M2=>join M2) (h8:Stt s S8 (r7.bind fun _ L3=>must s.E [59] L3)):
  (∃acc' M',Sv s S8 M'∧M'.length<M.length∧(unP (putP L (S.named.2,hd,r7.val exO))=sortP acc'∧Apart acc'∧acc'.length≤32∧∀p∈acc',p.1.size≤4096)∧FieldsAt join s.E R acc' M'∧∃x K,r7= .ok x K∧r7.val exO=x)∨∃a x,Dd s S8 a x∧R= .bad a x:=by
 have hnb:∀sg,isB sg M=false:=fun sg=>by
  cases hc:isB sg M with
  |false=>rfl
  |true=>
   obtain ⟨t,N,rfl,h4,_⟩:=isB_cons hc
   have:t.x.k=2:=hk
   omega
 rcases pair_done h7 rfl with ⟨x,M3,M',hp,hr,h9⟩|⟨a,x,hp,h9⟩
 ·have hn:nameB M=true:=by
   cases hc:nameB M with
   |true=>rfl
   |false=>unfold pairM at hp;rw [hc,if_neg (by decide)] at hp;cases hp
  obtain ⟨-,hw⟩:=hS.named_ok hn
  rw [←hw] at hp
  obtain ⟨hh,h32⟩:=pairM_ok hp
  obtain ⟨hf,-,hlt⟩:=hF.step hfit (hnb _) (hnb _) hp
  rw [h9] at h8
  have hokM:OkL M:=fun t ht=>hok t (by rw [←hS.L] at ht;have h2:=List.mem_of_mem_drop ht;rw [hS.kin.T] at h2;exact h2)
  have hz:S.named.2.size≤4096:=by rw [hw,bs_size];exact (pk_ok hokM s.E).1
  refine .inl ⟨acc++[(S.named.2,x)],M',h8,hlt,⟨?_,has_app hu.2.1 hh,by have h2:=hu.2.2.1;rw [List.length_append];simp only [List.length_singleton];omega,fun p hp=>?_⟩,hf,x,M3,hr,by rw [hr];rfl⟩
  ·rw [unP_put,hu.1,sort_app,hr];rfl
  ·rcases List.mem_append.1 hp with hp|hp
   ·exact hu.2.2.2 p hp
   ·rw [List.mem_singleton.1 hp];exact hz
 ·rw [h9] at h8
  exact .inr ⟨a,x,h8,hF.bad (hnb _) (hnb _) hp⟩
theorem Fr.bx {w0 w:World} {l:BL} (h:Fr w0 w l) {i b:Nat} {cs:Array Value} {t:TypeId} (hi:l[i]?=some (b,cs,t)):Bx w b cs t:=(h.at_ _ (List.mem_of_getElem? hi)).1
theorem smust_as (w:World) (s s':St) (sg:ByteArray) (h:SW w s) (hs:Hid (s.must sg.toList=s')):Calls Tryz.prog 58 #[s.v,.string sg] w (Ans s'.v w):=by rw [←hs.out];exact smust_any w s sg h
theorem lev_q {s S:St} {w:World} {pre:Res Unit} (join:List Tok→Res Ex) (hp:Stt s S pre) (hS:SW w S) (ask:∀u M,pre= .ok u M→Sv s S M→Calls Tryz.prog 100 #[S.v,.int .i64 1] w (SRes (VX w.heap.size) w S (join M))):Calls Tryz.prog 100 #[S.v,.int .i64 1] w (LevQ s S (pre.bind fun _ M=>join M) w):=by
 cases pre with
 |ok u M=>exact (ask u M rfl hp).mono fun e w' hq=>LevQ.of hp hq
 |bad a x=>
  have h2:Dd s S a x:=hp
  refine (slevel_dead1 w S hS h2.live).mono ?_
  rintro e w' ⟨hb,h,he⟩
  exact ⟨hb,S,h,he,hp,fun x M e=>by cases e⟩
theorem Kin.fail {s S:St} (h:Kin s S) (t:Tok) (e:Int):Kin s (S.fail t e):=by
 unfold St.fail
 split<;>exact ⟨h.a,h.T,h.E,h.i⟩
theorem Kin.ofo {s S:St} {o:Int} (h:Kin {s with o:=o} S):Kin s S:=⟨h.a,h.T,h.E,h.i⟩
theorem hasB_sort {β:Type} {l:List (ByteArray×β)} (h:Apart l) (s:ByteArray):hasB (sortP l) s=hasB l s:=by
 unfold hasB
 rw [Bool.eq_iff_iff,List.any_eq_true,List.any_eq_true]
 exact ⟨fun ⟨x,hx,h2⟩=>⟨x,(sort_perm h).mem_iff.1 hx,h2⟩,fun ⟨x,hx,h2⟩=>⟨x,(sort_perm h).mem_iff.2 hx,h2⟩⟩
theorem preM_len {E:Int} {acc:List (ByteArray×Ex)} {M K:List Tok} {u:Unit} (h:preM E acc M= .ok u K):K.length≤M.length:=by
 unfold preM at h
 split at h
 ·split at h
  ·cases h
  ·split at h
   ·cases h
   ·unfold must at h
    split at h
    ·cases h;simp;try omega
    ·cases h
 ·cases h
theorem PF.row {B:Nat} {l:BL} {w:World} {a:Option Addr} {n c:Nat} {L:List PX} (h:PF B l w (.slice a n c) L):PRow w a L:=by
 obtain ⟨a2,c2,e,hr⟩:=prow_own h.own
 injection e with e1 _ _
 subst e1
 exact hr
theorem shas_as (L:List PX) (s:ByteArray) (b:Bool) (a:Option Addr) (n c:Nat) (w:World) (hn:Hid (L.length=n)) (hm:n≤1000000) (hL:PRow w a L) (hb:Hid (hasB L s=b)):Calls Tryz.prog 205 #[.slice a n c,.string s] w (Ans (.bool b) w):=by
 rw [←hb.out]
 exact (shas_any L s a n c w hn.out.symm hm hL).mono fun e w' ⟨h1,h2⟩=>⟨h1,h2⟩
theorem PF.next {B:Nat} {l l':BL} {w w' w2:World} {v v':Value} {L:List PX} {nm:ByteArray} {hd:Hd} {x:Ex} (h:PF B l w v L) (hx:XF B l w hd x) (hb:Below w.heap.size w w') (hown:w'.ownsRow (w.heap.size+1) 109 8 v' (putP L (nm,hd,x)).length (pcells (putP L (nm,hd,x)))) (hB:B≤w.heap.size) (hfr:∀b,w.heap.size≤b→b∉l.map Prod.fst) {c:Nat} (hc:c∈l.map Prod.fst) (g:w'.grownBy w2 (some c)) (hl:∀b∈l'.map Prod.fst,b∈l.map Prod.fst):PF B l' w2 v' (putP L (nm,hd,x)):=by
 have hfar:∀b∈l.map Prod.fst,v'.ownBlock≠some b:=fun b hb e=>hfr b (by have:=own_base hown b e;omega) hb
 refine ⟨own_less (owns_grown hown g (hfar c hc)) (by omega),fun b hb=>hfar b (hl b hb),fun y hy=>?_⟩
 have key:∀z:PX,XF B l w z.2.1 z.2.2→XF B l' w2 z.2.1 z.2.2:=fun z hz=>(hz.call hb).turn g.size fun b lt hb=>⟨g.block b lt fun e=>hb.2 (by injection e with e;rw [e];exact hc),hb.1,fun hm=>hb.2 (hl b hm)⟩
 rcases List.mem_append.1 ((putP_perm L _).mem_iff.1 hy) with hy|hy
 ·exact key y (h.els y hy)
 ·rw [List.mem_singleton.1 hy];exact key (nm,hd,x) hx
end Go.Proofs.YtkfihhagcimcmaaGreatDoor.Ps
