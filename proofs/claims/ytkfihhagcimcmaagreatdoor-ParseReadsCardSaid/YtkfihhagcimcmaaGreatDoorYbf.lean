/- Qa, Qb, Qc -/
import Derived.Test.YtkfihhagcimcmaaGreatDoorYbg
import Derived.Test.YtkfihhagcimcmaaGreatDoorChecked
import Derived.Test.YtkfihhagcimcmaaGreatDoorProg
import Derived.Test.YtkfihhagcimcmaaGreatDoorY1
import Derived.Test.YtkfihhagcimcmaaGreatDoorYbd
import Derived.Test.YtkfihhagcimcmaaGreatDoorYbe
namespace Go.Proofs.YtkfihhagcimcmaaGreatDoor.Ps
open Go.RowKit
open Lx (Tok)
theorem VL.keep {B q:Nat} {w w':World} {l:List De} {v:Value} (h:VL B w l v) (hk:Keep q w w') (hq:q<B):VL B w' l v:=by
 obtain ⟨L,h1,h2,h3,h4,h5⟩:=h
 exact ⟨L,h1,h2,owns_keep h3 hk hq,h4.keep hk hq,h5⟩
theorem VX.keep {B q:Nat} {w w':World} {x:Ex} {v:Value} (h:VX B w x v) (hk:Keep q w w') (hq:q<B):VX B w' x v:=by
 obtain ⟨g,h1,h2⟩:=h
 exact ⟨g,h1,h2.keep hk (by omega)⟩
structure Keep2 (p q:Nat) (w w':World):Prop where
 os:w'.os=w.os
 tape:w'.tape=w.tape
 output:w'.output=w.output
 size:w.heap.size≤w'.heap.size
 block:∀k,k<w.heap.size→k≠p→k≠q→w'.heap[k]?=w.heap[k]?
theorem Keep2.of {p q:Nat} {w x w':World} (h:Keep p w x) (g:x.grownBy w' (some q)):Keep2 p q w w':=
 ⟨g.os.trans h.os,g.tape.trans h.tape,g.output.trans h.output,Nat.le_trans h.size g.size,fun k hk hp hq=>(g.block k (Nat.lt_of_lt_of_le hk h.size) (fun e=>hq (by injection e))).trans (h.block k hk hp)⟩
theorem Keep2.one {p q:Nat} {w x:World} (h:Keep p w x):Keep2 p q w x:=⟨h.os,h.tape,h.output,h.size,fun k hk hp _=>h.block k hk hp⟩
theorem Keep2.late {p q:Nat} {w0 w w':World} (h0:Below w0.heap.size w0 w) (hp:w0.heap.size≤p) (k:Keep2 p q w w'):Keep q w0 w':=
 ⟨k.os.trans h0.os,k.tape.trans h0.tape,k.output.trans h0.output,Nat.le_trans h0.size k.size,fun i hi hq=>(k.block i (Nat.lt_of_lt_of_le hi h0.size) (by omega) hq).trans (h0.block i hi)⟩
def cellsOf:Value→Array Value
 | .agg a=>a
 |v=>#[v]
def RuleP {α:Type} (V:Nat→World→α→Value→Prop) (ty:TypeId) (v0:Value) (q p:Nat) (w:World) (r:Res α) (e:Ending) (w':World):Prop:=
 Keep2 p q w w'∧match r with
 | .ok x _=>e= .returned (.tuple #[])∧∃v,Bx w' q (cellsOf v) ty∧V w.heap.size w' x v
 | .bad a x=>e= .panicked [{v:=fv a x,recovered:=false}]∧Bx w' q (cellsOf v0) ty
theorem set1_grown (w:World) (b:Nat) (v:Value):w.grownBy (w.setCell ⟨b,0,none⟩ v) (some b):=⟨rfl,rfl,rfl,by simp [World.setCell],fun k hk hne=>Below.heap_setCell w ⟨b,0,none⟩ v k (fun e=>hne (by rw [e]))⟩
theorem file_as (w:World) (p cap:Nat) (a:Option Addr) (L:List Tok) (E:Int) (r:Res (List De)) (h:Prs w p a cap L E 0) (hr:Hid (fileF E (L.length+1) [] L=r)):Calls Tryz.prog 53 #[.pointer (some ⟨p,0,none⟩)] w (PostR (VL w.heap.size) w p E 0 r):=by rw [←hr.out];exact file_any w p cap a L E h
theorem alone_as (w:World) (p cap:Nat) (a:Option Addr) (L:List Tok) (E:Int) (r:Res Ex) (h:Prs w p a cap L E 0) (hr:Hid (aloneM E L=r)):Calls Tryz.prog 61 #[.pointer (some ⟨p,0,none⟩)] w (PostR (VX w.heap.size) w p E 0 r):=by rw [←hr.out];exact alone_any w p cap a L E h
theorem VL.sl {B:Nat} {w:World} {l:List De} {v:Value} (h:VL B w l v):∃a n c,v= .slice a n c:=by
 obtain ⟨L,h1,h2,h3,h4,h5⟩:=h
 obtain ⟨a,c,e⟩:=own_sliceD h3
 exact ⟨a,_,c,e⟩
set_option maxRecDepth 100000 in
set_option maxHeartbeats 2000000 in
theorem rule_file (w:World) (p cap q:Nat) (a:Option Addr) (L:List Tok) (E:Int) (b0:Option Addr) (n0 c0:Nat) (h:Prs w p a cap L E 0) (hq:Bx w q #[.slice b0 n0 c0] 23) (hqp:q<p):Calls Tryz.prog 52 #[.pointer (some ⟨p,0,none⟩),.pointer (some ⟨q,0,none⟩)] w (RuleP VL 23 (.slice b0 n0 c0) q p w (fileF E (L.length+1) [] L)):=by
 have H:=Lib.hid h
 have HQ:=Lib.hid hq
 have hpl:=h.lt
 clear h hq
 cases hp:fileF E (L.length+1) [] L with
 |bad x y=>
  have HPT:=Lib.hid hp
  clear hp
  go_enter Tryz.func52,Tryz.ntmps52
  go_wp2_with (go_at_call 53;refine (file_as _ _ _ _ _ _ _ H.out HPT).mono ?_;rintro e x2 hq;obtain ⟨rfl,hKm⟩:=hq.no;have HK2:=Lib.hid hKm;clear hq hKm)
  exact ⟨rfl,Keep2.one HK2.out,rfl,HQ.out.keep HK2.out (by omega)⟩
 |ok l M=>
  have HPT:=Lib.hid hp
  clear hp
  go_enter Tryz.func52,Tryz.ntmps52
  go_wp2_with (go_at_call 53;refine (file_as _ _ _ _ _ _ _ H.out HPT).mono ?_;rintro e x2 hq;obtain ⟨v,a2,cp2,rfl,hv,hPm,hKm⟩:=hq.yes;obtain ⟨b1,n1,c1,rfl⟩:=hv.sl;have HK2:=Lib.hid hKm;have HV2:=Lib.hid hv;have hy:=HQ.out.keep hKm (by omega);have d0:=hy.cell 0 rfl;have df:=hy.fz 0;have HY2:=Lib.hid hy;clear hq hKm hv hPm hy)
  go_end0
  have hg:=set1_grown x2 q (.slice b1 n1 c1)
  refine ⟨Keep2.of HK2.out hg,rfl,.slice b1 n1 c1,?_,HV2.out.keep ((Keep.refl q x2).set 0 _) (by omega)⟩
  have:=HY2.out.set (i:=0) (v:= .slice b1 n1 c1)
  simp only [List.setIfInBounds_toArray,List.set_cons_zero] at this
  exact this
set_option maxRecDepth 100000 in
set_option maxHeartbeats 2000000 in
theorem rule_alone (w:World) (p cap q:Nat) (a:Option Addr) (L:List Tok) (E:Int) (u0 u1 u2 u3 u4 u5 u6:Value) (h:Prs w p a cap L E 0) (hq:Bx w q #[u0,u1,u2,u3,u4,u5,u6] 35) (hqp:q<p):Calls Tryz.prog 60 #[.pointer (some ⟨p,0,none⟩),.pointer (some ⟨q,0,none⟩)] w (RuleP VX 35 (.agg #[u0,u1,u2,u3,u4,u5,u6]) q p w (aloneM E L)):=by
 have H:=Lib.hid h
 have HQ:=Lib.hid hq
 have hpl:=h.lt
 clear h hq
 cases hp:aloneM E L with
 |bad x y=>
  have HPT:=Lib.hid hp
  clear hp
  go_enter Tryz.func60,Tryz.ntmps60
  go_wp2_with (go_at_call 61;refine (alone_as _ _ _ _ _ _ _ H.out HPT).mono ?_;rintro e x2 hq;obtain ⟨rfl,hKm⟩:=hq.no;have HK2:=Lib.hid hKm;clear hq hKm)
  exact ⟨rfl,Keep2.one HK2.out,rfl,HQ.out.keep HK2.out (by omega)⟩
 |ok l M=>
  have HPT:=Lib.hid hp
  clear hp
  go_enter Tryz.func60,Tryz.ntmps60
  go_wp2_with (go_at_call 61;refine (alone_as _ _ _ _ _ _ _ H.out HPT).mono ?_;rintro e x2 hq;obtain ⟨v,a2,cp2,rfl,hv,hPm,hKm⟩:=hq.yes;obtain ⟨op2,nn2,s2,p2,pl2,pc2,q2,ql2,qc2,o2,k2,kl2,kc2,rfl,hX⟩:=VX.hd hv;have HK2:=Lib.hid hKm;have HV2:=Lib.hid hv;have hy:=HQ.out.keep hKm (by omega);have d0:=hy.cell 0 rfl;have d1:=hy.cell 1 rfl;have d2:=hy.cell 2 rfl;have d3:=hy.cell 3 rfl;have d4:=hy.cell 4 rfl;have d5:=hy.cell 5 rfl;have d6:=hy.cell 6 rfl;have df:=hy.fz;have HY2:=Lib.hid hy;clear hq hKm hv hPm hy hX)
  go_end0
  have hg:=put7_grown x2 q (.int .i64 op2) (.int .i64 nn2) (.string s2) (.slice p2 pl2 pc2) (.slice q2 ql2 qc2) (.bool o2) (.slice k2 kl2 kc2)
  have hk:Keep q x2 (put7 x2 q (.int .i64 op2) (.int .i64 nn2) (.string s2) (.slice p2 pl2 pc2) (.slice q2 ql2 qc2) (.bool o2) (.slice k2 kl2 kc2)):=⟨hg.os,hg.tape,hg.output,hg.size,fun k hk hne=>hg.block k hk (fun e=>hne (by injection e))⟩
  exact ⟨Keep2.of HK2.out hg,rfl,.agg #[.int .i64 op2,.int .i64 nn2,.string s2,.slice p2 pl2 pc2,.slice q2 ql2 qc2,.bool o2,.slice k2 kl2 kc2],put7_bx HY2.out,HV2.out.keep hk (by omega)⟩
end Go.Proofs.YtkfihhagcimcmaaGreatDoor.Ps
namespace Go.Proofs.YtkfihhagcimcmaaGreatDoor.Ps
open Go.RowKit
open Lx (Tok TRow bl_alloc bl_step lexL)
def ReadP {α:Type} (V:Nat→World→α→Value→Prop) (rule:Int→List Tok→Res α) (ty:TypeId) (v0:Value) (q:Nat) (s:List UInt8) (w:World) (e:Ending) (w':World):Prop:=
 Keep q w w'∧if (lexL s).2.2=0 then match rule s.length (lexL s).1 with
  | .ok x _=>e= .returned (.tuple #[.int .i64 0,.int .i64 0])∧∃v B,w.heap.size≤B∧Bx w' q (cellsOf v) ty∧V B w' x v
  | .bad a x=>e= .returned (.tuple #[.int .i64 a,.int .i64 x])∧Bx w' q (cellsOf v0) ty
 else e= .returned (.tuple #[.int .i64 (lexL s).2.1,.int .i64 (lexL s).2.2])∧Bx w' q (cellsOf v0) ty
theorem makef (fn:Fn) (first cap:Array Value) (w:World):(Instr.makeFunc fn first cap).run Tryz.prog w= .ok (.func fn first cap) w:=rfl
theorem nostr_int {w:World} {b:Nat} {x:Int} {k:IntKind} {t:TypeId} (h:Bx w b #[.int k x] t):NoStr w b:=fun o s e=>by
 unfold Bx at h
 simp only [World.cell?,h] at e
 match o with
 |0=>cases e
 |n+1=>simp at e
theorem Keep.bl {B:Nat} {a w w':World} (h:Keep B a w) (k:Below a.heap.size w w'):Keep B a w':=
 ⟨k.os.trans h.os,k.tape.trans h.tape,k.output.trans h.output,Nat.le_trans h.size k.size,fun i hi hB=>(k.block i hi).trans (h.block i hi hB)⟩
section
variable {w w1:World} {a:Option Addr} {cap:Nat} {T:List Tok} {E x1 x2 y1 y2:Int}
theorem parser_new (hE:Nm.Env w) (hb:Below w.heap.size w w1) (hT:TRow w1 a T) (hc:T.length≤cap) (hok:OkL T) (hlo:∀b off,a=some ⟨b,off,none⟩→b<w1.heap.size)
  (hr:Bx w1 w.heap.size #[.int .i64 x1] 3) (hs:Bx w1 (w.heap.size+1) #[.int .i64 y1] 24):
  Prs (((w1.setCell ⟨w.heap.size,0,none⟩ (.int .i64 x2)).setCell ⟨w.heap.size+1,0,none⟩ (.int .i64 y2)).alloc (.cells #[.slice a T.length cap,.int .i64 E,.int .i64 0] 154)) w1.heap.size a cap T E 0:=by
 have h7:=hE.one
 have k1:Keep w.heap.size w1 (w1.setCell ⟨w.heap.size,0,none⟩ (.int .i64 x2)):=(Keep.refl _ w1).set 0 _
 have hs1:=hs.keep k1 (by omega)
 have k2:Keep (w.heap.size+1) (w1.setCell ⟨w.heap.size,0,none⟩ (.int .i64 x2)) ((w1.setCell ⟨w.heap.size,0,none⟩ (.int .i64 x2)).setCell ⟨w.heap.size+1,0,none⟩ (.int .i64 y2)):=(Keep.refl _ _).set 0 _
 have b3:=bl_alloc (o:= .cells #[.slice a T.length cap,.int .i64 E,.int .i64 0] 154) (Below.refl ((w1.setCell ⟨w.heap.size,0,none⟩ (.int .i64 x2)).setCell ⟨w.heap.size+1,0,none⟩ (.int .i64 y2)).heap.size ((w1.setCell ⟨w.heap.size,0,none⟩ (.int .i64 x2)).setCell ⟨w.heap.size+1,0,none⟩ (.int .i64 y2)))
 have hz:((w1.setCell ⟨w.heap.size,0,none⟩ (.int .i64 x2)).setCell ⟨w.heap.size+1,0,none⟩ (.int .i64 y2)).heap.size=w1.heap.size:=by simp [World.setCell]
 refine ⟨?_,(trow_keep (nostr_int hs1) k2 (trow_keep (nostr_int hr) k1 hT)).below b3,hc,hok,(env_keep (env_keep (hE.below hb) k1 h7) k2 (by omega)).below b3,by have:=hb.size;omega,hlo⟩
 have:=Lx.heap_new ((w1.setCell ⟨w.heap.size,0,none⟩ (.int .i64 x2)).setCell ⟨w.heap.size+1,0,none⟩ (.int .i64 y2)) (.cells #[.slice a T.length cap,.int .i64 E,.int .i64 0] 154)
 rw [hz] at this
 exact this
theorem stored (hr:Bx w1 w.heap.size #[.int .i64 x1] 3) (hs:Bx w1 (w.heap.size+1) #[.int .i64 y1] 24):
  Bx ((w1.setCell ⟨w.heap.size,0,none⟩ (.int .i64 x2)).setCell ⟨w.heap.size+1,0,none⟩ (.int .i64 y2)) w.heap.size #[.int .i64 x2] 3∧Bx ((w1.setCell ⟨w.heap.size,0,none⟩ (.int .i64 x2)).setCell ⟨w.heap.size+1,0,none⟩ (.int .i64 y2)) (w.heap.size+1) #[.int .i64 y2] 24:=by
 have h1:=(hr.set (i:=0) (v:= .int .i64 x2)).other (c:=w.heap.size+1) (i:=0) (v:= .int .i64 y2) (by omega)
 have h2:=(hs.other (c:=w.heap.size) (i:=0) (v:= .int .i64 x2) (by omega)).set (i:=0) (v:= .int .i64 y2)
 simp only [List.setIfInBounds_toArray,List.set_cons_zero] at h1 h2
 exact ⟨h1,h2⟩
theorem stored_size:((w1.setCell ⟨w.heap.size,0,none⟩ (.int .i64 x2)).setCell ⟨w.heap.size+1,0,none⟩ (.int .i64 y2)).heap.size=w1.heap.size:=by simp [World.setCell]
end
theorem rule_file_as (w:World) (p cap q:Nat) (a:Option Addr) (L:List Tok) (E:Int) (b0:Option Addr) (n0 m0:Nat) (r:Res (List De)) (h:Prs w p a cap L E 0) (hq:Bx w q #[.slice b0 n0 m0] 23) (hqp:q<p) (hr:Hid (fileF E (L.length+1) [] L=r)):Calls Tryz.prog 52 #[.pointer (some ⟨p,0,none⟩),.pointer (some ⟨q,0,none⟩)] w (RuleP VL 23 (.slice b0 n0 m0) q p w r):=by rw [←hr.out];exact rule_file w p cap q a L E b0 n0 m0 h hq hqp
set_option maxRecDepth 100000 in
set_option maxHeartbeats 4000000 in
theorem read_file (s:ByteArray) (w:World) (q:Nat) (b0:Option Addr) (n0 m0:Nat) (hE:Lx.Ent w) (hs:s.size≤4096) (hq:Bx w q #[.slice b0 n0 m0] 23):Calls Tryz.prog 51 #[.string s,.func (.func 52) #[] #[.pointer (some ⟨q,0,none⟩)]] w (ReadP VL (fun E L=>fileF E (L.length+1) [] L) 23 (.slice b0 n0 m0) q s.toList w):=by
 have HMF:=makef
 have HE:=Lib.hid hE
 have HQ:=Lib.hid hq
 have hql:=hq.lt
 have hB1:=bl_alloc (o:= .cells #[.int .i64 0] 24) (bl_alloc (o:= .cells #[.int .i64 0] 3) (Below.refl w.heap.size w))
 have HR1:=Lib.hid ((Bx.new w #[.int .i64 0] 3).old (.cells #[.int .i64 0] 24))
 have HS1:Hid (Bx ((w.alloc (.cells #[.int .i64 0] 3)).alloc (.cells #[.int .i64 0] 24)) (w.heap.size+1) #[.int .i64 0] 24):=Lib.hid (by have:=Bx.new (w.alloc (.cells #[.int .i64 0] 3)) #[.int .i64 0] 24;rw [World.size_alloc] at this;exact this)
 have HB1:=Lib.hid hB1
 obtain ⟨⟨T,at_,er⟩,hl⟩:∃r,lexL s.toList=r:=⟨_,rfl⟩
 have HL:=Lib.hid hl
 have hok:=lex_ok (L:=s.toList) (by rw [←Nm.size_list];exact hs)
 rw [hl] at hok
 have HOK:=Lib.hid hok
 have HZ:Hid (s.toList.length=s.size):=Lib.hid (Nm.size_list s).symm
 clear hl hB1 hE hq hok
 by_cases he:er=0
 ·subst he
  cases hf:fileF s.size (T.length+1) [] T with
  |ok x M=>
   have HF:=Lib.hid hf
   clear hf
   go_enter_defers Tryz.func51,Tryz.ntmps51
   go_wp2_with (first
    |(go_at_call 94;refine (Lx.lexq_any s _ (HE.out.below HB1.out) hs).mono ?_;intro e w1 hq;rw [HL.out] at hq;obtain ⟨a,cap,rfl,hT,hc,hlo,hb⟩:=hq;have HB2:=Lib.hid (bl_step HB1.out hb);have hr:=HR1.out.below hb;have hs:=HS1.out.below hb;have c0:=hr.cell 0 rfl;have f0:=hr.fz;have c1:=hs.cell 0 rfl;have f1:=hs.fz;have HR2:=Lib.hid hr;have HS2:=Lib.hid hs;clear hr hs hb)
    |(go_at_call 52;have hst:=stored (x2:=(at_:Int)) (y2:=0) HR2.out HS2.out;have hba:=bl_alloc (o:= .cells #[.slice a T.length cap,.int .i64 s.size,.int .i64 0] 154) (Below.refl ((w1.setCell ⟨w.heap.size,0,none⟩ (.int .i64 (at_:Int))).setCell ⟨w.heap.size+1,0,none⟩ (.int .i64 0)).heap.size ((w1.setCell ⟨w.heap.size,0,none⟩ (.int .i64 (at_:Int))).setCell ⟨w.heap.size+1,0,none⟩ (.int .i64 0)));have hqx:Bx ((w1.setCell ⟨w.heap.size,0,none⟩ (.int .i64 (at_:Int))).setCell ⟨w.heap.size+1,0,none⟩ (.int .i64 0)) q #[.slice b0 n0 m0] 23:=((HQ.out.below HB2.out).other (by omega)).other (by omega);have hsz:((w1.setCell ⟨w.heap.size,0,none⟩ (.int .i64 (at_:Int))).setCell ⟨w.heap.size+1,0,none⟩ (.int .i64 0)).heap.size=w1.heap.size:=stored_size;refine (rule_file_as _ _ _ _ _ _ _ _ _ _ _ (parser_new HE.out.nm HB2.out hT hc HOK.out hlo HR2.out HS2.out) (hqx.below hba) (by have:=HB2.out.size;omega) HF).mono ?_;rintro e w2 hq;obtain ⟨hk2,rfl,v,hbv,hV⟩:=hq;have hkq:=hk2.late hba (by omega);have hr:=hst.1.keep hkq (by omega);have hs:=hst.2.keep hkq (by omega);clear c0 f0 c1 f1;have c0:=hr.cell 0 rfl;have f0:=hr.fz;have c1:=hs.cell 0 rfl;have f1:=hs.fz;have HR3:=Lib.hid hr;have HS3:=Lib.hid hs;have HQ3:=Lib.hid hbv;have HK3:=Lib.hid (((((Keep.of_below (B:=q) HB2.out).far (Nat.le_refl _) 0 (.int .i64 (at_:Int)))).far (Nat.le_succ _) 0 (.int .i64 0)).trans hkq);have HV3:=Lib.hid (show VL (w1.heap.size+1) w2 x v by have e:=World.size_alloc ((w1.setCell ⟨w.heap.size,0,none⟩ (.int .i64 (at_:Int))).setCell ⟨w.heap.size+1,0,none⟩ (.int .i64 0)) (.cells #[.slice a T.length cap,.int .i64 s.size,.int .i64 0] 154);rw [hsz] at e;rw [e] at hV;exact hV);clear hst hba hqx hk2 hkq hr hs hbv hV hT))
   refine leaves_cons (f:=95) (args:=#[.pointer (some ⟨w.heap.size,0,none⟩),.pointer (some ⟨w.heap.size+1,0,none⟩)]) (by simp) (by simp [go_sem]) ?_
   have hst:=stored (x2:=0) (y2:=0) HR3.out HS3.out
   have hK4:=(HK3.out.far (Nat.le_refl _) 0 (.int .i64 0)).far (Nat.le_succ _) 0 (.int .i64 0)
   have hz1:=HB2.out.size
   have hz0:=HB1.out.size
   rw [World.size_alloc,World.size_alloc] at hz0
   have hQ4:=(HQ3.out.other (c:=w.heap.size) (i:=0) (v:= .int .i64 0) (by omega)).other (c:=w.heap.size+1) (i:=0) (v:= .int .i64 0) (by omega)
   have hV4:=(HV3.out.keep ((Keep.refl w.heap.size w2).set 0 (.int .i64 0)) (by omega)).keep ((Keep.refl (w.heap.size+1) _).set 0 (.int .i64 0)) (by have:=HS2.out.lt;omega)
   refine (catch_idle _ _ _).mono ?_
   rintro e u' w3 ⟨rfl,rfl,hb⟩
   have d0:=(hst.1.below hb).cell 0 rfl
   have d1:=(hst.2.below hb).cell 0 rfl
   simp [Leaves,settle,results,Tryz.results51,go_sem,d0,d1]
   refine ⟨hK4.trans (.of_below hb),?_⟩
   rw [HL.out]
   dsimp only
   rw [if_pos rfl,HZ.out,HF.out]
   exact ⟨rfl,v,w1.heap.size+1,by omega,hQ4.below hb,hV4.keep (.of_below (B:=w.heap.size) hb) (by omega)⟩
  |bad x y=>
   have HF:=Lib.hid hf
   clear hf
   go_enter_defers Tryz.func51,Tryz.ntmps51
   go_wp2_with (first
    |(go_at_call 94;refine (Lx.lexq_any s _ (HE.out.below HB1.out) hs).mono ?_;intro e w1 hq;rw [HL.out] at hq;obtain ⟨a,cap,rfl,hT,hc,hlo,hb⟩:=hq;have HB2:=Lib.hid (bl_step HB1.out hb);have hr:=HR1.out.below hb;have hs:=HS1.out.below hb;have c0:=hr.cell 0 rfl;have f0:=hr.fz;have c1:=hs.cell 0 rfl;have f1:=hs.fz;have HR2:=Lib.hid hr;have HS2:=Lib.hid hs;clear hr hs hb)
    |(go_at_call 52;have hst:=stored (x2:=(at_:Int)) (y2:=0) HR2.out HS2.out;have hba:=bl_alloc (o:= .cells #[.slice a T.length cap,.int .i64 s.size,.int .i64 0] 154) (Below.refl ((w1.setCell ⟨w.heap.size,0,none⟩ (.int .i64 (at_:Int))).setCell ⟨w.heap.size+1,0,none⟩ (.int .i64 0)).heap.size ((w1.setCell ⟨w.heap.size,0,none⟩ (.int .i64 (at_:Int))).setCell ⟨w.heap.size+1,0,none⟩ (.int .i64 0)));have hqx:Bx ((w1.setCell ⟨w.heap.size,0,none⟩ (.int .i64 (at_:Int))).setCell ⟨w.heap.size+1,0,none⟩ (.int .i64 0)) q #[.slice b0 n0 m0] 23:=((HQ.out.below HB2.out).other (by omega)).other (by omega);have hsz:((w1.setCell ⟨w.heap.size,0,none⟩ (.int .i64 (at_:Int))).setCell ⟨w.heap.size+1,0,none⟩ (.int .i64 0)).heap.size=w1.heap.size:=stored_size;refine (rule_file_as _ _ _ _ _ _ _ _ _ _ _ (parser_new HE.out.nm HB2.out hT hc HOK.out hlo HR2.out HS2.out) (hqx.below hba) (by have:=HB2.out.size;omega) HF).mono ?_;rintro e w2 hq;obtain ⟨hk2,rfl,hbv⟩:=hq;have hkq:=hk2.late hba (by omega);have hr:=hst.1.keep hkq (by omega);have hs:=hst.2.keep hkq (by omega);clear c0 f0 c1 f1;have c0:=hr.cell 0 rfl;have f0:=hr.fz;have c1:=hs.cell 0 rfl;have f1:=hs.fz;have HR3:=Lib.hid hr;have HS3:=Lib.hid hs;have HQ3:=Lib.hid hbv;have HK3:=Lib.hid (((((Keep.of_below (B:=q) HB2.out).far (Nat.le_refl _) 0 (.int .i64 (at_:Int)))).far (Nat.le_succ _) 0 (.int .i64 0)).trans hkq);clear hst hba hqx hk2 hkq hr hs hbv hT))
   refine leaves_cons (f:=95) (args:=#[.pointer (some ⟨w.heap.size,0,none⟩),.pointer (some ⟨w.heap.size+1,0,none⟩)]) (by simp) (by simp [go_sem]) ?_
   have hz1:=HB2.out.size
   refine (catch_fault _ _ _ _ _ x y (by omega) HR3.out HS3.out).mono ?_
   rintro e u' w3 ⟨rfl,rfl,hr3,hs3,hN⟩
   have hbN:=hN w.heap.size (Nat.le_refl _) (Nat.le_succ _)
   have d0:=hr3.cell 0 rfl
   have d1:=hs3.cell 0 rfl
   simp [Leaves,settle,results,Tryz.results51,go_sem,d0,d1]
   refine ⟨HK3.out.bl hbN,?_⟩
   rw [HL.out]
   dsimp only
   rw [if_pos rfl,HZ.out,HF.out]
   exact ⟨rfl,(hbN.block q hql).trans HQ3.out⟩
 ·have he2:(er !=0)=true:=by simpa using he
  go_enter_defers Tryz.func51,Tryz.ntmps51
  go_wp2_with (go_at_call 94;refine (Lx.lexq_any s _ (HE.out.below HB1.out) hs).mono ?_;intro e w1 hq;rw [HL.out] at hq;obtain ⟨a,cap,rfl,hT,hc,hlo,hb⟩:=hq;have HB2:=Lib.hid (bl_step HB1.out hb);have hr:=HR1.out.below hb;have hs:=HS1.out.below hb;have c0:=hr.cell 0 rfl;have f0:=hr.fz;have c1:=hs.cell 0 rfl;have f1:=hs.fz;have HR2:=Lib.hid hr;have HS2:=Lib.hid hs;clear hr hs hb)
  go_region
  go_wp2_with fail
  have hs1:=stored (x2:=(at_:Int)) (y2:=er) HR2.out HS2.out
  have hst:=stored (x2:=(at_:Int)) (y2:=er) hs1.1 hs1.2
  have hd:=(Below.refl ((((w1.setCell ⟨w.heap.size,0,none⟩ (.int .i64 (at_:Int))).setCell ⟨w.heap.size+1,0,none⟩ (.int .i64 er)).setCell ⟨w.heap.size,0,none⟩ (.int .i64 (at_:Int))).setCell ⟨w.heap.size+1,0,none⟩ (.int .i64 er)).heap.size ((((w1.setCell ⟨w.heap.size,0,none⟩ (.int .i64 (at_:Int))).setCell ⟨w.heap.size+1,0,none⟩ (.int .i64 er)).setCell ⟨w.heap.size,0,none⟩ (.int .i64 (at_:Int))).setCell ⟨w.heap.size+1,0,none⟩ (.int .i64 er))).drew
  have hK4:=(((((Keep.of_below (B:=q) HB2.out).far (Nat.le_refl _) 0 (.int .i64 (at_:Int))).far (Nat.le_succ _) 0 (.int .i64 er)).far (Nat.le_refl _) 0 (.int .i64 (at_:Int))).far (Nat.le_succ _) 0 (.int .i64 er)).trans (.of_below hd)
  have hQ4:=(((((HQ.out.below HB2.out).other (c:=w.heap.size) (i:=0) (v:= .int .i64 (at_:Int)) (by omega)).other (c:=w.heap.size+1) (i:=0) (v:= .int .i64 er) (by omega)).other (c:=w.heap.size) (i:=0) (v:= .int .i64 (at_:Int)) (by omega)).other (c:=w.heap.size+1) (i:=0) (v:= .int .i64 er) (by omega)).below hd
  have d0:=(hst.1.below hd).cell 0 rfl
  have d1:=(hst.2.below hd).cell 0 rfl
  refine ⟨.tuple #[.int .i64 (at_:Int),.int .i64 er],by simp [results,Tryz.results51,go_sem,d0,d1],hK4,?_⟩
  rw [HL.out]
  dsimp only
  rw [if_neg he]
  exact ⟨rfl,hQ4⟩
theorem rule_alone_as (w:World) (p cap q:Nat) (a:Option Addr) (L:List Tok) (E:Int) (u0 u1 u2 u3 u4 u5 u6:Value) (r:Res Ex) (h:Prs w p a cap L E 0) (hq:Bx w q #[u0,u1,u2,u3,u4,u5,u6] 35) (hqp:q<p) (hr:Hid (aloneM E L=r)):Calls Tryz.prog 60 #[.pointer (some ⟨p,0,none⟩),.pointer (some ⟨q,0,none⟩)] w (RuleP VX 35 (.agg #[u0,u1,u2,u3,u4,u5,u6]) q p w r):=by rw [←hr.out];exact rule_alone w p cap q a L E u0 u1 u2 u3 u4 u5 u6 h hq hqp
set_option maxRecDepth 100000 in
set_option maxHeartbeats 4000000 in
theorem read_alone (s:ByteArray) (w:World) (q:Nat) (u0 u1 u2 u3 u4 u5 u6:Value) (hE:Lx.Ent w) (hs:s.size≤4096) (hq:Bx w q #[u0,u1,u2,u3,u4,u5,u6] 35):Calls Tryz.prog 51 #[.string s,.func (.func 60) #[] #[.pointer (some ⟨q,0,none⟩)]] w (ReadP VX (fun E L=>aloneM E L) 35 (.agg #[u0,u1,u2,u3,u4,u5,u6]) q s.toList w):=by
 have HMF:=makef
 have HE:=Lib.hid hE
 have HQ:=Lib.hid hq
 have hql:=hq.lt
 have hB1:=bl_alloc (o:= .cells #[.int .i64 0] 24) (bl_alloc (o:= .cells #[.int .i64 0] 3) (Below.refl w.heap.size w))
 have HR1:=Lib.hid ((Bx.new w #[.int .i64 0] 3).old (.cells #[.int .i64 0] 24))
 have HS1:Hid (Bx ((w.alloc (.cells #[.int .i64 0] 3)).alloc (.cells #[.int .i64 0] 24)) (w.heap.size+1) #[.int .i64 0] 24):=Lib.hid (by have:=Bx.new (w.alloc (.cells #[.int .i64 0] 3)) #[.int .i64 0] 24;rw [World.size_alloc] at this;exact this)
 have HB1:=Lib.hid hB1
 obtain ⟨⟨T,at_,er⟩,hl⟩:∃r,lexL s.toList=r:=⟨_,rfl⟩
 have HL:=Lib.hid hl
 have hok:=lex_ok (L:=s.toList) (by rw [←Nm.size_list];exact hs)
 rw [hl] at hok
 have HOK:=Lib.hid hok
 have HZ:Hid (s.toList.length=s.size):=Lib.hid (Nm.size_list s).symm
 clear hl hB1 hE hq hok
 by_cases he:er=0
 ·subst he
  cases hf:aloneM s.size T with
  |ok x M=>
   have HF:=Lib.hid hf
   clear hf
   go_enter_defers Tryz.func51,Tryz.ntmps51
   go_wp2_with (first
    |(go_at_call 94;refine (Lx.lexq_any s _ (HE.out.below HB1.out) hs).mono ?_;intro e w1 hq;rw [HL.out] at hq;obtain ⟨a,cap,rfl,hT,hc,hlo,hb⟩:=hq;have HB2:=Lib.hid (bl_step HB1.out hb);have hr:=HR1.out.below hb;have hs:=HS1.out.below hb;have c0:=hr.cell 0 rfl;have f0:=hr.fz;have c1:=hs.cell 0 rfl;have f1:=hs.fz;have HR2:=Lib.hid hr;have HS2:=Lib.hid hs;clear hr hs hb)
    |(go_at_call 60;have hst:=stored (x2:=(at_:Int)) (y2:=0) HR2.out HS2.out;have hba:=bl_alloc (o:= .cells #[.slice a T.length cap,.int .i64 s.size,.int .i64 0] 154) (Below.refl ((w1.setCell ⟨w.heap.size,0,none⟩ (.int .i64 (at_:Int))).setCell ⟨w.heap.size+1,0,none⟩ (.int .i64 0)).heap.size ((w1.setCell ⟨w.heap.size,0,none⟩ (.int .i64 (at_:Int))).setCell ⟨w.heap.size+1,0,none⟩ (.int .i64 0)));have hqx:Bx ((w1.setCell ⟨w.heap.size,0,none⟩ (.int .i64 (at_:Int))).setCell ⟨w.heap.size+1,0,none⟩ (.int .i64 0)) q #[u0,u1,u2,u3,u4,u5,u6] 35:=((HQ.out.below HB2.out).other (by omega)).other (by omega);have hsz:((w1.setCell ⟨w.heap.size,0,none⟩ (.int .i64 (at_:Int))).setCell ⟨w.heap.size+1,0,none⟩ (.int .i64 0)).heap.size=w1.heap.size:=stored_size;refine (rule_alone_as _ _ _ _ _ _ _ _ _ _ _ _ _ _ _ (parser_new HE.out.nm HB2.out hT hc HOK.out hlo HR2.out HS2.out) (hqx.below hba) (by have:=HB2.out.size;omega) HF).mono ?_;rintro e w2 hq;obtain ⟨hk2,rfl,v,hbv,hV⟩:=hq;have hkq:=hk2.late hba (by omega);have hr:=hst.1.keep hkq (by omega);have hs:=hst.2.keep hkq (by omega);clear c0 f0 c1 f1;have c0:=hr.cell 0 rfl;have f0:=hr.fz;have c1:=hs.cell 0 rfl;have f1:=hs.fz;have HR3:=Lib.hid hr;have HS3:=Lib.hid hs;have HQ3:=Lib.hid hbv;have HK3:=Lib.hid (((((Keep.of_below (B:=q) HB2.out).far (Nat.le_refl _) 0 (.int .i64 (at_:Int)))).far (Nat.le_succ _) 0 (.int .i64 0)).trans hkq);have HV3:=Lib.hid (show VX (w1.heap.size+1) w2 x v by have e:=World.size_alloc ((w1.setCell ⟨w.heap.size,0,none⟩ (.int .i64 (at_:Int))).setCell ⟨w.heap.size+1,0,none⟩ (.int .i64 0)) (.cells #[.slice a T.length cap,.int .i64 s.size,.int .i64 0] 154);rw [hsz] at e;rw [e] at hV;exact hV);clear hst hba hqx hk2 hkq hr hs hbv hV hT))
   refine leaves_cons (f:=95) (args:=#[.pointer (some ⟨w.heap.size,0,none⟩),.pointer (some ⟨w.heap.size+1,0,none⟩)]) (by simp) (by simp [go_sem]) ?_
   have hst:=stored (x2:=0) (y2:=0) HR3.out HS3.out
   have hK4:=(HK3.out.far (Nat.le_refl _) 0 (.int .i64 0)).far (Nat.le_succ _) 0 (.int .i64 0)
   have hz1:=HB2.out.size
   have hz0:=HB1.out.size
   rw [World.size_alloc,World.size_alloc] at hz0
   have hQ4:=(HQ3.out.other (c:=w.heap.size) (i:=0) (v:= .int .i64 0) (by omega)).other (c:=w.heap.size+1) (i:=0) (v:= .int .i64 0) (by omega)
   have hV4:=(HV3.out.keep ((Keep.refl w.heap.size w2).set 0 (.int .i64 0)) (by omega)).keep ((Keep.refl (w.heap.size+1) _).set 0 (.int .i64 0)) (by have:=HS2.out.lt;omega)
   refine (catch_idle _ _ _).mono ?_
   rintro e u' w3 ⟨rfl,rfl,hb⟩
   have d0:=(hst.1.below hb).cell 0 rfl
   have d1:=(hst.2.below hb).cell 0 rfl
   simp [Leaves,settle,results,Tryz.results51,go_sem,d0,d1]
   refine ⟨hK4.trans (.of_below hb),?_⟩
   rw [HL.out]
   dsimp only
   rw [if_pos rfl,HZ.out,HF.out]
   exact ⟨rfl,v,w1.heap.size+1,by omega,hQ4.below hb,hV4.keep (.of_below (B:=w.heap.size) hb) (by omega)⟩
  |bad x y=>
   have HF:=Lib.hid hf
   clear hf
   go_enter_defers Tryz.func51,Tryz.ntmps51
   go_wp2_with (first
    |(go_at_call 94;refine (Lx.lexq_any s _ (HE.out.below HB1.out) hs).mono ?_;intro e w1 hq;rw [HL.out] at hq;obtain ⟨a,cap,rfl,hT,hc,hlo,hb⟩:=hq;have HB2:=Lib.hid (bl_step HB1.out hb);have hr:=HR1.out.below hb;have hs:=HS1.out.below hb;have c0:=hr.cell 0 rfl;have f0:=hr.fz;have c1:=hs.cell 0 rfl;have f1:=hs.fz;have HR2:=Lib.hid hr;have HS2:=Lib.hid hs;clear hr hs hb)
    |(go_at_call 60;have hst:=stored (x2:=(at_:Int)) (y2:=0) HR2.out HS2.out;have hba:=bl_alloc (o:= .cells #[.slice a T.length cap,.int .i64 s.size,.int .i64 0] 154) (Below.refl ((w1.setCell ⟨w.heap.size,0,none⟩ (.int .i64 (at_:Int))).setCell ⟨w.heap.size+1,0,none⟩ (.int .i64 0)).heap.size ((w1.setCell ⟨w.heap.size,0,none⟩ (.int .i64 (at_:Int))).setCell ⟨w.heap.size+1,0,none⟩ (.int .i64 0)));have hqx:Bx ((w1.setCell ⟨w.heap.size,0,none⟩ (.int .i64 (at_:Int))).setCell ⟨w.heap.size+1,0,none⟩ (.int .i64 0)) q #[u0,u1,u2,u3,u4,u5,u6] 35:=((HQ.out.below HB2.out).other (by omega)).other (by omega);have hsz:((w1.setCell ⟨w.heap.size,0,none⟩ (.int .i64 (at_:Int))).setCell ⟨w.heap.size+1,0,none⟩ (.int .i64 0)).heap.size=w1.heap.size:=stored_size;refine (rule_alone_as _ _ _ _ _ _ _ _ _ _ _ _ _ _ _ (parser_new HE.out.nm HB2.out hT hc HOK.out hlo HR2.out HS2.out) (hqx.below hba) (by have:=HB2.out.size;omega) HF).mono ?_;rintro e w2 hq;obtain ⟨hk2,rfl,hbv⟩:=hq;have hkq:=hk2.late hba (by omega);have hr:=hst.1.keep hkq (by omega);have hs:=hst.2.keep hkq (by omega);clear c0 f0 c1 f1;have c0:=hr.cell 0 rfl;have f0:=hr.fz;have c1:=hs.cell 0 rfl;have f1:=hs.fz;have HR3:=Lib.hid hr;have HS3:=Lib.hid hs;have HQ3:=Lib.hid hbv;have HK3:=Lib.hid (((((Keep.of_below (B:=q) HB2.out).far (Nat.le_refl _) 0 (.int .i64 (at_:Int)))).far (Nat.le_succ _) 0 (.int .i64 0)).trans hkq);clear hst hba hqx hk2 hkq hr hs hbv hT))
   refine leaves_cons (f:=95) (args:=#[.pointer (some ⟨w.heap.size,0,none⟩),.pointer (some ⟨w.heap.size+1,0,none⟩)]) (by simp) (by simp [go_sem]) ?_
   have hz1:=HB2.out.size
   refine (catch_fault _ _ _ _ _ x y (by omega) HR3.out HS3.out).mono ?_
   rintro e u' w3 ⟨rfl,rfl,hr3,hs3,hN⟩
   have hbN:=hN w.heap.size (Nat.le_refl _) (Nat.le_succ _)
   have d0:=hr3.cell 0 rfl
   have d1:=hs3.cell 0 rfl
   simp [Leaves,settle,results,Tryz.results51,go_sem,d0,d1]
   refine ⟨HK3.out.bl hbN,?_⟩
   rw [HL.out]
   dsimp only
   rw [if_pos rfl,HZ.out,HF.out]
   exact ⟨rfl,(hbN.block q hql).trans HQ3.out⟩
 ·have he2:(er !=0)=true:=by simpa using he
  go_enter_defers Tryz.func51,Tryz.ntmps51
  go_wp2_with (go_at_call 94;refine (Lx.lexq_any s _ (HE.out.below HB1.out) hs).mono ?_;intro e w1 hq;rw [HL.out] at hq;obtain ⟨a,cap,rfl,hT,hc,hlo,hb⟩:=hq;have HB2:=Lib.hid (bl_step HB1.out hb);have hr:=HR1.out.below hb;have hs:=HS1.out.below hb;have c0:=hr.cell 0 rfl;have f0:=hr.fz;have c1:=hs.cell 0 rfl;have f1:=hs.fz;have HR2:=Lib.hid hr;have HS2:=Lib.hid hs;clear hr hs hb)
  go_region
  go_wp2_with fail
  have hs1:=stored (x2:=(at_:Int)) (y2:=er) HR2.out HS2.out
  have hst:=stored (x2:=(at_:Int)) (y2:=er) hs1.1 hs1.2
  have hd:=(Below.refl ((((w1.setCell ⟨w.heap.size,0,none⟩ (.int .i64 (at_:Int))).setCell ⟨w.heap.size+1,0,none⟩ (.int .i64 er)).setCell ⟨w.heap.size,0,none⟩ (.int .i64 (at_:Int))).setCell ⟨w.heap.size+1,0,none⟩ (.int .i64 er)).heap.size ((((w1.setCell ⟨w.heap.size,0,none⟩ (.int .i64 (at_:Int))).setCell ⟨w.heap.size+1,0,none⟩ (.int .i64 er)).setCell ⟨w.heap.size,0,none⟩ (.int .i64 (at_:Int))).setCell ⟨w.heap.size+1,0,none⟩ (.int .i64 er))).drew
  have hK4:=(((((Keep.of_below (B:=q) HB2.out).far (Nat.le_refl _) 0 (.int .i64 (at_:Int))).far (Nat.le_succ _) 0 (.int .i64 er)).far (Nat.le_refl _) 0 (.int .i64 (at_:Int))).far (Nat.le_succ _) 0 (.int .i64 er)).trans (.of_below hd)
  have hQ4:=(((((HQ.out.below HB2.out).other (c:=w.heap.size) (i:=0) (v:= .int .i64 (at_:Int)) (by omega)).other (c:=w.heap.size+1) (i:=0) (v:= .int .i64 er) (by omega)).other (c:=w.heap.size) (i:=0) (v:= .int .i64 (at_:Int)) (by omega)).other (c:=w.heap.size+1) (i:=0) (v:= .int .i64 er) (by omega)).below hd
  have d0:=(hst.1.below hd).cell 0 rfl
  have d1:=(hst.2.below hd).cell 0 rfl
  refine ⟨.tuple #[.int .i64 (at_:Int),.int .i64 er],by simp [results,Tryz.results51,go_sem,d0,d1],hK4,?_⟩
  rw [HL.out]
  dsimp only
  rw [if_neg he]
  exact ⟨rfl,hQ4⟩
end Go.Proofs.YtkfihhagcimcmaaGreatDoor.Ps
namespace Go.Proofs.YtkfihhagcimcmaaGreatDoor.Ps
open Go.RowKit
open Lx (Tok bl_alloc)
theorem ReadP.out {α:Type} {V:Nat→World→α→Value→Prop} {rule:Int→List Tok→Res α} {ty:TypeId} {v0:Value} {q:Nat} {s:List UInt8} {w w':World} {e:Ending} (n0:α) (h:ReadP V rule ty v0 q s w e w') (hn:V w.heap.size w' n0 v0):
  ∃v,e= .returned (.tuple #[.int .i64 (readM n0 rule s).2.1,.int .i64 (readM n0 rule s).2.2])∧Bx w' q (cellsOf v) ty∧Keep q w w'∧∃B,w.heap.size≤B∧V B w' (readM n0 rule s).1 v:=by
 obtain ⟨hk,h⟩:=h
 unfold readM
 split at h
 ·rename_i h0
  rw [if_pos h0]
  split at h
  ·rename_i x M hx
   rw [hx]
   obtain ⟨he,v,B,hB,hb,hv⟩:=h
   exact ⟨v,he,hb,hk,B,hB,hv⟩
  ·rename_i a x hx
   rw [hx]
   exact ⟨v0,h.1,h.2,hk,_,Nat.le_refl _,hn⟩
 ·rename_i h0
  rw [if_neg h0]
  exact ⟨v0,h.1,h.2,hk,_,Nat.le_refl _,hn⟩
theorem VL.zero (B:Nat) (w:World):VL B w [] (.slice none 0 0):=⟨[],rfl,by decide,World.ownsRow_nil _ _ _ _,fun y hy=>absurd hy (by simp),fun y hy=>absurd hy (by simp)⟩
theorem VX.zero (B:Nat) (w:World):VX B w exO (.agg #[.int .i64 0,.int .i64 0,.string ⟨#[]⟩,.slice none 0 0,.slice none 0 0,.bool false,.slice none 0 0]):=⟨⟨0,0,⟨#[]⟩,none,0,0,none,0,0,false,none,0,0⟩,rfl,XB.lf 0 0⟩
def ParseQ {α:Type} (V:Nat→World→α→Value→Prop) (R:α×Int×Int) (w:World) (e:Ending) (w':World):Prop:=
 ∃v B,e= .returned (.tuple #[v,.int .i64 R.2.1,.int .i64 R.2.2])∧w.heap.size≤B∧V B w' R.1 v∧Below w.heap.size w w'
def parseM (s:List UInt8):List De×Int×Int:=readM [] (fun E L=>fileF E (L.length+1) [] L) s
def exprM (s:List UInt8):Ex×Int×Int:=readM exO aloneM s
theorem ent_new {w:World} (h:Lx.Ent w) (o:Obj):Lx.Ent (w.alloc o):=h.below (bl_alloc (Below.refl _ _))
theorem kept_all {w x w':World} {o:Obj} (hk:Keep w.heap.size (w.alloc o) x) (g:x.grownBy w' (some w.heap.size)):Below w.heap.size w w':=by
 have h:=bl_alloc (o:=o) (Below.refl w.heap.size w)
 exact (Keep.below h hk (Nat.le_refl _) (by simp)).grown g (by have:=hk.size;rw [World.size_alloc] at this;omega) (fun k e=>by cases e;exact Nat.le_refl _)
set_option maxRecDepth 100000 in
set_option maxHeartbeats 4000000 in
theorem parse_any (s:ByteArray) (w:World) (hE:Lx.Ent w) (hs:s.size≤4096):Calls Tryz.prog 15 #[.string s] w (ParseQ VL (parseM s.toList) w):=by
 have HMF:=makef
 have HE:=Lib.hid (ent_new hE (.cells #[.slice none 0 0] 23))
 have HQ:=Lib.hid (Bx.new w #[.slice none 0 0] 23)
 obtain ⟨⟨l,at_,er⟩,hr⟩:∃r,parseM s.toList=r:=⟨_,rfl⟩
 have HR:=Lib.hid hr
 rw [hr]
 clear hE hr
 go_enter Tryz.func15,Tryz.ntmps15
 go_wp2_with (go_at_call 51;refine (read_file s _ w.heap.size none 0 0 HE.out hs HQ.out).mono ?_;intro e w1 hq;obtain ⟨v,rfl,hb,hk,B,hB,hv⟩:=hq.out [] (VL.zero _ _);change Keep _ _ _ at hk;have e1:readM [] (fun E L=>fileF E (L.length+1) [] L) s.toList=(l,at_,er):=HR.out;rw [e1] at hv⊢;dsimp only at hv⊢;obtain ⟨a1,n1,c1,rfl⟩:=hv.sl;have hb2:Bx w1 w.heap.size #[.slice a1 n1 c1] 23:=hb;have d0:=hb2.cell 0 rfl;have df:=hb2.fz 0;have HV:=Lib.hid hv;have HK:=Lib.hid hk;have HB:=Lib.hid hB;clear hb hb2 hk hv hB hq e1)
 refine bodyPost_ret (v:= .tuple #[.slice a1 n1 c1,.int .i64 at_,.int .i64 er]) (by simp [results,Tryz.results15,go_sem,d0]) rfl ?_
 have hg:=set1_grown w1 w.heap.size (.slice a1 n1 c1)
 have hB:=HB.out
 rw [World.size_alloc] at hB
 exact ⟨_,B,rfl,by omega,HV.out.keep ((Keep.refl w.heap.size w1).set 0 _) (by omega),kept_all HK.out hg⟩
set_option maxRecDepth 100000 in
set_option maxHeartbeats 4000000 in
theorem expr_any (s:ByteArray) (w:World) (hE:Lx.Ent w) (hs:s.size≤4096):Calls Tryz.prog 18 #[.string s] w (ParseQ VX (exprM s.toList) w):=by
 have HMF:=makef
 have HE:=Lib.hid (ent_new hE (.cells #[.int .i64 0,.int .i64 0,.string ⟨#[]⟩,.slice none 0 0,.slice none 0 0,.bool false,.slice none 0 0] 35))
 have HQ:=Lib.hid (Bx.new w #[.int .i64 0,.int .i64 0,.string ⟨#[]⟩,.slice none 0 0,.slice none 0 0,.bool false,.slice none 0 0] 35)
 obtain ⟨⟨l,at_,er⟩,hr⟩:∃r,exprM s.toList=r:=⟨_,rfl⟩
 have HR:=Lib.hid hr
 rw [hr]
 clear hE hr
 go_enter Tryz.func18,Tryz.ntmps18
 go_wp2_with (go_at_call 51;refine (read_alone s _ w.heap.size _ _ _ _ _ _ _ HE.out hs HQ.out).mono ?_;intro e w1 hq;obtain ⟨v,rfl,hb,hk,B,hB,hv⟩:=hq.out exO (VX.zero _ _);have e1:readM exO aloneM s.toList=(l,at_,er):=HR.out;rw [e1] at hv⊢;dsimp only at hv⊢;obtain ⟨op2,nn2,s2,p2,pl2,pc2,q2,ql2,qc2,o2,k2,kl2,kc2,rfl,hX⟩:=VX.hd hv;have hb2:Bx w1 w.heap.size #[.int .i64 op2,.int .i64 nn2,.string s2,.slice p2 pl2 pc2,.slice q2 ql2 qc2,.bool o2,.slice k2 kl2 kc2] 35:=hb;have d0:=hb2.cell 0 rfl;have d1:=hb2.cell 1 rfl;have d2:=hb2.cell 2 rfl;have d3:=hb2.cell 3 rfl;have d4:=hb2.cell 4 rfl;have d5:=hb2.cell 5 rfl;have d6:=hb2.cell 6 rfl;have df:=hb2.fz;have HV:=Lib.hid hv;have HK:=Lib.hid hk;have HB:=Lib.hid hB;clear hb hb2 hk hv hB hq e1 hX)
 refine bodyPost_ret (v:= .tuple #[.agg #[.int .i64 op2,.int .i64 nn2,.string s2,.slice p2 pl2 pc2,.slice q2 ql2 qc2,.bool o2,.slice k2 kl2 kc2],.int .i64 at_,.int .i64 er]) (by simp [results,Tryz.results18,go_sem,d0,d1,d2,d3,d4,d5,d6]) rfl ?_
 have hg:=put7_grown w1 w.heap.size (.int .i64 op2) (.int .i64 nn2) (.string s2) (.slice p2 pl2 pc2) (.slice q2 ql2 qc2) (.bool o2) (.slice k2 kl2 kc2)
 have hB:=HB.out
 rw [World.size_alloc] at hB
 have hk:Keep w.heap.size w1 (put7 w1 w.heap.size (.int .i64 op2) (.int .i64 nn2) (.string s2) (.slice p2 pl2 pc2) (.slice q2 ql2 qc2) (.bool o2) (.slice k2 kl2 kc2)):=⟨hg.os,hg.tape,hg.output,hg.size,fun k hk hne=>hg.block k hk (fun e=>hne (by injection e))⟩
 exact ⟨_,B,rfl,by omega,HV.out.keep hk (by omega),kept_all HK.out hg⟩
end Go.Proofs.YtkfihhagcimcmaaGreatDoor.Ps
