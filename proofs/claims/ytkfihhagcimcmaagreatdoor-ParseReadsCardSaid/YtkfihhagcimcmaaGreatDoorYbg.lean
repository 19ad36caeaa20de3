/- Qd, Qe -/
import Derived.Test.YtkfihhagcimcmaaGreatDoorChecked
import Derived.Test.YtkfihhagcimcmaaGreatDoorProg
import Derived.Test.YtkfihhagcimcmaaGreatDoorY1
import Derived.Test.YtkfihhagcimcmaaGreatDoorYax
namespace Go.Proofs.YtkfihhagcimcmaaGreatDoor.Ps
open Go.RowKit
open Lx (Tok bs TRow bl_alloc)
structure St where
 a:Option Addr
 cap:Nat
 T:List Tok
 i:Nat
 E:Int
 o:Int
 bad:Int
 err:Int
def St.v (s:St):Value:= .agg #[.slice s.a s.T.length s.cap,.int .i64 (s.i:Int),.int .i64 s.E,.int .i64 s.o,.int .i64 s.bad,.int .i64 s.err]
def St.L (s:St):List Tok:=s.T.drop s.i
def St.pk (s:St):Tok:=Ps.pk s.E s.L
def St.fail (s:St) (t:Tok) (e:Int):St:=if s.err=0 then {s with bad:=t.at_,err:=e} else s
def St.next (s:St):St:=if s.err=0 then {s with i:=s.i+1} else s
def St.is (s:St) (sg:List UInt8):Bool:=s.err==0&&isB sg s.L
def St.must (s:St) (sg:List UInt8):St:=if s.is sg then s.next else s.fail s.pk 21
structure SW (w:World) (s:St):Prop where
 row:TRow w s.a s.T
 ok:OkL s.T
 len:s.T.length≤4096
 i:s.i≤100000
theorem SW.below {w w':World} {s:St} (h:SW w s) (hb:Below w.heap.size w w'):SW w' s:=⟨h.row.below hb,h.ok,h.len,h.i⟩
theorem St.pk_end {s:St} (h:s.T.length≤s.i):s.pk=⟨⟨0,0,[]⟩,s.E⟩:=by unfold St.pk St.L;rw [List.drop_eq_nil_of_le h];rfl
theorem St.pk_at {s:St} (h:s.i<s.T.length):s.pk=s.T[s.i]:=by unfold St.pk St.L;rw [List.drop_eq_getElem_cons h];rfl
set_option maxRecDepth 100000 in
set_option maxHeartbeats 2000000 in
theorem peek_any (w:World) (s:St) (h:SW w s):Calls Tryz.prog 54 #[s.v] w (Ans s.pk.v w):=by
 obtain ⟨a,cap,T,i,E,o,bad,err⟩:=s
 have hi:=h.i
 have hl:=h.len
 have hr:=h.row
 dsimp only at hi hl hr
 by_cases hlt:i<T.length
 ·rw [St.pk_at (s:=⟨a,cap,T,i,E,o,bad,err⟩) hlt]
  obtain ⟨b,off,rfl,lt,t0,t1,t2,t3⟩:=hr i hlt
  unfold St.v
  dsimp only
  generalize T[i]=t at*
  generalize T.length=n at*
  have u0:=past (past t0 (.cells #[.slice (some ⟨b,off,none⟩) n cap,.int .i64 (i:Int),.int .i64 E,.int .i64 o,.int .i64 bad,.int .i64 err] 95)) (.cells #[.int .i64 0,.int .i64 0,.string ⟨#[]⟩,.int .i64 0] 97)
  have u1:=past (past t1 (.cells #[.slice (some ⟨b,off,none⟩) n cap,.int .i64 (i:Int),.int .i64 E,.int .i64 o,.int .i64 bad,.int .i64 err] 95)) (.cells #[.int .i64 0,.int .i64 0,.string ⟨#[]⟩,.int .i64 0] 97)
  have u2:=past (past t2 (.cells #[.slice (some ⟨b,off,none⟩) n cap,.int .i64 (i:Int),.int .i64 E,.int .i64 o,.int .i64 bad,.int .i64 err] 95)) (.cells #[.int .i64 0,.int .i64 0,.string ⟨#[]⟩,.int .i64 0] 97)
  have u3:=past (past t3 (.cells #[.slice (some ⟨b,off,none⟩) n cap,.int .i64 (i:Int),.int .i64 E,.int .i64 o,.int .i64 bad,.int .i64 err] 95)) (.cells #[.int .i64 0,.int .i64 0,.string ⟨#[]⟩,.int .i64 0] 97)
  clear t0 t1 t2 t3 h hr
  unfold Lx.Tok.v
  go_enter Tryz.func54,Tryz.ntmps54
  go_wp2
  refine bodyPost_ret (v:= .agg #[.int .i64 t.x.k,.int .i64 t.x.n,.string (bs t.x.t),.int .i64 t.at_]) (by simp [results,Tryz.results54,go_sem]) rfl ⟨rfl,bl_alloc (bl_alloc (Below.refl _ _))⟩
 ·rw [St.pk_end (s:=⟨a,cap,T,i,E,o,bad,err⟩) (by dsimp only;omega)]
  unfold St.v
  dsimp only
  generalize T.length=n at*
  clear h hr
  go_enter Tryz.func54,Tryz.ntmps54
  go_wp2
  refine bodyPost_ret (v:= .agg #[.int .i64 0,.int .i64 0,.string ⟨#[]⟩,.int .i64 E]) (by simp [results,Tryz.results54,go_sem]) rfl ⟨rfl,bl_alloc (bl_alloc (Below.refl _ _))⟩
theorem peek_as (w:World) (s:St) (k n at_:Int) (tx:ByteArray) (h:SW w s) (ht:Hid (s.pk=⟨⟨k,n,tx.toList⟩,at_⟩)):Calls Tryz.prog 54 #[s.v] w (Ans (.agg #[.int .i64 k,.int .i64 n,.string tx,.int .i64 at_]) w):=by
 have:=peek_any w s h
 rw [ht.out] at this
 unfold Lx.Tok.v at this
 dsimp only at this
 rw [Lx.bs_of] at this
 exact this
set_option maxRecDepth 100000 in
set_option maxHeartbeats 2000000 in
theorem sfail_any (w:World) (s:St) (t:Tok) (e:Int):Calls Tryz.prog 55 #[s.v,t.v,.int .i64 e] w (Ans (s.fail t e).v w):=by
 obtain ⟨a,cap,T,i,E,o,bad,err⟩:=s
 obtain ⟨⟨k,n,tx⟩,at_⟩:=t
 unfold St.fail
 dsimp only
 by_cases h:err=0
 ·subst h
  rw [if_pos rfl]
  unfold St.v Lx.Tok.v
  dsimp only
  generalize T.length=m at*
  go_enter Tryz.func55,Tryz.ntmps55
  go_wp2
  exact bodyPost_ret (v:= .agg #[.slice a m cap,.int .i64 (i:Int),.int .i64 E,.int .i64 o,.int .i64 at_,.int .i64 e]) (by simp [results,Tryz.results55,go_sem]) rfl ⟨rfl,bl_alloc (bl_alloc (bl_alloc (Below.refl _ _)))⟩
 ·rw [if_neg h]
  have h2:(err==0)=false:=by simpa using h
  unfold St.v Lx.Tok.v
  dsimp only
  generalize T.length=m at*
  go_enter Tryz.func55,Tryz.ntmps55
  go_wp2
  exact bodyPost_ret (v:= .agg #[.slice a m cap,.int .i64 (i:Int),.int .i64 E,.int .i64 o,.int .i64 bad,.int .i64 err]) (by simp [results,Tryz.results55,go_sem]) rfl ⟨rfl,bl_alloc (bl_alloc (bl_alloc (Below.refl _ _)))⟩
set_option maxRecDepth 100000 in
set_option maxHeartbeats 2000000 in
theorem snext_any (w:World) (s:St) (hi:s.i≤100000):Calls Tryz.prog 56 #[s.v] w (Ans s.next.v w):=by
 obtain ⟨a,cap,T,i,E,o,bad,err⟩:=s
 dsimp only at hi
 unfold St.next
 dsimp only
 by_cases h:err=0
 ·subst h
  rw [if_pos rfl]
  unfold St.v
  dsimp only
  generalize T.length=m at*
  have hw:wrap64 ((i:Int)+1)=(i:Int)+1:=by unfold wrap64;omega
  go_enter Tryz.func56,Tryz.ntmps56
  go_wp2
  exact bodyPost_ret (v:= .agg #[.slice a m cap,.int .i64 ((i:Int)+1),.int .i64 E,.int .i64 o,.int .i64 bad,.int .i64 0]) (by simp [results,Tryz.results56,go_sem]) rfl ⟨rfl,bl_alloc (bl_alloc (Below.refl _ _))⟩
 ·rw [if_neg h]
  have h2:(err==0)=false:=by simpa using h
  unfold St.v
  dsimp only
  generalize T.length=m at*
  go_enter Tryz.func56,Tryz.ntmps56
  go_wp2
  exact bodyPost_ret (v:= .agg #[.slice a m cap,.int .i64 (i:Int),.int .i64 E,.int .i64 o,.int .i64 bad,.int .i64 err]) (by simp [results,Tryz.results56,go_sem]) rfl ⟨rfl,bl_alloc (bl_alloc (Below.refl _ _))⟩
end Go.Proofs.YtkfihhagcimcmaaGreatDoor.Ps
namespace Go.Proofs.YtkfihhagcimcmaaGreatDoor.Ps
open Go.RowKit
open Lx (bl_alloc bl_step)
theorem St.pk_get (s:St):∃(k n:Int) (tx:ByteArray) (at_:Int),s.pk=⟨⟨k,n,tx.toList⟩,at_⟩:=by
 obtain ⟨k,n,at_,S,h⟩:=Ps.pk_get s.E s.L
 exact ⟨k,n,S,at_,h⟩
theorem St.get (s:St):∃a cap T i E o b x,s=⟨a,cap,T,i,E,o,b,x⟩:=by cases s;exact ⟨_,_,_,_,_,_,_,_,rfl⟩
def put6 (w:World) (b:Nat) (v0 v1 v2 v3 v4 v5:Value):World:=((((((w.setCell ⟨b,0,none⟩ v0).setCell ⟨b,1,none⟩ v1).setCell ⟨b,2,none⟩ v2).setCell ⟨b,3,none⟩ v3).setCell ⟨b,4,none⟩ v4).setCell ⟨b,5,none⟩ v5)
theorem put6_grown (w:World) (b:Nat) (v0 v1 v2 v3 v4 v5:Value):w.grownBy (put6 w b v0 v1 v2 v3 v4 v5) (some b):=by
 unfold put6
 have g:∀(w:World) (i:Nat) (v:Value),w.grownBy (w.setCell ⟨b,i,none⟩ v) (some b):=fun w i v=>⟨rfl,rfl,rfl,by simp [World.setCell],fun k hk hne=>Below.heap_setCell w ⟨b,i,none⟩ v k (fun e=>hne (by rw [e]))⟩
 exact (((((g _ 0 v0).trans (g _ 1 v1)).trans (g _ 2 v2)).trans (g _ 3 v3)).trans (g _ 4 v4)).trans (g _ 5 v5)
theorem put6_bx {w:World} {b:Nat} {t:TypeId} {u0 u1 u2 u3 u4 u5 v0 v1 v2 v3 v4 v5:Value} (h:Bx w b #[u0,u1,u2,u3,u4,u5] t):Bx (put6 w b v0 v1 v2 v3 v4 v5) b #[v0,v1,v2,v3,v4,v5] t:=by
 have:=(((((h.set (i:=0) (v:=v0)).set (i:=1) (v:=v1)).set (i:=2) (v:=v2)).set (i:=3) (v:=v3)).set (i:=4) (v:=v4)).set (i:=5) (v:=v5)
 simp only [List.setIfInBounds_toArray,List.set_cons_succ,List.set_cons_zero] at this
 exact this
theorem SW.next {w:World} {s:St} (h:SW w s) (hi:s.i+1≤100000):SW w s.next:=by
 unfold St.next
 split
 ·exact ⟨h.row,h.ok,h.len,hi⟩
 ·exact h
theorem snext_as (w:World) (s s':St) (hi:s.i≤100000) (hs:Hid (s.next=s')):Calls Tryz.prog 56 #[s.v] w (Ans s'.v w):=by rw [←hs.out];exact snext_any w s hi
theorem sfail_as (w:World) (s s':St) (k n:Int) (tx:ByteArray) (at_ e:Int) (hs:Hid (s.fail ⟨⟨k,n,tx.toList⟩,at_⟩ e=s')):Calls Tryz.prog 55 #[s.v,.agg #[.int .i64 k,.int .i64 n,.string tx,.int .i64 at_],.int .i64 e] w (Ans s'.v w):=by
 rw [←hs.out]
 have:=sfail_any w s ⟨⟨k,n,tx.toList⟩,at_⟩ e
 unfold Lx.Tok.v at this
 dsimp only at this
 rw [Lx.bs_of] at this
 exact this
set_option maxRecDepth 100000 in
set_option maxHeartbeats 4000000 in
theorem sis_any (w:World) (s:St) (sg:ByteArray) (h:SW w s):Calls Tryz.prog 99 #[s.v,.string sg] w (Ans (.bool (s.is sg.toList)) w):=by
 have H:=Lib.hid h
 unfold St.is
 rw [isB_pk s.E]
 obtain ⟨k,n,tx,at_,ht⟩:=s.pk_get
 have HT:=Lib.hid ht
 change Ps.pk s.E s.L=_ at ht
 rw [ht]
 obtain ⟨a0,cap0,T0,i0,E0,o0,b0,x0⟩:=s
 dsimp only
 clear h ht
 have HB:=Lib.hid (Bx.new w #[.slice a0 T0.length cap0,.int .i64 (i0:Int),.int .i64 E0,.int .i64 o0,.int .i64 b0,.int .i64 x0] 95)
 have HW:=Lib.hid (bl_alloc (o:= .cells #[.slice a0 T0.length cap0,.int .i64 (i0:Int),.int .i64 E0,.int .i64 o0,.int .i64 b0,.int .i64 x0] 95) (Below.refl w.heap.size w))
 obtain ⟨b1,e1⟩:∃b,(x0==0)=b:=⟨_,rfl⟩
 obtain ⟨b2,e2⟩:∃b,(k==4)=b:=⟨_,rfl⟩
 obtain ⟨b3,e3⟩:∃b,(tx.toList==sg.toList)=b:=⟨_,rfl⟩
 rw [e1,e2,e3]
 unfold St.v
 dsimp only
 cases b1<;>cases b2<;>
 ·go_enter Tryz.func99,Tryz.ntmps99
  go_wp2_with (go_at_call 54;refine (peek_as _ ⟨a0,cap0,T0,i0,E0,o0,b0,x0⟩ k n at_ tx (H.out.below HW.out) HT).mono ?_;rintro e w2 ⟨rfl,hb⟩;have hx:=(HB.out.below hb).old (.cells #[.int .i64 k,.int .i64 n,.string tx,.int .i64 at_] 97);have c5:=hx.cell 5 rfl;have HB2:=Lib.hid (bl_step HW.out hb);clear hx hb)
  go_ret
  exact ⟨rfl,bl_alloc HB2.out⟩
theorem sis_as (w:World) (s:St) (sg:ByteArray) (b:Bool) (h:SW w s) (hb:Hid (s.is sg.toList=b)):Calls Tryz.prog 99 #[s.v,.string sg] w (Ans (.bool b) w):=by rw [←hb.out];exact sis_any w s sg h
def exO:Ex:=leaf 0 0
end Go.Proofs.YtkfihhagcimcmaaGreatDoor.Ps
