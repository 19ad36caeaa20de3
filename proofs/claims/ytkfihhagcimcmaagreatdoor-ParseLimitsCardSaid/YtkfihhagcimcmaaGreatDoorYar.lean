/- LWe, LWf, LWg -/
import Derived.Test.YtkfihhagcimcmaaGreatDoorChecked
import Derived.Test.YtkfihhagcimcmaaGreatDoorProg
import Derived.Test.YtkfihhagcimcmaaGreatDoorY0
import Derived.Test.YtkfihhagcimcmaaGreatDoorYap
import Derived.Test.YtkfihhagcimcmaaGreatDoorYaq
namespace Go.Proofs.YtkfihhagcimcmaaGreatDoor.Lx
open Go.RowKit
theorem ret_bool {a b:Bool} (h:a=b):Ending.returned (.bool a)= .returned (.bool b):=by rw [h]
theorem ret_str {a b:ByteArray} (h:a=b):Ending.returned (.string a)= .returned (.string b):=by rw [h]
theorem ret_int {k:IntKind} {a b:Int} (h:a=b):Ending.returned (.int k a)= .returned (.int k b):=by rw [h]
theorem dig_all:∀n,n<256→Lib.indexByte [48,49,50,51,52,53,54,55,56,57,97,98,99,100,101,102] (UInt8.ofNat n)=sixV (UInt8.ofNat n):=by decide+kernel
theorem digit_same (c:UInt8) (w:World):Calls Tryz.prog 228 #[.string {data:=#[48,49,50,51,52,53,54,55,56,57,97,98,99,100,101,102]},.int .u8 (c.toNat:Int)] w fun e w'=>e= .returned (.int .i64 (sixV c))∧w'=w:=by
 refine (Tryz.strings_IndexByte _ _ w).mono ?_
 rintro e w' ⟨rfl,rfl⟩
 refine ⟨ret_int ?_,rfl⟩
 have h:=dig_all c.toNat c.toNat_lt
 have e1:((c.toNat:Int)).toNat.toUInt8=UInt8.ofNat c.toNat:=by simp
 rw [e1,←show UInt8.ofNat c.toNat=c from UInt8.ofNat_toNat]
 simpa using h
set_option maxHeartbeats 1600000 in
theorem coded_any (s:ByteArray) (w:World) (hs:s.size≤140737488355328):Calls Tryz.prog 226 #[.string s] w (PartP (hexL (s.toList.drop 2)) w):=by
 by_cases h4:3<s.size
 ·have h3:2<s.size:=by omega
  have h5:¬s.size<4:=by omega
  rw [drop_at s 2 h3,drop_at s 3 h4]
  have i2:(2:Int)<(s.size:Int):=by omega
  have i3:(3:Int)<(s.size:Int):=by omega
  obtain ⟨x1,x2⟩:=sixV_lo s[2]
  obtain ⟨y1,y2⟩:=sixV_lo s[3]
  have hpos:(0≤sixV s[2]∧0≤sixV s[3])∨sixV s[2]<0∨(0≤sixV s[2]∧sixV s[3]<0):=by omega
  rcases hpos with ⟨p1,p2⟩|p1|⟨p1,p2⟩
  ·have HP:Hid (hexL (s[2]::s[3]::s.toList.drop 4)=(16*sixV s[2]+sixV s[3],4)):=hexL_yes p1 p2
   go_enter Tryz.func226,Tryz.ntmps226
   go_wp2_with fail
   go_quiet ((go_at_call 228;with_reducible exact Calls.quiet_of_same (digit_same _ _)))
   have e5:=IntWalk.u8_in (16*sixV s[2]+sixV s[3]) (by omega)
   go_wp2_with fail
   go_ret2
   exact PartP.mk HP.out (by decide) ⟨_,rfl⟩
  ·have HP:Hid (hexL (s[2]::s[3]::s.toList.drop 4)=(0,0)):=hexL_no (fun h=>by have:=h.1;omega)
   go_enter Tryz.func226,Tryz.ntmps226
   go_wp2_with fail
   go_quiet ((go_at_call 228;with_reducible exact Calls.quiet_of_same (digit_same _ _)))
   go_wp2_with fail
   go_ret2
   exact PartP.mk HP.out (by decide) ⟨_,rfl⟩
  ·have HP:Hid (hexL (s[2]::s[3]::s.toList.drop 4)=(0,0)):=hexL_no (fun h=>by have:=h.2;omega)
   go_enter Tryz.func226,Tryz.ntmps226
   go_wp2_with fail
   go_quiet ((go_at_call 228;with_reducible exact Calls.quiet_of_same (digit_same _ _)))
   go_wp2_with fail
   go_ret2
   exact PartP.mk HP.out (by decide) ⟨_,rfl⟩
 ·have HP:=Lib.hid (hexL_short (s:=s) (k:=2) (by omega))
  go_enter Tryz.func226,Tryz.ntmps226
  go_wp2_with fail
  go_ret2
  exact PartP.mk HP.out (by decide) ⟨0,rfl⟩
theorem plain_as (c:UInt8) (b:Bool) (w:World) (h:Hid (plB c=b)):Calls Tryz.prog 180 #[.int .u8 (c.toNat:Int)] w fun e w'=>e= .returned (.bool b)∧w=w':=by rw [←h.out];exact plain_any c w
theorem plain_92 (w:World):Calls Tryz.prog 180 #[.int .u8 92] w fun e w'=>e= .returned (.bool true)∧w=w':=plain_any 92 w
theorem byte_part2 (c:UInt8):((c.toNat:Int)=34)∨(plB c=false∧((c.toNat:Int)==34)=false)∨(plB c=true∧((c.toNat:Int)==34)=false∧((c.toNat:Int) !=92)=true)∨(plB c=true∧(c.toNat:Int)=92):=by
 by_cases h1:(c.toNat:Int)=34
 ·exact .inl h1
 ·by_cases h2:32≤(c.toNat:Int)∧(c.toNat:Int)≤126
  ·have e:plB c=true:=decide_eq_true h2
   by_cases h3:(c.toNat:Int)=92
   ·exact .inr (.inr (.inr ⟨e,h3⟩))
   ·exact .inr (.inr (.inl ⟨e,by simpa using h1,by simpa using h3⟩))
  ·exact .inr (.inl ⟨decide_eq_false h2,by simpa using h1⟩)
set_option maxHeartbeats 1600000 in
theorem part_any (s:ByteArray) (w:World) (hs:s.size≤140737488355328):Calls Tryz.prog 220 #[.string s] w (PartP (partL s.toList) w):=by
 by_cases h0:0<s.size
 ·have hn:=Nm.list_ne s h0
  have hE:=Nm.list_isE s h0
  have ed:=drop_at s 0 h0
  rw [List.drop_zero,Nat.zero_add] at ed
  have ED:=Lib.hid ed
  clear ed
  have HPL:Hid (partL s.toList=partL (s[0]::s.toList.drop 1)):=by rw [←ED.out];rfl
  rcases byte_part2 s[0] with h|⟨hp,h⟩|⟨hp,h,h2⟩|⟨hp,h⟩
  ·have HP:=Lib.hid (HPL.out.trans (partL_no (.inr (.inr h))))
   go_enter Tryz.func220,Tryz.ntmps220
   go_wp2_with fail
   go_ret2
   exact PartP.mk HP.out (by decide) ⟨0,rfl⟩
  ·have HP:=Lib.hid (HPL.out.trans (partL_no (by have:=of_decide_eq_false hp;omega)))
   have HB:=Lib.hid hp
   clear hp
   go_enter Tryz.func220,Tryz.ntmps220
   go_wp2_with (go_at_call 180;((with_reducible refine (plain_as _ _ _ HB).mono ?_);rintro e w' ⟨rfl,rfl⟩))
   go_ret2
   exact PartP.mk HP.out (by decide) ⟨0,rfl⟩
  ·have hpp:=of_decide_eq_true hp
   have HP:=Lib.hid (HPL.out.trans (partL_one hpp.1 hpp.2 (by simpa using h) (by simpa using h2)))
   have HB:=Lib.hid hp
   clear hp hpp
   go_enter Tryz.func220,Tryz.ntmps220
   go_wp2_with (go_at_call 180;((with_reducible refine (plain_as _ _ _ HB).mono ?_);rintro e w' ⟨rfl,rfl⟩))
   go_ret2
   exact PartP.mk HP.out (by decide) ⟨0,rfl⟩
  ·have HP:=Lib.hid (HPL.out.trans (partL_esc h))
   clear hp HPL
   by_cases h1:1<s.size
   ·have hz:¬s.size=1:=by omega
    have hz2:((s.size:Int)==1)=false:=by simp;omega
    have hz3:(s.size==1)=false:=by simp;omega
    rw [drop_at s 1 h1] at HP
    obtain ⟨d,hd⟩:∃d:Int,(s[1].toNat:Int)=d:=⟨_,rfl⟩
    have HD:=Lib.hid hd
    rcases byte_esc d with rfl|rfl|rfl|rfl|⟨g1,g2,g3,g4⟩
    ·have HQ:=Lib.hid (HP.out.trans (escL_self (.inl hd)))
     rw [hd] at HQ
     go_enter Tryz.func220,Tryz.ntmps220
     go_wp2_with (go_at_call 180;((with_reducible refine (plain_92 _).mono ?_);rintro e w' ⟨rfl,rfl⟩))
     go_ret2
     exact PartP.mk HQ.out (by decide) ⟨0,rfl⟩
    ·have HQ:=Lib.hid (HP.out.trans (escL_self (.inr hd)))
     rw [hd] at HQ
     go_enter Tryz.func220,Tryz.ntmps220
     go_wp2_with (go_at_call 180;((with_reducible refine (plain_92 _).mono ?_);rintro e w' ⟨rfl,rfl⟩))
     go_ret2
     exact PartP.mk HQ.out (by decide) ⟨0,rfl⟩
    ·have HQ:=Lib.hid (HP.out.trans (escL_n hd))
     go_enter Tryz.func220,Tryz.ntmps220
     go_wp2_with (go_at_call 180;((with_reducible refine (plain_92 _).mono ?_);rintro e w' ⟨rfl,rfl⟩))
     go_ret2
     exact PartP.mk HQ.out (by decide) ⟨0,rfl⟩
    ·have HQ:=Lib.hid (HP.out.trans (escL_x hd))
     go_enter Tryz.func220,Tryz.ntmps220
     go_wp2_with (first|(go_at_call 180;((with_reducible refine (plain_92 _).mono ?_);rintro e w' ⟨rfl,rfl⟩))|(go_at_call 226;refine (coded_any _ _ hs).mono ?_;rintro e w1 ⟨rfl,hq⟩;have HW:=Lib.hid hq;clear hq))
     go_ret2
     exact ⟨by rw [HQ.out];rfl,HW.out⟩
    ·have HQ:=Lib.hid (HP.out.trans (escL_no (by rw [hd];simpa using g1) (by rw [hd];simpa using g2) (by rw [hd];simpa using g3) (by rw [hd];simpa using g4)))
     go_enter Tryz.func220,Tryz.ntmps220
     go_wp2_with (go_at_call 180;((with_reducible refine (plain_92 _).mono ?_);rintro e w' ⟨rfl,rfl⟩))
     go_ret2
     exact PartP.mk HQ.out (by decide) ⟨0,rfl⟩
   ·have hz:s.size=1:=by omega
    have hz2:((s.size:Int)==1)=true:=by simp;omega
    have hz3:(s.size==1)=true:=by simp;omega
    rw [drop_end s 1 h1] at HP
    clear hz
    go_enter Tryz.func220,Tryz.ntmps220
    go_wp2_with (go_at_call 180;((with_reducible refine (plain_92 _).mono ?_);rintro e w' ⟨rfl,rfl⟩))
    go_ret2
    exact PartP.mk HP.out (by decide) ⟨0,rfl⟩
 ·have hn:=Nm.list_nil s h0
  have HL:=Lib.hid (show partL s.toList=(0,0) by rw [hn];rfl)
  go_enter Tryz.func220,Tryz.ntmps220
  go_wp2_with fail
  go_ret2
  exact PartP.mk HL.out (by decide) ⟨0,rfl⟩
end Go.Proofs.YtkfihhagcimcmaaGreatDoor.Lx
namespace Go.Proofs.YtkfihhagcimcmaaGreatDoor.Lx
open Go.RowKit
theorem Tryz.info5:(Tryz.prog.info? 5).map (fun i=>(i.zero,i.size,i.bytes))=some (some (.int .u8 0),1,1):=by kernel_rfl
theorem bl_alloc {w a:World} {o:Obj} (h:Below w.heap.size w a):Below w.heap.size w (a.alloc o):=h.alloc h.size o
theorem bl_set {w a:World} {p:Addr} {v:Value} (h:Below w.heap.size w a) (hp:w.heap.size≤p.block):Below w.heap.size w (a.setCell p v):=h.setCell hp v
theorem bl_step {w a b:World} (h:Below w.heap.size w a) (k:Below a.heap.size a b):Below w.heap.size w b:=h.trans (k.mono h.size)
def SRow (w:World) (a:Option Addr) (L:List UInt8):Prop:=
 (a=none∧L=[])∨∃ad,a=some ad∧(L≠[]→ad.block<w.heap.size)∧∀j (h:j<L.length),w.cell? (ad.add j)=some (.int .u8 (L[j].toNat:Int))
def u8s (L:List UInt8):List Value:=L.map fun c=>Value.int .u8 (c.toNat:Int)
theorem own_base {w:World} {base e size n:Nat} {v:Value} {xs:List Value} (h:w.ownsRow base e size v n xs):∀k,v.ownBlock=some k→base≤k:=by
 intro k hk
 rcases h.2 with ⟨rfl,_⟩|⟨g,cap,cur,rfl,hb,_⟩
 ·simp [Value.ownBlock] at hk
 ·simp [Value.ownBlock] at hk;omega
theorem row_own {w:World} {base n:Nat} {v:Value} {L:List UInt8} (h:w.ownsRow base 5 1 v n (u8s L)):∃a cap,v= .slice a L.length cap∧SRow w a L:=by
 have hl:=h.1
 rw [u8s,List.length_map,Nat.mul_one] at hl
 rcases h.2 with ⟨rfl,hn0⟩|⟨g,cap,cur,rfl,hb,hg,hcap,hm,hsz,htake⟩
 ·rw [hl,hn0]
  exact ⟨none,0,rfl,.inl ⟨rfl,List.eq_nil_of_length_eq_zero (by omega)⟩⟩
 ·rw [←hl]
  refine ⟨_,cap,rfl,.inr ⟨_,rfl,fun _=>(Array.getElem?_eq_some_iff.1 hg).1,fun j hj=>?_⟩⟩
  have h1:(u8s L)[j]?=some (.int .u8 (L[j].toNat:Int)):=by simp [u8s,List.getElem?_eq_getElem hj]
  rw [←htake,Nat.mul_one,List.getElem?_take_of_lt (by omega)] at h1
  have ha:(⟨g,0,none⟩:Addr).add j=⟨g,j,none⟩:=by unfold Addr.add;split<;>simp_all
  rw [ha,cell_of_row _ _ _ _ 5 (0,0) hg]
  simpa using h1
theorem conv_row {w:World} {a:Option Addr} {L:List UInt8} (c:Nat) (h:SRow w a L):(convert 73 9 (.slice a L.length c)).run Tryz.prog w= .ok (.string ⟨L.toArray⟩) w:=by
 rcases h with ⟨rfl,rfl⟩|⟨ad,rfl,_,h2⟩
 ·exact run_convert_bytes_nil w 73 5 Tryz.underlying73 Tryz.underlying5 0 c 9 Tryz.underlying9
 ·exact run_convert_bytes_back w 73 9 5 ad c L Tryz.underlying73 Tryz.underlying5 Tryz.underlying9 h2
def TkP (r:Int×Tk×Nat) (w:World) (e:Ending) (w':World):Prop:=e= .returned (.tuple #[.agg #[.int .i64 r.2.1.k,.int .i64 r.2.1.n,.string (bs r.2.1.t),.int .i64 0],.int .i64 (r.2.2:Int),.int .i64 r.1])∧Below w.heap.size w w'
def TxAt (s:ByteArray) (R:Option (List UInt8×Nat)) (k:Nat) (acc:List UInt8):Prop:=∃f,s.size-k<f∧txF f (s.toList.drop k) acc k=R
theorem TxAt.quote {s:ByteArray} {R:Option (List UInt8×Nat)} {k:Nat} {acc:List UInt8} (h:TxAt s R k acc) (hk:k<s.size) (hq:(s[k].toNat:Int)=34):R=some (acc,k):=by
 obtain ⟨f,hf,h⟩:=h
 rw [drop_at s k hk,txF_quote (by omega) hq] at h;exact h.symm
theorem TxAt.end_ {s:ByteArray} {R:Option (List UInt8×Nat)} {k:Nat} {acc:List UInt8} (h:TxAt s R k acc) (hk:¬k<s.size):R=none:=by
 obtain ⟨f,hf,h⟩:=h
 rw [drop_end s k hk,txF_nil] at h;exact h.symm
theorem TxAt.bad {s:ByteArray} {R:Option (List UInt8×Nat)} {k:Nat} {acc:List UInt8} (h:TxAt s R k acc) (hk:k<s.size) (hq:¬(s[k].toNat:Int)=34) (hp:(partL (s.toList.drop k)).2=0):R=none:=by
 obtain ⟨f,hf,h⟩:=h
 rw [drop_at s k hk] at h hp
 rw [txF_bad hq hp] at h;exact h.symm
theorem TxAt.step {s:ByteArray} {R:Option (List UInt8×Nat)} {k n:Nat} {c:Int} {acc:List UInt8} (h:TxAt s R k acc) (hk:k<s.size) (hq:¬(s[k].toNat:Int)=34) (hp:partL (s.toList.drop k)=(c,n)) (hn:n≠0):TxAt s R (k+n) (acc++[UInt8.ofNat c.toNat]):=by
 obtain ⟨f,hf,h⟩:=h
 cases f
 ·omega
 ·rename_i f
  rw [drop_at s k hk] at h hp
  rw [txF_step hq (by rw [hp];exact hn),hp] at h
  refine ⟨f,by omega,?_⟩
  rw [←h,←drop_at s k hk,List.drop_drop]
theorem u8_of (c:Int) (h0:0≤c) (h1:c≤255):((UInt8.ofNat c.toNat).toNat:Int)=c:=by rw [UInt8.toNat_ofNat'];omega
theorem part_bd {L:List UInt8} {c:Int} {n:Nat} (h:partL L=(c,n)):n≤L.length∧0≤c∧c≤255:=by have:=partL_ok L;rw [h] at this;exact this
theorem part_at (s:ByteArray) (k:Nat) (r:Int×Nat) (w:World) (hs:s.size≤140737488355328) (hr:Hid (partL (s.toList.drop k)=r)):Calls Tryz.prog 220 #[.string (s.extract k s.size)] w (PartP r w):=by
 have h:=part_any (s.extract k s.size) w (by simp;omega)
 rw [ext_drop,hr.out] at h;exact h
theorem eq_comm_b (a b:UInt8):(a==b)=decide (b=a):=by rw [Bool.eq_iff_iff];simp;exact eq_comm
theorem hasq_at (s:ByteArray) (k:Nat) (b:Bool) (w:World) (hb:Hid ((decide (k<s.size)&&decide ((s.toList.drop k).head?=some 34))=b)):Calls Tryz.prog 219 #[.string (s.extract k s.size),.string {data:=#[34]}] w fun e w'=>e= .returned (.bool b)∧w=w':=by
 refine (Tryz.strings_HasPrefix _ _ w).mono ?_
 rintro e w' ⟨rfl,rfl⟩
 refine ⟨ret_bool ?_,rfl⟩
 rw [←hb.out]
 rw [←Lib.toList_data,ext_drop]
 by_cases hk:k<s.size
 ·rw [drop_at s k hk]
  simp [hk,Lib.hasPrefix,List.isPrefixOf]
  exact eq_comm_b _ _
 ·rw [drop_end s k hk];simp [hk,Lib.hasPrefix,List.isPrefixOf]
end Go.Proofs.YtkfihhagcimcmaaGreatDoor.Lx
namespace Go.Proofs.YtkfihhagcimcmaaGreatDoor.Lx
open Go.RowKit
theorem owns_below {w w':World} {base E size n:Nat} {v:Value} {xs:List Value} (h:w.ownsRow base E size v n xs) (hb:Below w.heap.size w w'):w'.ownsRow base E size v n xs:=by
 obtain ⟨h1,h2⟩:=h
 refine ⟨h1,?_⟩
 rcases h2 with h2|⟨g,cap,cur,hv,hg,hh,r⟩
 ·exact Or.inl h2
 ·exact Or.inr ⟨g,cap,cur,hv,hg,by rw [hb.block g (Array.getElem?_eq_some_iff.1 hh).1];exact hh,r⟩
theorem bl_drewN (w:World) (q:Nat):Below w.heap.size w (w.drewN q):=⟨rfl,rfl,rfl,Nat.le_refl _,fun _ _=>rfl⟩
theorem part_bl (s:ByteArray) (k:Nat) (c:Int) (n:Nat) (w:World) (hs:s.size≤140737488355328) (hr:Hid (partL (s.toList.drop k)=(c,n))):Calls Tryz.prog 220 #[.string (s.extract k s.size)] w fun e w'=>e= .returned (.tuple #[.int .u8 c,.int .i64 (n:Int)])∧Below w.heap.size w w':=
 (part_at s k (c,n) w hs hr).mono fun e w' ⟨he,q,hw⟩=>⟨he,by subst hw;exact bl_drewN _ _⟩
theorem textL_none {s:ByteArray} {R:Option (List UInt8×Nat)} (h:txF (s.toList.length+1) (s.toList.drop 1) [] 1=R) (hR:R=none):textL s.toList=(20,⟨0,0,[]⟩,0):=by
 unfold textL;rw [h,hR]
theorem textL_long {s:ByteArray} {R:Option (List UInt8×Nat)} {acc:List UInt8} {k:Nat} (h:txF (s.toList.length+1) (s.toList.drop 1) [] 1=R) (hR:R=some (acc,k)) (hl:256<acc.length):textL s.toList=(4,⟨0,0,[]⟩,0):=by
 unfold textL;rw [h,hR];exact if_pos hl
theorem textL_yes {s:ByteArray} {R:Option (List UInt8×Nat)} {acc:List UInt8} {k:Nat} (h:txF (s.toList.length+1) (s.toList.drop 1) [] 1=R) (hR:R=some (acc,k)) (hl:¬256<acc.length):textL s.toList=(0,⟨3,0,acc⟩,k+1):=by
 unfold textL;rw [h,hR];exact if_neg hl
def Tz (w:World) (g:Nat):Prop:=g<w.heap.size∧(∀o,w.frozen? ⟨g,o,none⟩=false)∧w.cell? ⟨g,0,none⟩=some (.int .i64 0)∧w.cell? ⟨g,1,none⟩=some (.int .i64 0)∧w.cell? ⟨g,2,none⟩=some (.string ⟨#[]⟩)∧w.cell? ⟨g,3,none⟩=some (.int .i64 0)
theorem Tz.low {w w':World} {g N:Nat} (h:Tz w g) (hb:Below N w w') (hg:g<N):Tz w' g:=
 ⟨Nat.lt_of_lt_of_le h.1 hb.size,fun o=>(hb.frozen (p:=⟨g,o,none⟩) hg).trans (h.2.1 o),(hb.cell (p:=⟨g,0,none⟩) hg).trans h.2.2.1,(hb.cell (p:=⟨g,1,none⟩) hg).trans h.2.2.2.1,(hb.cell (p:=⟨g,2,none⟩) hg).trans h.2.2.2.2.1,(hb.cell (p:=⟨g,3,none⟩) hg).trans h.2.2.2.2.2⟩
theorem Tz.later {w w':World} {g:Nat} (h:Tz w g) (hb:Below w.heap.size w w'):Tz w' g:=h.low hb h.1
theorem set_far {w:World} {g o b q:Nat} {v:Value} (h:b≠g∨q≠o):(w.setCell ⟨g,o,none⟩ v).cell? ⟨b,q,none⟩=w.cell? ⟨b,q,none⟩:=
 World.cell?_setCell_other _ _ _ _ (by intro e;cases e;rcases h with h|h<;>exact h rfl)
theorem set_here {w:World} {g o:Nat} {u v:Value} (h:w.cell? ⟨g,o,none⟩=some u):(w.setCell ⟨g,o,none⟩ v).cell? ⟨g,o,none⟩=some v:=World.cell?_setCell_same _ _ _ h
theorem set4 {W:World} {g:Nat} {u0 u1 u2 u3:Value} (v0 v1 v2 v3:Value) (c0:W.cell? ⟨g,0,none⟩=some u0) (c1:W.cell? ⟨g,1,none⟩=some u1) (c2:W.cell? ⟨g,2,none⟩=some u2) (c3:W.cell? ⟨g,3,none⟩=some u3):
  ((((W.setCell ⟨g,0,none⟩ v0).setCell ⟨g,1,none⟩ v1).setCell ⟨g,2,none⟩ v2).setCell ⟨g,3,none⟩ v3).cell? ⟨g,0,none⟩=some v0∧((((W.setCell ⟨g,0,none⟩ v0).setCell ⟨g,1,none⟩ v1).setCell ⟨g,2,none⟩ v2).setCell ⟨g,3,none⟩ v3).cell? ⟨g,1,none⟩=some v1∧
  ((((W.setCell ⟨g,0,none⟩ v0).setCell ⟨g,1,none⟩ v1).setCell ⟨g,2,none⟩ v2).setCell ⟨g,3,none⟩ v3).cell? ⟨g,2,none⟩=some v2∧((((W.setCell ⟨g,0,none⟩ v0).setCell ⟨g,1,none⟩ v1).setCell ⟨g,2,none⟩ v2).setCell ⟨g,3,none⟩ v3).cell? ⟨g,3,none⟩=some v3:=by
 refine ⟨?_,?_,?_,?_⟩
 ·rw [set_far (.inr (by decide)),set_far (.inr (by decide)),set_far (.inr (by decide)),set_here c0]
 ·rw [set_far (.inr (by decide)),set_far (.inr (by decide)),set_here (u:=u1) (by rw [set_far (.inr (by decide)),c1])]
 ·rw [set_far (.inr (by decide)),set_here (u:=u2) (by rw [set_far (.inr (by decide)),set_far (.inr (by decide)),c2])]
 ·rw [set_here (u:=u3) (by rw [set_far (.inr (by decide)),set_far (.inr (by decide)),set_far (.inr (by decide)),c3])]
theorem bl_set4 {w W:World} {g:Nat} {v0 v1 v2 v3:Value} (h:Below w.heap.size w W) (hg:w.heap.size≤g):Below w.heap.size w ((((W.setCell ⟨g,0,none⟩ v0).setCell ⟨g,1,none⟩ v1).setCell ⟨g,2,none⟩ v2).setCell ⟨g,3,none⟩ v3):=
 bl_set (bl_set (bl_set (bl_set h hg) hg) hg) hg
set_option maxRecDepth 100000 in
set_option maxHeartbeats 4000000 in
theorem text_any (s:ByteArray) (w:World) (hs:s.size≤140737488355328) (h0:0<s.size):Calls Tryz.prog 202 #[.string s] w (TkP (textL s.toList) w):=by
 obtain ⟨R,hR⟩:∃R,txF (s.toList.length+1) (s.toList.drop 1) [] 1=R:=⟨_,rfl⟩
 have HT:Hid (TxAt s R 1 []):=⟨_,by rw [←Nm.size_list];omega,hR⟩
 have HR:=Lib.hid hR
 clear hR
 obtain ⟨i0,hi,hz0,hz1,hz2⟩:=info_parts Tryz.info5
 have HI:=Lib.hid hi
 have HZ0:=Lib.hid hz0
 have HZ1:=Lib.hid hz1
 have HZ2:=Lib.hid hz2
 clear hi hz0 hz1 hz2
 go_enter Tryz.func202,Tryz.ntmps202
 go_wp2_with fail
 go_loopw [5,6] (fun v i wr=>∃(k:Nat) (acc:List UInt8) (a:Option Addr) (cp:Nat),k≤s.size∧i= .int .i64 k∧acc.length≤k∧v= .slice a acc.length cp∧Hid (wr.ownsRow (w.heap.size+1) 5 1 (.slice a acc.length cp) acc.length (u8s acc))∧Hid (TxAt s R k acc)∧Hid (Tz wr w.heap.size)∧Hid (Below (w.heap.size) w wr)) (fun _ i _=>s.size-(intOf i).toNat)
 case atStart=>exact ⟨1,[],none,0,by omega,rfl,by decide,rfl,World.ownsRow_nil _ _ _ _,HT,⟨by simp,fun _=>World.frozen?_alloc_new ..,by simp,by simp,by simp,by simp⟩,bl_alloc (Below.refl _ _)⟩
 case round=>
  obtain ⟨k,acc,a,cp,hk,rfl,hak,rfl,hO,hX,hZ,hB⟩:=hrel
  rename World=>wr
  by_cases hlt:k<s.size
  ·by_cases hq:(s[k].toNat:Int)=34
   ·have HQ:Hid ((decide (k<s.size)&&decide ((s.toList.drop k).head?=some 34))=true):=by
     rw [drop_at s k hlt];simp [hlt];exact UInt8.toNat.inj (by simp;omega)
    have HRR:=Lib.hid (hX.out.quote hlt hq)
    obtain ⟨a',c',e1,hS⟩:=row_own hO.out
    cases e1
    have hcv:=conv_row cp hS
    obtain ⟨hz,hf,c0,c1,c2,c3⟩:=hZ.out
    clear hS hq
    by_cases hl:256<acc.length
    ·have HV:=Lib.hid (textL_long HR.out HRR.out hl)
     go_wp2_with (go_at_call 219;((with_reducible refine (hasq_at s k true _ HQ).mono ?_);rintro e w' ⟨rfl,rfl⟩))
     obtain ⟨k0,k1,k2,k3⟩:=set4 (.int .i64 0) (.int .i64 0) (.string ⟨#[]⟩) (.int .i64 0) c0 c1 c2 c3
     refine bodyPost_ret (v:= .tuple #[.agg #[.int .i64 0,.int .i64 0,.string ⟨#[]⟩,.int .i64 0],.int .i64 0,.int .i64 4]) (by simp [results,Tryz.results202,go_sem,k0,k1,k2,k3]) rfl ⟨by rw [HV.out];rfl,bl_set4 hB.out (Nat.le_refl _)⟩
    ·have HV:=Lib.hid (textL_yes HR.out HRR.out hl)
     go_wp2_with (go_at_call 219;((with_reducible refine (hasq_at s k true _ HQ).mono ?_);rintro e w' ⟨rfl,rfl⟩))
     obtain ⟨k0,k1,k2,k3⟩:=set4 (.int .i64 3) (.int .i64 0) (.string ⟨acc.toArray⟩) (.int .i64 0) c0 c1 c2 c3
     refine bodyPost_ret (v:= .tuple #[.agg #[.int .i64 3,.int .i64 0,.string ⟨acc.toArray⟩,.int .i64 0],.int .i64 ((k:Int)+1),.int .i64 0]) (by simp [results,Tryz.results202,go_sem,k0,k1,k2,k3]) rfl ⟨by rw [HV.out];rfl,bl_set4 hB.out (Nat.le_refl _)⟩
   ·have HQ:Hid ((decide (k<s.size)&&decide ((s.toList.drop k).head?=some 34))=false):=by
     rw [drop_at s k hlt];simp [hlt];intro e;exact hq (by rw [e];rfl)
    obtain ⟨⟨c,n⟩,hp⟩:∃r,partL (s.toList.drop k)=r:=⟨_,rfl⟩
    have HP:=Lib.hid hp
    obtain ⟨hn1,hc0,hc1⟩:=part_bd hp
    rw [drop_len] at hn1
    by_cases hn:n=0
    ·subst hn
     have HRR:=Lib.hid (hX.out.bad hlt hq (by rw [hp]))
     have HV:=Lib.hid (textL_none HR.out HRR.out)
     clear hp hq
     go_wp2_with (first|(go_at_call 219;((with_reducible refine (hasq_at s k false _ HQ).mono ?_);rintro e w' ⟨rfl,rfl⟩))|(go_at_call 220;((with_reducible refine (part_bl s k c 0 _ hs HP).mono ?_);rintro e w1 ⟨rfl,hb⟩;obtain ⟨hz,hf,c0,c1,c2,c3⟩:=hZ.out.later hb;have HB:=Lib.hid (bl_step hB.out hb);clear hb)))
     obtain ⟨k0,k1,k2,k3⟩:=set4 (.int .i64 0) (.int .i64 0) (.string ⟨#[]⟩) (.int .i64 0) c0 c1 c2 c3
     refine bodyPost_ret (v:= .tuple #[.agg #[.int .i64 0,.int .i64 0,.string ⟨#[]⟩,.int .i64 0],.int .i64 0,.int .i64 20]) (by simp [results,Tryz.results202,go_sem,k0,k1,k2,k3]) rfl ⟨by rw [HV.out];rfl,bl_set4 HB.out (Nat.le_refl _)⟩
    ·have HXS:=Lib.hid (hX.out.step hlt hq hp hn)
     have HU:Hid (u8s (acc++[UInt8.ofNat c.toNat])=u8s acc++[.int .u8 c]):=Lib.hid (by simp only [u8s,List.map_append,List.map_cons,List.map_nil,u8_of c hc0 hc1])
     have hkn:k+n≤s.size:=by omega
     clear hp hq
     have hacc:acc.length≤140737488355328:=by omega
     generalize hL:acc.length=m at*
     have HL:=Lib.hid hL
     clear hL
     go_wp2_with (first|(go_at_call 219;((with_reducible refine (hasq_at s k false _ HQ).mono ?_);rintro e w' ⟨rfl,rfl⟩))|(go_at_call 220;((with_reducible refine (part_bl s k c n _ hs HP).mono ?_);rintro e w1 ⟨rfl,hb⟩;have HZ:=Lib.hid (hZ.out.later hb);have HO:=Lib.hid (owns_below hO.out hb);have HB:=Lib.hid (bl_step hB.out hb);clear hb))|(at_builtin;refine wpList_append_own _ rfl _ _ 73 rfl (w.heap.size+1) 5 i0 (.int .u8 0) 1 1 Tryz.underlying73 HI.out HZ0.out HZ1.out HZ2.out rfl (by decide) _ _ _ rfl (HO.out.alloc _) ⟨w1.heap.size,0,none⟩ 1 1 [.int .u8 c] rfl rfl (cell_one_new _ _ _) (fun x hx=>by simp at hx;subst hx;rfl) (by unfold maxLen;omega) (by omega) (by have:=HZ.out.1;simp;omega) ?_;intro v' w4 hown' hgrow4 hnil4;have OW4:=Lib.hid hown';have G4:=Lib.hid hgrow4;clear hown' hgrow4 hnil4))
     have HLL:Hid ((acc++[UInt8.ofNat c.toNat]).length=m+1):=Lib.hid (by rw [List.length_append,HL.out];rfl)
     have hOW:=OW4.out
     rw [←HU.out,←HLL.out] at hOW
     have HOW:=Lib.hid hOW
     clear hOW
     obtain ⟨a',c',e1,hS⟩:=row_own HOW.out
     subst e1
     clear hS
     have hz1:=HZ.out.1
     have B4:=Lib.hid (((Below.refl (w.heap.size+1) w1).alloc (by omega) _).grown G4.out (by simp;omega) (own_base HO.out))
     have B0:=Lib.hid ((bl_alloc HB.out).grown G4.out (by simp;omega) (fun k hk=>by have:=own_base HO.out k hk;omega))
     go_roundw
     case rel=>exact ⟨k+n,acc++[UInt8.ofNat c.toNat],a',c',hkn,by go_num,by rw [HLL.out];omega,rfl,HOW,HXS,Lib.hid (HZ.out.low B4.out (by omega)),B0⟩
     case measure=>simp [intOf];omega
  ·have HQ:=Lib.hid (show (decide (k<s.size)&&decide ((s.toList.drop k).head?=some 34))=false by simp [hlt])
   have HP:Hid (partL (s.toList.drop k)=(0,0)):=Lib.hid (by rw [drop_end s k hlt];rfl)
   have HRR:=Lib.hid (hX.out.end_ hlt)
   have HV:=Lib.hid (textL_none HR.out HRR.out)
   go_wp2_with (first|(go_at_call 219;((with_reducible refine (hasq_at s k false _ HQ).mono ?_);rintro e w' ⟨rfl,rfl⟩))|(go_at_call 220;((with_reducible refine (part_bl s k 0 0 _ hs HP).mono ?_);rintro e w1 ⟨rfl,hb⟩;obtain ⟨hz,hf,c0,c1,c2,c3⟩:=hZ.out.later hb;have HB:=Lib.hid (bl_step hB.out hb);clear hb)))
   obtain ⟨k0,k1,k2,k3⟩:=set4 (.int .i64 0) (.int .i64 0) (.string ⟨#[]⟩) (.int .i64 0) c0 c1 c2 c3
   refine bodyPost_ret (v:= .tuple #[.agg #[.int .i64 0,.int .i64 0,.string ⟨#[]⟩,.int .i64 0],.int .i64 0,.int .i64 20]) (by simp [results,Tryz.results202,go_sem,k0,k1,k2,k3]) rfl ⟨by rw [HV.out];rfl,bl_set4 HB.out (Nat.le_refl _)⟩
end Go.Proofs.YtkfihhagcimcmaaGreatDoor.Lx
