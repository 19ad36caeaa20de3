/- LWh, LWi -/
import Derived.Test.YtkfihhagcimcmaaGreatDoorChecked
import Derived.Test.YtkfihhagcimcmaaGreatDoorProg
import Derived.Test.YtkfihhagcimcmaaGreatDoorY0
import Derived.Test.YtkfihhagcimcmaaGreatDoorYar
namespace Go.Proofs.YtkfihhagcimcmaaGreatDoor.Lx
open Go.RowKit
def signAt (r:Nat):ByteArray:=⟨(signsL.getD r []).toArray⟩
structure Ent (w:World):Prop where
 nm:Nm.Env w
 signs:∀r,r<15→w.cell? ⟨6,r,none⟩=some (.string (signAt r))
theorem Ent.below {w w':World} (h:Ent w) (hb:Below w.heap.size w w'):Ent w':=by
 refine ⟨h.nm.below hb,fun r hr=>?_⟩
 have h2:=h.nm.one
 rw [hb.cell (p:=⟨6,r,none⟩) (by simp;omega)];exact h.signs r hr
theorem index_sign (r:Nat) (hr:r<15) (w:World):(Instr.index 246 (.agg #[.string (signAt 0),.string (signAt 1),.string (signAt 2),.string (signAt 3),.string (signAt 4),.string (signAt 5),.string (signAt 6),.string (signAt 7),.string (signAt 8),.string (signAt 9),.string (signAt 10),.string (signAt 11),.string (signAt 12),.string (signAt 13),.string (signAt 14)]) (.int .i64 (r:Int))).run Tryz.prog w= .ok (.string (signAt r)) w:=by
 obtain rfl|rfl|rfl|rfl|rfl|rfl|rfl|rfl|rfl|rfl|rfl|rfl|rfl|rfl|rfl:r=0∨r=1∨r=2∨r=3∨r=4∨r=5∨r=6∨r=7∨r=8∨r=9∨r=10∨r=11∨r=12∨r=13∨r=14:=by omega
 all_goals kernel_rfl
theorem signAt_list (r:Nat):(signAt r).toList=signsL.getD r []:=bs_list _
theorem signAt_size (r:Nat):(signAt r).size=(signsL.getD r []).length:=bs_size _
theorem find_getD {p:List UInt8→Bool}:∀{l:List (List UInt8)} {k:Nat},k<l.length→(∀j,j<k→p (l.getD j [])=false)→p (l.getD k [])=true→l.find? p=some (l.getD k [])
 |[],k,hk,_,_=>absurd hk (Nat.not_lt_zero _)
 |x::l,0,_,_,h=>by
  have h':p x=true:=h
  rw [List.find?_cons_of_pos h'];rfl
 |x::l,k+1,hk,hN,h=>by
  have h0:p x=false:=hN 0 (Nat.succ_pos _)
  rw [List.find?_cons_of_neg (by rw [h0];decide),find_getD (l:=l) (k:=k) (by simpa using hk) (fun j hj=>hN (j+1) (Nat.succ_lt_succ hj)) h];rfl
theorem sign_at {L:List UInt8} {k:Nat} (hk:k<15) (hN:∀j,j<k→(signsL.getD j []).isPrefixOf L=false) (h:(signsL.getD k []).isPrefixOf L=true):signL L=signsL.getD k []:=by
 unfold signL;rw [find_getD (p:=fun w=>w.isPrefixOf L) (l:=signsL) hk hN h];rfl
theorem sign_none {L:List UInt8} (hN:∀j,j<15→(signsL.getD j []).isPrefixOf L=false):signL L=[]:=by
 unfold signL
 rw [List.find?_eq_none.2];rfl
 intro x hx h
 obtain ⟨k,hk,rfl⟩:=List.getElem_of_mem hx
 have h2:=hN k hk
 rw [List.getD,List.getElem?_eq_getElem hk,Option.getD_some] at h2
 rw [h2] at h;exact absurd h (by decide)
theorem signs_ne:∀k,k<15→signsL.getD k []≠[]:=by decide
theorem hasp_as (s p:ByteArray) (b:Bool) (w:World) (hb:Hid (p.toList.isPrefixOf s.toList=b)):Calls Tryz.prog 219 #[.string s,.string p] w fun e w'=>e= .returned (.bool b)∧w=w':=by
 refine (Tryz.strings_HasPrefix _ _ w).mono ?_
 rintro e w' ⟨rfl,rfl⟩
 refine ⟨ret_bool ?_,rfl⟩
 rw [←hb.out,Lib.toList_data,Lib.toList_data];rfl
set_option maxRecDepth 100000 in
set_option maxHeartbeats 2000000 in
theorem sign_any (s:ByteArray) (w:World) (hE:Ent w):Calls Tryz.prog 203 #[.string s] w (TkP (signR s.toList) w):=by
 have c0:(w.alloc (.cells #[.int .i64 0,.int .i64 0,.string {data:=#[]},.int .i64 0] 155)).cell? ⟨6,0,none⟩=some (.string (signAt 0)):=Lib.cell?_alloc_some _ (hE.signs 0 (by decide))
 have c1:(w.alloc (.cells #[.int .i64 0,.int .i64 0,.string {data:=#[]},.int .i64 0] 155)).cell? ⟨6,1,none⟩=some (.string (signAt 1)):=Lib.cell?_alloc_some _ (hE.signs 1 (by decide))
 have c2:(w.alloc (.cells #[.int .i64 0,.int .i64 0,.string {data:=#[]},.int .i64 0] 155)).cell? ⟨6,2,none⟩=some (.string (signAt 2)):=Lib.cell?_alloc_some _ (hE.signs 2 (by decide))
 have c3:(w.alloc (.cells #[.int .i64 0,.int .i64 0,.string {data:=#[]},.int .i64 0] 155)).cell? ⟨6,3,none⟩=some (.string (signAt 3)):=Lib.cell?_alloc_some _ (hE.signs 3 (by decide))
 have c4:(w.alloc (.cells #[.int .i64 0,.int .i64 0,.string {data:=#[]},.int .i64 0] 155)).cell? ⟨6,4,none⟩=some (.string (signAt 4)):=Lib.cell?_alloc_some _ (hE.signs 4 (by decide))
 have c5:(w.alloc (.cells #[.int .i64 0,.int .i64 0,.string {data:=#[]},.int .i64 0] 155)).cell? ⟨6,5,none⟩=some (.string (signAt 5)):=Lib.cell?_alloc_some _ (hE.signs 5 (by decide))
 have c6:(w.alloc (.cells #[.int .i64 0,.int .i64 0,.string {data:=#[]},.int .i64 0] 155)).cell? ⟨6,6,none⟩=some (.string (signAt 6)):=Lib.cell?_alloc_some _ (hE.signs 6 (by decide))
 have c7:(w.alloc (.cells #[.int .i64 0,.int .i64 0,.string {data:=#[]},.int .i64 0] 155)).cell? ⟨6,7,none⟩=some (.string (signAt 7)):=Lib.cell?_alloc_some _ (hE.signs 7 (by decide))
 have c8:(w.alloc (.cells #[.int .i64 0,.int .i64 0,.string {data:=#[]},.int .i64 0] 155)).cell? ⟨6,8,none⟩=some (.string (signAt 8)):=Lib.cell?_alloc_some _ (hE.signs 8 (by decide))
 have c9:(w.alloc (.cells #[.int .i64 0,.int .i64 0,.string {data:=#[]},.int .i64 0] 155)).cell? ⟨6,9,none⟩=some (.string (signAt 9)):=Lib.cell?_alloc_some _ (hE.signs 9 (by decide))
 have c10:(w.alloc (.cells #[.int .i64 0,.int .i64 0,.string {data:=#[]},.int .i64 0] 155)).cell? ⟨6,10,none⟩=some (.string (signAt 10)):=Lib.cell?_alloc_some _ (hE.signs 10 (by decide))
 have c11:(w.alloc (.cells #[.int .i64 0,.int .i64 0,.string {data:=#[]},.int .i64 0] 155)).cell? ⟨6,11,none⟩=some (.string (signAt 11)):=Lib.cell?_alloc_some _ (hE.signs 11 (by decide))
 have c12:(w.alloc (.cells #[.int .i64 0,.int .i64 0,.string {data:=#[]},.int .i64 0] 155)).cell? ⟨6,12,none⟩=some (.string (signAt 12)):=Lib.cell?_alloc_some _ (hE.signs 12 (by decide))
 have c13:(w.alloc (.cells #[.int .i64 0,.int .i64 0,.string {data:=#[]},.int .i64 0] 155)).cell? ⟨6,13,none⟩=some (.string (signAt 13)):=Lib.cell?_alloc_some _ (hE.signs 13 (by decide))
 have c14:(w.alloc (.cells #[.int .i64 0,.int .i64 0,.string {data:=#[]},.int .i64 0] 155)).cell? ⟨6,14,none⟩=some (.string (signAt 14)):=Lib.cell?_alloc_some _ (hE.signs 14 (by decide))
 have hh:7≤w.heap.size:=hE.nm.one
 clear hE
 go_enter Tryz.func203,Tryz.ntmps203
 go_wp2_with fail
 clear c0 c1 c2 c3 c4 c5 c6 c7 c8 c9 c10 c11 c12 c13 c14
 go_loop [8] (fun i=>∃k:Nat,k≤15∧i= .int .i64 k∧Hid (∀j,j<k→(signsL.getD j []).isPrefixOf s.toList=false)) (fun i=>15-(intOf i).toNat)
 case atStart=>exact ⟨0,by omega,rfl,Lib.hid (fun j hj=>absurd hj (Nat.not_lt_zero _))⟩
 case round=>
  obtain ⟨k,hk,rfl,hN⟩:=hrel
  by_cases hlt:k<15
  ·have hx:=fun w=>index_sign k hlt w
   cases hb:(signsL.getD k []).isPrefixOf s.toList
   ·have HB:Hid ((signAt k).toList.isPrefixOf s.toList=false):=Lib.hid (by rw [signAt_list];exact hb)
    have HN:=Lib.hid (show ∀j,j<k+1→(signsL.getD j []).isPrefixOf s.toList=false from fun j hj=>by
     by_cases e:j=k
     ·subst e;exact hb
     ·exact hN.out j (by omega))
    clear hb
    go_wp2_with (go_at_call 219;((with_reducible refine (hasp_as s (signAt k) false _ HB).mono ?_);rintro e w' ⟨rfl,rfl⟩))
    go_round
    case rel=>exact ⟨k+1,by omega,by go_num,HN⟩
    case measure=>simp [intOf];omega
   ·have HB:Hid ((signAt k).toList.isPrefixOf s.toList=true):=Lib.hid (by rw [signAt_list];exact hb)
    have HV:Hid (signR s.toList=(0,⟨4,0,signsL.getD k []⟩,(signAt k).size)):=Lib.hid (by
     unfold signR;rw [sign_at hlt hN.out hb,if_neg (signs_ne k hlt),signAt_size])
    clear hb
    go_wp2_with (go_at_call 219;((with_reducible refine (hasp_as s (signAt k) true _ HB).mono ?_);rintro e w' ⟨rfl,rfl⟩))
    refine bodyPost_ret (v:= .tuple #[.agg #[.int .i64 4,.int .i64 0,.string (signAt k),.int .i64 0],.int .i64 ((signAt k).size:Int),.int .i64 0]) (by simp [results,Tryz.results203,go_sem]) rfl ⟨by rw [HV.out];rfl,?_⟩
    exact bl_alloc (Below.refl _ _)
  ·obtain rfl:k=15:=by omega
   have HV:Hid (signR s.toList=(20,⟨0,0,[]⟩,0)):=Lib.hid (by unfold signR;rw [sign_none hN.out,if_pos rfl])
   go_wp2_with fail
   refine bodyPost_ret (v:= .tuple #[.agg #[.int .i64 0,.int .i64 0,.string ⟨#[]⟩,.int .i64 0],.int .i64 0,.int .i64 20]) (by simp [results,Tryz.results203,go_sem]) rfl ⟨by rw [HV.out];rfl,?_⟩
   exact bl_alloc (Below.refl _ _)
end Go.Proofs.YtkfihhagcimcmaaGreatDoor.Lx
namespace Go.Proofs.YtkfihhagcimcmaaGreatDoor.Lx
open Go.RowKit
theorem dgB_head {c:UInt8} (h:dgB c=true):¬(c.toNat:Int)=45:=by have:=of_decide_eq_true h;omega
theorem front_pos {s:ByteArray} (h0:0<s.size) (hd:dgB s[0]=true):0<rowN dgB s.toList∧rowN dgB s.toList≤s.size:=by
 have h1:=rowN_le dgB s.toList
 rw [←Nm.size_list] at h1
 have e:=drop_at s 0 h0
 rw [List.drop_zero] at e
 rw [e,rowN_yes hd] at h1⊢;omega
theorem negS_no {s t:ByteArray} (h0:0<s.size) (hd:dgB s[0]=true) (m:Nat) (hm:0<m) (ht:t=bs (s.toList.take m)):Nu.negS t=false:=by
 subst ht
 have e:=drop_at s 0 h0
 rw [List.drop_zero] at e
 unfold Nu.negS
 rw [←Lib.toList_data,bs_list,e]
 cases m
 ·omega
 ·simp only [List.take_succ_cons,List.head?_cons]
  have:=dgB_head hd
  simp
  intro q;rw [q] at this;exact this rfl
theorem read_front (t:ByteArray) (D:List UInt8) (V E:Int) (w:World) (ht:Hid (t=bs D)) (hn:Hid (Nu.negS t=false)) (hs:t.size≤maxLen) (hV:Hid (Nu.readV false D=V)) (hE:Hid (Nu.readE false D=E)):Calls Tryz.prog 87 #[.string t] w fun e w'=>e= .returned (.tuple #[.int .i64 V,.int .i64 E])∧w=w':=by
 have h:=Nu.read_any t w hs
 rw [Nu.trim_pos hn.out,hn.out,ht.out,←Lib.toList_data,bs_list,hV.out,hE.out] at h
 rw [ht.out];exact h
theorem row_digit_as (s:ByteArray) (m:Nat) (w:World) (hs:s.size≤140737488355328) (hm:Hid (rowN dgB s.toList=m)):Calls Tryz.prog 196 #[.string s,.func (.func 198) #[] #[]] w fun e w'=>e= .returned (.int .i64 (m:Nat))∧w=w':=by rw [←hm.out];exact row_digit s w hs
theorem row_name_as (s:ByteArray) (m:Nat) (w:World) (hs:s.size≤140737488355328) (hm:Hid (rowN nmB s.toList=m)):Calls Tryz.prog 196 #[.string s,.func (.func 218) #[] #[]] w fun e w'=>e= .returned (.int .i64 (m:Nat))∧w=w':=by rw [←hm.out];exact row_name s w hs
set_option maxRecDepth 100000 in
set_option maxHeartbeats 2000000 in
theorem number_any (s:ByteArray) (w:World) (hs:s.size≤140737488355328) (h0:0<s.size) (hd:dgB s[0]=true):Calls Tryz.prog 199 #[.string s] w (TkP (numberL s.toList) w):=by
 obtain ⟨m0,m1⟩:=front_pos h0 hd
 obtain ⟨m,hm⟩:∃m,rowN dgB s.toList=m:=⟨_,rfl⟩
 rw [hm] at m0 m1
 have HM:=Lib.hid hm
 have HT:=Lib.hid (ext_front s m)
 have HN:=Lib.hid (negS_no h0 hd m m0 (ext_front s m))
 obtain ⟨V,hV⟩:∃V,Nu.readV false (s.toList.take m)=V:=⟨_,rfl⟩
 obtain ⟨E,hE⟩:∃E,Nu.readE false (s.toList.take m)=E:=⟨_,rfl⟩
 have HL:Hid (numberL s.toList=(if E=2 then 20 else E,⟨1,V,[]⟩,m)):=Lib.hid (by unfold numberL;rw [hm];dsimp only;rw [hV,hE])
 have HV:=Lib.hid hV
 have HE:=Lib.hid hE
 have hz:(s.extract 0 m).size≤maxLen:=by unfold maxLen;simp;omega
 clear hV hE hm hd
 cases h2:(E==2)
 ·have H2:=Lib.hid (show ¬E=2 by simpa using h2)
  go_enter Tryz.func199,Tryz.ntmps199
  go_wp2_with (first|(go_at_call 196;((with_reducible refine (row_digit_as s m _ hs HM).mono ?_);rintro e w' ⟨rfl,rfl⟩))|(go_at_call 87;((with_reducible refine (read_front _ _ V E _ HT HN hz HV HE).mono ?_);rintro e w' ⟨rfl,rfl⟩)))
  refine bodyPost_ret (v:= .tuple #[.agg #[.int .i64 1,.int .i64 V,.string ⟨#[]⟩,.int .i64 0],.int .i64 (m:Int),.int .i64 E]) (by simp [results,Tryz.results199,go_sem]) rfl ⟨by rw [HL.out,if_neg H2.out];rfl,?_⟩
  exact bl_alloc (Below.refl _ _)
 ·obtain rfl:E=2:=by simpa using h2
  clear h2
  replace HL:=Lib.hid (show numberL s.toList=(20,⟨1,V,[]⟩,m) by rw [HL.out];rfl)
  go_enter Tryz.func199,Tryz.ntmps199
  go_wp2_with (first|(go_at_call 196;((with_reducible refine (row_digit_as s m _ hs HM).mono ?_);rintro e w' ⟨rfl,rfl⟩))|(go_at_call 87;((with_reducible refine (read_front _ _ V 2 _ HT HN hz HV HE).mono ?_);rintro e w' ⟨rfl,rfl⟩)))
  refine bodyPost_ret (v:= .tuple #[.agg #[.int .i64 1,.int .i64 V,.string ⟨#[]⟩,.int .i64 0],.int .i64 (m:Int),.int .i64 20]) (by simp [results,Tryz.results199,go_sem]) rfl ⟨by rw [HL.out];rfl,?_⟩
  exact bl_alloc (Below.refl _ _)
theorem clone_any (s:ByteArray) (w:World) (hs:s.size≤140737488355328):Calls Tryz.prog 86 #[.string s] w fun e w'=>e= .returned (.string s)∧Below w.heap.size w w':=by
 go_enter Tryz.func86,Tryz.ntmps86
 go_wp2_with (go_at_call 131;refine (Tryz.stringslite_Clone _ _ (by omega)).mono ?_;rintro e w1 ⟨rfl,hB⟩;have HB:=Lib.hid hB;clear hB)
 go_ret
 exact ⟨rfl,HB.out⟩
theorem nright_as (t:ByteArray) (b:Bool) (w:World) (hE:Nm.Env w) (hs:t.size≤maxLen) (hb:Hid (Nm.rightL t.toList=b)):Calls Tryz.prog 91 #[.string t] w fun e w'=>e= .returned (.bool b)∧Below w.heap.size w w':=by rw [←hb.out];exact Nm.right_any t w hE hs
theorem nword_as (t:ByteArray) (v:Int) (w:World) (hE:Nm.Env w) (hb:Hid (Nm.wordN t.toList=v)):Calls Tryz.prog 137 #[.string t] w fun e w'=>e= .returned (.int .i64 v)∧w=w':=by rw [←hb.out];exact Nm.word_any t w hE
set_option maxRecDepth 100000 in
set_option maxHeartbeats 2000000 in
theorem word_any (s:ByteArray) (w:World) (hE:Ent w) (hs:s.size≤140737488355328):Calls Tryz.prog 201 #[.string s] w (TkP (wordL s.toList) w):=by
 obtain ⟨m,hm⟩:∃m,rowN nmB s.toList=m:=⟨_,rfl⟩
 have hmle:=rowN_le nmB s.toList
 rw [←Nm.size_list,hm] at hmle
 have HM:=Lib.hid hm
 have hz:(s.extract 0 m).size≤maxLen:=by unfold maxLen;simp;omega
 have hz2:(s.extract 0 m).size≤140737488355328:=by simp;omega
 obtain ⟨v,hv⟩:∃v,Nm.wordN (s.extract 0 m).toList=v:=⟨_,rfl⟩
 obtain ⟨b,hb⟩:∃b,Nm.rightL (s.extract 0 m).toList=b:=⟨_,rfl⟩
 have hv0:=Nm.wordN_nonneg (s.extract 0 m).toList
 rw [hv] at hv0
 have HL:Hid (wordL s.toList=if (b||decide (0<v))=true then (0,⟨2,0,s.toList.take m⟩,m) else (20,⟨0,0,[]⟩,0)):=Lib.hid (by
  unfold wordL;rw [hm];dsimp only
  rw [←hv,←hb,ext_front,bs_list])
 have HT:=Lib.hid (ext_front s m)
 have HV:=Lib.hid hv
 have HB:=Lib.hid hb
 have HE:=Lib.hid hE
 clear hm hv hb hE
 cases b
 ·by_cases hv1:v=0
  ·subst hv1
   go_enter Tryz.func201,Tryz.ntmps201
   go_wp2_with (first|(go_at_call 196;((with_reducible refine (row_name_as s m _ hs HM).mono ?_);rintro e w' ⟨rfl,rfl⟩))|(go_at_call 91;((with_reducible refine (nright_as _ _ _ (HE.out.nm.below (bl_alloc (Below.refl _ _))) hz HB).mono ?_);rintro e w1 ⟨rfl,hb⟩;have HZ:=Lib.hid (show Tz w1 w.heap.size from Tz.later ⟨by simp,fun _=>World.frozen?_alloc_new ..,by simp,by simp,by simp,by simp⟩ hb);have HB1:=Lib.hid (bl_step (bl_alloc (Below.refl w.heap.size w)) hb);clear hb))|(go_at_call 137;((with_reducible refine (nword_as _ 0 _ (HE.out.nm.below HB1.out) HV).mono ?_);rintro e w' ⟨rfl,rfl⟩;obtain ⟨hz,hf,c0,c1,c2,c3⟩:=HZ.out)))
   obtain ⟨k0,k1,k2,k3⟩:=set4 (.int .i64 0) (.int .i64 0) (.string ⟨#[]⟩) (.int .i64 0) c0 c1 c2 c3
   refine bodyPost_ret (v:= .tuple #[.agg #[.int .i64 0,.int .i64 0,.string ⟨#[]⟩,.int .i64 0],.int .i64 0,.int .i64 20]) (by simp [results,Tryz.results201,go_sem,k0,k1,k2,k3]) rfl ⟨by rw [HL.out];rfl,bl_set4 HB1.out (Nat.le_refl _)⟩
  ·have hv2:(v==0)=false:=by simpa using hv1
   have HD:=Lib.hid (show (false||decide (0<v))=true by simp;omega)
   go_enter Tryz.func201,Tryz.ntmps201
   go_wp2_with (first|(go_at_call 196;((with_reducible refine (row_name_as s m _ hs HM).mono ?_);rintro e w' ⟨rfl,rfl⟩))|(go_at_call 91;((with_reducible refine (nright_as _ _ _ (HE.out.nm.below (bl_alloc (Below.refl _ _))) hz HB).mono ?_);rintro e w1 ⟨rfl,hb⟩;have HZ:=Lib.hid (show Tz w1 w.heap.size from Tz.later ⟨by simp,fun _=>World.frozen?_alloc_new ..,by simp,by simp,by simp,by simp⟩ hb);have HB1:=Lib.hid (bl_step (bl_alloc (Below.refl w.heap.size w)) hb);clear hb))|(go_at_call 137;((with_reducible refine (nword_as _ v _ (HE.out.nm.below HB1.out) HV).mono ?_);rintro e w' ⟨rfl,rfl⟩))|(go_at_call 86;((with_reducible refine (clone_any _ _ hz2).mono ?_);rintro e w2 ⟨rfl,hb⟩;obtain ⟨hz,hf,c0,c1,c2,c3⟩:=HZ.out.later hb;have HB2:=Lib.hid (bl_step HB1.out hb);clear hb)))
   obtain ⟨k0,k1,k2,k3⟩:=set4 (.int .i64 2) (.int .i64 0) (.string (s.extract 0 m)) (.int .i64 0) c0 c1 c2 c3
   refine bodyPost_ret (v:= .tuple #[.agg #[.int .i64 2,.int .i64 0,.string (s.extract 0 m),.int .i64 0],.int .i64 (m:Int),.int .i64 0]) (by simp [results,Tryz.results201,go_sem,k0,k1,k2,k3]) rfl ⟨by rw [HL.out,if_pos HD.out,HT.out],bl_set4 HB2.out (Nat.le_refl _)⟩
 ·replace HL:=Lib.hid (show wordL s.toList=(0,⟨2,0,s.toList.take m⟩,m) by rw [HL.out];rfl)
  go_enter Tryz.func201,Tryz.ntmps201
  go_wp2_with (first|(go_at_call 196;((with_reducible refine (row_name_as s m _ hs HM).mono ?_);rintro e w' ⟨rfl,rfl⟩))|(go_at_call 91;((with_reducible refine (nright_as _ _ _ (HE.out.nm.below (bl_alloc (Below.refl _ _))) hz HB).mono ?_);rintro e w1 ⟨rfl,hb⟩;have HZ:=Lib.hid (show Tz w1 w.heap.size from Tz.later ⟨by simp,fun _=>World.frozen?_alloc_new ..,by simp,by simp,by simp,by simp⟩ hb);have HB1:=Lib.hid (bl_step (bl_alloc (Below.refl w.heap.size w)) hb);clear hb))|(go_at_call 86;((with_reducible refine (clone_any _ _ hz2).mono ?_);rintro e w2 ⟨rfl,hb⟩;obtain ⟨hz,hf,c0,c1,c2,c3⟩:=HZ.out.later hb;have HB2:=Lib.hid (bl_step HB1.out hb);clear hb)))
  obtain ⟨k0,k1,k2,k3⟩:=set4 (.int .i64 2) (.int .i64 0) (.string (s.extract 0 m)) (.int .i64 0) c0 c1 c2 c3
  refine bodyPost_ret (v:= .tuple #[.agg #[.int .i64 2,.int .i64 0,.string (s.extract 0 m),.int .i64 0],.int .i64 (m:Int),.int .i64 0]) (by simp [results,Tryz.results201,go_sem,k0,k1,k2,k3]) rfl ⟨by rw [HL.out,HT.out],bl_set4 HB2.out (Nat.le_refl _)⟩
end Go.Proofs.YtkfihhagcimcmaaGreatDoor.Lx
